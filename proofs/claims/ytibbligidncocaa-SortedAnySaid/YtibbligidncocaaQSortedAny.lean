/- SortedAny: any bytes are a store's, just its, or none's; those that were changed, too: for every input the law returns true. -/
import Derived.Test.YtibbligidncocaaRows
import Derived.WalkKit
import Derived.ProofKit
import Derived.OpenShut
import Derived.ShutString
import Derived.ChangeOld
import Derived.Below
import Derived.Test.YtibbligidncocaaM08
import Derived.Test.YtibbligidncocaaM48
import Derived.Test.YtibbligidncocaaM49
import Derived.Test.YtibbligidncocaaM17
namespace Go.Proofs.Ytibbligidncocaa.sortedAny
open Go.ChangeShapes Go.WideShapes Go.ChangeAt Go.RowKit
open Go.ChangeMaps (open_string shut_string)
set_option linter.unusedVariables false

theorem own : ownKnob Try.prog.godebug = none := by kernel_rfl
theorem laidOut : laidOutB Try.prog = true := by kernel_rfl

def IsRow (k : IntKind) (w : World) (a : Option Addr) (len cap : Nat) (zs : List Int) : Prop :=
  (a = none ∧ len = 0 ∧ cap = 0 ∧ zs = []) ∨
  ∃ x, a = some x ∧ len ≤ cap ∧ cap ≤ maxLen ∧ zs.length = cap ∧ (∀ i, i < zs.length → w.cell? (x.add i) = some (.int k (zs.getD i 0))) ∧ ∀ n ∈ zs, (Lit.int k n).wf = true

theorem guard_met {P : Program} {ops : Array Oper} {Q : Exit → Act → World → Prop} {a : Act} {w : World} {rest : List Oper} {d : Option Tmp} {op : Op} {t : TypeId} {p : String} {af : Array Edge} {g : Option (Nat × Bool)}
    (hw : Region.wanted ⟨d, op, t, p, af, g⟩ (yielded ops a.tmps) = true) (h : wpList P ops Q (⟨d, op, t, p, af, none⟩ :: rest) a w) : wpList P ops Q (⟨d, op, t, p, af, g⟩ :: rest) a w := by
  unfold wpList at h ⊢
  rw [if_pos hw]
  rw [if_pos (by simp [Region.wanted])] at h
  exact h

set_option maxHeartbeats 4000000 in
set_option maxRecDepth 100000 in
theorem walk (w : World) (a0 : Option Addr) (len0 cap0 : Nat) (z0 : List Int) (w0 : IsRow .u8 w a0 len0 cap0 z0) (a1 : Option Addr) (len1 cap1 : Nat) (l1 : List RecT) (w1 : RRec w (.slice a1 len1 cap1) l1) (a3 : Int) (w3 : (Lit.int .i64 a3).wf = true) (a4 : Int) (w4 : (Lit.int .u8 a4).wf = true) :
    Calls Try.prog 5 #[.slice a0 len0 cap0, .slice a1 len1 cap1, .int .i64 a3, .int .u8 a4] w fun e w' => e = .returned (.bool true) ∧ Below w.heap.size w w' := by
  obtain ⟨l, hl⟩ := rb_of_row w0
  obtain ⟨z, rfl⟩ : ∃ z : UInt8, a4 = (z.toNat : Int) := by
    obtain ⟨h1, h2⟩ := bounds_u8 w4
    exact ⟨UInt8.ofNat a4.toNat, by rw [ofNat_toNat _ (by omega)]; omega⟩
  obtain ⟨q1, q2⟩ := bounds_i64 w3
  have CS := Go.Lib.hid fun W (h : RB W (.slice a0 len0 cap0) l) => short_v a0 len0 cap0 l 60 W h (by omega)
  have CL := Go.Lib.hid fun W (hb : Below w.heap.size w W) => spairs_c (.slice a1 len1 cap1) l1 W (w1.below hb)
  have HL := Go.Lib.hid hl
  have Q1 := Go.Lib.hid q1
  have Q2 := Go.Lib.hid q2
  clear w0 w1 w3 w4 hl q1 q2
  go_enter Try.func5, Try.ntmps5
  go_wp2_with fail
  refine (begun22_c _).mono ?_
  rintro e w2 ⟨rfl, hc⟩
  have HL := Go.Lib.hid (HL.out.below hc)
  have HB := Go.Lib.hid hc
  clear hc
  go_wp2_with fail
  refine (CS.out _ HL.out).mono ?_
  rintro e w3 ⟨rfl, rfl⟩
  have HLt := Go.Lib.hid (rb_take HL.out 60)
  go_wp2_with fail
  refine (stells_c _ _ _ HLt.out).mono ?_
  rintro e w4 ⟨rfl, hc⟩
  have HB := Go.Lib.hid (HB.out.trans (hc.mono HB.out.size))
  clear hc HLt HL CS
  go_wp2_with fail
  refine (CL.out _ HB.out).mono ?_
  rintro e w5 ⟨v5, P, rfl, hp, ho, hc⟩
  have HB := Go.Lib.hid (HB.out.trans (hc.mono HB.out.size))
  have CTB := rpairbytes_c v5 P w5 ho.r (mayP_small hp.may) hp.ok (by have := mayP_len hp.may; omega)
  obtain ⟨hpl, hrd⟩ := srow_back hp.may hp.live hp.ok
  have hrw : mayRow P = true := (rowD_ok hrd).1
  have hroom := rowC_room hrw hp.ok P.length
  rw [List.take_length] at hroom
  have hpos : rowB P ≠ [] := fun e => by rw [e] at hrd; rw [show rowD [] = none by decide] at hrd; cases hrd
  rw [show pairE P = rowB P from by unfold pairE; rw [if_pos hp.may, hpl]] at CTB
  have CTB := Go.Lib.hid CTB
  have HAL := Go.Lib.hid (And.intro (List.length_pos_iff.2 hpos) (show (rowB P).length ≤ 200010 from hroom))
  clear hc CL hp ho hpl hrd hrw hroom hpos
  generalize rowB P = A at *
  go_wp2_with fail
  refine CTB.out.mono ?_
  rintro e w6 ⟨v, rfl, hown, hc⟩
  have HBZ := Go.Lib.hid HB.out.size
  have HB := Go.Lib.hid (HB.out.trans (hc.mono HB.out.size))
  clear hc CTB
  by_cases hneg : a3 < 0
  · obtain ⟨av, c6, rfl, -⟩ := id hown.rb
    go_wp2_with fail
    go_ret
    exact ⟨rfl, HB.out⟩
  obtain ⟨j, rfl⟩ : ∃ j : Nat, a3 = (j : Int) := ⟨a3.toNat, by omega⟩
  have hAl := HAL.out
  obtain ⟨g, cap, rfl, hgB, hgs, hgc, hgm, -⟩ := hown.form (by omega)
  obtain ⟨r, hr⟩ : ∃ r, r = j % A.length := ⟨_, rfl⟩
  have hrl : r < A.length := by rw [hr]; exact Nat.mod_lt _ (by omega)
  have hrem : (j : Int).tmod (A.length : Int) = (r : Int) := by rw [hr, Int.tmod_eq_emod_of_nonneg (by omega)]; omega
  have hxor := u8_xor_c A[r] z
  have hcl := hown.cell r hrl
  have hfr := hown.frozenAt r
  have hst := hown.store r (A[r] ^^^ z) ((A[r].toNat ^^^ z.toNat : Nat) : Int) (by rw [UInt8.toNat_xor])
  have hA0 : ((A.length : Int) == 0) = false := by simp only [beq_eq_false_iff_ne, ne_eq]; omega
  generalize hy : A[r] = y at *
  have Hown := Go.Lib.hid hown; clear hown
  have Hst := Go.Lib.hid hst; clear hst
  have Hr := Go.Lib.hid hr; clear hr
  have hne : A.length ≠ 0 := by omega
  go_upto_region 11 with (fail)
  have HBx := Go.Lib.hid (Below.setCell HB.out (p := ⟨g, r, none⟩) (Nat.le_trans HBZ.out hgB) (.int .u8 ((y.toNat ^^^ z.toNat : Nat) : Int)))
  have hst := Hst.out
  obtain ⟨D, hD⟩ : ∃ D, D = A.set r (y ^^^ z) := ⟨_, rfl⟩
  have hDl : D.length = A.length := by rw [hD, List.length_set]
  rw [← hD] at hst
  clear hD
  generalize w6.setCell ⟨g, r, none⟩ (.int .u8 ((y.toNat ^^^ z.toNat : Nat) : Int)) = w7 at *
  have HDL := Go.Lib.hid hDl
  have HO := Go.Lib.hid (hst.mono (Nat.le_trans HBZ.out (Nat.le_refl _)))
  clear hcl hfr hxor hst Hst HB Hown hDl hgB hgs
  go_wp2_with fail
  refine (stells_c _ _ _ HO.out.rb).mono ?_
  rintro e w8 ⟨rfl, hc⟩
  have HO := Go.Lib.hid (HO.out.below hc)
  have HBx := Go.Lib.hid (HBx.out.trans (hc.mono HBx.out.size))
  have hrt := rb_take HO.out.rb r
  rw [show min r A.length = r from by omega] at hrt
  have HRT := Go.Lib.hid hrt
  clear hc hrt
  go_wp2_with fail
  refine (stells_c _ _ _ HRT.out).mono ?_
  rintro e w9 ⟨rfl, hc⟩
  have HO := Go.Lib.hid (HO.out.below hc)
  have HBx := Go.Lib.hid (HBx.out.trans (hc.mono HBx.out.size))
  have b8 := below_one w9 (.cells #[.int .u8 (z.toNat : Int)] 5)
  have HO8 := Go.Lib.hid (HO.out.below b8)
  have HB8 := Go.Lib.hid (HBx.out.trans (b8.mono HBx.out.size))
  have HONE := Go.Lib.hid (RB.one w9 5 (z.toNat : Int) z rfl)
  clear hc b8 HRT HO HBx
  go_wp2_with (first
    | ((with_reducible show wpList _ _ _ (⟨some 49, _, _, _, _, _⟩ :: _) _ _); go_loud (refine guard_met (by rfl) (wpList_append_RB rfl (.tmp 46) (.tmp 48) 33 rfl w.heap.size 5 Try.underlying33 info8 (.slice (some ⟨g, 0, none⟩) A.length cap) (.slice (some ⟨w9.heap.size, 0, none⟩) 1 1) D [z] rfl rfl HO8.out HONE.out (by have := HDL.out; have := HAL.out; simp; omega) HB8.out.size ?_)); intro v9 w10 hown9 hg9; have HB9 := Go.Lib.hid (HB8.out.grown hg9 HB8.out.size HO8.out.row); have HRB9 := Go.Lib.hid hown9.rb; clear hown9 hg9)
    | fail)
  refine (stells_c _ _ _ HRB9.out).mono ?_
  rintro e w11 ⟨rfl, hc⟩
  have HB10 := Go.Lib.hid (HB9.out.trans (hc.mono HB9.out.size))
  clear hc
  go_wp2_with fail
  go_ret
  exact ⟨rfl, HB10.out⟩

/-! ### THE ROW -/
set_option maxRecDepth 100000 in
theorem lifted (os : Os) (started : os.Started) (H : Type) (enc : TypeId × Value → H) :
    ReturnsInHanded {} Try.checked os 5 .any (Rows.sortedAnySpec.pre6 enc Try.prog Try.f5 Rows.sortedAnyRow.domain false) (Rows.sortedAnySpec.post enc Try.prog Try.f5 false true false false) := by
  refine returnsInHanded_of_change (C := Try.checked) own started (by kernel_rfl) Try.func5
    (ChangeSpec.witness6 (enc := enc) (C := Try.checked) false ⟨#[], #[.slice none 0 0, .slice none 0 0, .int .i64 0, .int .u8 0], []⟩ 8 (by kernel_rfl) (by kernel_rfl) (by kernel_rfl) (by kernel_rfl)) ?_
  intro W base args ds gs before hval0 hW hcnd _
  have hval : ∀ (j : Nat) t v, Try.f5.params[j]? = some t → args[j]? = some v → Value.okWide Try.prog W .any base t v := hval0
  have hW' := hW
  obtain ⟨p, q, hA0, hV, rfl, hfz, hnd⟩ := hW
  have hA : DataW.TrodAll enc Try.prog W 0 (fun _ => true) true Try.f5.params.toList args.toList ds p := hA0
  rw [Try.params5] at hA hval
  obtain ⟨v0, vs0, d0, ds0, p0, q0, hargs, rfl, rfl, h0, r0⟩ := trodAll_cons hA
  obtain ⟨v1, vs1, d1, ds1, p1, q1, rfl, rfl, rfl, h1, r1⟩ := trodAll_cons r0
  obtain ⟨v2, vs2, d2, ds2, p2, q2, rfl, rfl, rfl, h2, r2⟩ := trodAll_cons r1
  obtain ⟨v3, vs3, d3, ds3, p3, q3, rfl, rfl, rfl, h3, r3⟩ := trodAll_cons r2
  obtain ⟨rfl, rfl, rfl⟩ := trodAll_nil r3
  obtain rfl : args = #[v0, v1, v2, v3] := by cases args; simp_all
  obtain ⟨rfl, rfl⟩ := trodVars_none hV
  have kk0 := h0
  have lt0 : ∀ x ∈ p0, x.block < W.heap.size := by obtain ⟨m, hm⟩ := kk0; exact DataW.trod_lt m _ _ _ hm
  have kk1 := h1
  have lt1 : ∀ x ∈ p1, x.block < W.heap.size := by obtain ⟨m, hm⟩ := kk1; exact DataW.trod_lt m _ _ _ hm
  have kk2 := h2
  have lt2 : ∀ x ∈ p2, x.block < W.heap.size := by obtain ⟨m, hm⟩ := kk2; exact DataW.trod_lt m _ _ _ hm
  have kk3 := h3
  have lt3 : ∀ x ∈ p3, x.block < W.heap.size := by obtain ⟨m, hm⟩ := kk3; exact DataW.trod_lt m _ _ _ hm
  obtain ⟨a0, len0, cap0, rfl⟩ := okWide_slice Try.underlying33 (hval 0 33 v0 rfl rfl)
  obtain ⟨z0, w0⟩ : ∃ zs, IsRow .u8 W a0 len0 cap0 zs := by
    obtain ⟨fuel, hf⟩ := h0
    rcases open_ints Try.underlying33 Try.underlying5 (by kernel_rfl) hf with ⟨hcs, _⟩ | ⟨x, l, c, zs, hcs, _, hl, hm, hz, _, hcell, hwz⟩
    · simp [Value.cells] at hcs
      obtain ⟨rfl, rfl, rfl⟩ := hcs
      exact ⟨[], .inl ⟨rfl, rfl, rfl, rfl⟩⟩
    · simp [Value.cells] at hcs
      obtain ⟨rfl, rfl, rfl⟩ := hcs
      exact ⟨zs, .inr ⟨_, rfl, hl, hm, by simpa using hz, hcell, hwz⟩⟩
  obtain ⟨a1, len1, cap1, rfl⟩ := okWide_slice Try.underlying22 (hval 1 22 v1 rfl rfl)
  obtain ⟨l1, w1⟩ := open_recs h1
  obtain ⟨a2, rfl, rfl, rfl, w2⟩ := open_int Try.underlying3 (hval 2 3 v2 rfl rfl) h2
  obtain ⟨a3, rfl, rfl, rfl, w3⟩ := open_int Try.underlying5 (hval 3 5 v3 rfl rfl) h3
  clear hA0 hval0
  refine (walk W a0 len0 cap0 z0 w0 a1 len1 cap1 l1 w1 a2 w2 a3 w3).mono fun e W' ⟨he, bel⟩ => ?_
  subst he
  exact ⟨_, rfl, _, _, _, [], _, [], hW', trodAll_mk1 (shut_bool Try.underlying4 _), (trodAll_cons_mk (Below.trod laidOut (by kernel_rfl) (of_decide_eq_true (by kernel_rfl)) kk0 bel lt0) (trodAll_cons_mk (Below.trod laidOut (by kernel_rfl) (of_decide_eq_true (by kernel_rfl)) kk1 bel lt1) (trodAll_cons_mk (Below.trod laidOut (by kernel_rfl) (of_decide_eq_true (by kernel_rfl)) kk2 bel lt2) (trodAll_cons_mk (Below.trod laidOut (by kernel_rfl) (of_decide_eq_true (by kernel_rfl)) kk3 bel lt3) trodAll_mk0)))), rfl, bel.frame _, fun h => by cases h⟩

theorem over : Rows.sortedAnyRow.holds Try.pinned (OpenSpec.ofChange Rows.sortedAnySpec) :=
  OpenClaim.holds_of_wide 5 Try.f5 rfl rfl rfl rfl rfl rfl rfl ⟨rfl, rfl, rfl, rfl, rfl⟩ rfl rfl rfl rfl rfl (by kernel_rfl) Try.func5 (by kernel_rfl)
    (of_decide_eq_true (by kernel_rfl)) (by unfold Func.isWrapper; first | (rw [if_pos (by decide +kernel)]; kernel_rfl) | (rw [if_neg (by decide +kernel)]; exact ⟨rfl, rfl⟩))
    (fun os started H enc _ => lifted os started H enc)

theorem proved : Rows.SortedAnySaid := over
#print axioms proved
end Go.Proofs.Ytibbligidncocaa.sortedAny
