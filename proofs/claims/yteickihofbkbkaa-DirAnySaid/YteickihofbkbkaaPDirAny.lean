/- DirAny: any bytes are a list's, just its, or none's; those that were changed, too: for every input the law returns true. -/
import Derived.Test.YteickihofbkbkaaRows
import Derived.WalkKit
import Derived.ProofKit
import Derived.OpenShut
import Derived.ShutString
import Derived.ChangeOld
import Derived.Below
import Derived.Test.YteickihofbkbkaaEnt
import Derived.Test.YteickihofbkbkaaBegun14
import Derived.Test.YteickihofbkbkaaEntL
import Derived.Test.YteickihofbkbkaaShortV
import Derived.Test.YteickihofbkbkaaDrawC
namespace Go.Proofs.Yteickihofbkbkaa.dirAny
open Go.ChangeShapes Go.WideShapes Go.ChangeAt Go.RowKit
open Go.ChangeMaps (open_string shut_string)
set_option linter.unusedVariables false

theorem own : ownKnob Try.prog.godebug = none := by kernel_rfl
theorem laidOut : laidOutB Try.prog = true := by kernel_rfl

def IsRow (k : IntKind) (w : World) (a : Option Addr) (len cap : Nat) (zs : List Int) : Prop :=
  (a = none ∧ len = 0 ∧ cap = 0 ∧ zs = []) ∨
  ∃ x, a = some x ∧ len ≤ cap ∧ cap ≤ maxLen ∧ zs.length = cap ∧ (∀ i, i < zs.length → w.cell? (x.add i) = some (.int k (zs.getD i 0))) ∧ ∀ n ∈ zs, (Lit.int k n).wf = true

set_option maxHeartbeats 4000000 in
set_option maxRecDepth 100000 in
theorem walk (w : World) (a0 : Option Addr) (len0 cap0 : Nat) (z0 : List Int) (w0 : IsRow .u8 w a0 len0 cap0 z0) (a1 : Option Addr) (len1 cap1 : Nat) (l1 : List EntT) (w1 : REnt w (.slice a1 len1 cap1) l1) (a2 : Int) (w2 : (Lit.int .i64 a2).wf = true) (a3 : Int) (w3 : (Lit.int .u8 a3).wf = true) :
    Calls Try.prog 4 #[.slice a0 len0 cap0, .slice a1 len1 cap1, .int .i64 a2, .int .u8 a3] w fun e w' => e = .returned (.bool true) ∧ Below w.heap.size w w' := by
  obtain ⟨l, hl⟩ := rb_of_row w0
  obtain ⟨z, rfl⟩ : ∃ z : UInt8, a3 = (z.toNat : Int) := by
    obtain ⟨h1, h2⟩ := bounds_u8 w3
    exact ⟨UInt8.ofNat a3.toNat, by rw [ofNat_toNat _ (by omega)]; omega⟩
  obtain ⟨q1, q2⟩ := bounds_i64 w2
  have hlen := hl.len.1
  have CS := Go.Lib.hid fun W (h : RB W (.slice a0 len0 cap0) l) => (short_v a0 len0 cap0 l 60 W h (by omega)).mono (R' := fun e w' => e = .returned (.slice a0 (l.take 60).length cap0) ∧ Below W.heap.size W w') (by rintro e w' ⟨rfl, rfl⟩; exact ⟨by rw [List.length_take, hlen], Below.refl _ _⟩)
  have hlt := rb_take hl 60
  rw [show min 60 len0 = (l.take 60).length from by rw [List.length_take, hlen]] at hlt
  have HL0 := Go.Lib.hid hl
  have Hlt := Go.Lib.hid hlt
  have HE := Go.Lib.hid w1
  have CC := Go.Lib.hid fun W (h : REnt W (.slice a1 len1 cap1) l1) => cut_c _ l1 W h
  have H32 := Go.Lib.hid (show ((l1.take 34).map cutE).length ≤ 34 by rw [List.length_map]; exact List.length_take_le _ _)
  clear w0 w1 w2 w3 hl hlt hlen
  generalize (l.take 60).length = m at *
  generalize l.take 60 = L at *
  generalize (l1.take 34).map cutE = M at *
  have Q1 := Go.Lib.hid q1; clear q1
  have Q2 := Go.Lib.hid q2; clear q2
  go_enter Try.func4, Try.ntmps4
  go_wp2_with fail
  refine (begun_c _).mono ?_
  rintro e w1 ⟨rfl, hc⟩
  have HB1 := Go.Lib.hid hc
  have HS1 := Go.Lib.hid (HL0.out.below hc)
  have HM1 := Go.Lib.hid (Hlt.out.below hc)
  have HE1 := Go.Lib.hid (HE.out.below hc)
  clear hc HL0 Hlt HE
  go_wp2_with fail
  refine (CS.out _ HS1.out).mono ?_
  rintro e w2 ⟨rfl, hc⟩
  have HB2 := Go.Lib.hid (below_to HB1.out (Nat.le_refl _) hc)
  have HM2 := Go.Lib.hid (HM1.out.below hc)
  have HE2 := Go.Lib.hid (HE1.out.below hc)
  clear hc HB1 HS1 HM1 HE1 CS
  go_wp2_with fail
  refine (CC.out _ HE2.out).mono ?_
  rintro e w3 ⟨v, rfl, hown, hc⟩
  have HB3 := Go.Lib.hid (below_to HB2.out (Nat.le_refl _) hc)
  have HM3 := Go.Lib.hid (HM2.out.below hc)
  have HE3 := Go.Lib.hid hown.re
  clear hc hown HB2 HM2 HE2 CC
  go_wp2_with fail
  refine (tells_c _ _ _ HM3.out).mono ?_
  rintro e w4 ⟨rfl, hc⟩
  have HB4 := Go.Lib.hid (below_to HB3.out (Nat.le_refl _) hc)
  have HE4 := Go.Lib.hid (HE3.out.below hc)
  clear hc HB3 HM3 HE3
  have CM := Go.Lib.hid (rmay_c v M w4 HE4.out)
  go_wp2_with fail
  cases hmay : mayL M with
  | false =>
    rw [hmay] at CM
    refine CM.out.mono ?_
    rintro e w5 ⟨rfl, hc⟩
    have HB5 := Go.Lib.hid (below_to HB4.out (Nat.le_refl _) hc)
    clear hc HB4 HE4 CM
    go_wp2_with fail
    go_ret
    exact ⟨rfl, HB5.out⟩
  | true =>
    rw [hmay] at CM
    refine CM.out.mono ?_
    rintro e w5 ⟨rfl, hc⟩
    have HB5 := Go.Lib.hid (below_to HB4.out (Nat.le_refl _) hc)
    have HE5 := Go.Lib.hid (HE4.out.below hc)
    clear hc HB4 HE4 CM
    by_cases hneg : a2 < 0
    · go_wp2_with fail
      go_ret
      exact ⟨rfl, HB5.out⟩
    · obtain ⟨j, rfl⟩ : ∃ j : Nat, a2 = (j : Int) := ⟨a2.toNat, by omega⟩
      have hml := mayL_iff.1 hmay
      have hlen := hml.bytes
      have CB := Go.Lib.hid (rbytes_c v M w5 HE5.out (fun x hx => putE_of (hml.each x hx)) (by have := H32.out; omega))
      clear hml hmay
      generalize lstB M = A at *
      have Hl := Go.Lib.hid hlen
      clear hlen
      go_wp2_with fail
      refine CB.out.mono ?_
      rintro e u4 ⟨v, rfl, hown, hc⟩
      have hbb := below_to HB5.out (Nat.le_refl _) hc
      have hbz := HB5.out.size
      clear hc CB HB5 HE5
      obtain ⟨g, cap, rfl, hgB, hgs, hgc, hgm, -⟩ := hown.form (by have := Hl.out; omega)
      obtain ⟨r, hr⟩ : ∃ r, r = j % A.length := ⟨_, rfl⟩
      have hrl : r < A.length := by rw [hr]; exact Nat.mod_lt _ (by have := Hl.out; omega)
      have hrem : (j : Int).tmod (A.length : Int) = (r : Int) := by rw [hr, Int.tmod_eq_emod_of_nonneg (by omega)]; omega
      have hxor := u8_xor_c A[r] z
      have hcl := hown.cell r hrl
      have hfr := hown.frozenAt r
      have hst := hown.store r (A[r] ^^^ z) ((A[r].toNat ^^^ z.toNat : Nat) : Int) (by rw [UInt8.toNat_xor])
      generalize hy : A[r] = y at *
      have Hst := Go.Lib.hid hst; clear hst
      have Hr := Go.Lib.hid hr; clear hr
      have hne : A.length ≠ 0 := by have := Hl.out; omega
      have hal : A.length ≤ 2000 := Hl.out.1
      have HG := Go.Lib.hid (show w.heap.size ≤ g by omega)
      clear hown hy
      go_upto_region 11 with (fail)
      have hbb := Below.setCell hbb (p := ⟨g, r, none⟩) HG.out (.int .u8 ((y.toNat ^^^ z.toNat : Nat) : Int))
      have hst := Hst.out
      generalize u4.setCell ⟨g, r, none⟩ (.int .u8 ((y.toNat ^^^ z.toNat : Nat) : Int)) = u5 at *
      have hlA : (A.set r (y ^^^ z)).length = A.length := List.length_set
      generalize hA2 : A.set r (y ^^^ z) = A2 at *
      rw [← hlA] at hne hal hrem hrl hst ⊢
      have HO5 := Go.Lib.hid (hst.mono hbz)
      have HR5 := Go.Lib.hid hst.rb
      have HB5 := Go.Lib.hid hbb
      have hrc : r ≤ cap := by omega
      clear hcl hfr hxor hst hbb Hst hA2 Hl hlA Hr hgc
      go_wp2_with fail
      refine (tells_c _ _ _ HR5.out).mono ?_
      rintro e u6 ⟨rfl, hc⟩
      have HB6 := Go.Lib.hid (below_to HB5.out (Nat.le_refl _) hc)
      have hrb := HR5.out.below hc
      have HO6 := Go.Lib.hid (HO5.out.below hc)
      have hrt := rb_take hrb r
      rw [show min r A2.length = r from by omega] at hrt
      clear hc HB5 HR5 HO5 hrb
      go_wp2_with fail
      refine (tells_c _ _ _ hrt).mono ?_
      rintro e u7 ⟨rfl, hc⟩
      have hb7 := below_to HB6.out (Nat.le_refl _) hc
      have ho7 := HO6.out.below hc
      have hnb := newB u7 (.cells #[.int .u8 (z.toNat : Int)] 5)
      have HX := Go.Lib.hid (RB.one u7 5 (z.toNat : Int) z rfl)
      have HO8 := Go.Lib.hid (ho7.below hnb)
      have HB8 := Go.Lib.hid (hb7.trans (hnb.mono hb7.size))
      have HL8 := Go.Lib.hid (show A2.length + [z].length ≤ 140737488355328 by simp; omega)
      clear hc HB6 HO6 hb7 ho7 hnb hrt
      go_wp2_with (first
        | ((with_reducible show wpList _ _ _ (⟨some 55, _, _, _, _, _⟩ :: _) _ _); go_loud (refine wpList_met (by rfl) (wpList_append_RB rfl (.tmp 52) (.tmp 54) 26 rfl w.heap.size 5 Try.underlying26 info8 (.slice (some ⟨g, 0, none⟩) A2.length cap) (.slice (some ⟨u7.heap.size, 0, none⟩) 1 1) A2 [z] rfl rfl HO8.out HX.out HL8.out HB8.out.size ?_)); intro v9 w9 hown9 hg9)
        | fail)
      have HB9 := Go.Lib.hid (HB8.out.grown hg9 HB8.out.size HO8.out.row)
      refine (tells_c _ _ _ hown9.rb).mono ?_
      rintro e u10 ⟨rfl, hc⟩
      have HB10 := Go.Lib.hid (below_to HB9.out (Nat.le_refl _) hc)
      clear hc hown9 hg9 HB9 HB8 HO8 HX
      go_wp2_with fail
      go_ret
      exact ⟨rfl, HB10.out⟩

/-! ### THE ROW -/
set_option maxRecDepth 100000 in
theorem lifted (os : Os) (started : os.Started) (H : Type) (enc : TypeId × Value → H) :
    ReturnsInHanded {} Try.checked os 4 .any (Rows.dirAnySpec.pre6 enc Try.prog Try.f4 Rows.dirAnyRow.domain false) (Rows.dirAnySpec.post enc Try.prog Try.f4 false true false false) := by
  refine returnsInHanded_of_change (C := Try.checked) own started (by kernel_rfl) Try.func4
    (ChangeSpec.witness6 (enc := enc) (C := Try.checked) false ⟨#[], #[.slice none 0 0, .slice none 0 0, .int .i64 0, .int .u8 0], []⟩ 8 (by kernel_rfl) (by kernel_rfl) (by kernel_rfl) (by kernel_rfl)) ?_
  intro W base args ds gs before hval0 hW hcnd _
  have hval : ∀ (j : Nat) t v, Try.f4.params[j]? = some t → args[j]? = some v → Value.okWide Try.prog W .any base t v := hval0
  have hW' := hW
  obtain ⟨p, q, hA0, hV, rfl, hfz, hnd⟩ := hW
  have hA : DataW.TrodAll enc Try.prog W 0 (fun _ => true) true Try.f4.params.toList args.toList ds p := hA0
  rw [Try.params4] at hA hval
  obtain ⟨v0, vs0, d0, ds0, p0, q0, hargs, rfl, rfl, h0, r0⟩ := trodAll_cons hA
  obtain ⟨v1, vs1, d1, ds1, p1, q1, rfl, rfl, rfl, h1, r1⟩ := trodAll_cons r0
  obtain ⟨v2, vs2, d2, ds2, p2, q2, rfl, rfl, rfl, h2, r2⟩ := trodAll_cons r1
  obtain ⟨v3, vs3, d3, ds3, p3, q3, rfl, rfl, rfl, h3, r3⟩ := trodAll_cons r2
  obtain ⟨rfl, rfl, rfl⟩ := trodAll_nil r3
  obtain rfl : args = #[v0, v1, v2, v3] := by cases args; simp_all
  obtain ⟨rfl, rfl⟩ := trodVars_none hV
  have kk0 := h0
  have lt0 : ∀ x ∈ p0, x.block < W.heap.size := by obtain ⟨m, hm⟩ := kk0; exact DataW.trod_lt m _ _ _ hm
  have kk1 := h1
  have lt1 : ∀ x ∈ p1, x.block < W.heap.size := by obtain ⟨m, hm⟩ := kk1; exact DataW.trod_lt m _ _ _ hm
  have kk2 := h2
  have lt2 : ∀ x ∈ p2, x.block < W.heap.size := by obtain ⟨m, hm⟩ := kk2; exact DataW.trod_lt m _ _ _ hm
  have kk3 := h3
  have lt3 : ∀ x ∈ p3, x.block < W.heap.size := by obtain ⟨m, hm⟩ := kk3; exact DataW.trod_lt m _ _ _ hm
  obtain ⟨a0, len0, cap0, rfl⟩ := okWide_slice Try.underlying26 (hval 0 26 v0 rfl rfl)
  obtain ⟨z0, w0⟩ : ∃ zs, IsRow .u8 W a0 len0 cap0 zs := by
    obtain ⟨fuel, hf⟩ := h0
    rcases open_ints Try.underlying26 Try.underlying5 (by kernel_rfl) hf with ⟨hcs, _⟩ | ⟨x, l, c, zs, hcs, _, hl, hm, hz, _, hcell, hwz⟩
    · simp [Value.cells] at hcs
      obtain ⟨rfl, rfl, rfl⟩ := hcs
      exact ⟨[], .inl ⟨rfl, rfl, rfl, rfl⟩⟩
    · simp [Value.cells] at hcs
      obtain ⟨rfl, rfl, rfl⟩ := hcs
      exact ⟨zs, .inr ⟨_, rfl, hl, hm, by simpa using hz, hcell, hwz⟩⟩
  obtain ⟨a1, len1, cap1, rfl⟩ := okWide_slice Try.underlying22 (hval 1 22 v1 rfl rfl)
  obtain ⟨l1, w1⟩ := open_ents h1
  obtain ⟨a2, rfl, rfl, rfl, w2⟩ := open_int Try.underlying3 (hval 2 3 v2 rfl rfl) h2
  obtain ⟨a3, rfl, rfl, rfl, w3⟩ := open_int Try.underlying5 (hval 3 5 v3 rfl rfl) h3
  clear hA0 hval0
  refine (walk W a0 len0 cap0 z0 w0 a1 len1 cap1 l1 w1 a2 w2 a3 w3).mono fun e W' ⟨he, bel⟩ => ?_
  subst he
  exact ⟨_, rfl, _, _, _, [], _, [], hW', trodAll_mk1 (shut_bool Try.underlying4 _), (trodAll_cons_mk (Below.trod laidOut (by kernel_rfl) (of_decide_eq_true (by kernel_rfl)) kk0 bel lt0) (trodAll_cons_mk (Below.trod laidOut (by kernel_rfl) (of_decide_eq_true (by kernel_rfl)) kk1 bel lt1) (trodAll_cons_mk (Below.trod laidOut (by kernel_rfl) (of_decide_eq_true (by kernel_rfl)) kk2 bel lt2) (trodAll_cons_mk (Below.trod laidOut (by kernel_rfl) (of_decide_eq_true (by kernel_rfl)) kk3 bel lt3) trodAll_mk0)))), rfl, bel.frame _, fun h => by cases h⟩

theorem over : Rows.dirAnyRow.holds Try.pinned (OpenSpec.ofChange Rows.dirAnySpec) :=
  OpenClaim.holds_of_wide 4 Try.f4 rfl rfl rfl rfl rfl rfl rfl ⟨rfl, rfl, rfl, rfl, rfl⟩ rfl rfl rfl rfl rfl (by kernel_rfl) Try.func4 (by kernel_rfl)
    (of_decide_eq_true (by kernel_rfl)) (by unfold Func.isWrapper; first | (rw [if_pos (by decide +kernel)]; kernel_rfl) | (rw [if_neg (by decide +kernel)]; exact ⟨rfl, rfl⟩))
    (fun os started H enc _ => lifted os started H enc)

theorem proved : Rows.DirAnySaid := over
#print axioms proved
end Go.Proofs.Yteickihofbkbkaa.dirAny
