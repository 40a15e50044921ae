/- RankAll: of any bits how many are set ahead of each place, and where the n-th one stands: for every input the law returns true. -/
import Derived.Test.YtiakpjkpmepmoaaRows
import Derived.WalkKit
import Derived.ProofKit
import Derived.OpenShut
import Derived.ShutString
import Derived.ChangeOld
import Derived.Below
import Derived.Test.YtiakpjkpmepmoaaOpenB
import Derived.Test.YtiakpjkpmepmoaaBegun8
import Derived.Deep.DeepCutAuto
import Derived.Deep.QuietTactic
import Derived.BigQuiet
namespace Go.Proofs.Ytiakpjkpmepmoaa.rankAll
open Go.ChangeShapes Go.WideShapes Go.ChangeAt Go.RowKit
open Go.ChangeMaps (open_string shut_string)
set_option linter.unusedVariables false

theorem own : ownKnob Try.prog.godebug = none := by kernel_rfl
theorem laidOut : laidOutB Try.prog = true := by kernel_rfl

set_option maxHeartbeats 2000000 in
set_option maxRecDepth 100000 in
theorem walk (w : World) (a0 : Option Addr) (len0 cap0 : Nat) (l0 : List Bool) (w0 : RV w (.slice a0 len0 cap0) (zb l0)) (a1 : Int) (w1 : (Lit.int .i64 a1).wf = true) :
    Calls Try.prog 3 #[.slice a0 len0 cap0, .int .i64 a1] w fun e w' => e = .returned (.bool true) ∧ Below w.heap.size w w' := by
  obtain ⟨p0, p1⟩ := bounds_i64 w1
  have p0 : -9223372036854775808 ≤ a1 := by omega
  have p1 : a1 ≤ 9223372036854775807 := by omega
  clear w1
  obtain ⟨ad, cp, hv, hm63, -⟩ := w0.zbForm
  simp only [Value.slice.injEq] at hv
  obtain ⟨rfl, rfl, rfl⟩ := hv
  have H0 := Go.Lib.hid w0
  clear w0
  go_enter Try.func3, Try.ntmps3
  go_upto_if 14 with (refine (begun_c _).mono ?_; rintro e w1 ⟨rfl, hbb⟩)
  go_cut [0] (fun s wx => wx = w1 ∧ ∃ l : List Bool, l.length ≤ 300 ∧ RV wx s (zb l))
  case first =>
    by_cases h200 : 300 < l0.length
    · have hr := Go.Lib.hid ((H0.out.below hbb).zbTake 300 (by omega))
      have hlen := Go.Lib.hid (show (l0.take 300).length ≤ 300 by rw [List.length_take]; omega)
      obtain ⟨ad', cp', hv, -, hne⟩ := H0.out.zbForm
      simp only [Value.slice.injEq, true_and] at hv
      obtain ⟨rfl, rfl⟩ := hv
      cases a0 with
      | none => have := hne rfl; omega
      | some aa =>
      clear hne
      have hcap := Go.Lib.hid (RV.zbCap H0.out)
      have hc2 : 300 ≤ cap0 := by have := hcap.out; omega
      go_wp2_with fail
      go_meet
      exact ⟨rfl, _, hlen.out, hr.out⟩
    · have hr := Go.Lib.hid (H0.out.below hbb)
      go_wp2_with fail
      go_meet
      exact ⟨rfl, _, by omega, hr.out⟩
  case rest =>
    obtain ⟨rfl, l, hl, hr⟩ := hcut
    clear H0 hm63
    obtain ⟨ad, cp, rfl, -, -⟩ := hr.zbForm
    have Hr := Go.Lib.hid hr
    clear hr
    go_wp2_with fail
    refine (bof6_c _ l _ Hr.out (by omega)).mono ?_
    rintro e w2 ⟨u, rfl, hbt, hb2⟩
    have hbb2 := hbb.trans (hb2.mono hbb.size)
    have HBT := Go.Lib.hid hbt
    have Hr2 := Go.Lib.hid (Hr.out.below hb2)
    have hwb := Go.Lib.hid hbb.size
    generalize wc.heap.size = b at *
    clear hbt Hr hb2 hbb
    go_wp2_with fail
    refine (rnew_c _ _ _ _ _ HBT.out (by omega)).mono ?_
    rintro e w3 ⟨r, rfl, hrk, hb3⟩
    have hbb3 := hbb2.trans (hb3.mono hbb2.size)
    have HRK := Go.Lib.hid hrk
    have Hr3 := Go.Lib.hid (Hr2.out.below hb3)
    have HBT3 := Go.Lib.hid (HBT.out.below hb3)
    clear hrk hb3 HBT Hr2 hbb2 HBT3 hwb
    obtain ⟨wo, rfl⟩ : ∃ wo : World, wo = w3 := ⟨_, rfl⟩
    go_wp2_with fail
    go_loopw [7, 8] (fun nv iv wr => ∃ i : Nat, i ≤ l.length ∧ iv = .int .i64 (i : Int) ∧ nv = .int .i64 (ones l i : Int) ∧ Below wo.heap.size wo wr) (fun _ iv _ => l.length - (intOf iv).toNat)
    case atStart => exact ⟨0, by omega, rfl, rfl, Below.refl _ _⟩
    case round =>
      obtain ⟨i, hi, rfl, rfl, hb⟩ := hrel
      have hol := ones_le l i
      have HRK4 := Go.Lib.hid (HRK.out.below hb)
      by_cases hlt : i < l.length
      · have C1 := rones_c (i : Int) _ _ _ l HRK4.out (by omega) (by omega)
        rw [onesI_nat] at C1
        have C1 := Go.Lib.hid C1
        have hsucc := ones_succ l i hlt
        obtain ⟨bb, o, rfl, hc, hbl⟩ := Hr3.out.zbAt i hlt
        have hd := (hb.cell (p := ⟨bb, o + i, none⟩) hbl).trans hc
        cases ht : l[i] with
        | false =>
          rw [ht] at hd hsucc
          have Hs : Hid (ones l (i + 1) = ones l i) := hsucc
          clear hc ht hsucc
          go_wp2_with fail
          refine C1.out.mono ?_
          rintro e w4 ⟨rfl, hb4⟩
          have hb5 := hb.trans (hb4.mono hb.size)
          have hd5 := (hb4.cell (p := ⟨bb, o + i, none⟩) (World.block_lt_of_cell? wr _ hd)).trans hd
          clear C1 HRK4 hd hb4 hb
          go_wp2_with fail
          go_roundw
          case rel => exact ⟨i + 1, by omega, by go_num, by rw [Hs.out], hb5⟩
          case measure => simp only [intOf]; omega
        | true =>
          have hpl := placeI_some (place_at l i hlt ht)
          have C2 := fun W (h : RK W w2.heap.size (some r) l) => rplace_c (ones l i : Int) W _ _ l h (by omega) (by omega)
          rw [hpl] at C2
          have C2 := Go.Lib.hid C2
          rw [ht] at hd hsucc
          have Hs : Hid (ones l (i + 1) = ones l i + 1) := hsucc
          clear hc ht hsucc hpl
          go_wp2_with fail
          refine C1.out.mono ?_
          rintro e w4 ⟨rfl, hb4⟩
          have hb5 := hb.trans (hb4.mono hb.size)
          have HRK5 := Go.Lib.hid (HRK4.out.below hb4)
          have hd5 := (hb4.cell (p := ⟨bb, o + i, none⟩) (World.block_lt_of_cell? wr _ hd)).trans hd
          clear C1 HRK4 hd hb4 hb
          go_wp2_with fail
          refine (C2.out _ HRK5.out).mono ?_
          rintro e w6 ⟨rfl, hb6⟩
          have hb7 := hb5.trans (hb6.mono hb5.size)
          clear C2 HRK5 hd5 hb6 hb5
          go_wp2_with fail
          go_roundw
          case rel => exact ⟨i + 1, by omega, by go_num, by rw [Hs.out]; go_num, hb7⟩
          case measure => simp only [intOf]; omega
      · obtain rfl : i = l.length := by omega
        rw [ones_len] at hol ⊢
        have hbb4 := hbb3.trans (hb.mono hbb3.size)
        have C1 := fun W (h : RK W w2.heap.size (some r) l) => rones_c (l.length : Int) W _ _ l h (by omega) (by omega)
        have C2 := fun W (h : RK W w2.heap.size (some r) l) => rones_c ((l.length : Int) + 7) W _ _ l h (by omega) (by omega)
        have C3 := fun W (h : RK W w2.heap.size (some r) l) => rplace_c (l.count true : Int) W _ _ l h (by omega) (by omega)
        rw [onesI_nat, ones_len] at C1
        rw [show ((l.length : Int) + 7) = ((l.length + 7 : Nat) : Int) from by omega, onesI_nat, ones_all l (l.length + 7) (by omega), show ((l.length + 7 : Nat) : Int) = (l.length : Int) + 7 from by omega] at C2
        rw [placeI_none ((place_none l _).2 (Nat.le_refl _))] at C3
        have Cn := fun (h0 : a1 < 0 ∨ (l.count true : Int) ≤ a1) W (h : RK W w2.heap.size (some r) l) => rplace_c a1 W _ _ l h p0 p1
        have hpn : (a1 < 0 ∨ (l.count true : Int) ≤ a1) → placeI l a1 = -1 := by
          intro h0
          by_cases hn : a1 < 0
          · exact placeI_neg hn
          · obtain ⟨k, rfl⟩ : ∃ k : Nat, a1 = (k : Int) := ⟨a1.toNat, by omega⟩
            exact placeI_none ((place_none l k).2 (by omega))
        have K1 := Go.Lib.hid C1
        have K2 := Go.Lib.hid C2
        have K3 := Go.Lib.hid C3
        have Kn := Go.Lib.hid Cn
        have Hpn := Go.Lib.hid hpn
        generalize l.count true = c at *
        clear C1 C2 C3 Cn hpn hb hbb3 HRK Hr3 hlt
        by_cases h0 : a1 < 0
        · go_wp2_with fail
          refine (Kn.out (.inl h0) _ HRK4.out).mono ?_
          rintro e w4 ⟨rfl, hb4⟩
          rw [Hpn.out (.inl h0)]
          have hbb4' := hbb4.trans (hb4.mono hbb4.size)
          have HR4 := Go.Lib.hid (HRK4.out.below hb4)
          clear HRK4 hb4 hbb4 Kn Hpn
          have hbb4 := hbb4'
          clear hbb4'
          go_wp2_with fail
          refine (K1.out _ HR4.out).mono ?_
          rintro e w5 ⟨rfl, hb5⟩
          have hbb5 := hbb4.trans (hb5.mono hbb4.size)
          have HR5 := Go.Lib.hid (HR4.out.below hb5)
          clear K1 hb5 hbb4 HR4
          go_wp2_with fail
          refine (K2.out _ HR5.out).mono ?_
          rintro e w6 ⟨rfl, hb6⟩
          have hbb6 := hbb5.trans (hb6.mono hbb5.size)
          have HR6 := Go.Lib.hid (HR5.out.below hb6)
          clear K2 hb6 hbb5 HR5
          go_wp2_with fail
          refine (K3.out _ HR6.out).mono ?_
          rintro e w7 ⟨rfl, hb7⟩
          have hbb7 := hbb6.trans (hb7.mono hbb6.size)
          have HR7 := Go.Lib.hid (HR6.out.below hb7)
          clear K3 hb7 hbb6 HR6
          go_wp2_with fail
          refine (rlen_c _ _ _ l HR7.out).mono ?_
          rintro e w8 ⟨rfl, hb8⟩
          have hbb8 := hbb7.trans (hb8.mono hbb7.size)
          clear hb8 hbb7 HR7
          go_wp2_with fail
          go_ret
          exact ⟨rfl, hbb8⟩
        by_cases h1 : (c : Int) ≤ a1
        · go_wp2_with fail
          refine (Kn.out (.inr h1) _ HRK4.out).mono ?_
          rintro e w4 ⟨rfl, hb4⟩
          rw [Hpn.out (.inr h1)]
          have hbb4' := hbb4.trans (hb4.mono hbb4.size)
          have HR4 := Go.Lib.hid (HRK4.out.below hb4)
          clear HRK4 hb4 hbb4 Kn Hpn
          have hbb4 := hbb4'
          clear hbb4'
          go_wp2_with fail
          refine (K1.out _ HR4.out).mono ?_
          rintro e w5 ⟨rfl, hb5⟩
          have hbb5 := hbb4.trans (hb5.mono hbb4.size)
          have HR5 := Go.Lib.hid (HR4.out.below hb5)
          clear K1 hb5 hbb4 HR4
          go_wp2_with fail
          refine (K2.out _ HR5.out).mono ?_
          rintro e w6 ⟨rfl, hb6⟩
          have hbb6 := hbb5.trans (hb6.mono hbb5.size)
          have HR6 := Go.Lib.hid (HR5.out.below hb6)
          clear K2 hb6 hbb5 HR5
          go_wp2_with fail
          refine (K3.out _ HR6.out).mono ?_
          rintro e w7 ⟨rfl, hb7⟩
          have hbb7 := hbb6.trans (hb7.mono hbb6.size)
          have HR7 := Go.Lib.hid (HR6.out.below hb7)
          clear K3 hb7 hbb6 HR6
          go_wp2_with fail
          refine (rlen_c _ _ _ l HR7.out).mono ?_
          rintro e w8 ⟨rfl, hb8⟩
          have hbb8 := hbb7.trans (hb8.mono hbb7.size)
          clear hb8 hbb7 HR7
          go_wp2_with fail
          go_ret
          exact ⟨rfl, hbb8⟩
        have HR4 := HRK4
        clear HRK4
        go_wp2_with fail
        refine (K1.out _ HR4.out).mono ?_
        rintro e w5 ⟨rfl, hb5⟩
        have hbb5 := hbb4.trans (hb5.mono hbb4.size)
        have HR5 := Go.Lib.hid (HR4.out.below hb5)
        clear K1 hb5 hbb4 HR4
        go_wp2_with fail
        refine (K2.out _ HR5.out).mono ?_
        rintro e w6 ⟨rfl, hb6⟩
        have hbb6 := hbb5.trans (hb6.mono hbb5.size)
        have HR6 := Go.Lib.hid (HR5.out.below hb6)
        clear K2 hb6 hbb5 HR5
        go_wp2_with fail
        refine (K3.out _ HR6.out).mono ?_
        rintro e w7 ⟨rfl, hb7⟩
        have hbb7 := hbb6.trans (hb7.mono hbb6.size)
        have HR7 := Go.Lib.hid (HR6.out.below hb7)
        clear K3 hb7 hbb6 HR6
        go_wp2_with fail
        refine (rlen_c _ _ _ l HR7.out).mono ?_
        rintro e w8 ⟨rfl, hb8⟩
        have hbb8 := hbb7.trans (hb8.mono hbb7.size)
        clear hb8 hbb7 HR7
        go_wp2_with fail
        go_ret
        exact ⟨rfl, hbb8⟩

/-! ### THE ROW -/
set_option maxRecDepth 100000 in
theorem lifted (os : Os) (started : os.Started) (H : Type) (enc : TypeId × Value → H) :
    ReturnsInHanded {} Try.checked os 3 .any (Rows.rankAllSpec.pre6 enc Try.prog Try.f3 Rows.rankAllRow.domain false) (Rows.rankAllSpec.post enc Try.prog Try.f3 false true false false) := by
  refine returnsInHanded_of_change (C := Try.checked) own started (by kernel_rfl) Try.func3
    (ChangeSpec.witness6 (enc := enc) (C := Try.checked) false ⟨#[], #[.slice none 0 0, .int .i64 0], []⟩ 8 (by kernel_rfl) (by kernel_rfl) (by kernel_rfl) (by kernel_rfl)) ?_
  intro W base args ds gs before hval0 hW hcnd _
  have hval : ∀ (j : Nat) t v, Try.f3.params[j]? = some t → args[j]? = some v → Value.okWide Try.prog W .any base t v := hval0
  have hW' := hW
  obtain ⟨p, q, hA0, hV, rfl, hfz, hnd⟩ := hW
  have hA : DataW.TrodAll enc Try.prog W 0 (fun _ => true) true Try.f3.params.toList args.toList ds p := hA0
  rw [Try.params3] at hA hval
  obtain ⟨v0, vs0, d0, ds0, p0, q0, hargs, rfl, rfl, h0, r0⟩ := trodAll_cons hA
  obtain ⟨v1, vs1, d1, ds1, p1, q1, rfl, rfl, rfl, h1, r1⟩ := trodAll_cons r0
  obtain ⟨rfl, rfl, rfl⟩ := trodAll_nil r1
  obtain rfl : args = #[v0, v1] := by cases args; simp_all
  obtain ⟨rfl, rfl⟩ := trodVars_none hV
  have kk0 := h0
  have lt0 : ∀ x ∈ p0, x.block < W.heap.size := by obtain ⟨m, hm⟩ := kk0; exact DataW.trod_lt m _ _ _ hm
  have kk1 := h1
  have lt1 : ∀ x ∈ p1, x.block < W.heap.size := by obtain ⟨m, hm⟩ := kk1; exact DataW.trod_lt m _ _ _ hm
  obtain ⟨a0, len0, cap0, rfl⟩ := okWide_slice Try.underlying22 (hval 0 22 v0 rfl rfl)
  obtain ⟨l0, w0⟩ := open_zb Try.underlying22 Try.underlying4 (by kernel_rfl) h0
  obtain ⟨a1, rfl, rfl, rfl, w1⟩ := open_int Try.underlying3 (hval 1 3 v1 rfl rfl) h1
  clear hA0 hval0
  refine (walk W a0 len0 cap0 l0 w0 a1 w1).mono fun e W' ⟨he, bel⟩ => ?_
  subst he
  exact ⟨_, rfl, _, _, _, [], _, [], hW', trodAll_mk1 (shut_bool Try.underlying4 _), (trodAll_cons_mk (Below.trod laidOut (by kernel_rfl) (of_decide_eq_true (by kernel_rfl)) kk0 bel lt0) (trodAll_cons_mk (Below.trod laidOut (by kernel_rfl) (of_decide_eq_true (by kernel_rfl)) kk1 bel lt1) trodAll_mk0)), rfl, bel.frame _, fun h => by cases h⟩

theorem over : Rows.rankAllRow.holds Try.pinned (OpenSpec.ofChange Rows.rankAllSpec) :=
  OpenClaim.holds_of_wide 3 Try.f3 rfl rfl rfl rfl rfl rfl rfl ⟨rfl, rfl, rfl, rfl, rfl⟩ rfl rfl rfl rfl rfl (by kernel_rfl) Try.func3 (by kernel_rfl)
    (of_decide_eq_true (by kernel_rfl)) (by unfold Func.isWrapper; first | (rw [if_pos (by decide +kernel)]; kernel_rfl) | (rw [if_neg (by decide +kernel)]; exact ⟨rfl, rfl⟩))
    (fun os started H enc _ => lifted os started H enc)

theorem proved : Rows.RankAllSaid := over
#print axioms proved
end Go.Proofs.Ytiakpjkpmepmoaa.rankAll
