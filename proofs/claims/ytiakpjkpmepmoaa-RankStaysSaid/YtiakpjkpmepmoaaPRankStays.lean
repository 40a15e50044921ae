/- RankStays: what was counted stays, though bits come behind it: for every input the law returns true. -/
import Derived.Test.YtiakpjkpmepmoaaRows
import Derived.WalkKit
import Derived.ProofKit
import Derived.OpenShut
import Derived.ShutString
import Derived.ChangeOld
import Derived.Below
import Derived.Test.YtiakpjkpmepmoaaOpenB
import Derived.Test.YtiakpjkpmepmoaaBegun8
import Derived.Deep.DeepCutAuto
import Derived.Deep.QuietTactic
import Derived.BigQuiet
namespace Go.Proofs.Ytiakpjkpmepmoaa.rankStays
open Go.ChangeShapes Go.WideShapes Go.ChangeAt Go.RowKit
open Go.ChangeMaps (open_string shut_string)
set_option linter.unusedVariables false

theorem own : ownKnob Try.prog.godebug = none := by kernel_rfl
theorem laidOut : laidOutB Try.prog = true := by kernel_rfl

set_option maxHeartbeats 2000000 in
set_option maxRecDepth 100000 in
theorem walk (w : World) (a0 : Option Addr) (len0 cap0 : Nat) (l0 : List Bool) (w0 : RV w (.slice a0 len0 cap0) (zb l0)) (a1 : Bool) :
    Calls Try.prog 5 #[.slice a0 len0 cap0, .bool a1] w fun e w' => e = .returned (.bool true) ∧ Below w.heap.size w w' := by
  obtain ⟨ad, cp, hv, hm63, -⟩ := w0.zbForm
  simp only [Value.slice.injEq] at hv
  obtain ⟨rfl, rfl, rfl⟩ := hv
  have H0 := Go.Lib.hid w0
  clear w0
  go_enter Try.func5, Try.ntmps5
  go_upto_if 15 with (refine (begun_c _).mono ?_; rintro e w1 ⟨rfl, hbb⟩)
  go_cut [0] (fun s wx => wx = w1 ∧ ∃ l : List Bool, l.length ≤ 100 ∧ RV wx s (zb l))
  case first =>
    by_cases h200 : 100 < l0.length
    · have hr := Go.Lib.hid ((H0.out.below hbb).zbTake 100 (by omega))
      have hlen := Go.Lib.hid (show (l0.take 100).length ≤ 100 by rw [List.length_take]; omega)
      obtain ⟨ad', cp', hv, -, hne⟩ := H0.out.zbForm
      simp only [Value.slice.injEq, true_and] at hv
      obtain ⟨rfl, rfl⟩ := hv
      cases a0 with
      | none => have := hne rfl; omega
      | some aa =>
      clear hne
      have hcap := Go.Lib.hid (RV.zbCap H0.out)
      have hc2 : 100 ≤ cap0 := by have := hcap.out; omega
      go_wp2_with fail
      go_meet
      exact ⟨rfl, _, hlen.out, hr.out⟩
    · have hr := Go.Lib.hid (H0.out.below hbb)
      go_wp2_with fail
      go_meet
      exact ⟨rfl, _, by omega, hr.out⟩
  case rest =>
    obtain ⟨rfl, l, hl, hr⟩ := hcut
    clear H0 hm63
    obtain ⟨ad, cp, rfl, -, -⟩ := hr.zbForm
    have Hr := Go.Lib.hid hr
    clear hr
    go_wp2_with fail
    refine (bof6_c _ l _ Hr.out (by omega)).mono ?_
    rintro e w2 ⟨u, rfl, hbt, hb2⟩
    have hbb2 := hbb.trans (hb2.mono hbb.size)
    have HBT := Go.Lib.hid hbt
    have Hr2 := Go.Lib.hid (Hr.out.below hb2)
    have hwb := Go.Lib.hid hbb.size
    generalize wc.heap.size = b at *
    clear hbt Hr hb2 hbb
    go_wp2_with fail
    refine (rnew_c _ _ _ _ _ HBT.out (by omega)).mono ?_
    rintro e w3 ⟨r, rfl, hrk, hb3⟩
    have hbb3 := hbb2.trans (hb3.mono hbb2.size)
    have HRK := Go.Lib.hid hrk
    have Hr3 := Go.Lib.hid (Hr2.out.below hb3)
    have HBT3 := Go.Lib.hid (HBT.out.below hb3)
    have hrow : ∀ k, u.ownBlock = some k → k < w2.heap.size := HBT.out.row_lt
    have hbl := HBT.out.lt
    have Hrow := Go.Lib.hid hrow
    have Hbl := Go.Lib.hid hbl
    clear hrow hbl hrk hb3 HBT Hr2 hbb2
    go_wp2_with fail
    refine (rones_c (l.length : Int) _ _ _ l HRK.out (by omega) (by omega)).mono ?_
    rintro e w4 ⟨rfl, hb4⟩
    rw [onesI_nat, ones_len]
    have hbb4 := hbb3.trans (hb4.mono hbb3.size)
    have HRK4 := Go.Lib.hid (HRK.out.below hb4)
    have HBT4 := Go.Lib.hid (HBT3.out.below hb4)
    clear HRK HBT3 hb4 hbb3 Hr3
    generalize hc : l.count true = c at *
    have Hc := Go.Lib.hid hc
    clear hc
    go_wp2_with fail
    refine (put_c a1 _ _ _ _ _ HBT4.out (by omega)).mono ?_
    rintro e w5 ⟨rfl, u5, -, k5, -⟩
    have HRK5 := Go.Lib.hid (HRK4.out.two Hbl.out Hrow.out k5)
    have hbb5 := hbb4.trans (k5.below hwb.out (fun k hk => Nat.le_trans hwb.out (HBT4.out.rows k hk)) hbb4.size)
    have C6 := fun W (h : RK W w2.heap.size (some r) l) => rones_c ((l.length : Int) + 1) W _ _ l h (by omega) (by omega)
    rw [show ((l.length : Int) + 1) = ((l.length + 1 : Nat) : Int) from by omega, onesI_nat, ones_all l (l.length + 1) (by omega), Hc.out, show ((l.length + 1 : Nat) : Int) = (l.length : Int) + 1 from by omega] at C6
    have K6 := Go.Lib.hid C6
    have z1 := Go.Lib.hid (show onesI [] 3 = 0 from rfl)
    have z2 := Go.Lib.hid (show placeI [] 0 = -1 from rfl)
    clear hbb4 HRK4 HBT4 Hrow Hbl hwb k5 C6
    go_wp2_with fail
    refine (K6.out _ HRK5.out).mono ?_
    rintro e w6 ⟨rfl, hb6⟩
    have hbb6 := hbb5.trans (hb6.mono hbb5.size)
    have HRK6 := Go.Lib.hid (HRK5.out.below hb6)
    clear HRK5 K6 hb6 hbb5
    go_wp2_with fail
    refine (rlen_c _ _ _ l HRK6.out).mono ?_
    rintro e w7 ⟨rfl, hb7⟩
    have hbb7 := hbb6.trans (hb7.mono hbb6.size)
    clear HRK6 hb7 hbb6
    go_wp2_with fail
    refine (rones_c 3 _ _ _ [] (RK.nil _ 0) (by omega) (by omega)).mono ?_
    rintro e w8 ⟨rfl, hb8⟩
    have hbb8 := hbb7.trans (hb8.mono hbb7.size)
    rw [z1.out]
    clear hb8 hbb7
    go_wp2_with fail
    refine (rplace_c 0 _ _ _ [] (RK.nil _ 0) (by omega) (by omega)).mono ?_
    rintro e w9 ⟨rfl, hb9⟩
    have hbb9 := hbb8.trans (hb9.mono hbb8.size)
    rw [z2.out]
    clear hb9 hbb8
    go_wp2_with fail
    refine (rlen_c _ _ _ [] (RK.nil _ 0)).mono ?_
    rintro e w10 ⟨rfl, hb10⟩
    have hbb10 := hbb9.trans (hb10.mono hbb9.size)
    have e0 : (([] : List Bool).length : Int) = 0 := rfl
    rw [e0]
    clear hb10 hbb9
    go_wp2_with fail
    refine (rnew_nil _).mono ?_
    rintro e w11 ⟨r2, rfl, hrk2, hb11⟩
    have hbb11 := hbb10.trans (hb11.mono hbb10.size)
    have HR2 := Go.Lib.hid hrk2
    clear hb11 hbb10 hrk2
    go_wp2_with fail
    refine (rlen_c _ _ _ [] HR2.out).mono ?_
    rintro e w12 ⟨rfl, hb12⟩
    have hbb12 := hbb11.trans (hb12.mono hbb11.size)
    rw [e0]
    clear hb12 hbb11
    go_wp2_with fail
    go_ret
    exact ⟨rfl, hbb12⟩

/-! ### THE ROW -/
set_option maxRecDepth 100000 in
theorem lifted (os : Os) (started : os.Started) (H : Type) (enc : TypeId × Value → H) :
    ReturnsInHanded {} Try.checked os 5 .any (Rows.rankStaysSpec.pre6 enc Try.prog Try.f5 Rows.rankStaysRow.domain false) (Rows.rankStaysSpec.post enc Try.prog Try.f5 false true false false) := by
  refine returnsInHanded_of_change (C := Try.checked) own started (by kernel_rfl) Try.func5
    (ChangeSpec.witness6 (enc := enc) (C := Try.checked) false ⟨#[], #[.slice none 0 0, .bool false], []⟩ 8 (by kernel_rfl) (by kernel_rfl) (by kernel_rfl) (by kernel_rfl)) ?_
  intro W base args ds gs before hval0 hW hcnd _
  have hval : ∀ (j : Nat) t v, Try.f5.params[j]? = some t → args[j]? = some v → Value.okWide Try.prog W .any base t v := hval0
  have hW' := hW
  obtain ⟨p, q, hA0, hV, rfl, hfz, hnd⟩ := hW
  have hA : DataW.TrodAll enc Try.prog W 0 (fun _ => true) true Try.f5.params.toList args.toList ds p := hA0
  rw [Try.params5] at hA hval
  obtain ⟨v0, vs0, d0, ds0, p0, q0, hargs, rfl, rfl, h0, r0⟩ := trodAll_cons hA
  obtain ⟨v1, vs1, d1, ds1, p1, q1, rfl, rfl, rfl, h1, r1⟩ := trodAll_cons r0
  obtain ⟨rfl, rfl, rfl⟩ := trodAll_nil r1
  obtain rfl : args = #[v0, v1] := by cases args; simp_all
  obtain ⟨rfl, rfl⟩ := trodVars_none hV
  have kk0 := h0
  have lt0 : ∀ x ∈ p0, x.block < W.heap.size := by obtain ⟨m, hm⟩ := kk0; exact DataW.trod_lt m _ _ _ hm
  have kk1 := h1
  have lt1 : ∀ x ∈ p1, x.block < W.heap.size := by obtain ⟨m, hm⟩ := kk1; exact DataW.trod_lt m _ _ _ hm
  obtain ⟨a0, len0, cap0, rfl⟩ := okWide_slice Try.underlying22 (hval 0 22 v0 rfl rfl)
  obtain ⟨l0, w0⟩ := open_zb Try.underlying22 Try.underlying4 (by kernel_rfl) h0
  obtain ⟨a1, rfl, rfl, rfl⟩ := open_bool Try.underlying4 (hval 1 4 v1 rfl rfl) h1
  clear hA0 hval0
  refine (walk W a0 len0 cap0 l0 w0 a1).mono fun e W' ⟨he, bel⟩ => ?_
  subst he
  exact ⟨_, rfl, _, _, _, [], _, [], hW', trodAll_mk1 (shut_bool Try.underlying4 _), (trodAll_cons_mk (Below.trod laidOut (by kernel_rfl) (of_decide_eq_true (by kernel_rfl)) kk0 bel lt0) (trodAll_cons_mk (Below.trod laidOut (by kernel_rfl) (of_decide_eq_true (by kernel_rfl)) kk1 bel lt1) trodAll_mk0)), rfl, bel.frame _, fun h => by cases h⟩

theorem over : Rows.rankStaysRow.holds Try.pinned (OpenSpec.ofChange Rows.rankStaysSpec) :=
  OpenClaim.holds_of_wide 5 Try.f5 rfl rfl rfl rfl rfl rfl rfl ⟨rfl, rfl, rfl, rfl, rfl⟩ rfl rfl rfl rfl rfl (by kernel_rfl) Try.func5 (by kernel_rfl)
    (of_decide_eq_true (by kernel_rfl)) (by unfold Func.isWrapper; first | (rw [if_pos (by decide +kernel)]; kernel_rfl) | (rw [if_neg (by decide +kernel)]; exact ⟨rfl, rfl⟩))
    (fun os started H enc _ => lifted os started H enc)

theorem proved : Rows.RankStaysSaid := over
#print axioms proved
end Go.Proofs.Ytiakpjkpmepmoaa.rankStays
