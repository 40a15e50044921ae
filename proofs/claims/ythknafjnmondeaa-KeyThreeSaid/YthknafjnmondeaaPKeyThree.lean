/- KeyThree: the order by runes of any three is one: for any three texts the law returns true. -/
import Derived.Test.YthknafjnmondeaaRows
import Derived.WalkKit
import Derived.ProofKit
import Derived.OpenShut
import Derived.ShutString
import Derived.Test.YthknafjnmondeaaBegun5
import Derived.Test.YthknafjnmondeaaRValid
import Derived.Test.YthknafjnmondeaaLCut
namespace Go.Proofs.Ythknafjnmondeaa.keyThree
open Go.ChangeShapes Go.WideShapes Go.ChangeAt Go.RowKit
open Go.ChangeMaps (open_string shut_string)
set_option linter.unusedVariables false      -- a walk need not use every 'w<i>' (that an integer argument fits its kind)

theorem own : ownKnob Try.prog.godebug = none := by kernel_rfl

set_option maxHeartbeats 2000000 in
set_option maxRecDepth 100000 in
theorem walk (a0 : ByteArray) (a1 : ByteArray) (a2 : ByteArray) (w0 : a0.size ≤ maxLen) (w1 : a1.size ≤ maxLen) (w2 : a2.size ≤ maxLen) (w : World) :
    Calls Try.prog 5 #[.string a0, .string a1, .string a2] w fun e w' => e = .returned (.bool true) ∧ Below w.heap.size w w' := by
  have L0 := Go.Lib.hid fun W => lcut_c a0 12 W w0 (by omega)
  have hp : (str ((bl a0).take 12)).size ≤ 12 := by rw [str_size, List.length_take]; omega
  generalize str ((bl a0).take 12) = p at *
  have L1 := Go.Lib.hid fun W => lcut_c a1 12 W w1 (by omega)
  have hq : (str ((bl a1).take 12)).size ≤ 12 := by rw [str_size, List.length_take]; omega
  generalize str ((bl a1).take 12) = q at *
  have L2 := Go.Lib.hid fun W => lcut_c a2 12 W w2 (by omega)
  have hr : (str ((bl a2).take 12)).size ≤ 12 := by rw [str_size, List.length_take]; omega
  generalize str ((bl a2).take 12) = r at *
  have cpp := fun W => kcmp_c p p W (by omega) (by omega)
  have cpq := fun W => kcmp_c p q W (by omega) (by omega)
  have cqp := fun W => kcmp_c q p W (by omega) (by omega)
  have cqr := fun W => kcmp_c q r W (by omega) (by omega)
  have cpr := fun W => kcmp_c p r W (by omega) (by omega)
  have h0 : cmpS p p = 0 := cmpN_self _
  have hsw : cmpS q p = -cmpS p q := cmpN_swap ..
  rw [h0] at cpp
  have ht : cmpS p q > 0 ∨ cmpS q r > 0 ∨ (cmpS p r ≤ 0 ∧ (cmpS p r < 0 ↔ cmpS p q < 0 ∨ cmpS q r < 0)) := cmpN_any ..
  have h3 : cmpS p q = -1 ∨ cmpS p q = 0 ∨ cmpS p q = 1 := cmpN_three ..
  have hng : IntKind.i64.wrap (-cmpS q p) = cmpS p q := by rw [hsw, IntKind.wrap_i64]; omega
  clear hsw h0 h3
  generalize cmpS q p = ba at *
  generalize cmpS p q = ab at *
  generalize cmpS q r = bc at *
  generalize cmpS p r = ac at *
  have CPP := Go.Lib.hid cpp; clear cpp
  have CPQ := Go.Lib.hid cpq; clear cpq
  have CQP := Go.Lib.hid cqp; clear cqp
  have CQR := Go.Lib.hid cqr; clear cqr
  have CPR := Go.Lib.hid cpr; clear cpr
  clear w0 w1 w2 hp hq hr
  go_enter Try.func5, Try.ntmps5
  go_wp2_with fail
  refine (begun_c _).mono ?_
  rintro e w1 ⟨rfl, hbb⟩
  go_wp2_with fail
  refine (L0.out _).mono ?_
  rintro e w2 ⟨rfl, rfl⟩
  go_wp2_with fail
  refine (L1.out _).mono ?_
  rintro e w2 ⟨rfl, rfl⟩
  go_wp2_with fail
  refine (L2.out _).mono ?_
  rintro e w2 ⟨rfl, rfl⟩
  go_wp2_with fail
  refine (CPP.out _).mono ?_
  rintro e u1 ⟨rfl, hc⟩
  have hbb := hbb.trans (hc.mono hbb.size)
  clear hc
  go_wp2_with fail
  refine (CPQ.out _).mono ?_
  rintro e u2 ⟨rfl, hc⟩
  have hbb := hbb.trans (hc.mono hbb.size)
  clear hc
  go_wp2_with fail
  refine (CQP.out _).mono ?_
  rintro e u3 ⟨rfl, hc⟩
  have hbb := hbb.trans (hc.mono hbb.size)
  clear hc
  clear L0 L1 L2
  by_cases h1 : ab > 0
  · clear ht
    go_wp2_with fail
    refine (CPQ.out _).mono ?_
    rintro e u4 ⟨rfl, hc⟩
    have hbb := hbb.trans (hc.mono hbb.size)
    clear hc
    go_wp2_with fail
    go_ret
    exact ⟨rfl, hbb⟩
  by_cases h2 : bc > 0
  · clear ht
    go_wp2_with fail
    refine (CPQ.out _).mono ?_
    rintro e u4 ⟨rfl, hc⟩
    have hbb := hbb.trans (hc.mono hbb.size)
    clear hc
    go_wp2_with fail
    refine (CQR.out _).mono ?_
    rintro e u5 ⟨rfl, hc⟩
    have hbb := hbb.trans (hc.mono hbb.size)
    clear hc
    go_wp2_with fail
    go_ret
    exact ⟨rfl, hbb⟩
  have h4 : ac ≤ 0 := by omega
  by_cases h5 : ab < 0
  · have h6 : ac < 0 := by omega
    clear ht
    go_wp2_with fail
    refine (CPQ.out _).mono ?_
    rintro e u4 ⟨rfl, hc⟩
    have hbb := hbb.trans (hc.mono hbb.size)
    clear hc
    go_wp2_with fail
    refine (CQR.out _).mono ?_
    rintro e u5 ⟨rfl, hc⟩
    have hbb := hbb.trans (hc.mono hbb.size)
    clear hc
    go_wp2_with fail
    refine (CPR.out _).mono ?_
    rintro e u6 ⟨rfl, hc⟩
    have hbb := hbb.trans (hc.mono hbb.size)
    clear hc
    go_wp2_with fail
    refine (CPR.out _).mono ?_
    rintro e u7 ⟨rfl, hc⟩
    have hbb := hbb.trans (hc.mono hbb.size)
    clear hc
    go_wp2_with fail
    refine (CPQ.out _).mono ?_
    rintro e u8 ⟨rfl, hc⟩
    have hbb := hbb.trans (hc.mono hbb.size)
    clear hc
    go_wp2_with fail
    go_ret
    exact ⟨rfl, hbb⟩
  by_cases h7 : bc < 0
  · have h6 : ac < 0 := by omega
    clear ht
    go_wp2_with fail
    refine (CPQ.out _).mono ?_
    rintro e u4 ⟨rfl, hc⟩
    have hbb := hbb.trans (hc.mono hbb.size)
    clear hc
    go_wp2_with fail
    refine (CQR.out _).mono ?_
    rintro e u5 ⟨rfl, hc⟩
    have hbb := hbb.trans (hc.mono hbb.size)
    clear hc
    go_wp2_with fail
    refine (CPR.out _).mono ?_
    rintro e u6 ⟨rfl, hc⟩
    have hbb := hbb.trans (hc.mono hbb.size)
    clear hc
    go_wp2_with fail
    refine (CPR.out _).mono ?_
    rintro e u7 ⟨rfl, hc⟩
    have hbb := hbb.trans (hc.mono hbb.size)
    clear hc
    go_wp2_with fail
    refine (CPQ.out _).mono ?_
    rintro e u8 ⟨rfl, hc⟩
    have hbb := hbb.trans (hc.mono hbb.size)
    clear hc
    go_wp2_with fail
    refine (CQR.out _).mono ?_
    rintro e u9 ⟨rfl, hc⟩
    have hbb := hbb.trans (hc.mono hbb.size)
    clear hc
    go_wp2_with fail
    go_ret
    exact ⟨rfl, hbb⟩
  · have h6 : ¬ ac < 0 := by omega
    clear ht
    go_wp2_with fail
    refine (CPQ.out _).mono ?_
    rintro e u4 ⟨rfl, hc⟩
    have hbb := hbb.trans (hc.mono hbb.size)
    clear hc
    go_wp2_with fail
    refine (CQR.out _).mono ?_
    rintro e u5 ⟨rfl, hc⟩
    have hbb := hbb.trans (hc.mono hbb.size)
    clear hc
    go_wp2_with fail
    refine (CPR.out _).mono ?_
    rintro e u6 ⟨rfl, hc⟩
    have hbb := hbb.trans (hc.mono hbb.size)
    clear hc
    go_wp2_with fail
    refine (CPR.out _).mono ?_
    rintro e u7 ⟨rfl, hc⟩
    have hbb := hbb.trans (hc.mono hbb.size)
    clear hc
    go_wp2_with fail
    refine (CPQ.out _).mono ?_
    rintro e u8 ⟨rfl, hc⟩
    have hbb := hbb.trans (hc.mono hbb.size)
    clear hc
    go_wp2_with fail
    refine (CQR.out _).mono ?_
    rintro e u9 ⟨rfl, hc⟩
    have hbb := hbb.trans (hc.mono hbb.size)
    clear hc
    go_wp2_with fail
    go_ret
    exact ⟨ret_of (congrArg Value.bool (by rw [show decide (ac < 0) = false from decide_eq_false (by omega), show decide (ab < 0) = false from decide_eq_false (by omega), show decide (bc < 0) = false from decide_eq_false (by omega)]; simp)), hbb⟩

/-! ### THE ROW's STEP: WRITTEN OUT: LEAVE IT -/
set_option maxRecDepth 100000 in
theorem lifted (os : Os) (started : os.Started) (H : Type) (enc : TypeId × Value → H) :
    ReturnsInHanded {} Try.checked os 5 .any (Rows.keyThreeSpec.pre6 enc Try.prog Try.f5 Rows.keyThreeRow.domain false) (Rows.keyThreeSpec.post enc Try.prog Try.f5 false true false false) := by
  refine returnsInHanded_of_change (C := Try.checked) own started (by kernel_rfl) Try.func5
    (ChangeSpec.witness6 (enc := enc) (C := Try.checked) false ⟨#[], #[.string ByteArray.empty, .string ByteArray.empty, .string ByteArray.empty], []⟩ 8 (by kernel_rfl) (by kernel_rfl) (by kernel_rfl) (by kernel_rfl)) ?_
  intro W base args ds gs before hval0 hW hcnd _
  have hval : ∀ (j : Nat) t v, Try.f5.params[j]? = some t → args[j]? = some v → Value.okWide Try.prog W .any base t v := hval0
  have hW' := hW
  obtain ⟨p, q, hA0, hV, rfl, hfz, hnd⟩ := hW
  have hA : DataW.TrodAll enc Try.prog W 0 (fun _ => true) true Try.f5.params.toList args.toList ds p := hA0
  rw [Try.params5] at hA hval
  obtain ⟨v0, vs0, d0, ds0, p0, q0, hargs, rfl, rfl, h0, r0⟩ := trodAll_cons hA
  obtain ⟨v1, vs1, d1, ds1, p1, q1, rfl, rfl, rfl, h1, r1⟩ := trodAll_cons r0
  obtain ⟨v2, vs2, d2, ds2, p2, q2, rfl, rfl, rfl, h2, r2⟩ := trodAll_cons r1
  obtain ⟨rfl, rfl, rfl⟩ := trodAll_nil r2
  obtain rfl : args = #[v0, v1, v2] := by cases args; simp_all
  obtain ⟨rfl, rfl⟩ := trodVars_none hV
  obtain ⟨a0, rfl, rfl, rfl, w0⟩ := open_string Try.underlying9 (hval 0 9 v0 rfl rfl) h0
  obtain ⟨a1, rfl, rfl, rfl, w1⟩ := open_string Try.underlying9 (hval 1 9 v1 rfl rfl) h1
  obtain ⟨a2, rfl, rfl, rfl, w2⟩ := open_string Try.underlying9 (hval 2 9 v2 rfl rfl) h2
  clear hA0 hval0
  refine (walk a0 a1 a2 w0 w1 w2 W).mono fun e W' ⟨he, hg⟩ => ?_
  subst he
  exact ⟨_, rfl, _, _, _, [], _, [], hW', (trodAll_cons_mk (shut_bool Try.underlying4 _) trodAll_mk0), (trodAll_cons_mk (shut_string Try.underlying9 w0) (trodAll_cons_mk (shut_string Try.underlying9 w1) (trodAll_cons_mk (shut_string Try.underlying9 w2) trodAll_mk0))), rfl, hg.frame _, fun h => by cases h⟩

theorem over : Rows.keyThreeRow.holds Try.pinned (OpenSpec.ofChange Rows.keyThreeSpec) :=
  OpenClaim.holds_of_wide 5 Try.f5 rfl rfl rfl rfl rfl rfl rfl ⟨rfl, rfl, rfl, rfl, rfl⟩ rfl rfl rfl rfl rfl (by kernel_rfl) Try.func5 (by kernel_rfl)
    (of_decide_eq_true (by kernel_rfl)) (by unfold Func.isWrapper; first | (rw [if_pos (by decide +kernel)]; kernel_rfl) | (rw [if_neg (by decide +kernel)]; exact ⟨rfl, rfl⟩))
    (fun os started H enc _ => lifted os started H enc)

/-- ████ THE STATEMENT ████ -/
theorem proved : Rows.KeyThreeSaid :=
  over
#print axioms proved
end Go.Proofs.Ythknafjnmondeaa.keyThree
