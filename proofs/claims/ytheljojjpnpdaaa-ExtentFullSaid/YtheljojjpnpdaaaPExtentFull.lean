/- ExtentFull: taken one by one all have their turn, from the first one on; then there is none: for every input the law returns true. -/
import Derived.Test.YtheljojjpnpdaaaRows
import Derived.WalkKit
import Derived.ProofKit
import Derived.OpenShut
import Derived.ShutString
import Derived.Test.YtheljojjpnpdaaaBegun13
namespace Go.Proofs.Ytheljojjpnpdaaa.extentFull
open Go.ChangeShapes Go.WideShapes Go.ChangeAt Go.RowKit
open Go.ChangeMaps (open_string shut_string)
set_option linter.unusedVariables false      -- a walk need not use every 'w<i>' (that an integer argument fits its kind)

theorem own : ownKnob Try.prog.godebug = none := by kernel_rfl

set_option maxHeartbeats 1000000 in
set_option maxRecDepth 100000 in
theorem walk (a0 : Int) (a1 : Int) (w0 : (Lit.int .i64 a0).wf = true) (w1 : (Lit.int .i64 a1).wf = true) (w : World) :
    Calls Try.prog 8 #[.int .i64 a0, .int .i64 a1] w fun e w' => e = .returned (.bool true) ∧ Below w.heap.size w w' := by
  clear w0 w1
  go_enter Try.func8, Try.ntmps8
  go_wp2_with fail
  refine (begun_c _).mono ?_
  rintro e w2 ⟨rfl, k2⟩
  by_cases h1 : a0 < 0
  · go_wp2_with fail
    go_ret
    exact ⟨rfl, k2⟩
  by_cases h2 : 100 < a0
  · go_wp2_with fail
    go_ret
    exact ⟨rfl, k2⟩
  by_cases h3 : a1 < 0
  · go_wp2_with fail
    go_ret
    exact ⟨rfl, k2⟩
  by_cases h4 : 100 < a1
  · go_wp2_with fail
    go_ret
    exact ⟨rfl, k2⟩
  obtain ⟨a, rfl⟩ : ∃ a : Nat, a0 = (a : Int) := ⟨a0.toNat, by omega⟩
  obtain ⟨n, rfl⟩ : ∃ n : Nat, a1 = (n : Int) := ⟨a1.toNat, by omega⟩
  have hA1 := Go.Lib.hid (show a ≤ 100 by omega)
  have hN1 := Go.Lib.hid (show n ≤ 100 by omega)
  clear h1 h3
  have C1 := Go.Lib.hid (new_q w2 a n _ _ (iv a (a + n)) rfl rfl (by have := hN1.out; omega) (by have := hN1.out; have := hA1.out; omega) rfl)
  have K2 := Go.Lib.hid k2; clear k2
  go_wp2_with fail
  refine C1.out.mono ?_
  rintro e w3 ⟨r, v, rfl, hr3, hb3⟩
  have HR3 := Go.Lib.hid (hr3.mono K2.out.size)
  have HB3 := Go.Lib.hid (below_on K2.out hb3)
  clear C1 hr3 hb3 K2
  go_wp2_with fail
  go_loopw [7] (fun c wr => ∃ i : Nat, i ≤ n ∧ c = .int .i64 (i : Int) ∧ RM wr w.heap.size r a n v (iv (a + i) (a + n)) ∧ Below w.heap.size w wr) (fun c _ => n - (intOf c).toNat)
  case atStart => exact ⟨0, by omega, rfl, HR3.out, HB3.out⟩
  case round =>
    obtain ⟨i, hi, rfl, hr, hb⟩ := hrel
    clear HR3 HB3
    by_cases hin : i < n
    · have hiI : (i : Int) < (n : Int) := by omega
      obtain ⟨A, hA⟩ : ∃ A : Int, A = (a : Int) + (i : Int) := ⟨_, rfl⟩
      have e0 : IntKind.i64.wrap ((a : Int) + (i : Int)) = A := by rw [hA, IntKind.wrap_i64]; have := hA1.out; have := hN1.out; omega
      obtain ⟨D, hD⟩ : ∃ D : Int, D = (n : Int) - (i : Int) := ⟨_, rfl⟩
      have e1 : IntKind.i64.wrap ((n : Int) - (i : Int)) = D := by rw [hD, IntKind.wrap_i64]; have := hN1.out; omega
      obtain ⟨D1, hD1⟩ : ∃ D1 : Int, D1 = D - 1 := ⟨_, rfl⟩
      have e2 : IntKind.i64.wrap (D - 1) = D1 := by rw [hD1, hD, IntKind.wrap_i64]; have := hN1.out; omega
      have C2 := Go.Lib.hid (take_q hr 1 1 A (a + i, n - i) (iv (a + (i + 1)) (a + n)) rfl (by rw [hA]; omega) (by omega) (by rw [iv_fit (Nat.le_refl _) (by omega) (by omega), show a + n - (a + i) = n - i from by omega]) (by rw [iv_take (by omega)]; rfl))
      have HF := Go.Lib.hid (show (cntF (iv (a + (i + 1)) (a + n)) (a + n) : Int) = D1 from by rw [iv_cnt (by omega) (Nat.le_refl _), hD1, hD]; omega)
      have HR := Go.Lib.hid hr
      have HB := Go.Lib.hid hb
      have HI := Go.Lib.hid hin
      clear hr hb hA hD hD1 hin
      go_wp2_with fail
      refine C2.out.mono ?_
      rintro e w4 ⟨rfl, hr4, hg4⟩
      have hb4 := below_gr HB.out HR.out hg4
      have hal := below_alloc w4 (.cells #[.int .i64 A, .int .i64 1] 30)
      have hr5 := hr4.below hal
      have C3 := Go.Lib.hid (free_q hr5 D1 HF.out)
      have HR5 := Go.Lib.hid hr5
      have HB5 := Go.Lib.hid (below_on hb4 hal)
      clear hr4 hg4 hb4 hal hr5 C2 HR HB HF
      go_wp2_with fail
      refine C3.out.mono ?_
      rintro e w5 ⟨rfl, rfl⟩
      go_wp2_with fail
      go_roundw
      case rel => exact ⟨i + 1, by have := HI.out; omega, by go_num, HR5.out, HB5.out⟩
      case measure => simp only [intOf]; have := HI.out; omega
    · obtain rfl : i = n := by omega
      have C2 := Go.Lib.hid (takeno_q hr 1 1 rfl (by decide) (iv_fit_none (Nat.le_refl _) (by omega) (by decide)))
      have HR := Go.Lib.hid hr
      have HB := Go.Lib.hid hb
      clear hr hb hin hi
      go_wp2_with fail
      refine C2.out.mono ?_
      rintro e w4 ⟨rfl, hb4⟩
      have hc4 := below_on hb4 (below_alloc w4 (.cells #[.int .i64 0, .int .i64 0] 30))
      have hr5 := HR.out.below hc4
      have C3 := Go.Lib.hid (spans_q hr5 [] (iv_none (Nat.le_refl _)))
      have HB5 := Go.Lib.hid (below_on HB.out hc4)
      clear hb4 hc4 hr5 C2 HR HB
      go_wp2_with fail
      refine C3.out.mono ?_
      rintro e w5 ⟨a5, c5, rfl, -, hb5⟩
      have HB6 := Go.Lib.hid (below_on HB5.out hb5)
      clear hb5
      rw [show ([] : List (Nat × Nat)).length = 0 from rfl]
      go_wp2_with fail
      go_ret
      exact ⟨rfl, HB6.out⟩

/-! ### THE ROW's STEP: WRITTEN OUT: LEAVE IT -/
set_option maxRecDepth 100000 in
theorem lifted (os : Os) (started : os.Started) (H : Type) (enc : TypeId × Value → H) :
    ReturnsInHanded {} Try.checked os 8 .any (Rows.extentFullSpec.pre6 enc Try.prog Try.f8 Rows.extentFullRow.domain false) (Rows.extentFullSpec.post enc Try.prog Try.f8 false true false false) := by
  refine returnsInHanded_of_change (C := Try.checked) own started (by kernel_rfl) Try.func8
    (ChangeSpec.witness6 (enc := enc) (C := Try.checked) false ⟨#[], #[.int .i64 0, .int .i64 0], []⟩ 8 (by kernel_rfl) (by kernel_rfl) (by kernel_rfl) (by kernel_rfl)) ?_
  intro W base args ds gs before hval0 hW hcnd _
  have hval : ∀ (j : Nat) t v, Try.f8.params[j]? = some t → args[j]? = some v → Value.okWide Try.prog W .any base t v := hval0
  have hW' := hW
  obtain ⟨p, q, hA0, hV, rfl, hfz, hnd⟩ := hW
  have hA : DataW.TrodAll enc Try.prog W 0 (fun _ => true) true Try.f8.params.toList args.toList ds p := hA0
  rw [Try.params8] at hA hval
  obtain ⟨v0, vs0, d0, ds0, p0, q0, hargs, rfl, rfl, h0, r0⟩ := trodAll_cons hA
  obtain ⟨v1, vs1, d1, ds1, p1, q1, rfl, rfl, rfl, h1, r1⟩ := trodAll_cons r0
  obtain ⟨rfl, rfl, rfl⟩ := trodAll_nil r1
  obtain rfl : args = #[v0, v1] := by cases args; simp_all
  obtain ⟨rfl, rfl⟩ := trodVars_none hV
  obtain ⟨a0, rfl, rfl, rfl, w0⟩ := open_int Try.underlying3 (hval 0 3 v0 rfl rfl) h0
  obtain ⟨a1, rfl, rfl, rfl, w1⟩ := open_int Try.underlying3 (hval 1 3 v1 rfl rfl) h1
  clear hA0 hval0
  refine (walk a0 a1 w0 w1 W).mono fun e W' ⟨he, hg⟩ => ?_
  subst he
  exact ⟨_, rfl, _, _, _, [], _, [], hW', (trodAll_cons_mk (shut_bool Try.underlying4 _) trodAll_mk0), (trodAll_cons_mk (shut_int Try.underlying3 w0) (trodAll_cons_mk (shut_int Try.underlying3 w1) trodAll_mk0)), rfl, hg.frame _, fun h => by cases h⟩

theorem over : Rows.extentFullRow.holds Try.pinned (OpenSpec.ofChange Rows.extentFullSpec) :=
  OpenClaim.holds_of_wide 8 Try.f8 rfl rfl rfl rfl rfl rfl rfl ⟨rfl, rfl, rfl, rfl, rfl⟩ rfl rfl rfl rfl rfl (by kernel_rfl) Try.func8 (by kernel_rfl)
    (of_decide_eq_true (by kernel_rfl)) (by unfold Func.isWrapper; first | (rw [if_pos (by decide +kernel)]; kernel_rfl) | (rw [if_neg (by decide +kernel)]; exact ⟨rfl, rfl⟩))
    (fun os started H enc _ => lifted os started H enc)

/-- ████ THE STATEMENT ████ -/
theorem proved : Rows.ExtentFullSaid :=
  over
#print axioms proved
end Go.Proofs.Ytheljojjpnpdaaa.extentFull
