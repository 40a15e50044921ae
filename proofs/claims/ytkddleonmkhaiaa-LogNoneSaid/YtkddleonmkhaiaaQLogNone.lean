/- LogNone: no log: the law returns true. -/
import Derived.Test.YtkddleonmkhaiaaRows
import Derived.WalkKit
import Derived.ProofKit
import Derived.OpenShut
import Derived.ShutString
import Derived.Test.YtkddleonmkhaiaaM30
namespace Go.Proofs.Ytkddleonmkhaiaa.logNone
open Go.ChangeShapes Go.WideShapes Go.ChangeAt Go.RowKit
open Go.ChangeMaps (open_string shut_string)
set_option linter.unusedVariables false      -- a walk need not use every 'w<i>' (that an integer argument fits its kind)

theorem own : ownKnob Try.prog.godebug = none := by kernel_rfl

set_option maxHeartbeats 1000000 in
set_option maxRecDepth 100000 in
theorem walk (w : World) :
    Calls Try.prog 3 #[] w fun e w' => e = .returned (.bool true) ∧ Below w.heap.size w w' := by
  have C1 := lnil_get ⟨#[97]⟩ w
  rw [outR_none] at C1
  go_enter Try.func3, Try.ntmps3
  go_wp2_with fail
  refine C1.mono ?_
  rintro e w1 ⟨rfl, hc⟩
  have HB := Go.Lib.hid (hc.trans ((below_one w1 (.cells #[.string ⟨#[]⟩, .bool false, .int .i64 0, .int .i64 0, .string ⟨#[]⟩] 26)).mono hc.size))
  clear hc C1
  go_wp2_with fail
  generalize w1.alloc (.cells #[.string ⟨#[]⟩, .bool false, .int .i64 0, .int .i64 0, .string ⟨#[]⟩] 26) = w2 at *
  have C2 := lnil_slot 0 0 w2
  rw [outR_none] at C2
  refine C2.mono ?_
  rintro e w3 ⟨rfl, hc⟩
  have hc2 := hc.trans ((below_one w3 (.cells #[.string ⟨#[]⟩, .bool false, .int .i64 0, .int .i64 0, .string ⟨#[]⟩] 26)).mono hc.size)
  have HB := Go.Lib.hid (HB.out.trans (hc2.mono HB.out.size))
  clear hc hc2 C2
  go_wp2_with fail
  generalize w3.alloc (.cells #[.string ⟨#[]⟩, .bool false, .int .i64 0, .int .i64 0, .string ⟨#[]⟩] 26) = w4 at *
  refine (begun_c _).mono ?_
  rintro e w5 ⟨rfl, hc⟩
  have HB := Go.Lib.hid (HB.out.trans (hc.mono HB.out.size))
  clear hc
  have C3 := lnil_put ⟨#[97]⟩ true 0 0 ⟨#[]⟩ w5
  unfold recV at C3
  go_wp2_with fail
  refine C3.mono ?_
  rintro e w6 ⟨rfl, hc⟩
  have HB := Go.Lib.hid (HB.out.trans (hc.mono HB.out.size))
  clear hc C3
  go_wp2_with fail
  refine (lnil_reads ⟨#[97]⟩ _).mono ?_
  rintro e w7 ⟨rfl, hc⟩
  have HB := Go.Lib.hid (HB.out.trans (hc.mono HB.out.size))
  clear hc
  go_wp2_with fail
  refine (lnil_list _).mono ?_
  rintro e w8 ⟨rfl, hc⟩
  have HB := Go.Lib.hid (HB.out.trans (hc.mono HB.out.size))
  clear hc
  go_wp2_with fail
  refine (lnil_len _).mono ?_
  rintro e w9 ⟨rfl, rfl⟩
  go_wp2_with fail
  go_ret
  exact ⟨rfl, HB.out⟩

/-! ### THE ROW's STEP: WRITTEN OUT: LEAVE IT -/
set_option maxRecDepth 100000 in
theorem lifted (os : Os) (started : os.Started) (H : Type) (enc : TypeId × Value → H) :
    ReturnsInHanded {} Try.checked os 3 .any (Rows.logNoneSpec.pre6 enc Try.prog Try.f3 Rows.logNoneRow.domain false) (Rows.logNoneSpec.post enc Try.prog Try.f3 false true false false) := by
  refine returnsInHanded_of_change (C := Try.checked) own started (by kernel_rfl) Try.func3
    (ChangeSpec.witness6 (enc := enc) (C := Try.checked) false ⟨#[], #[], []⟩ 8 (by kernel_rfl) (by kernel_rfl) (by kernel_rfl) (by kernel_rfl)) ?_
  intro W base args ds gs before hval0 hW hcnd _
  have hval : ∀ (j : Nat) t v, Try.f3.params[j]? = some t → args[j]? = some v → Value.okWide Try.prog W .any base t v := hval0
  have hW' := hW
  obtain ⟨p, q, hA0, hV, rfl, hfz, hnd⟩ := hW
  have hA : DataW.TrodAll enc Try.prog W 0 (fun _ => true) true Try.f3.params.toList args.toList ds p := hA0
  rw [Try.params3] at hA hval
  obtain ⟨rfl, rfl, rfl⟩ := trodAll_none hA
  obtain ⟨rfl, rfl⟩ := trodVars_none hV
  clear hA0 hval0
  refine (walk  W).mono fun e W' ⟨he, hg⟩ => ?_
  subst he
  exact ⟨_, rfl, _, _, _, [], _, [], hW', (trodAll_cons_mk (shut_bool Try.underlying4 _) trodAll_mk0), rfl, rfl, hg.frame _, fun h => by cases h⟩

theorem over : Rows.logNoneRow.holds Try.pinned (OpenSpec.ofChange Rows.logNoneSpec) :=
  OpenClaim.holds_of_wide 3 Try.f3 rfl rfl rfl rfl rfl rfl rfl ⟨rfl, rfl, rfl, rfl, rfl⟩ rfl rfl rfl rfl rfl (by kernel_rfl) Try.func3 (by kernel_rfl)
    (of_decide_eq_true (by kernel_rfl)) (by unfold Func.isWrapper; first | (rw [if_pos (by decide +kernel)]; kernel_rfl) | (rw [if_neg (by decide +kernel)]; exact ⟨rfl, rfl⟩))
    (fun os started H enc _ => lifted os started H enc)

/-- ████ THE STATEMENT ████ -/
theorem proved : Rows.LogNoneSaid :=
  over
#print axioms proved
end Go.Proofs.Ytkddleonmkhaiaa.logNone
