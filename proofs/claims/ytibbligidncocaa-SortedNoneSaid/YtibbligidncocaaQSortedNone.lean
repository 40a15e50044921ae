/- SortedNone: no store tells nothing, and one without pairs is one: the law returns true. -/
import Derived.Test.YtibbligidncocaaRows
import Derived.WalkKit
import Derived.ProofKit
import Derived.OpenShut
import Derived.ShutString
import Derived.Test.YtibbligidncocaaM48
namespace Go.Proofs.Ytibbligidncocaa.sortedNone
open Go.ChangeShapes Go.WideShapes Go.ChangeAt Go.RowKit
open Go.ChangeMaps (open_string shut_string)
set_option linter.unusedVariables false      -- a walk need not use every 'w<i>' (that an integer argument fits its kind)

theorem own : ownKnob Try.prog.godebug = none := by kernel_rfl

set_option maxHeartbeats 4000000 in
set_option maxRecDepth 100000 in
theorem walk (w : World) :
    Calls Try.prog 7 #[] w fun e w' => e = .returned (.bool true) ∧ Below w.heap.size w w' := by
  have CBG := Go.Lib.hid begun22_c
  have CG := fun W => snil_get ⟨#[97]⟩ W
  unfold outV at CG
  simp only [] at CG
  have CG := Go.Lib.hid CG
  have CR := Go.Lib.hid (fun W => snil_reads ⟨#[97]⟩ W)
  have CLS := Go.Lib.hid snil_list
  have CBY := Go.Lib.hid snil_bytes
  have CLN := Go.Lib.hid snil_len
  have CN := Go.Lib.hid (fun W => snew_ok (P := []) (by decide) (.slice none 0 0) W (Lay.R.nil W))
  have CLZ := Go.Lib.hid (show ∀ (W : World) B p, SW W B p [] → Calls Try.prog 24 #[.pointer (some ⟨p, 0, none⟩)] W fun e w' => e = .returned (.int .i64 0) ∧ W = w' from fun W B p h => slen_c h)
  have CRZ := Go.Lib.hid (show ∀ (W : World) B p, SW W B p [] → Calls Try.prog 26 #[.pointer (some ⟨p, 0, none⟩), .string ⟨#[97]⟩] W fun e w' => e = .returned (.int .i64 0) ∧ Below W.heap.size W w' from fun W B p h => by
    have := sreads_c h ⟨#[97]⟩ (by decide)
    rw [show sreadsK [] (hashS ⟨#[97]⟩) = 0 from rfl] at this
    exact this)
  go_enter Try.func7, Try.ntmps7
  go_wp2_with fail
  refine (CG.out _).mono ?_
  rintro e w1 ⟨rfl, hc⟩
  have hb2 := below_one w1 (.cells #[.int .i64 0, .int .i64 0, .string ⟨#[]⟩] 37)
  have HB := Go.Lib.hid (hc.trans (hb2.mono hc.size))
  clear hc hb2 CG
  go_upto_region 3 with (fail)
  generalize w1.alloc (.cells #[.int .i64 0, .int .i64 0, .string ⟨#[]⟩] 37) = w2 at *
  go_wp2_with fail
  refine (CN.out _).mono ?_
  rintro e w3 ⟨p, rfl, hw, hc⟩
  have H3 := Go.Lib.hid hw
  have HB3 := Go.Lib.hid (HB.out.trans (hc.mono HB.out.size))
  clear hw hc CN HB
  go_wp2_with fail
  refine (CBG.out _).mono ?_
  rintro e w4 ⟨rfl, hc⟩
  have H4 := Go.Lib.hid (H3.out.below hc)
  have HB4 := Go.Lib.hid (HB3.out.trans (hc.mono HB3.out.size))
  clear hc CBG H3 HB3
  go_wp2_with fail
  refine (CR.out _).mono ?_
  rintro e w5 ⟨rfl, hc⟩
  have H5 := Go.Lib.hid (H4.out.below hc)
  have HB5 := Go.Lib.hid (HB4.out.trans (hc.mono HB4.out.size))
  clear hc CR H4 HB4
  go_wp2_with fail
  refine (CLS.out _).mono ?_
  rintro e w6 ⟨rfl, hc⟩
  have H6 := Go.Lib.hid (H5.out.below hc)
  have HB6 := Go.Lib.hid (HB5.out.trans (hc.mono HB5.out.size))
  clear hc CLS H5 HB5
  go_wp2_with fail
  refine (CBY.out _).mono ?_
  rintro e w7 ⟨rfl, hc⟩
  have H7 := Go.Lib.hid (H6.out.below hc)
  have HB7 := Go.Lib.hid (HB6.out.trans (hc.mono HB6.out.size))
  clear hc CBY H6 HB6
  go_wp2_with fail
  refine (CLN.out _).mono ?_
  rintro e w8 ⟨rfl, rfl⟩
  go_wp2_with fail
  refine (CLZ.out _ _ _ H7.out).mono ?_
  rintro e w8 ⟨rfl, rfl⟩
  go_wp2_with fail
  refine (CRZ.out _ _ _ H7.out).mono ?_
  rintro e w9 ⟨rfl, hc⟩
  have HB9 := Go.Lib.hid (HB7.out.trans (hc.mono HB7.out.size))
  clear hc CRZ H7 HB7
  go_wp2_with fail
  go_ret
  exact ⟨rfl, HB9.out⟩

/-! ### THE ROW's STEP: WRITTEN OUT: LEAVE IT -/
set_option maxRecDepth 100000 in
theorem lifted (os : Os) (started : os.Started) (H : Type) (enc : TypeId × Value → H) :
    ReturnsInHanded {} Try.checked os 7 .any (Rows.sortedNoneSpec.pre6 enc Try.prog Try.f7 Rows.sortedNoneRow.domain false) (Rows.sortedNoneSpec.post enc Try.prog Try.f7 false true false false) := by
  refine returnsInHanded_of_change (C := Try.checked) own started (by kernel_rfl) Try.func7
    (ChangeSpec.witness6 (enc := enc) (C := Try.checked) false ⟨#[], #[], []⟩ 8 (by kernel_rfl) (by kernel_rfl) (by kernel_rfl) (by kernel_rfl)) ?_
  intro W base args ds gs before hval0 hW hcnd _
  have hval : ∀ (j : Nat) t v, Try.f7.params[j]? = some t → args[j]? = some v → Value.okWide Try.prog W .any base t v := hval0
  have hW' := hW
  obtain ⟨p, q, hA0, hV, rfl, hfz, hnd⟩ := hW
  have hA : DataW.TrodAll enc Try.prog W 0 (fun _ => true) true Try.f7.params.toList args.toList ds p := hA0
  rw [Try.params7] at hA hval
  obtain ⟨rfl, rfl, rfl⟩ := trodAll_none hA
  obtain ⟨rfl, rfl⟩ := trodVars_none hV
  clear hA0 hval0
  refine (walk  W).mono fun e W' ⟨he, hg⟩ => ?_
  subst he
  exact ⟨_, rfl, _, _, _, [], _, [], hW', (trodAll_cons_mk (shut_bool Try.underlying4 _) trodAll_mk0), rfl, rfl, hg.frame _, fun h => by cases h⟩

theorem over : Rows.sortedNoneRow.holds Try.pinned (OpenSpec.ofChange Rows.sortedNoneSpec) :=
  OpenClaim.holds_of_wide 7 Try.f7 rfl rfl rfl rfl rfl rfl rfl ⟨rfl, rfl, rfl, rfl, rfl⟩ rfl rfl rfl rfl rfl (by kernel_rfl) Try.func7 (by kernel_rfl)
    (of_decide_eq_true (by kernel_rfl)) (by unfold Func.isWrapper; first | (rw [if_pos (by decide +kernel)]; kernel_rfl) | (rw [if_neg (by decide +kernel)]; exact ⟨rfl, rfl⟩))
    (fun os started H enc _ => lifted os started H enc)

/-- ████ THE STATEMENT ████ -/
theorem proved : Rows.SortedNoneSaid :=
  over
#print axioms proved
end Go.Proofs.Ytibbligidncocaa.sortedNone
