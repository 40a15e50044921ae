/- ValueNone: no value: the closed sentence returns true. -/
import Derived.Test.YtpelcnehndlinaaRows
import Derived.WalkKit
import Derived.ProofKit
import Derived.OpenShut
import Derived.ShutString
import Derived.Test.YtpelcnehndlinaaBegun4
namespace Go.Proofs.Ytpelcnehndlinaa.valueNone
open Go.ChangeShapes Go.WideShapes Go.ChangeAt Go.RowKit
open Go.ChangeMaps (open_string shut_string)
set_option linter.unusedVariables false      -- a walk need not use every 'w<i>' (that an integer argument fits its kind)

theorem own : ownKnob Try.prog.godebug = none := by kernel_rfl

set_option maxHeartbeats 2000000 in
set_option maxRecDepth 100000 in
theorem walk (w : World)  :
    Calls Try.prog 7 #[] w fun e w' => e = .returned (.bool true) ∧ Below w.heap.size w w' := by
  have c1 := fun W => num_c .none W
  have c2 := fun W => text_c .none W z0
  have c3 := fun W => must_c .none W
  have c4 := of_k 1 0 ⟨#[]⟩ _ (of_num (n := 0) (by unfold mayR; simp))
  have c5 := begun_c
  have c6 := fun W => kind_c .none W z0
  have c7 := fun W => veq_c .none .none W z0 z0
  have c8 := fun W => veq_c .none (.num 0) W z0 z0
  have c9 := fun W => veq_c (.num 0) .none W z0 z0
  have c10 := fun W => raw_c .none W z0
  have e1 : eqR 0 0 ⟨#[]⟩ 0 0 ⟨#[]⟩ = true := eqR_refl ..
  have e2 : eqR 0 0 ⟨#[]⟩ 1 0 ⟨#[]⟩ = false := by decide +kernel
  have e3 : eqR 1 0 ⟨#[]⟩ 0 0 ⟨#[]⟩ = false := by decide +kernel
  simp only [VI.val, VI.v, VI.k, VI.n, VI.s, VI.isN, VI.isT, VI.raw, rawV, e1, e2, e3] at c1 c2 c3 c4 c5 c6 c7 c8 c9 c10
  clear e1 e2 e3
  have hf := field_s 0 0 ⟨#[]⟩
  have C1 := Go.Lib.hid c1; clear c1
  have C2 := Go.Lib.hid c2; clear c2
  have C3 := Go.Lib.hid c3; clear c3
  have C4 := Go.Lib.hid c4; clear c4
  have C5 := Go.Lib.hid c5; clear c5
  have C6 := Go.Lib.hid c6; clear c6
  have C7 := Go.Lib.hid c7; clear c7
  have C8 := Go.Lib.hid c8; clear c8
  have C9 := Go.Lib.hid c9; clear c9
  have C10 := Go.Lib.hid c10; clear c10
  have hbb := below_two w (.cells #[.nilIface] 27) (.cells #[.nilIface] 27)
  have x1 := cell_of_row _ _ 0 _ _ _ (two_first w (.cells #[.nilIface] 27) (.cells #[.nilIface] 27))
  have x2 := cell_of_row _ _ 0 _ _ _ (heap_alloc2_new w (.cells #[.nilIface] 27) (.cells #[.nilIface] 27))
  simp only [List.getElem?_toArray, List.getElem?_cons_zero] at x1 x2
  go_enter Try.func7, Try.ntmps7
  go_wp2_with fail
  refine (C1.out _).mono ?_
  rintro e w1 ⟨rfl, hc1⟩
  have x1 := cell_kept x1 hc1
  have x2 := cell_kept x2 hc1
  have hbb := hbb.trans (hc1.mono hbb.size)
  clear hc1 
  go_wp2_with fail
  refine (C2.out _).mono ?_
  rintro e w2 ⟨rfl, hc2⟩
  have x1 := cell_kept x1 hc2
  have x2 := cell_kept x2 hc2
  have hbb := hbb.trans (hc2.mono hbb.size)
  clear hc2 
  go_wp2_with fail
  refine (C3.out _).mono ?_
  rintro e w3 ⟨rfl, hc3⟩
  have x1 := cell_kept x1 hc3
  have x2 := cell_kept x2 hc3
  have hbb := hbb.trans (hc3.mono hbb.size)
  clear hc3 
  go_wp2_with fail
  refine (C4.out _).mono ?_
  rintro e w4 ⟨rfl, hc4⟩
  have x1 := cell_kept x1 hc4
  have x2 := cell_kept x2 hc4
  have hbb := hbb.trans (hc4.mono hbb.size)
  clear hc4 
  go_wp2_with fail
  have x1 := cell_kept x1 (below_one w4 (.cells #[.iface 56 (.int .i64 0)] 27))
  have x2 := cell_kept x2 (below_one w4 (.cells #[.iface 56 (.int .i64 0)] 27))
  have x9 := cell_new w4 (.iface 56 (.int .i64 0)) 27
  have hbb := hbb.trans ((below_one w4 (.cells #[.iface 56 (.int .i64 0)] 27)).mono hbb.size)
  generalize w4.alloc (.cells #[.iface 56 (.int .i64 0)] 27) = u4 at *
  generalize w4.heap.size = bx9 at *
  refine (C5.out _).mono ?_
  rintro e w5 ⟨rfl, hc5⟩
  have x1 := cell_kept x1 hc5
  have x2 := cell_kept x2 hc5
  have x9 := cell_kept x9 hc5
  have hbb := hbb.trans (hc5.mono hbb.size)
  clear hc5 
  go_wp2_with fail
  refine (C6.out _).mono ?_
  rintro e w6 ⟨rfl, hc6⟩
  have x1 := cell_kept x1 hc6
  have x2 := cell_kept x2 hc6
  have x9 := cell_kept x9 hc6
  have hbb := hbb.trans (hc6.mono hbb.size)
  clear hc6 
  go_wp2_with fail
  refine (C7.out _).mono ?_
  rintro e w7 ⟨rfl, hc7⟩
  have x1 := cell_kept x1 hc7
  have x2 := cell_kept x2 hc7
  have x9 := cell_kept x9 hc7
  have hbb := hbb.trans (hc7.mono hbb.size)
  clear hc7 
  go_wp2_with fail
  refine (C8.out _).mono ?_
  rintro e w8 ⟨rfl, hc8⟩
  have x1 := cell_kept x1 hc8
  have x2 := cell_kept x2 hc8
  have x9 := cell_kept x9 hc8
  have hbb := hbb.trans (hc8.mono hbb.size)
  clear hc8 
  go_wp2_with fail
  refine (C9.out _).mono ?_
  rintro e w9 ⟨rfl, hc9⟩
  have x1 := cell_kept x1 hc9
  have x2 := cell_kept x2 hc9
  have x9 := cell_kept x9 hc9
  have hbb := hbb.trans (hc9.mono hbb.size)
  clear hc9 
  go_wp2_with fail
  refine (C10.out _).mono ?_
  rintro e w10 ⟨rfl, hc10⟩
  have x1 := cell_kept x1 hc10
  have x2 := cell_kept x2 hc10
  have x9 := cell_kept x9 hc10
  have hbb := hbb.trans (hc10.mono hbb.size)
  clear hc10 
  go_wp2_with fail
  go_ret
  exact ⟨rfl, hbb⟩

/-! ### THE ROW's STEP: WRITTEN OUT: LEAVE IT -/
set_option maxRecDepth 100000 in
theorem lifted (os : Os) (started : os.Started) (H : Type) (enc : TypeId × Value → H) :
    ReturnsInHanded {} Try.checked os 7 .any (Rows.valueNoneSpec.pre6 enc Try.prog Try.f7 Rows.valueNoneRow.domain false) (Rows.valueNoneSpec.post enc Try.prog Try.f7 false true false false) := by
  refine returnsInHanded_of_change (C := Try.checked) own started (by kernel_rfl) Try.func7
    (ChangeSpec.witness6 (enc := enc) (C := Try.checked) false ⟨#[], #[], []⟩ 8 (by kernel_rfl) (by kernel_rfl) (by kernel_rfl) (by kernel_rfl)) ?_
  intro W base args ds gs before hval0 hW hcnd _
  have hval : ∀ (j : Nat) t v, Try.f7.params[j]? = some t → args[j]? = some v → Value.okWide Try.prog W .any base t v := hval0
  have hW' := hW
  obtain ⟨p, q, hA0, hV, rfl, hfz, hnd⟩ := hW
  have hA : DataW.TrodAll enc Try.prog W 0 (fun _ => true) true Try.f7.params.toList args.toList ds p := hA0
  rw [Try.params7] at hA hval
  obtain ⟨rfl, rfl, rfl⟩ := trodAll_none hA
  obtain ⟨rfl, rfl⟩ := trodVars_none hV
  clear hA0 hval0
  refine (walk  W).mono fun e W' ⟨he, hg⟩ => ?_
  subst he
  exact ⟨_, rfl, _, _, _, [], _, [], hW', (trodAll_cons_mk (shut_bool Try.underlying4 _) trodAll_mk0), rfl, rfl, hg.frame _, fun h => by cases h⟩

theorem over : Rows.valueNoneRow.holds Try.pinned (OpenSpec.ofChange Rows.valueNoneSpec) :=
  OpenClaim.holds_of_wide 7 Try.f7 rfl rfl rfl rfl rfl rfl rfl ⟨rfl, rfl, rfl, rfl, rfl⟩ rfl rfl rfl rfl rfl (by kernel_rfl) Try.func7 (by kernel_rfl)
    (of_decide_eq_true (by kernel_rfl)) (by unfold Func.isWrapper; first | (rw [if_pos (by decide +kernel)]; kernel_rfl) | (rw [if_neg (by decide +kernel)]; exact ⟨rfl, rfl⟩))
    (fun os started H enc _ => lifted os started H enc)

/-- ████ THE STATEMENT ████ -/
theorem proved : Rows.ValueNoneSaid :=
  over
#print axioms proved
end Go.Proofs.Ytpelcnehndlinaa.valueNone
