/- ValueNums: any number is a value, and comes back by two roads; it is no text: for every number the law returns true. -/
import Derived.Test.YtpelcnehndlinaaRows
import Derived.WalkKit
import Derived.ProofKit
import Derived.OpenShut
import Derived.ShutString
import Derived.Test.YtpelcnehndlinaaBegun4
namespace Go.Proofs.Ytpelcnehndlinaa.valueNums
open Go.ChangeShapes Go.WideShapes Go.ChangeAt Go.RowKit
open Go.ChangeMaps (open_string shut_string)
set_option linter.unusedVariables false      -- a walk need not use every 'w<i>' (that an integer argument fits its kind)

theorem own : ownKnob Try.prog.godebug = none := by kernel_rfl

set_option maxHeartbeats 2000000 in
set_option maxRecDepth 100000 in
theorem walk (a0 : Int) (w0 : (Lit.int .i64 a0).wf = true) (w : World) :
    Calls Try.prog 8 #[.int .i64 a0] w fun e w' => e = .returned (.bool true) ∧ Below w.heap.size w w' := by
  clear w0
  have c1 := begun_c
  have c2 := of_k 1 a0 ⟨#[]⟩ _ (of_num (n := a0) (by unfold mayR; simp))
  have c3 := fun W => num_c (.num a0) W
  have c4 := fun W => must_c (.num a0) W
  have c5 := fun W => text_c (.num a0) W z0
  have c6 := fun W => raw_c (.num a0) W z0
  simp only [VI.val, VI.v, VI.k, VI.n, VI.s, VI.isN, VI.isT, VI.raw, rawV] at c1 c2 c3 c4 c5 c6
  have hf := field_n 1 a0 ⟨#[]⟩
  have C1 := Go.Lib.hid c1; clear c1
  have C2 := Go.Lib.hid c2; clear c2
  have C3 := Go.Lib.hid c3; clear c3
  have C4 := Go.Lib.hid c4; clear c4
  have C5 := Go.Lib.hid c5; clear c5
  have C6 := Go.Lib.hid c6; clear c6
  have hbb := Below.refl w.heap.size w
  go_enter Try.func8, Try.ntmps8
  go_wp2_with fail
  refine (C1.out _).mono ?_
  rintro e w1 ⟨rfl, hc1⟩
  have hbb := hbb.trans (hc1.mono hbb.size)
  clear hc1 
  go_wp2_with fail
  refine (C2.out _).mono ?_
  rintro e w2 ⟨rfl, hc2⟩
  have hbb := hbb.trans (hc2.mono hbb.size)
  clear hc2 
  go_wp2_with fail
  have x4 := cell_new w2 (.iface 56 (.int .i64 a0)) 27
  have hbb := hbb.trans ((below_one w2 (.cells #[.iface 56 (.int .i64 a0)] 27)).mono hbb.size)
  generalize w2.alloc (.cells #[.iface 56 (.int .i64 a0)] 27) = u2 at *
  generalize w2.heap.size = bx4 at *
  refine (C3.out _).mono ?_
  rintro e w3 ⟨rfl, hc3⟩
  have x4 := cell_kept x4 hc3
  have hbb := hbb.trans (hc3.mono hbb.size)
  clear hc3 
  go_wp2_with fail
  refine (C4.out _).mono ?_
  rintro e w4 ⟨rfl, hc4⟩
  have x4 := cell_kept x4 hc4
  have hbb := hbb.trans (hc4.mono hbb.size)
  clear hc4 
  go_wp2_with fail
  refine (C5.out _).mono ?_
  rintro e w5 ⟨rfl, hc5⟩
  have x4 := cell_kept x4 hc5
  have hbb := hbb.trans (hc5.mono hbb.size)
  clear hc5 
  go_wp2_with fail
  refine (C6.out _).mono ?_
  rintro e w6 ⟨rfl, hc6⟩
  have x4 := cell_kept x4 hc6
  have hbb := hbb.trans (hc6.mono hbb.size)
  clear hc6 
  go_wp2_with fail
  go_ret
  exact ⟨rfl, hbb⟩

/-! ### THE ROW's STEP: WRITTEN OUT: LEAVE IT -/
set_option maxRecDepth 100000 in
theorem lifted (os : Os) (started : os.Started) (H : Type) (enc : TypeId × Value → H) :
    ReturnsInHanded {} Try.checked os 8 .any (Rows.valueNumsSpec.pre6 enc Try.prog Try.f8 Rows.valueNumsRow.domain false) (Rows.valueNumsSpec.post enc Try.prog Try.f8 false true false false) := by
  refine returnsInHanded_of_change (C := Try.checked) own started (by kernel_rfl) Try.func8
    (ChangeSpec.witness6 (enc := enc) (C := Try.checked) false ⟨#[], #[.int .i64 0], []⟩ 8 (by kernel_rfl) (by kernel_rfl) (by kernel_rfl) (by kernel_rfl)) ?_
  intro W base args ds gs before hval0 hW hcnd _
  have hval : ∀ (j : Nat) t v, Try.f8.params[j]? = some t → args[j]? = some v → Value.okWide Try.prog W .any base t v := hval0
  have hW' := hW
  obtain ⟨p, q, hA0, hV, rfl, hfz, hnd⟩ := hW
  have hA : DataW.TrodAll enc Try.prog W 0 (fun _ => true) true Try.f8.params.toList args.toList ds p := hA0
  rw [Try.params8] at hA hval
  obtain ⟨v0, vs0, d0, ds0, p0, q0, hargs, rfl, rfl, h0, r0⟩ := trodAll_cons hA
  obtain ⟨rfl, rfl, rfl⟩ := trodAll_nil r0
  obtain rfl : args = #[v0] := by cases args; simp_all
  obtain ⟨rfl, rfl⟩ := trodVars_none hV
  obtain ⟨a0, rfl, rfl, rfl, w0⟩ := open_int Try.underlying2 (hval 0 2 v0 rfl rfl) h0
  clear hA0 hval0
  refine (walk a0 w0 W).mono fun e W' ⟨he, hg⟩ => ?_
  subst he
  exact ⟨_, rfl, _, _, _, [], _, [], hW', (trodAll_cons_mk (shut_bool Try.underlying4 _) trodAll_mk0), (trodAll_cons_mk (shut_int Try.underlying2 w0) trodAll_mk0), rfl, hg.frame _, fun h => by cases h⟩

theorem over : Rows.valueNumsRow.holds Try.pinned (OpenSpec.ofChange Rows.valueNumsSpec) :=
  OpenClaim.holds_of_wide 8 Try.f8 rfl rfl rfl rfl rfl rfl rfl ⟨rfl, rfl, rfl, rfl, rfl⟩ rfl rfl rfl rfl rfl (by kernel_rfl) Try.func8 (by kernel_rfl)
    (of_decide_eq_true (by kernel_rfl)) (by unfold Func.isWrapper; first | (rw [if_pos (by decide +kernel)]; kernel_rfl) | (rw [if_neg (by decide +kernel)]; exact ⟨rfl, rfl⟩))
    (fun os started H enc _ => lifted os started H enc)

/-- ████ THE STATEMENT ████ -/
theorem proved : Rows.ValueNumsSaid :=
  over
#print axioms proved
end Go.Proofs.Ytpelcnehndlinaa.valueNums
