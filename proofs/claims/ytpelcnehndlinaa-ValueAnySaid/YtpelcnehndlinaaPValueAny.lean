/- ValueAny: any bytes begin with a value, or not: for every input the law returns true. -/
import Derived.Test.YtpelcnehndlinaaRows
import Derived.WalkKit
import Derived.ProofKit
import Derived.OpenShut
import Derived.ShutString
import Derived.ChangeOld
import Derived.Below
import Derived.Test.YtpelcnehndlinaaBegun4
import Derived.Test.YtpelcnehndlinaaValGet
import Derived.Test.YtpelcnehndlinaaShort
namespace Go.Proofs.Ytpelcnehndlinaa.valueAny
open Go.ChangeShapes Go.WideShapes Go.ChangeAt Go.RowKit
open Go.ChangeMaps (open_string shut_string)
set_option linter.unusedVariables false

theorem own : ownKnob Try.prog.godebug = none := by kernel_rfl
theorem laidOut : laidOutB Try.prog = true := by kernel_rfl

/-- WHAT THE WALK IS TOLD OF A SLICE OF INTEGERS THAT CAME IN: it is nil; or it leads to a row of 'cap' cells, the numbers 'zs' (the first 'len' are its elements, the rest its spare room), each fitting its kind. -/
def IsRow (k : IntKind) (w : World) (a : Option Addr) (len cap : Nat) (zs : List Int) : Prop :=
  (a = none ∧ len = 0 ∧ cap = 0 ∧ zs = []) ∨
  ∃ x, a = some x ∧ len ≤ cap ∧ cap ≤ maxLen ∧ zs.length = cap ∧ (∀ i, i < zs.length → w.cell? (x.add i) = some (.int k (zs.getD i 0))) ∧ ∀ n ∈ zs, (Lit.int k n).wf = true

set_option maxHeartbeats 2000000 in
set_option maxRecDepth 100000 in
theorem walk (a0 : Option Addr) (len0 cap0 : Nat) (z0 : List Int) (w : World) (w0 : IsRow .u8 w a0 len0 cap0 z0) :
    Calls Try.prog 5 #[.slice a0 len0 cap0] w fun e w' => e = .returned (.bool true) ∧ Below w.heap.size w w' := by
  obtain ⟨l, hl⟩ := rb_of_row w0
  clear w0
  go_enter Try.func5, Try.ntmps5
  go_wp2_with fail
  refine (begun_c _).mono ?_
  rintro e w1 ⟨rfl, hb1⟩
  go_wp2_with fail
  refine (short_c _ l 40 _ (hl.below hb1) (by omega)).mono ?_
  rintro e w2 ⟨⟨v, rfl, hv⟩, rfl⟩
  generalize l.take 40 = q at hv
  clear hl
  have c1 := fun W (h : RB W v q) => vget_c v q W h
  have c2 := fun W (h : RB W v q) => rgetVal_c v q W h
  generalize valB q = r at c1 c2
  obtain ⟨⟨k, n, s⟩, m, e⟩ := r
  have c3 := fun W => eqval_c k n (str s) k n (str s) W
  rw [eqR_refl] at c3
  unfold vv rawV at c1 c2
  unfold rawV at c3
  simp only [] at c1 c2
  generalize str s = t at *
  have C1 := Go.Lib.hid c1; clear c1
  have C2 := Go.Lib.hid c2; clear c2
  have C3 := Go.Lib.hid c3; clear c3
  go_wp2_with fail
  refine (C1.out _ hv).mono ?_
  rintro e w2 ⟨rfl, hc⟩
  have hv := hv.below hc
  have hbb := hb1.trans (hc.mono hb1.size)
  clear hc hb1
  go_wp2_with fail
  have hv := hv.below (below_one w2 (.cells #[.int .i64 k, .int .i64 n, .string t] 23))
  refine (C2.out _ hv).mono ?_
  rintro e w3 ⟨rfl, hc⟩
  obtain ⟨x0, x1, x2⟩ := box_cells _ _ _ _ _ _ hc
  have hbb := (hbb.trans ((below_one w2 (.cells #[.int .i64 k, .int .i64 n, .string t] 23)).mono hbb.size)).trans (hc.mono (Nat.le_trans hbb.size (below_one w2 _).size))
  clear hc hv
  have x0 := cell_kept x0 (below_one w3 (.cells #[.int .i64 k, .int .i64 n, .string t] 23))
  have x1 := cell_kept x1 (below_one w3 (.cells #[.int .i64 k, .int .i64 n, .string t] 23))
  have x2 := cell_kept x2 (below_one w3 (.cells #[.int .i64 k, .int .i64 n, .string t] 23))
  have hbb := hbb.trans ((below_one w3 (.cells #[.int .i64 k, .int .i64 n, .string t] 23)).mono hbb.size)
  go_wp2_with fail
  refine (C3.out _).mono ?_
  rintro e w4 ⟨rfl, hc⟩
  have hbb := hbb.trans (hc.mono hbb.size)
  clear hc x0 x1 x2
  go_wp2_with fail
  go_ret
  exact ⟨rfl, hbb⟩

/-! ### THE ROW's STEP: WRITTEN OUT: LEAVE IT -/
set_option maxRecDepth 100000 in
theorem lifted (os : Os) (started : os.Started) (H : Type) (enc : TypeId × Value → H) :
    ReturnsInHanded {} Try.checked os 5 .any (Rows.valueAnySpec.pre6 enc Try.prog Try.f5 Rows.valueAnyRow.domain false) (Rows.valueAnySpec.post enc Try.prog Try.f5 false true false false) := by
  refine returnsInHanded_of_change (C := Try.checked) own started (by kernel_rfl) Try.func5
    (ChangeSpec.witness6 (enc := enc) (C := Try.checked) false ⟨#[], #[.slice none 0 0], []⟩ 8 (by kernel_rfl) (by kernel_rfl) (by kernel_rfl) (by kernel_rfl)) ?_
  intro W base args ds gs before hval0 hW hcnd _
  have hval : ∀ (j : Nat) t v, Try.f5.params[j]? = some t → args[j]? = some v → Value.okWide Try.prog W .any base t v := hval0
  have hW' := hW
  obtain ⟨p, q, hA0, hV, rfl, hfz, hnd⟩ := hW
  have hA : DataW.TrodAll enc Try.prog W 0 (fun _ => true) true Try.f5.params.toList args.toList ds p := hA0
  rw [Try.params5] at hA hval
  obtain ⟨v0, vs0, d0, ds0, p0, q0, hargs, rfl, rfl, h0, r0⟩ := trodAll_cons hA
  obtain ⟨rfl, rfl, rfl⟩ := trodAll_nil r0
  obtain rfl : args = #[v0] := by cases args; simp_all
  obtain ⟨rfl, rfl⟩ := trodVars_none hV
  obtain ⟨a0, len0, cap0, rfl⟩ := okWide_slice Try.underlying39 (hval 0 39 v0 rfl rfl)
  have k0 := h0
  have lt0 : ∀ x ∈ p0, x.block < W.heap.size := by obtain ⟨m, hm⟩ := k0; exact DataW.trod_lt m _ _ _ hm
  obtain ⟨z0, w0⟩ : ∃ zs, IsRow .u8 W a0 len0 cap0 zs := by
    obtain ⟨fuel, hf⟩ := h0
    rcases open_ints Try.underlying39 Try.underlying5 (by kernel_rfl) hf with ⟨hcs, _⟩ | ⟨x, l, c, zs, hcs, _, hl, hm, hz, _, hcell, hwz⟩
    · simp [Value.cells] at hcs
      obtain ⟨rfl, rfl, rfl⟩ := hcs
      exact ⟨[], .inl ⟨rfl, rfl, rfl, rfl⟩⟩
    · simp [Value.cells] at hcs
      obtain ⟨rfl, rfl, rfl⟩ := hcs
      exact ⟨zs, .inr ⟨_, rfl, hl, hm, by simpa using hz, hcell, hwz⟩⟩
  clear hA0 hval0
  refine (walk a0 len0 cap0 z0 W w0).mono fun e W' ⟨he, bel⟩ => ?_
  subst he
  exact ⟨_, rfl, _, _, _, [], _, [], hW', trodAll_mk1 (shut_bool Try.underlying4 _), (trodAll_cons_mk (Below.trod laidOut (by kernel_rfl) (of_decide_eq_true (by kernel_rfl)) k0 bel lt0) trodAll_mk0), rfl, bel.frame _, fun h => by cases h⟩

theorem over : Rows.valueAnyRow.holds Try.pinned (OpenSpec.ofChange Rows.valueAnySpec) :=
  OpenClaim.holds_of_wide 5 Try.f5 rfl rfl rfl rfl rfl rfl rfl ⟨rfl, rfl, rfl, rfl, rfl⟩ rfl rfl rfl rfl rfl (by kernel_rfl) Try.func5 (by kernel_rfl)
    (of_decide_eq_true (by kernel_rfl)) (by unfold Func.isWrapper; first | (rw [if_pos (by decide +kernel)]; kernel_rfl) | (rw [if_neg (by decide +kernel)]; exact ⟨rfl, rfl⟩))
    (fun os started H enc _ => lifted os started H enc)

/-- ████ THE STATEMENT ████ -/
theorem proved : Rows.ValueAnySaid := over
#print axioms proved
end Go.Proofs.Ytpelcnehndlinaa.valueAny
