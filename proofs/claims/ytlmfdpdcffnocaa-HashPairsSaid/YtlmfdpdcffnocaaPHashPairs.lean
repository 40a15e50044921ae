/- HashPairs: buckets of one tag go two and two: for every number the law returns true. -/
import Derived.Test.YtlmfdpdcffnocaaRows
import Derived.WalkKit
import Derived.ProofKit
import Derived.OpenShut
import Derived.ShutString
import Derived.Test.YtlmfdpdcffnocaaBegun9
namespace Go.Proofs.Ytlmfdpdcffnocaa.hashPairs
open Go.ChangeShapes Go.WideShapes Go.ChangeAt Go.RowKit
open Go.ChangeMaps (open_string shut_string)
set_option linter.unusedVariables false      -- a walk need not use every 'w<i>' (that an integer argument fits its kind)

theorem own : ownKnob Try.prog.godebug = none := by kernel_rfl

theorem other_three (t : Int) (h : t < 0 ∨ 32767 < t) : otherI 3 t = -1 := otherI_bad (by omega)

/-- Block g holds eight numbers, the first k of them the other buckets'. -/
def Arr (w : World) (g T k : Nat) : Prop := ∀ j : Nat, j < 8 → w.frozen? ⟨g, j, none⟩ = false ∧ ∃ x : Int, w.cell? ⟨g, j, none⟩ = some (.int .i64 x) ∧ (j < k → x = otherI (j : Int) (T : Int))
theorem Arr.start (w : World) (T : Nat) (e : TypeId) : Arr (w.alloc (.cells #[.int .i64 0, .int .i64 0, .int .i64 0, .int .i64 0, .int .i64 0, .int .i64 0, .int .i64 0, .int .i64 0] e)) w.heap.size T 0 := by
  intro j hj
  refine ⟨by unfold World.frozen?; rw [heap_alloc_new]; simp, 0, ?_, fun h => by omega⟩
  rw [cell_of_row _ w.heap.size j _ e (0, 0) (heap_alloc_new w _)]
  have E : ∀ j : Fin 8, (#[(.int .i64 0 : Value), .int .i64 0, .int .i64 0, .int .i64 0, .int .i64 0, .int .i64 0, .int .i64 0, .int .i64 0] : Array Value)[j.val]? = some (.int .i64 0) := by
    intro j
    match j with
    | 0 => rfl
    | 1 => rfl
    | 2 => rfl
    | 3 => rfl
    | 4 => rfl
    | 5 => rfl
    | 6 => rfl
    | 7 => rfl
  exact E ⟨j, hj⟩
theorem Arr.store {w : World} {g T k o : Nat} (h : Arr w g T k) (hk : k < 8) (ho : otherI (k : Int) (T : Int) = (o : Int)) : Arr (w.setCell ⟨g, k, none⟩ (.int .i64 (o : Int))) g T (k + 1) ∧ (w.setCell ⟨g, k, none⟩ (.int .i64 (o : Int))).cell? ⟨g, k, none⟩ = some (.int .i64 (o : Int)) := by
  obtain ⟨-, x0, h0, -⟩ := h k hk
  have hs := World.cell?_setCell_same _ _ (.int .i64 (o : Int)) h0
  refine ⟨fun j hj => ?_, hs⟩
  obtain ⟨hf, x, hc, hx⟩ := h j hj
  refine ⟨by simpa [go_sem] using hf, ?_⟩
  by_cases e : j = k
  · subst e
    exact ⟨_, hs, fun _ => ho.symm⟩
  · exact ⟨x, by rw [World.cell?_setCell_other _ _ _ _ (by simp)]; exact hc, fun hjk => hx (by omega)⟩

set_option maxHeartbeats 2000000 in
set_option maxRecDepth 100000 in
theorem walk (a0 : Int) (w0 : (Lit.int .i64 a0).wf = true) (w : World) :
    Calls Try.prog 6 #[.int .i64 a0] w fun e w' => e = .returned (.bool true) ∧ Below w.heap.size w w' := by
  obtain ⟨q0, q1⟩ := bounds_i64 w0
  clear w0
  go_enter Try.func6, Try.ntmps6
  go_wp2_with fail
  refine (begun_c _).mono ?_
  rintro e w1 ⟨rfl, hbb⟩
  by_cases hlo : a0 < 0
  · have C := Go.Lib.hid fun W => hother_c 3 a0 W (by omega) (by omega) (by omega) (by omega)
    rw [other_three a0 (.inl hlo)] at C
    go_wp2_with fail
    refine (C.out _).mono ?_
    rintro e w2 ⟨rfl, rfl⟩
    go_wp2_with fail
    go_ret
    exact ⟨rfl, hbb⟩
  by_cases hhi : 32767 < a0
  · have C := Go.Lib.hid fun W => hother_c 3 a0 W (by omega) (by omega) (by omega) (by omega)
    rw [other_three a0 (.inr hhi)] at C
    go_wp2_with fail
    refine (C.out _).mono ?_
    rintro e w2 ⟨rfl, rfl⟩
    go_wp2_with fail
    go_ret
    exact ⟨rfl, hbb⟩
  obtain ⟨T, rfl⟩ : ∃ T : Nat, a0 = (T : Int) := ⟨a0.toNat, by omega⟩
  have hT : T < 32768 := by omega
  have hd : decide ((T : Int) < 0) = false := by simp
  have hd2 : decide ((32767 : Int) < (T : Int)) = false := by simp; omega
  clear q0 q1 hlo hhi
  have ha0 := Go.Lib.hid (Arr.start w1 T 32)
  have hb0 := hbb.alloc hbb.size (.cells #[.int .i64 0, .int .i64 0, .int .i64 0, .int .i64 0, .int .i64 0, .int .i64 0, .int .i64 0, .int .i64 0] 32)
  go_wp2_with fail
  go_loopw [5] (fun i wr => ∃ k : Nat, k ≤ 8 ∧ i = .int .i64 (k : Int) ∧ Arr wr w1.heap.size T k ∧ Below w.heap.size w wr) (fun i _ => 8 - (intOf i).toNat)
  case atStart => exact ⟨0, by omega, rfl, ha0.out, hb0⟩
  case round =>
    obtain ⟨k, hk, rfl, ha, hbr⟩ := hrel
    by_cases hlt : k < 8
    · obtain ⟨o, e1, o7, ok, e2⟩ := other_two k T hlt hT
      obtain ⟨hst, hcl⟩ := ha.store hlt e1
      obtain ⟨hfr, x, hc0, -⟩ := ha k hlt
      have c := fun W => hother_c (k : Int) (T : Int) W (by omega) (by omega) (by omega) (by omega)
      rw [e1] at c
      have C := Go.Lib.hid c
      have hbs := Go.Lib.hid (hbr.setCell (p := ⟨w1.heap.size, k, none⟩) (u := .int .i64 (o : Int)) hbb.size)
      have Hst := Go.Lib.hid hst
      have d1 : decide ((o : Int) < 0) = false := by simp
      have d2 : decide ((7 : Int) < (o : Int)) = false := by simp; omega
      have d3 : ((o : Int) == (k : Int)) = false := by simp; omega
      clear c e1 e2 hst ha0 hb0 ha hbr
      go_wp2_with fail
      refine (C.out _).mono ?_
      rintro e w2 ⟨rfl, rfl⟩
      go_wp2_with fail
      go_roundw
      case rel => exact ⟨k + 1, by omega, by go_num, Hst.out, hbs.out⟩
      case measure => simp [intOf]; omega
    · obtain rfl : k = 8 := by omega
      have Ha := Go.Lib.hid ha
      clear ha ha0 hb0
      go_wp2_with fail
      go_loop [6] (fun i => ∃ k : Nat, k ≤ 8 ∧ i = .int .i64 (k : Int)) (fun i => 8 - (intOf i).toNat)
      case atStart => exact ⟨0, by omega, rfl⟩
      case round =>
        obtain ⟨k, hk, rfl⟩ := hrel
        by_cases hlt : k < 8
        · obtain ⟨o, e1, o7, ok, e2⟩ := other_two k T hlt hT
          obtain ⟨-, x, hc, hx⟩ := Ha.out k hlt
          obtain ⟨-, y, hc2, hy⟩ := Ha.out o (by omega)
          rw [hx hlt, e1] at hc
          rw [hy (by omega), e2] at hc2
          have ho8 : o < 8 := by omega
          clear e1 e2 hx hy Ha
          go_wp2_with fail
          go_round
          case rel => exact ⟨k + 1, by omega, by go_num⟩
          case measure => simp [intOf]; omega
        · obtain rfl : k = 8 := by omega
          go_wp2_with fail
          go_ret
          exact ⟨rfl, hbr⟩

/-! ### THE ROW's STEP: WRITTEN OUT: LEAVE IT -/
set_option maxRecDepth 100000 in
theorem lifted (os : Os) (started : os.Started) (H : Type) (enc : TypeId × Value → H) :
    ReturnsInHanded {} Try.checked os 6 .any (Rows.hashPairsSpec.pre6 enc Try.prog Try.f6 Rows.hashPairsRow.domain false) (Rows.hashPairsSpec.post enc Try.prog Try.f6 false true false false) := by
  refine returnsInHanded_of_change (C := Try.checked) own started (by kernel_rfl) Try.func6
    (ChangeSpec.witness6 (enc := enc) (C := Try.checked) false ⟨#[], #[.int .i64 0], []⟩ 8 (by kernel_rfl) (by kernel_rfl) (by kernel_rfl) (by kernel_rfl)) ?_
  intro W base args ds gs before hval0 hW hcnd _
  have hval : ∀ (j : Nat) t v, Try.f6.params[j]? = some t → args[j]? = some v → Value.okWide Try.prog W .any base t v := hval0
  have hW' := hW
  obtain ⟨p, q, hA0, hV, rfl, hfz, hnd⟩ := hW
  have hA : DataW.TrodAll enc Try.prog W 0 (fun _ => true) true Try.f6.params.toList args.toList ds p := hA0
  rw [Try.params6] at hA hval
  obtain ⟨v0, vs0, d0, ds0, p0, q0, hargs, rfl, rfl, h0, r0⟩ := trodAll_cons hA
  obtain ⟨rfl, rfl, rfl⟩ := trodAll_nil r0
  obtain rfl : args = #[v0] := by cases args; simp_all
  obtain ⟨rfl, rfl⟩ := trodVars_none hV
  obtain ⟨a0, rfl, rfl, rfl, w0⟩ := open_int Try.underlying3 (hval 0 3 v0 rfl rfl) h0
  clear hA0 hval0
  refine (walk a0 w0 W).mono fun e W' ⟨he, hg⟩ => ?_
  subst he
  exact ⟨_, rfl, _, _, _, [], _, [], hW', (trodAll_cons_mk (shut_bool Try.underlying4 _) trodAll_mk0), (trodAll_cons_mk (shut_int Try.underlying3 w0) trodAll_mk0), rfl, hg.frame _, fun h => by cases h⟩

theorem over : Rows.hashPairsRow.holds Try.pinned (OpenSpec.ofChange Rows.hashPairsSpec) :=
  OpenClaim.holds_of_wide 6 Try.f6 rfl rfl rfl rfl rfl rfl rfl ⟨rfl, rfl, rfl, rfl, rfl⟩ rfl rfl rfl rfl rfl (by kernel_rfl) Try.func6 (by kernel_rfl)
    (of_decide_eq_true (by kernel_rfl)) (by unfold Func.isWrapper; first | (rw [if_pos (by decide +kernel)]; kernel_rfl) | (rw [if_neg (by decide +kernel)]; exact ⟨rfl, rfl⟩))
    (fun os started H enc _ => lifted os started H enc)

/-- ████ THE STATEMENT ████ -/
theorem proved : Rows.HashPairsSaid :=
  over
#print axioms proved
end Go.Proofs.Ytlmfdpdcffnocaa.hashPairs
