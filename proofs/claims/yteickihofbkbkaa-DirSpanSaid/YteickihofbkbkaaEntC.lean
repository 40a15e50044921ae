/-
  Package dir: contracts of sectors, mayBe.
-/
import Derived.Test.YteickihofbkbkaaEntM
import Derived.Test.YteickihofbkbkaaHead
import Derived.BigQuiet
import Derived.LoopTactic
import Derived.Deep.DeepCutAuto
namespace Go.Proofs.Yteickihofbkbkaa
open Go.RowKit

theorem sectors_c (n : Int) (w : World) (h0 : 0 ≤ n) (h1 : n ≤ 65536) : Calls Try.prog 30 #[.int .i64 n] w fun e w' => e = .returned (.int .i64 ((n + 63) / 64)) ∧ w = w' := by
  have k1 : IntKind.i64.wrap (n + 64) = n + 64 := IntWalk.i64_in _ (by omega)
  have k2 : IntKind.i64.wrap (n + 64 - 1) = n + 63 := by rw [IntKind.wrap_i64]; omega
  have k3 : (n + 63).tdiv 64 = (n + 63) / 64 := Int.tdiv_eq_ediv_of_nonneg (by omega)
  go_enter Try.func30, Try.ntmps30
  go_wp2_with fail
  go_ret
  exact ⟨rfl, rfl⟩

theorem ret_bool {a b : Bool} (h : b = a) : Ending.returned (.bool a) = .returned (.bool b) := by rw [h]

set_option maxRecDepth 100000 in
theorem mayBe_c (nm : ByteArray) (n a s : Int) (w : World) : Calls Try.prog 21 #[entV nm n a s] w fun e w' => e = .returned (.bool (decide (mayE (nm, n, a, s)))) ∧ Below w.heap.size w w' := by
  have hA := heap_alloc_new w (.cells #[.string nm, .int .i64 n, .int .i64 a, .int .i64 s] 32)
  have hbb := newB w (.cells #[.string nm, .int .i64 n, .int .i64 a, .int .i64 s] 32)
  have HB := Go.Lib.hid hbb; clear hbb
  obtain ⟨x0, x1, x2, x3⟩ := row4 hA
  clear hA
  unfold entV
  by_cases c1 : nm.size < 1
  · have k := Go.Lib.hid (show decide (mayE (nm, n, a, s)) = false from decide_eq_false (by unfold mayE; simp only []; omega))
    have c1 : (nm.size : Int) < 1 := by omega
    go_enter Try.func21, Try.ntmps21
    go_wp2_with fail
    go_ret
    exact ⟨ret_bool k.out, HB.out⟩
  have i1 : ¬ (nm.size : Int) < 1 := by omega
  by_cases c2 : 20 < nm.size
  · have k := Go.Lib.hid (show decide (mayE (nm, n, a, s)) = false from decide_eq_false (by unfold mayE; simp only []; omega))
    have i2 : (20 : Int) < (nm.size : Int) := by omega
    go_enter Try.func21, Try.ntmps21
    go_wp2_with fail
    go_ret
    exact ⟨ret_bool k.out, HB.out⟩
  have i2 : ¬ (20 : Int) < (nm.size : Int) := by omega
  by_cases c3 : n < 0
  · have k := Go.Lib.hid (show decide (mayE (nm, n, a, s)) = false from decide_eq_false (by unfold mayE; simp only []; omega))
    clear c1 c2
    go_enter Try.func21, Try.ntmps21
    go_wp2_with fail
    go_ret
    exact ⟨ret_bool k.out, HB.out⟩
  by_cases c4 : 65536 < n
  · have k := Go.Lib.hid (show decide (mayE (nm, n, a, s)) = false from decide_eq_false (by unfold mayE; simp only []; omega))
    clear c1 c2
    go_enter Try.func21, Try.ntmps21
    go_wp2_with fail
    go_ret
    exact ⟨ret_bool k.out, HB.out⟩
  have C := Go.Lib.hid (fun W => sectors_c n W (by omega) (by omega))
  have K := Go.Lib.hid (show mayE (nm, n, a, s) ↔ (s = (n + 63) / 64 ∧ 0 ≤ a ∧ a ≤ 2048 ∧ (s = 0 → a = 0)) from by unfold mayE; simp only []; omega)
  obtain ⟨q, hq⟩ : ∃ q, q = (n + 63) / 64 := ⟨_, rfl⟩
  rw [← hq] at C K
  clear hq c1 c2
  by_cases c5 : s = q
  · subst c5
    by_cases c6 : s = 0
    · have k := Go.Lib.hid (show decide (mayE (nm, n, a, s)) = (a == 0) from by rw [Bool.eq_iff_iff, decide_eq_true_eq, K.out, beq_iff_eq]; omega)
      have b6 : (s == 0) = true := by simp [c6]
      clear c6
      go_enter Try.func21, Try.ntmps21
      go_wp2_with fail
      go_quiet ((go_at_call 30; exact Calls.quiet_of_same ((C.out _).mono fun _ _ ⟨h, hw⟩ => ⟨h, hw.symm⟩)))
      go_wp2_with fail
      go_ret
      exact ⟨ret_bool k.out, below_drewN HB.out _⟩
    · have b6 : (s == 0) = false := by simp [c6]
      by_cases c7 : 0 ≤ a
      · have k := Go.Lib.hid (show decide (mayE (nm, n, a, s)) = decide (a ≤ 2048) from by rw [Bool.eq_iff_iff, decide_eq_true_eq, K.out, decide_eq_true_eq]; omega)
        clear c6
        go_enter Try.func21, Try.ntmps21
        go_wp2_with fail
        go_quiet ((go_at_call 30; exact Calls.quiet_of_same ((C.out _).mono fun _ _ ⟨h, hw⟩ => ⟨h, hw.symm⟩)))
        go_wp2_with fail
        go_ret
        exact ⟨ret_bool k.out, below_drewN HB.out _⟩
      · have k := Go.Lib.hid (show decide (mayE (nm, n, a, s)) = false from by rw [decide_eq_false_iff_not, K.out]; omega)
        clear c6
        go_enter Try.func21, Try.ntmps21
        go_wp2_with fail
        go_quiet ((go_at_call 30; exact Calls.quiet_of_same ((C.out _).mono fun _ _ ⟨h, hw⟩ => ⟨h, hw.symm⟩)))
        go_wp2_with fail
        go_ret
        exact ⟨ret_bool k.out, below_drewN HB.out _⟩
  · have k := Go.Lib.hid (show decide (mayE (nm, n, a, s)) = false from by rw [decide_eq_false_iff_not, K.out]; omega)
    have b5 : (s == q) = false := by simp [c5]
    clear c5
    go_enter Try.func21, Try.ntmps21
    go_wp2_with fail
    go_quiet ((go_at_call 30; exact Calls.quiet_of_same ((C.out _).mono fun _ _ ⟨h, hw⟩ => ⟨h, hw.symm⟩)))
    go_wp2_with fail
    go_ret
    exact ⟨ret_bool k.out, below_drewN HB.out _⟩

end Go.Proofs.Yteickihofbkbkaa
