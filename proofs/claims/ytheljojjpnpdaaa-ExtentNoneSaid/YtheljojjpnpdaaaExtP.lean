/-
  The contract of extent's part.
-/
import Derived.Test.YtheljojjpnpdaaaExtC
import Derived.Deep.QuietTactic
import Derived.BigQuiet
namespace Go.Proofs.Ytheljojjpnpdaaa
open Go.RowKit

def spanV (a b : Int) : Value := .agg #[.int .i64 a, .int .i64 b]

theorem infoBl : (Try.prog.info? 4).map (fun i => (i.zero, i.size, i.bytes)) = some (some (.bool false), 1, 1) := by kernel_rfl
theorem run_sizeB (W : World) : (sizeOf (Try.prog.elem 26)).run Try.prog W = .ok 1 W := by
  obtain ⟨i, hi, hz, hsize, hby⟩ := info_parts infoBl
  have he : Try.prog.elem 26 = 4 := by kernel_rfl
  rw [he]
  simp [sizeOf, typeInfo, hi, hsize]
theorem cut_l (g n c o : Nat) (h : o ≤ n) (hc : o < c) (W : World) : (Instr.slice 26 (.slice (some ⟨g, 0, none⟩) n c) (some (.int .i64 (o : Int))) none none).run Try.prog W = .ok (.slice (some ⟨g, o, none⟩) (n - o) (c - o)) W := by
  have he : Try.prog.underlying 26 = some (.slice (Try.prog.elem 26)) := by
    rw [show Try.prog.elem 26 = 4 by kernel_rfl]; exact Try.underlying26
  have hr := run_slice_l (P := Try.prog) W 26 (some ⟨g, 0, none⟩) n c he .i64 (o : Int) (by omega) (by omega)
  rw [hr, run_sizeB]
  have hadd : (⟨g, 0, none⟩ : Addr).add (o * 1) = ⟨g, o, none⟩ := by unfold Addr.add; split <;> simp_all
  simp only [Result.andThen, sliced, Int.toNat_natCast]
  rw [if_neg (by omega), Option.map_some, hadd]
theorem cut_h (g n c o m : Nat) (hc : m ≤ c) (hp : 0 < c) (W : World) : (Instr.slice 26 (.slice (some ⟨g, o, none⟩) n c) none (some (.int .i64 (m : Int))) none).run Try.prog W = .ok (.slice (some ⟨g, o, none⟩) m c) W := by
  have he : Try.prog.underlying 26 = some (.slice (Try.prog.elem 26)) := by
    rw [show Try.prog.elem 26 = 4 by kernel_rfl]; exact Try.underlying26
  have hr := run_slice_h (P := Try.prog) W 26 (some ⟨g, o, none⟩) n c he .i64 (m : Int) (by omega) (by omega)
  rw [hr, run_sizeB]
  have hadd : (⟨g, o, none⟩ : Addr).add (0 * 1) = ⟨g, o, none⟩ := by unfold Addr.add; split <;> simp_all
  simp only [Result.andThen, sliced, Int.toNat_natCast]
  rw [if_neg (by omega), Option.map_some, hadd, Nat.sub_zero, Nat.sub_zero]

set_option maxRecDepth 100000
theorem part_nil (w : World) (a b : Int) : Calls Try.prog 22 #[.pointer none, spanV a b] w fun e w' => e = .returned (.slice none 0 0) ∧ Below w.heap.size w w' := by
  unfold spanV
  go_enter Try.func22, Try.ntmps22
  go_upto_region 1 with (fail)
  go_quiet (fail)
  go_wp2_with fail
  go_ret
  exact ⟨rfl, below_drewN (below_alloc _ _) _⟩

section
variable {w : World} {B r at_ n : Nat} {v : Value} {G : Nat → Bool}
theorem part_no (h : RM w B r at_ n v G) (a b : Int) (ha : -9223372036854775808 ≤ a ∧ a ≤ 9223372036854775807) (hb : -9223372036854775808 ≤ b ∧ b ≤ 9223372036854775807) (hno : b < 1 ∨ a < at_ ∨ (n : Int) - b < a - at_) : Calls Try.prog 22 #[.pointer (some ⟨r, 0, none⟩), spanV a b] w fun e w' => e = .returned (.slice none 0 0) ∧ Below w.heap.size w w' := by
  unfold spanV
  obtain ⟨fa, fc, rfl⟩ := h.form
  have c0 := (h.below (below_alloc w (.cells #[.int .i64 a, .int .i64 b] 30))).c0
  have c1 := (h.below (below_alloc w (.cells #[.int .i64 a, .int .i64 b] 30))).c1
  have hs := h.small
  clear h
  by_cases h1 : b < 1
  · clear ha hb hno hs
    go_enter Try.func22, Try.ntmps22
    go_upto_region 1 with (fail)
    go_quiet (fail)
    go_wp2_with fail
    go_ret
    exact ⟨rfl, below_drewN (below_alloc _ _) _⟩
  by_cases h2 : a < at_
  · clear ha hb hno hs
    go_enter Try.func22, Try.ntmps22
    go_upto_region 1 with (fail)
    go_quiet (fail)
    go_wp2_with fail
    go_ret
    exact ⟨rfl, below_drewN (below_alloc _ _) _⟩
  obtain ⟨x, hx⟩ : ∃ x, x = a - (at_ : Int) := ⟨_, rfl⟩
  obtain ⟨y, hy⟩ : ∃ y, y = (n : Int) - b := ⟨_, rfl⟩
  have k1 : IntKind.i64.wrap (a - (at_ : Int)) = x := by rw [hx, IntKind.wrap_i64]; omega
  have k2 : IntKind.i64.wrap ((n : Int) - b) = y := by rw [hy, IntKind.wrap_i64]; omega
  have h3 : y < x := by omega
  clear hx hy ha hb hno hs
  go_enter Try.func22, Try.ntmps22
  go_upto_region 1 with (fail)
  go_quiet (fail)
  go_wp2_with fail
  go_ret
  exact ⟨rfl, below_drewN (below_alloc _ _) _⟩
theorem part_in {g c : Nat} (h : RM w B r at_ n (.slice (some ⟨g, 0, none⟩) n c) G) (o m : Nat) (hm : 0 < m) (ho : o + m ≤ n) (a b : Int) (ha : a = (at_ : Int) + (o : Int)) (hb : b = (m : Int)) : Calls Try.prog 22 #[.pointer (some ⟨r, 0, none⟩), spanV a b] w fun e w' => e = .returned (.slice (some ⟨g, o, none⟩) m (c - o)) ∧ Below w.heap.size w w' := by
  unfold spanV
  subst hb
  have c0 := (h.below (below_alloc w (.cells #[.int .i64 a, .int .i64 (m : Int)] 30))).c0
  have c1 := (h.below (below_alloc w (.cells #[.int .i64 a, .int .i64 (m : Int)] 30))).c1
  have hs := h.small
  have hcap := h.row.capOk
  clear h
  have k1 : IntKind.i64.wrap (a - (at_ : Int)) = (o : Int) := by rw [IntKind.wrap_i64]; omega
  obtain ⟨y, hy⟩ : ∃ y, y = (n : Int) - (m : Int) := ⟨_, rfl⟩
  have k2 : IntKind.i64.wrap ((n : Int) - (m : Int)) = y := by rw [hy, IntKind.wrap_i64]; omega
  have h1 : ¬ (m : Int) < 1 := by omega
  have h2 : ¬ a < (at_ : Int) := by omega
  have h3 : ¬ y < (o : Int) := by omega
  have q1 := cut_l g n c o (by omega) (by omega)
  have q2 := cut_h g (n - o) (c - o) o m (by omega) (by omega)
  clear hy ha ho hs hm hcap
  go_enter Try.func22, Try.ntmps22
  go_upto_region 1 with (fail)
  go_quiet (fail)
  go_wp2_with fail
  go_quiet (fail)
  go_wp2_with fail
  go_ret
  exact ⟨rfl, below_drewN (below_drewN (below_alloc _ _) _) _⟩
end

end Go.Proofs.Ytheljojjpnpdaaa
