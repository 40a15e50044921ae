/-
  The contract of math/bits.Len64: it answers how many binary digits a number has; the world stays.
-/
import Derived.Test.YtmphcpggfgehhaaLen64W
import Derived.Test.YtmphcpggfgehhaaBase
import Derived.Test.YtmphcpggfgehhaaGamM
namespace Go.Proofs.Ytmphcpggfgehhaa
open Go.RowKit

theorem aux_digits : ∀ (f x : Nat), x < 2 ^ f → Lib.bitLenAux f x = digits x
  | 0, x, h => by
    have : x = 0 := by rw [Nat.pow_zero] at h; omega
    subst this
    rfl
  | f + 1, x, h => by
    rw [Lib.bitLenAux]
    by_cases hx : x = 0
    · rw [if_pos hx, hx, digits_zero]
    · rw [if_neg hx, digits_half x hx, aux_digits f (x / 2) (by rw [Nat.pow_succ] at h; omega)]
      omega
theorem digits_shift (x s : Nat) (h : x / 2 ^ s ≠ 0) : digits x = s + digits (x / 2 ^ s) := by
  induction s with
  | zero => simp
  | succ s ih =>
    have e : x / 2 ^ (s + 1) = x / 2 ^ s / 2 := by rw [Nat.pow_succ, Nat.div_div_eq_div_mul]
    rw [e] at h ⊢
    have h1 : x / 2 ^ s ≠ 0 := by intro h0; rw [h0] at h; exact h rfl
    rw [ih h1, digits_half _ h1]
    omega
theorem digits_8 (y : Nat) (h : y < 256) : digits y ≤ 8 := by
  by_cases h0 : y = 0
  · subst h0; decide
  · obtain ⟨a, b, c⟩ := digits_bounds y h0
    have := (Nat.pow_lt_pow_iff_right (by omega : 1 < 2)).1 (Nat.lt_of_le_of_lt a (show y < 2 ^ 8 from h))
    omega
theorem len64_c (x : Nat) (w : World) (hx : x < 18446744073709551616) :
    Calls Try.prog 41 #[.int .u64 (x : Int)] w fun e w' => e = .returned (.int .i64 (digits x : Int)) ∧ w = w' := by
  have h := len64_i x w (by omega) (by omega)
  rw [Int.toNat_natCast, Lib.bitLen, aux_digits 64 x (Nat.lt_of_lt_of_eq hx (by decide))] at h
  exact h

end Go.Proofs.Ytmphcpggfgehhaa
