/-
  Numbers and texts as bytes (of no code): what is read is written so.
-/
import Derived.Test.YtoaiogfeffnlcaaNumL
namespace Go.Proofs.Ytoaiogfeffnlcaa
open Go.RowKit
open Go.Lib (uvarint zigzag)

/-! ### Numbers: what is read is written so. -/
theorem unzig_of (u : Nat) : zigzag (unzig u) = u := by
  unfold unzig zigzag
  split <;> split <;> omega

theorem getS_canon : ∀ (l : List UInt8) (k u : Nat) (n : Int) (m : Nat), k ≤ 9 → getS l k u = (n, m, 0) →
    ∃ x r, n = unzig (u + x * 128 ^ k) ∧ m = k + (uvarint x).length ∧ l = uvarint x ++ r ∧ (0 < k → 0 < x)
  | [], k, u, n, m, _, h => by simp [getS] at h
  | c :: r, k, u, n, m, hk, h => by
    rw [getS] at h
    have hc : c.toNat < 256 := c.toNat_lt
    split at h
    · simp at h
    · rename_i h9
      split at h
      · rename_i h128
        by_cases hk9 : k = 9
        · exact absurd ⟨hk9, by omega⟩ h9
        · obtain ⟨x, r', e1, e2, e3, e4⟩ := getS_canon r (k + 1) _ n m (by omega) h
          have hx := e4 (by omega)
          refine ⟨c.toNat % 128 + 128 * x, r', ?_, ?_, ?_, fun _ => by omega⟩
          · rw [e1, Nat.pow_succ]
            congr 1
            rw [Nat.add_mul, Nat.mul_assoc, Nat.mul_comm 128 (x * 128 ^ k), Nat.mul_assoc]
            omega
          · rw [Go.Lib.uvarint_big (by omega), e2, show (c.toNat % 128 + 128 * x) / 128 = x by omega, List.length_cons]
            omega
          · rw [Go.Lib.uvarint_big (by omega), show (c.toNat % 128 + 128 * x) / 128 = x by omega, show (c.toNat % 128 + 128 * x) % 128 + 128 = c.toNat by omega, e3]
            simp
      · split at h
        · simp at h
        · rename_i h1 h2
          simp only [Prod.mk.injEq, and_true] at h
          obtain ⟨rfl, rfl⟩ := h
          refine ⟨c.toNat, r, rfl, ?_, ?_, fun hk0 => by omega⟩
          · rw [Go.Lib.uvarint_small (by omega)]; simp
          · rw [Go.Lib.uvarint_small (by omega)]
            simp

theorem getB_canon {l : List UInt8} {n : Int} {m : Nat} (h : getB l = (n, m, 0)) : m = (uvarint (zigzag n)).length ∧ l = uvarint (zigzag n) ++ l.drop m := by
  obtain ⟨x, r, e1, e2, e3, -⟩ := getS_canon l 0 0 n m (by omega) h
  simp only [Nat.pow_zero, Nat.mul_one, Nat.zero_add] at e1 e2
  have hx : zigzag n = x := by rw [e1, unzig_of]
  rw [hx]
  refine ⟨e2, ?_⟩
  rw [e2]
  conv => rhs; rw [e3]
  simp [e3]

theorem textB_canon {l s : List UInt8} {m : Nat} (h : textB l = (s, m, 0)) : s.length ≤ 65536 ∧ l = putT s ++ l.drop m := by
  unfold textB at h
  split at h
  · rename_i h0
    simp only [Prod.mk.injEq] at h
    exact absurd h.2.2 h0
  · split at h
    · simp at h
    · split at h
      · simp at h
      · rename_i h0 h1 h2
        simp only [Prod.mk.injEq, and_true] at h
        obtain ⟨rfl, rfl⟩ := h
        have h0 : (getB l).2.2 = 0 := Classical.byContradiction fun hh => h0 hh
        rcases hr : getB l with ⟨n, k, e⟩
        rw [hr] at h0 h1 h2
        simp only [] at h0 h1 h2
        subst h0
        obtain ⟨-, e2⟩ := getB_canon hr
        have hsl : ((l.drop k).take n.toNat).length = n.toNat := by rw [List.length_take, List.length_drop]; omega
        refine ⟨by rw [hsl]; omega, ?_⟩
        unfold putT
        rw [hsl, show ((n.toNat : Nat) : Int) = n by omega, List.append_assoc, ← List.drop_drop, List.take_append_drop]
        exact e2

end Go.Proofs.Ytoaiogfeffnlcaa
