/-
  How many bits are set, at any whole number: mathematics alone.
-/
import Derived.Test.YtiakpjkpmepmoaaGamM
namespace Go.Proofs.Ytiakpjkpmepmoaa

def onesI (l : List Bool) (i : Int) : Nat := if i < 0 then 0 else ones l i.toNat
def placeI (l : List Bool) (n : Int) : Int := if n < 0 then -1 else match place l n.toNat with | some p => (p : Int) | none => -1
theorem onesI_nat (l : List Bool) (i : Nat) : onesI l (i : Int) = ones l i := by
  unfold onesI
  rw [if_neg (by omega), Int.toNat_natCast]
theorem placeI_some {l : List Bool} {n p : Nat} (h : place l n = some p) : placeI l (n : Int) = (p : Int) := by
  unfold placeI
  rw [if_neg (by omega), Int.toNat_natCast, h]
theorem placeI_none {l : List Bool} {n : Nat} (h : place l n = none) : placeI l (n : Int) = -1 := by
  unfold placeI
  rw [if_neg (by omega), Int.toNat_natCast, h]
theorem placeI_neg {l : List Bool} {n : Int} (h : n < 0) : placeI l n = -1 := by
  unfold placeI
  rw [if_pos h]
theorem placeI_bounds (l : List Bool) (n : Int) : -1 ≤ placeI l n ∧ placeI l n < l.length + 1 := by
  unfold placeI
  split
  · omega
  · cases h : place l n.toNat with
    | none => simp only []; omega
    | some p => have := (place_some h).1; simp only []; omega
/-- The place of the n-th one has n ones ahead of it. -/
theorem place_back {l : List Bool} {n : Int} (h : 0 ≤ placeI l n) : ∃ k p : Nat, n = (k : Int) ∧ placeI l n = (p : Int) ∧ p < l.length ∧ ones l p = k ∧ ones l (p + 1) = k + 1 := by
  by_cases hn : n < 0
  · rw [placeI_neg hn] at h; omega
  obtain ⟨k, rfl⟩ : ∃ k : Nat, n = (k : Int) := ⟨n.toNat, by omega⟩
  cases hp : place l k with
  | none => rw [placeI_none hp] at h; omega
  | some p =>
    obtain ⟨h1, h2, h3⟩ := place_some hp
    refine ⟨k, p, rfl, placeI_some hp, h1, h3, ?_⟩
    rw [ones_succ l p h1, h3]
    have : l[p] = true := by simpa [List.getD_eq_getElem?_getD, h1] using h2
    rw [this]
    rfl
/-- The ones ahead of a place tell it. -/
theorem place_tells (l : List Bool) (i : Nat) (h : i < l.length) : (placeI l (ones l i : Int) == (i : Int)) = l[i] := by
  cases hb : l[i] with
  | true =>
    rw [placeI_some (place_at l i h hb)]
    simp
  | false =>
    have hne : placeI l (ones l i : Int) ≠ (i : Int) := by
      intro he
      cases hp : place l (ones l i) with
      | none => rw [placeI_none hp] at he; omega
      | some p =>
        rw [placeI_some hp] at he
        obtain rfl : p = i := by omega
        have := (place_some hp).2.1
        rw [List.getD_eq_getElem?_getD, List.getElem?_eq_getElem h] at this
        simp only [Option.getD_some] at this
        rw [hb] at this
        cases this
    simpa using hne
theorem ones_len (l : List Bool) : ones l l.length = l.count true := ones_all l _ (Nat.le_refl _)

end Go.Proofs.Ytiakpjkpmepmoaa
