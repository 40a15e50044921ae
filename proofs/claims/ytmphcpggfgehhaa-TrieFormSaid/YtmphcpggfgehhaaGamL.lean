/-
  Numbers one behind the other as bits: mathematics alone.
-/
import Derived.Test.YtmphcpggfgehhaaGamM
namespace Go.Proofs.Ytmphcpggfgehhaa

def stepG (l : List Bool) (i : Int) : Option (Nat × Nat) := if 0 ≤ i then getG l i.toNat else none
/-- k numbers from a place on, where the last one ends. -/
def allG (l : List Bool) : Nat → Int → Option (List Nat × Int)
  | 0, i => some ([], i)
  | k + 1, i => match stepG l i with
    | none => none
    | some (x, e) => match allG l k (e : Int) with
      | none => none
      | some (xs, e') => some (x :: xs, e')
theorem allG_snoc (l : List Bool) : ∀ (k : Nat) (i : Int), allG l (k + 1) i = match allG l k i with
    | none => none
    | some (xs, e) => match stepG l e with
      | none => none
      | some (x, e') => some (xs ++ [x], (e' : Int))
  | 0, i => by
    rw [allG, allG]
    simp only []
    cases stepG l i with
    | none => rfl
    | some p =>
      obtain ⟨x, e⟩ := p
      simp only [allG]
      rfl
  | k + 1, i => by
    rw [allG]
    cases hs : stepG l i with
    | none => simp [allG, hs]
    | some p =>
      obtain ⟨x, e⟩ := p
      simp only [allG_snoc l k (e : Int)]
      rw [allG, hs]
      simp only []
      cases allG l k (e : Int) with
      | none => rfl
      | some q =>
        obtain ⟨xs, e2⟩ := q
        simp only []
        cases stepG l e2 with
        | none => rfl
        | some p => rfl
theorem allG_none (l : List Bool) {k : Nat} {i : Int} (h : allG l k i = none) : ∀ n, k ≤ n → allG l n i = none := by
  intro n hn
  induction hn with
  | refl => exact h
  | step _ ih => rw [allG_snoc, ih]
theorem allG_length (l : List Bool) : ∀ (k : Nat) (i : Int) (xs : List Nat) (e : Int), allG l k i = some (xs, e) → xs.length = k
  | 0, i, xs, e, h => by
    rw [allG] at h
    cases h
    rfl
  | k + 1, i, xs, e, h => by
    rw [allG] at h
    cases hs : stepG l i with
    | none => rw [hs] at h; cases h
    | some p =>
      obtain ⟨x, e1⟩ := p
      rw [hs] at h
      simp only [] at h
      cases ha : allG l k (e1 : Int) with
      | none => rw [ha] at h; cases h
      | some q =>
        obtain ⟨ys, e2⟩ := q
        rw [ha] at h
        cases h
        rw [List.length_cons, allG_length l k _ _ _ ha]
/-- What was put one behind the other is told again. -/
def gams (xs : List Nat) : List Bool := xs.flatMap gam
theorem gams_snoc (xs : List Nat) (x : Nat) : gams (xs ++ [x]) = gams xs ++ gam x := by simp [gams]
theorem allG_gams : ∀ (xs : List Nat) (a r : List Bool), (∀ x ∈ xs, x ≠ 0 ∧ x < 18446744073709551616) → allG (a ++ gams xs ++ r) xs.length (a.length : Int) = some (xs, ((a ++ gams xs).length : Int))
  | [], a, r, _ => by simp [allG, gams]
  | x :: xs, a, r, h => by
    obtain ⟨h1, h2⟩ := h x (by simp)
    have hg := getG_gam a (gams xs ++ r) x h1 h2
    have e1 : a ++ gams (x :: xs) ++ r = a ++ gam x ++ (gams xs ++ r) := by simp [gams]
    have ih := allG_gams xs (a ++ gam x) r (fun y hy => h y (by simp [hy]))
    rw [List.length_cons, allG, stepG, if_pos (by omega), Int.toNat_natCast, e1, hg]
    simp only []
    have e2 : a ++ gam x ++ gams xs ++ r = a ++ gam x ++ (gams xs ++ r) := by simp
    rw [e2, List.length_append] at ih
    rw [ih]
    simp [gams]
theorem getG_end (l : List Bool) : getG l l.length = none := by
  have h : noughts (l.drop l.length) = 0 := by rw [List.drop_length]; rfl
  unfold getG
  rw [h, if_neg (by omega), if_neg (by omega)]
/-- There is not one more. -/
theorem allG_more (xs : List Nat) (h : ∀ x ∈ xs, x ≠ 0 ∧ x < 18446744073709551616) : allG (gams xs) (xs.length + 1) 0 = none := by
  have h1 := allG_gams xs [] [] h
  rw [List.append_nil, List.nil_append] at h1
  rw [allG_snoc, show (0 : Int) = (([] : List Bool).length : Int) from rfl, h1]
  simp only [stepG]
  rw [if_pos (by omega), Int.toNat_natCast, getG_end]

end Go.Proofs.Ytmphcpggfgehhaa
