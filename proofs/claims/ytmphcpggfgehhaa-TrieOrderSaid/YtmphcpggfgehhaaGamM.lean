/-
  Small numbers as bits; how many bits are set: mathematics alone.
-/
import Derived.Test.YtmphcpggfgehhaaBitM
namespace Go.Proofs.Ytmphcpggfgehhaa

/-- How many binary digits. -/
def digits (x : Nat) : Nat := if x = 0 then 0 else Nat.log2 x + 1
/-- A number's bits: noughts, and its digits. -/
def gam (x : Nat) : List Bool := if x = 0 then [] else List.replicate (digits x - 1) false ++ numB x (digits x)
/-- How many noughts stand ahead. -/
def noughts (l : List Bool) : Nat := (l.takeWhile (· == false)).length
/-- The number that begins at a place, and where it ends. -/
def getG (l : List Bool) (i : Nat) : Option (Nat × Nat) :=
  if 64 ≤ noughts (l.drop i) then none
  else if i + 2 * noughts (l.drop i) + 1 ≤ l.length then some (val ((l.drop (i + noughts (l.drop i))).take (noughts (l.drop i) + 1)), i + 2 * noughts (l.drop i) + 1) else none

theorem digits_zero : digits 0 = 0 := rfl
theorem digits_bounds (x : Nat) (h : x ≠ 0) : 2 ^ (digits x - 1) ≤ x ∧ x < 2 ^ digits x ∧ 1 ≤ digits x := by
  unfold digits
  rw [if_neg h, Nat.add_sub_cancel]
  exact ⟨Nat.log2_self_le h, Nat.lt_log2_self, by omega⟩
theorem digits_eq {x k : Nat} (h0 : 2 ^ k ≤ x) (h1 : x < 2 ^ (k + 1)) : digits x = k + 1 := by
  have hp : 0 < 2 ^ k := Nat.pow_pos (by omega)
  have hx : x ≠ 0 := by omega
  obtain ⟨a, b, c⟩ := digits_bounds x hx
  have h2 : k < digits x := (Nat.pow_lt_pow_iff_right (by omega : 1 < 2)).1 (Nat.lt_of_le_of_lt h0 b)
  have h3 : digits x - 1 < k + 1 := (Nat.pow_lt_pow_iff_right (by omega : 1 < 2)).1 (Nat.lt_of_le_of_lt a h1)
  omega
theorem digits_half (x : Nat) (h : x ≠ 0) : digits x = digits (x / 2) + 1 := by
  obtain ⟨a, b, c⟩ := digits_bounds x h
  by_cases h2 : x / 2 = 0
  · rw [h2, digits_zero]
    have : x = 1 := by omega
    subst this
    exact digits_eq (k := 0) (by decide) (by decide)
  · have hd : 2 ≤ digits x := by
      rcases Nat.lt_or_ge (digits x) 2 with h3 | h3
      · have : digits x = 1 := by omega
        rw [this] at b
        omega
      · exact h3
    have e1 : 2 ^ (digits x - 1) = 2 * 2 ^ (digits x - 2) := by rw [← Nat.pow_succ']; congr 1; omega
    have e2 : 2 ^ digits x = 2 * 2 ^ (digits x - 1) := by rw [← Nat.pow_succ']; congr 1; omega
    have := digits_eq (x := x / 2) (k := digits x - 2) (by omega) (by rw [show digits x - 2 + 1 = digits x - 1 from by omega]; omega)
    omega
theorem digits_64 (x : Nat) (h : x < 18446744073709551616) : digits x ≤ 64 := by
  by_cases h0 : x = 0
  · subst h0; decide
  · obtain ⟨a, b, c⟩ := digits_bounds x h0
    have : 2 ^ (digits x - 1) < 2 ^ 64 := Nat.lt_of_le_of_lt a h
    have := (Nat.pow_lt_pow_iff_right (by omega : 1 < 2)).1 this
    omega
theorem digits_mono {x y : Nat} (h : x ≤ y) : digits x ≤ digits y := by
  by_cases hx : x = 0
  · subst hx; rw [digits_zero]; omega
  · obtain ⟨a, b, c⟩ := digits_bounds x hx
    obtain ⟨a2, b2, c2⟩ := digits_bounds y (by omega)
    have := (Nat.pow_lt_pow_iff_right (by omega : 1 < 2)).1 (Nat.lt_of_le_of_lt a (Nat.lt_of_le_of_lt h b2))
    omega
theorem gam_length (x : Nat) : (gam x).length = 2 * digits x - 1 := by
  unfold gam
  split
  · rename_i h
    subst h
    rfl
  · rename_i h
    have := (digits_bounds x h).2.2
    rw [List.length_append, List.length_replicate, numB_length]
    omega
theorem top_bit (x : Nat) (h : x ≠ 0) : numB x (digits x) = true :: numB x (digits x - 1) := by
  obtain ⟨a, b, c⟩ := digits_bounds x h
  have e : digits x = (digits x - 1) + 1 := by omega
  have hb : bit x (digits x - 1) = true := by
    unfold bit
    have : x / 2 ^ (digits x - 1) = 1 := by
      have hp : 0 < 2 ^ (digits x - 1) := Nat.pow_pos (by omega)
      have e2 : 2 ^ digits x = 2 * 2 ^ (digits x - 1) := by rw [← Nat.pow_succ']; congr 1
      have h1 : 1 ≤ x / 2 ^ (digits x - 1) := (Nat.le_div_iff_mul_le hp).2 (by omega)
      have h2 : x / 2 ^ (digits x - 1) < 2 := (Nat.div_lt_iff_lt_mul hp).2 (by omega)
      omega
    rw [this]
    rfl
  rw [e, numB, hb, Nat.add_sub_cancel]
theorem noughts_rep (k : Nat) (r : List Bool) : noughts (List.replicate k false ++ true :: r) = k := by
  unfold noughts
  induction k with
  | zero => rfl
  | succ k ih => rw [List.replicate_succ, List.cons_append, List.takeWhile_cons_of_pos (by rfl), List.length_cons, ih]
/-- What is put is told again, whatever stands about. -/
theorem getG_gam (a r : List Bool) (x : Nat) (h : x ≠ 0) (h64 : x < 18446744073709551616) : getG (a ++ gam x ++ r) a.length = some (x, a.length + (gam x).length) := by
  obtain ⟨b0, b1, b2⟩ := digits_bounds x h
  have hd := digits_64 x h64
  have hg : gam x = List.replicate (digits x - 1) false ++ numB x (digits x) := by unfold gam; rw [if_neg h]
  have e1 : (a ++ gam x ++ r).drop a.length = List.replicate (digits x - 1) false ++ true :: (numB x (digits x - 1) ++ r) := by
    rw [List.append_assoc, List.drop_left, hg, top_bit x h]
    simp
  have e2 : noughts ((a ++ gam x ++ r).drop a.length) = digits x - 1 := by rw [e1, noughts_rep]
  have e3 : ((a ++ gam x ++ r).drop (a.length + (digits x - 1))).take (digits x) = numB x (digits x) := by
    rw [hg, ← List.drop_drop, List.append_assoc, List.drop_left, List.append_assoc]
    rw [List.drop_left' (by rw [List.length_replicate]), List.take_left' (by rw [numB_length])]
  unfold getG
  rw [e2, if_neg (by omega), gam_length]
  rw [show digits x - 1 + 1 = digits x from by omega, e3, val_numB, Nat.mod_eq_of_lt b1]
  rw [if_pos (by rw [List.length_append, List.length_append, gam_length]; omega)]
  rw [show a.length + 2 * (digits x - 1) + 1 = a.length + (2 * digits x - 1) from by omega]

/-- How many of the first i are set. -/
def ones (l : List Bool) (i : Nat) : Nat := (l.take i).count true
theorem ones_zero (l : List Bool) : ones l 0 = 0 := rfl
theorem ones_succ (l : List Bool) (i : Nat) (h : i < l.length) : ones l (i + 1) = ones l i + bv l[i] := by
  unfold ones
  rw [List.take_succ_eq_append_getElem h, List.count_append]
  cases l[i] <;> rfl
theorem ones_all (l : List Bool) (i : Nat) (h : l.length ≤ i) : ones l i = l.count true := by
  unfold ones
  rw [List.take_of_length_le h]
theorem ones_le (l : List Bool) (i : Nat) : ones l i ≤ i := by
  unfold ones
  exact Nat.le_trans List.count_le_length (List.length_take_le _ _)
theorem ones_mono (l : List Bool) {i j : Nat} (h : i ≤ j) : ones l i ≤ ones l j := by
  unfold ones
  exact List.Sublist.count_le _ (List.take_sublist_take_left h)
/-- Where the n-th one that is set stands. -/
def place (l : List Bool) (n : Nat) : Option Nat := (List.range l.length).find? fun i => l.getD i false && ones l i == n
theorem place_some {l : List Bool} {n i : Nat} (h : place l n = some i) : i < l.length ∧ l.getD i false = true ∧ ones l i = n := by
  have h1 := List.find?_some h
  have h2 := List.mem_of_find?_eq_some h
  rw [List.mem_range] at h2
  rw [Bool.and_eq_true, beq_iff_eq] at h1
  exact ⟨h2, h1.1, h1.2⟩
theorem place_at (l : List Bool) (i : Nat) (h : i < l.length) (hi : l[i] = true) : place l (ones l i) = some i := by
  cases hp : place l (ones l i) with
  | none =>
    have := List.find?_eq_none.1 hp i (List.mem_range.2 h)
    simp [List.getD_eq_getElem?_getD, h, hi] at this
  | some j =>
    obtain ⟨h1, h2, h3⟩ := place_some hp
    have hj : l[j] = true := by simpa [List.getD_eq_getElem?_getD, h1] using h2
    rcases Nat.lt_trichotomy i j with hij | hij | hij
    · have := ones_mono l (show i + 1 ≤ j from hij)
      rw [ones_succ l i h, hi] at this
      simp [bv] at this
      omega
    · rw [hij]
    · have := ones_mono l (show j + 1 ≤ i from hij)
      rw [ones_succ l j h1, hj] at this
      simp [bv] at this
      omega
theorem place_none (l : List Bool) (n : Nat) : place l n = none ↔ l.count true ≤ n := by
  constructor
  · intro h
    rcases Nat.lt_or_ge n (l.count true) with hlt | hge
    · exfalso
      have key : ∀ k, k ≤ l.length → n < ones l k → False := by
        intro k
        induction k with
        | zero => intro _ h0; rw [ones_zero] at h0; omega
        | succ k ih =>
          intro hk h0
          rw [ones_succ l k (by omega)] at h0
          rcases Nat.lt_or_ge n (ones l k) with h1 | h1
          · exact ih (by omega) h1
          · cases hb : l[k] with
            | false => rw [hb] at h0; simp [bv] at h0; omega
            | true =>
              rw [hb] at h0
              have : ones l k = n := by simp [bv] at h0; omega
              have hp := place_at l k (by omega) hb
              rw [this, h] at hp
              cases hp
      exact key l.length (Nat.le_refl _) (by rw [ones_all l _ (Nat.le_refl _)]; exact hlt)
    · exact hge
  · intro h
    cases hp : place l n with
    | none => rfl
    | some i =>
      obtain ⟨h1, h2, h3⟩ := place_some hp
      have hi : l[i] = true := by simpa [List.getD_eq_getElem?_getD, h1] using h2
      have := ones_mono l (show i + 1 ≤ l.length from h1)
      rw [ones_succ l i h1, hi, ones_all l _ (Nat.le_refl _)] at this
      simp [bv] at this
      omega

end Go.Proofs.Ytmphcpggfgehhaa
