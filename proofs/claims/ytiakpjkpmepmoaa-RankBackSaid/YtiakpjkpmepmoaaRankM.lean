/-
  Bits by words of 64, the last one filled up with noughts; the n-th one of a word: mathematics alone.
-/
import Derived.Test.YtiakpjkpmepmoaaRankL
import Derived.Test.YtiakpjkpmepmoaaPopM
namespace Go.Proofs.Ytiakpjkpmepmoaa

/-- Bits with noughts behind them: 64. -/
def wbits (l : List Bool) (k : Nat) : List Bool := (l.drop (64 * k)).take 64 ++ List.replicate (64 - ((l.drop (64 * k)).take 64).length) false
def word (l : List Bool) (k : Nat) : Nat := val (wbits l k)
def words (l : List Bool) (n : Nat) : List Nat := (List.range n).map (word l)
def aheads (l : List Bool) (n : Nat) : List Nat := (List.range n).map fun k => ones l (64 * k)
/-- How many words. -/
def nw (l : List Bool) : Nat := (l.length + 63) / 64

theorem words_length (l : List Bool) (n : Nat) : (words l n).length = n := by simp [words]
theorem aheads_length (l : List Bool) (n : Nat) : (aheads l n).length = n := by simp [aheads]
theorem words_at (l : List Bool) (n k : Nat) (h : k < n) : (words l n)[k]'(by rw [words_length]; exact h) = word l k := by simp [words]
theorem aheads_at (l : List Bool) (n k : Nat) (h : k < n) : (aheads l n)[k]'(by rw [aheads_length]; exact h) = ones l (64 * k) := by simp [aheads]
theorem words_succ (l : List Bool) (n : Nat) : words l (n + 1) = words l n ++ [word l n] := by simp [words, List.range_succ]
theorem aheads_succ (l : List Bool) (n : Nat) : aheads l (n + 1) = aheads l n ++ [ones l (64 * n)] := by simp [aheads, List.range_succ]
theorem wbits_length (l : List Bool) (k : Nat) : (wbits l k).length = 64 := by
  unfold wbits
  rw [List.length_append, List.length_replicate, List.length_take]
  omega
theorem word_lt (l : List Bool) (k : Nat) : word l k < 18446744073709551616 := by
  have h := val_lt (wbits l k)
  rw [wbits_length] at h
  exact h
theorem val_false (n : Nat) : val (List.replicate n false) = 0 := by
  induction n with
  | zero => rfl
  | succ n ih => rw [List.replicate_succ, val_cons, ih]; simp [bv]
/-- A word, by the number that its bits are. -/
theorem word_shift (l : List Bool) (k t : Nat) (ht : t = min 64 (l.length - 64 * k)) : word l k = val ((l.drop (64 * k)).take t) * 2 ^ (64 - t) := by
  have h1 : (l.drop (64 * k)).take 64 = (l.drop (64 * k)).take t := by
    rcases Nat.lt_or_ge (l.length - 64 * k) 64 with h | h
    · rw [List.take_of_length_le (by rw [List.length_drop]; omega), List.take_of_length_le (by rw [List.length_drop]; omega)]
    · rw [show t = 64 from by omega]
  unfold word wbits
  rw [h1]
  have h2 : ((l.drop (64 * k)).take t).length = t := by rw [List.length_take, List.length_drop]; omega
  rw [h2, val_append, val_false, List.length_replicate, Nat.add_zero]
/-- How many of a number's digits are set: of bits as many as they have. -/
theorem pop_val (m : List Bool) (h : m.length ≤ 64) : (numB (val m) 64).count true = m.count true := by
  have h1 := numB_split (val m) m.length (64 - m.length)
  rw [show 64 - m.length + m.length = 64 from by omega, numB_val, Nat.div_eq_of_lt (val_lt m)] at h1
  rw [h1, List.count_append]
  have h2 : ∀ n, (numB 0 n).count true = 0 := by
    intro n
    induction n with
    | zero => rfl
    | succ n ih => rw [numB, List.count_cons, ih]; simp [bit]
  rw [h2, Nat.zero_add]
theorem ones_more (l : List Bool) (a t : Nat) : ones l (a + t) = ones l a + ((l.drop a).take t).count true := by
  unfold ones
  rw [List.take_add, List.count_append]
theorem wbits_take (l : List Bool) (k t : Nat) (h : t ≤ 64) : ((wbits l k).take t).count true = ((l.drop (64 * k)).take t).count true := by
  unfold wbits
  rw [List.take_append, List.take_take, Nat.min_eq_left h, List.count_append]
  have : ((List.replicate (64 - ((l.drop (64 * k)).take 64).length) false).take (t - ((l.drop (64 * k)).take 64).length)).count true = 0 := by
    rw [List.count_eq_zero]
    intro hm
    have := List.mem_of_mem_take hm
    rw [List.mem_replicate] at this
    cases this.2
  omega
/-- The ones ahead of a place, by its word. -/
theorem ones_word (l : List Bool) (i k s : Nat) (h0 : 0 < i) (hk : k = (i - 1) / 64) (hs : s = (k + 1) * 64 - i) : ones l i = ones l (64 * k) + (numB (word l k / 2 ^ s) 64).count true := by
  have h1 := ones_more l (64 * k) (64 - s)
  rw [show 64 * k + (64 - s) = i from by omega] at h1
  have h2 := val_take (wbits l k) (64 - s)
  rw [wbits_length, show 64 - (64 - s) = s from by omega] at h2
  rw [h1]
  unfold word
  rw [← h2, pop_val _ (by rw [List.length_take, wbits_length]; omega), wbits_take _ _ _ (by omega)]
/-- The ones behind a word. -/
theorem ones_word_all (l : List Bool) (k : Nat) : ones l (64 * (k + 1)) = ones l (64 * k) + (wbits l k).count true := by
  have h1 := ones_more l (64 * k) 64
  rw [show 64 * k + 64 = 64 * (k + 1) from by omega] at h1
  rw [h1]
  have h2 := wbits_take l k 64 (Nat.le_refl _)
  rw [List.take_of_length_le (by rw [wbits_length]; omega)] at h2
  rw [h2]
theorem pop_word (l : List Bool) (k : Nat) : ones l (64 * (k + 1)) = ones l (64 * k) + (numB (word l k) 64).count true := by
  rw [ones_word_all]
  unfold word
  rw [pop_val _ (by rw [wbits_length]; omega)]
/-- The ones of a word's digits as they stand at the lower end. -/
theorem pop_low (l : List Bool) (k t : Nat) (ht : t = min 64 (l.length - 64 * k)) : ones l (64 * (k + 1)) = ones l (64 * k) + (numB (val ((l.drop (64 * k)).take t)) 64).count true := by
  have h1 := ones_more l (64 * k) 64
  rw [show 64 * k + 64 = 64 * (k + 1) from by omega] at h1
  have h2 : (l.drop (64 * k)).take 64 = (l.drop (64 * k)).take t := by
    rcases Nat.lt_or_ge (l.length - 64 * k) 64 with h | h
    · rw [List.take_of_length_le (by rw [List.length_drop]; omega), List.take_of_length_le (by rw [List.length_drop]; omega)]
    · rw [show t = 64 from by omega]
  rw [h1, h2, pop_val _ (by rw [List.length_take]; omega)]
theorem wbits_at (l : List Bool) (k q : Nat) (hq : q < 64) : (wbits l k).getD q false = l.getD (64 * k + q) false := by
  unfold wbits
  simp only [List.getD_eq_getElem?_getD]
  rcases Nat.lt_or_ge q ((l.drop (64 * k)).take 64).length with h | h
  · rw [List.getElem?_append_left h, List.getElem?_take, if_pos hq, List.getElem?_drop]
  · rw [List.getElem?_append_right h]
    rw [List.length_take, List.length_drop] at h
    rw [List.getElem?_eq_none (l := l) (by omega)]
    rw [List.getElem?_replicate]
    split <;> rfl
theorem wbits_ones (l : List Bool) (k q : Nat) (hq : q ≤ 64) : ones l (64 * k + q) = ones l (64 * k) + ones (wbits l k) q := by
  rw [ones_more]
  unfold ones
  rw [wbits_take l k q hq]
/-- The place of the n-th one by that in its word. -/
theorem place_word (l : List Bool) (n k q : Nat) (h0 : ones l (64 * k) ≤ n) (hp : place (wbits l k) (n - ones l (64 * k)) = some q) : place l n = some (64 * k + q) := by
  obtain ⟨h1, h2, h3⟩ := place_some hp
  rw [wbits_length] at h1
  rw [wbits_at l k q h1] at h2
  have h4 := wbits_ones l k q (by omega)
  rw [h3] at h4
  have hlen : 64 * k + q < l.length := by
    rcases Nat.lt_or_ge (64 * k + q) l.length with h | h
    · exact h
    · rw [List.getD_eq_getElem?_getD, List.getElem?_eq_none h] at h2
      cases h2
  rw [List.getD_eq_getElem?_getD, List.getElem?_eq_getElem hlen] at h2
  have h5 := place_at l (64 * k + q) hlen (by simpa using h2)
  rw [show ones l (64 * k + q) = n from by omega] at h5
  exact h5
/-- The next one that is set, from a place on. -/
theorem next_one (m : List Bool) (q k : Nat) (hq : ones m q = k) (hk : k < m.count true) : ∃ p, q ≤ p ∧ p < m.length ∧ place m k = some p ∧ ones m (p + 1) = k + 1 ∧ val (m.drop q) = 2 ^ (m.length - (p + 1)) + val (m.drop (p + 1)) ∧ val (m.drop (p + 1)) < 2 ^ (m.length - (p + 1)) ∧ digits (val (m.drop q)) = m.length - p := by
  cases hp : place m k with
  | none => have := (place_none m k).1 hp; omega
  | some p =>
    obtain ⟨h1, h2, h3⟩ := place_some hp
    have hb : m[p] = true := by simpa [List.getD_eq_getElem?_getD, h1] using h2
    have hs := ones_succ m p h1
    rw [hb, h3] at hs
    have hqp : q ≤ p := by
      rcases Nat.lt_or_ge p q with h | h
      · have := ones_mono m (show p + 1 ≤ q from h)
        simp [bv] at hs
        omega
      · exact h
    have hval : ∀ d, q + d ≤ p → val (m.drop q) = val (m.drop (q + d)) := by
      intro d
      induction d with
      | zero => intro _; rfl
      | succ d ih =>
        intro hd
        rw [ih (by omega)]
        have hlt : q + d < m.length := by omega
        rw [List.drop_eq_getElem_cons hlt, val_cons]
        have e1 := ones_mono m (show q ≤ q + d from by omega)
        have e2 := ones_mono m (show q + d + 1 ≤ p from by omega)
        have e3 := ones_succ m (q + d) hlt
        have e4 : bv m[q + d] = 0 := by omega
        rw [e4, Nat.zero_mul, Nat.zero_add, Nat.add_assoc]
    have hv := hval (p - q) (by omega)
    rw [show q + (p - q) = p from by omega, List.drop_eq_getElem_cons h1, val_cons, hb] at hv
    have hl : (m.drop (p + 1)).length = m.length - (p + 1) := List.length_drop
    have hlt := val_lt (m.drop (p + 1))
    rw [hl] at hv hlt
    have e1 : bv true = 1 := rfl
    rw [e1, Nat.one_mul] at hv
    refine ⟨p, hqp, h1, rfl, by simpa [bv] using hs, hv, hlt, ?_⟩
    rw [hv, digits_eq (k := m.length - (p + 1)) (by omega) (by rw [Nat.pow_succ]; omega)]
    omega
theorem xor_top (y k : Nat) (h : y < 2 ^ k) : (2 ^ k + y) ^^^ 2 ^ k = y := by
  have e : 2 ^ k + y = y ^^^ 2 ^ k := by
    apply Nat.eq_of_testBit_eq
    intro i
    rw [Nat.testBit_xor, Nat.testBit_two_pow]
    by_cases hi : k = i
    · subst hi
      rw [Nat.testBit_two_pow_add_eq, Nat.testBit_lt_two_pow h]
      simp
    · rcases Nat.lt_or_gt_of_ne hi with h1 | h1
      · rw [Nat.testBit_lt_two_pow (x := y) (Nat.lt_trans h (Nat.pow_lt_pow_right (by omega) h1))]
        have : 2 ^ k + y < 2 ^ i := by
          have h2 : 2 ^ (k + 1) ≤ 2 ^ i := Nat.pow_le_pow_right (by omega) h1
          rw [Nat.pow_succ] at h2
          omega
        rw [Nat.testBit_lt_two_pow this]
        simp [hi]
      · rw [Nat.testBit_two_pow_add_gt h1]
        simp [hi]
  rw [e, Nat.xor_assoc, Nat.xor_self, Nat.xor_zero]

end Go.Proofs.Ytiakpjkpmepmoaa
