/-
  Bits, the highest first; bits as bytes: mathematics alone.
-/
import Derived.Test.YtmphcpggfgehhaaBase
namespace Go.Proofs.Ytmphcpggfgehhaa

def bv (b : Bool) : Nat := if b then 1 else 0
/-- The number that bits are. -/
def val (l : List Bool) : Nat := l.foldl (fun x b => 2 * x + bv b) 0
/-- Bit n of x, from the lowest. -/
def bit (x n : Nat) : Bool := x / 2 ^ n % 2 == 1
/-- The lowest n bits of x. -/
def numB (x : Nat) : Nat → List Bool
  | 0 => []
  | n + 1 => bit x n :: numB x n

theorem bv_lt (b : Bool) : bv b < 2 := by cases b <;> decide
theorem bv_bit (x n : Nat) : bv (bit x n) = x / 2 ^ n % 2 := by
  unfold bv bit
  rcases Nat.mod_two_eq_zero_or_one (x / 2 ^ n) with h | h <;> simp [h]
theorem val_snoc (l : List Bool) (b : Bool) : val (l ++ [b]) = 2 * val l + bv b := by simp [val]
theorem val_foldl (l : List Bool) : ∀ x, l.foldl (fun x b => 2 * x + bv b) x = x * 2 ^ l.length + val l := by
  induction l with
  | nil => intro x; simp [val]
  | cons b l ih =>
    intro x
    unfold val
    rw [List.foldl_cons, List.foldl_cons, ih, ih, List.length_cons, Nat.pow_succ, Nat.add_mul, Nat.mul_zero, Nat.zero_add, Nat.add_assoc]
    congr 1
    rw [Nat.mul_comm 2 x, Nat.mul_assoc, Nat.mul_comm 2]
theorem val_append (a b : List Bool) : val (a ++ b) = val a * 2 ^ b.length + val b := by
  unfold val
  rw [List.foldl_append, val_foldl]
  rfl
theorem val_cons (b : Bool) (l : List Bool) : val (b :: l) = bv b * 2 ^ l.length + val l := by
  have := val_append [b] l
  simpa [val] using this
theorem val_lt (l : List Bool) : val l < 2 ^ l.length := by
  induction l with
  | nil => decide
  | cons b l ih =>
    rw [val_cons, List.length_cons, Nat.pow_succ]
    have := bv_lt b
    have : bv b * 2 ^ l.length ≤ 1 * 2 ^ l.length := Nat.mul_le_mul_right _ (by omega)
    omega
theorem numB_length (x : Nat) : ∀ n, (numB x n).length = n
  | 0 => rfl
  | n + 1 => by rw [numB, List.length_cons, numB_length x n]
theorem val_numB (x : Nat) : ∀ n, val (numB x n) = x % 2 ^ n
  | 0 => by rw [Nat.pow_zero, Nat.mod_one]; rfl
  | n + 1 => by
    rw [numB, val_cons, numB_length, val_numB x n, bv_bit, Nat.pow_succ, Nat.mod_mul]
    rw [Nat.mul_comm, Nat.add_comm]
theorem bit_mod (x n k : Nat) (h : k < n) : bit (x % 2 ^ n) k = bit x k := by
  unfold bit
  have e : 2 ^ n = 2 ^ k * 2 ^ (n - k) := by rw [← Nat.pow_add]; congr 1; omega
  rw [e, Nat.mod_mul_right_div_self]
  have e2 : 2 ^ (n - k) = 2 * 2 ^ (n - k - 1) := by rw [← Nat.pow_succ']; congr 1; omega
  rw [e2, Nat.mod_mul_right_mod]
theorem numB_mod (x n : Nat) : ∀ k, k ≤ n → numB (x % 2 ^ n) k = numB x k
  | 0, _ => rfl
  | k + 1, h => by rw [numB, numB, bit_mod x n k (by omega), numB_mod x n k (by omega)]
theorem numB_val (l : List Bool) : numB (val l) l.length = l := by
  induction l with
  | nil => rfl
  | cons b l ih =>
    have h1 := val_lt l
    have h2 : val (b :: l) % 2 ^ l.length = val l := by
      rw [val_cons, Nat.add_comm, Nat.add_mul_mod_self_right, Nat.mod_eq_of_lt h1]
    have h3 : bit (val (b :: l)) l.length = b := by
      unfold bit
      rw [val_cons, Nat.add_comm, Nat.add_mul_div_right _ _ (Nat.pow_pos (by omega)), Nat.div_eq_of_lt h1, Nat.zero_add]
      cases b <;> rfl
    rw [List.length_cons, numB, h3, ← numB_mod _ l.length l.length (Nat.le_refl _), h2, ih]
theorem val_inj {a b : List Bool} (hl : a.length = b.length) (h : val a = val b) : a = b := by
  rw [← numB_val a, ← numB_val b, h, hl]
theorem numB_at (x : Nat) : ∀ n k (h : k < n), (numB x n)[k]'(by rw [numB_length]; exact h) = bit x (n - 1 - k)
  | n + 1, 0, _ => by simp [numB]
  | n + 1, k + 1, h => by
    have := numB_at x n k (by omega)
    simp only [numB, List.getElem_cons_succ, this]
    congr 1
    omega
/-- Bit k of a number of bits. -/
theorem bit_val (l : List Bool) (k : Nat) (h : k < l.length) : bit (val l) (l.length - 1 - k) = l[k] := by
  have := numB_at (val l) l.length k h
  rw [← this]
  exact List.getElem_of_eq (numB_val l) _

/-- Eight bits from one on, noughts behind. -/
def eight (l : List Bool) (k : Nat) : List Bool := (List.range 8).map fun j => l.getD (8 * k + j) false
/-- Eight bits a byte, the first one highest, the last byte filled with noughts. -/
def pack (l : List Bool) : List UInt8 := (List.range ((l.length + 7) / 8)).map fun k => UInt8.ofNat (val (eight l k))
/-- Bit i of bytes. -/
def bitAt (p : List UInt8) (i : Nat) : Bool := bit (p.getD (i / 8) 0).toNat (7 - i % 8)
/-- All bits of bytes. -/
def unpack (p : List UInt8) : List Bool := (List.range (8 * p.length)).map fun i => bitAt p i

theorem eight_length (l : List Bool) (k : Nat) : (eight l k).length = 8 := by simp [eight]
theorem eight_lt (l : List Bool) (k : Nat) : val (eight l k) < 256 := by
  have := val_lt (eight l k)
  rw [eight_length] at this
  exact this
theorem ofNat_val (n : Nat) (h : n < 256) : (UInt8.ofNat n).toNat = n := by simp; omega
theorem pack_length (l : List Bool) : (pack l).length = (l.length + 7) / 8 := by simp [pack]
theorem pack_at (l : List Bool) (k : Nat) (h : k < (l.length + 7) / 8) : (pack l).getD k 0 = UInt8.ofNat (val (eight l k)) := by
  simp [pack, List.getD_eq_getElem?_getD, h]
theorem bitAt_pack (l : List Bool) (i : Nat) : bitAt (pack l) i = l.getD i false := by
  unfold bitAt
  rcases Nat.lt_or_ge (i / 8) ((l.length + 7) / 8) with h | h
  · rw [pack_at l _ h, ofNat_val _ (eight_lt l _)]
    have h7 : 7 - i % 8 = (eight l (i / 8)).length - 1 - i % 8 := by rw [eight_length]
    rw [h7, bit_val (eight l (i / 8)) (i % 8) (by rw [eight_length]; omega)]
    simp only [eight, List.getElem_map, List.getElem_range]
    rw [show 8 * (i / 8) + i % 8 = i from by omega]
  · have h1 : (pack l).getD (i / 8) 0 = 0 := by
      rw [List.getD_eq_getElem?_getD, List.getElem?_eq_none (by rw [pack_length]; exact h)]
      rfl
    rw [h1, List.getD_eq_getElem?_getD, List.getElem?_eq_none (by omega)]
    show bit 0 _ = false
    simp [bit]
/-- A byte is its eight bits. -/
theorem byte_eq8 {a b : UInt8} (h : ∀ j, j < 8 → bit a.toNat j = bit b.toNat j) : a = b := by
  have ha : a.toNat < 2 ^ 8 := a.toNat_lt
  have hb : b.toNat < 2 ^ 8 := b.toNat_lt
  have e : ∀ n, n ≤ 8 → numB a.toNat n = numB b.toNat n := by
    intro n
    induction n with
    | zero => intro _; rfl
    | succ n ih => intro hn; rw [numB, numB, h n (by omega), ih (by omega)]
  have h8 := congrArg val (e 8 (Nat.le_refl _))
  rw [val_numB, val_numB, Nat.mod_eq_of_lt ha, Nat.mod_eq_of_lt hb] at h8
  exact UInt8.toNat_inj.1 h8
theorem bytes_ext {p q : List UInt8} (hl : p.length = q.length) (h : ∀ i, i < 8 * p.length → bitAt p i = bitAt q i) : p = q := by
  refine List.ext_getElem hl fun k h1 h2 => byte_eq8 fun j hj => ?_
  have := h (8 * k + (7 - j)) (by omega)
  unfold bitAt at this
  rw [show (8 * k + (7 - j)) / 8 = k from by omega, show 7 - (8 * k + (7 - j)) % 8 = j from by omega] at this
  simpa [List.getD_eq_getElem?_getD, h1, h2] using this
/-- Bytes are the bytes of their first n bits just if they are as many, and noughts stand behind. -/
theorem pack_first (p : List UInt8) (n : Nat) : pack ((unpack p).take n) = p ↔ (n ≥ 8 * p.length ∨ (8 * p.length < n + 8 ∧ ∀ i, n ≤ i → i < 8 * p.length → bitAt p i = false)) := by
  have hu : (unpack p).length = 8 * p.length := by simp [unpack]
  have hut : ∀ i, ((unpack p).take n).getD i false = if i < n ∧ i < 8 * p.length then bitAt p i else false := by
    intro i
    rw [List.getD_eq_getElem?_getD, List.getElem?_take]
    by_cases h1 : i < n
    · by_cases h2 : i < 8 * p.length
      · simp [h1, h2, unpack]
      · simp [h1, h2, unpack]
    · simp [h1]
  have hlen : ((unpack p).take n).length = min n (8 * p.length) := by rw [List.length_take, hu]
  constructor
  · intro h
    rcases Nat.lt_or_ge n (8 * p.length) with hlt | hge
    · refine .inr ⟨?_, fun i h1 h2 => ?_⟩
      · have := congrArg List.length h
        rw [pack_length, hlen, Nat.min_eq_left (by omega)] at this
        omega
      · have := bitAt_pack ((unpack p).take n) i
        rw [h, hut, if_neg (by omega)] at this
        exact this
    · exact .inl hge
  · intro h
    refine bytes_ext ?_ fun i hi => ?_
    · rw [pack_length, hlen]
      rcases h with h | ⟨h, -⟩ <;> omega
    · rw [bitAt_pack, hut]
      rw [pack_length, hlen] at hi
      split
      · rfl
      · rename_i hn
        rcases h with h | ⟨h1, h2⟩
        · unfold bitAt
          rw [List.getD_eq_getElem?_getD, List.getElem?_eq_none (by omega)]
          show false = bit 0 _
          simp [bit]
        · rcases Nat.lt_or_ge i (8 * p.length) with hlt | hge
          · exact (h2 i (by omega) hlt).symm
          · unfold bitAt
            rw [List.getD_eq_getElem?_getD, List.getElem?_eq_none (by omega)]
            show false = bit 0 _
            simp [bit]
/-- One bit more. -/
theorem pack_snoc_new (l : List Bool) (b : Bool) (h : l.length % 8 = 0) : pack (l ++ [b]) = pack l ++ [UInt8.ofNat (128 * bv b)] := by
  refine bytes_ext (by rw [List.length_append, pack_length, pack_length, List.length_append, List.length_singleton, List.length_singleton]; omega) fun i hi => ?_
  rw [pack_length, List.length_append, List.length_singleton] at hi
  rw [bitAt_pack]
  unfold bitAt
  rcases Nat.lt_or_ge (i / 8) (pack l).length with h1 | h1
  · have e1 : (pack l ++ [UInt8.ofNat (128 * bv b)]).getD (i / 8) 0 = (pack l).getD (i / 8) 0 := by
      rw [List.getD_eq_getElem?_getD, List.getD_eq_getElem?_getD, List.getElem?_append_left h1]
    rw [e1]
    have := bitAt_pack l i
    unfold bitAt at this
    rw [this]
    rw [pack_length] at h1
    rw [List.getD_eq_getElem?_getD, List.getD_eq_getElem?_getD, List.getElem?_append_left (by omega)]
  · rw [pack_length] at h1
    have e1 : (pack l ++ [UInt8.ofNat (128 * bv b)]).getD (i / 8) 0 = UInt8.ofNat (128 * bv b) := by
      rw [List.getD_eq_getElem?_getD, List.getElem?_append_right (by rw [pack_length]; exact h1), pack_length, show i / 8 - (l.length + 7) / 8 = 0 from by omega]
      rfl
    rw [e1, ofNat_val _ (by have := bv_lt b; omega)]
    by_cases h0 : i = l.length
    · subst h0
      rw [List.getD_eq_getElem?_getD, List.getElem?_append_right (Nat.le_refl _), Nat.sub_self, h]
      cases b <;> rfl
    · rw [List.getD_eq_getElem?_getD, List.getElem?_eq_none (by rw [List.length_append, List.length_singleton]; omega)]
      have hj : i % 8 = 1 ∨ i % 8 = 2 ∨ i % 8 = 3 ∨ i % 8 = 4 ∨ i % 8 = 5 ∨ i % 8 = 6 ∨ i % 8 = 7 := by omega
      rcases hj with hj | hj | hj | hj | hj | hj | hj <;> rw [hj] <;> cases b <;> rfl
theorem val_set (a : List Bool) (j : Nat) (h : j < a.length) (h0 : a[j] = false) (b : Bool) : val (a.set j b) = val a + bv b * 2 ^ (a.length - 1 - j) := by
  have e1 : a.set j b = a.take j ++ b :: a.drop (j + 1) := by rw [List.set_eq_take_append_cons_drop, if_pos h]
  have e2 : a = a.take j ++ false :: a.drop (j + 1) := by
    rw [← h0, ← List.drop_eq_getElem_cons h, List.take_append_drop]
  have e3 : val a = val (a.take j ++ false :: a.drop (j + 1)) := by rw [← e2]
  rw [e1, e3, val_append, val_append, val_cons, val_cons, List.length_drop, List.length_cons, List.length_cons, List.length_drop, show a.length - (j + 1) = a.length - 1 - j from by omega]
  show _ + (_ + _) = _ + (0 * _ + _) + _
  omega
theorem eight_at (l : List Bool) (k j : Nat) (h : j < 8) : (eight l k)[j]'(by rw [eight_length]; exact h) = l.getD (8 * k + j) false := by simp [eight]
theorem pack_snoc_set (l : List Bool) (b : Bool) (h : l.length % 8 ≠ 0) :
    pack (l ++ [b]) = (pack l).set (l.length / 8) (UInt8.ofNat (((pack l).getD (l.length / 8) 0).toNat + bv b * 2 ^ (7 - l.length % 8))) := by
  have hk : l.length / 8 < (l.length + 7) / 8 := by omega
  have h8 : eight (l ++ [b]) (l.length / 8) = (eight l (l.length / 8)).set (l.length % 8) b := by
    refine List.ext_getElem (by rw [List.length_set, eight_length, eight_length]) fun j h1 h2 => ?_
    rw [eight_length] at h1
    rw [eight_at _ _ _ h1, List.getElem_set, eight_at _ _ _ h1]
    split
    · rename_i he
      subst he
      rw [show 8 * (l.length / 8) + l.length % 8 = l.length from by omega, List.getD_eq_getElem?_getD, List.getElem?_append_right (Nat.le_refl _), Nat.sub_self]
      rfl
    · rename_i he
      rw [List.getD_eq_getElem?_getD, List.getD_eq_getElem?_getD]
      rcases Nat.lt_or_ge (8 * (l.length / 8) + j) l.length with hlt | hge
      · rw [List.getElem?_append_left hlt]
      · rw [List.getElem?_eq_none (by rw [List.length_append, List.length_singleton]; omega), List.getElem?_eq_none hge]
  have h0 : (eight l (l.length / 8))[l.length % 8]'(by rw [eight_length]; omega) = false := by
    rw [eight_at _ _ _ (by omega), show 8 * (l.length / 8) + l.length % 8 = l.length from by omega, List.getD_eq_getElem?_getD, List.getElem?_eq_none (Nat.le_refl _)]
    rfl
  have hv := val_set (eight l (l.length / 8)) (l.length % 8) (by rw [eight_length]; omega) h0 b
  rw [eight_length, ← h8, show 8 - 1 - l.length % 8 = 7 - l.length % 8 from rfl] at hv
  refine List.ext_getElem (by rw [List.length_set, pack_length, pack_length, List.length_append, List.length_singleton]; omega) fun i h1 h2 => ?_
  rw [pack_length, List.length_append, List.length_singleton] at h1
  have g : ∀ (m : List Bool) (hi : i < (pack m).length), (pack m)[i] = UInt8.ofNat (val (eight m i)) := by
    intro m hi
    simp [pack]
  rw [g, List.getElem_set]
  split
  · rename_i he
    subst he
    rw [hv, pack_at l _ hk, ofNat_val _ (eight_lt l _)]
  · rename_i he
    rw [g]
    congr 2
    refine List.ext_getElem (by rw [eight_length, eight_length]) fun j h3 h4 => ?_
    rw [eight_length] at h3
    rw [eight_at _ _ _ h3, eight_at _ _ _ h3, List.getD_eq_getElem?_getD, List.getD_eq_getElem?_getD, List.getElem?_append_left (by omega)]

end Go.Proofs.Ytmphcpggfgehhaa
