/-
  Mathematics: the order of bytes is an order of keys (of no code).
  Bits, the highest first; bits as bytes: mathematics alone.
  Small numbers as bits; how many bits are set: mathematics alone.
-/
import Derived.Test.YtibbligidncocaaM06
import Derived.Test.YtibbligidncocaaM01
namespace Go.Proofs.Ytibbligidncocaa
open Go.Op

theorem less_irr : ∀ x, bytesLess x x = false
  | [] => rfl
  | a :: x => by simp [bytesLess, less_irr x]
theorem less_trans : ∀ x y z, bytesLess x y = true → bytesLess y z = true → bytesLess x z = true
  | [], [], _, h, _ => by cases h
  | [], _ :: _, [], _, h => by cases h
  | [], _ :: _, _ :: _, _, _ => rfl
  | _ :: _, [], _, h, _ => by cases h
  | _ :: _, _ :: _, [], _, h => by cases h
  | a :: x, b :: y, c :: z, h, g => by
    simp only [bytesLess, Bool.or_eq_true, decide_eq_true_eq, Bool.and_eq_true, beq_iff_eq] at h g ⊢
    rcases h with h | ⟨rfl, h⟩
    · rcases g with g | ⟨rfl, -⟩
      · exact .inl (UInt8.lt_trans h g)
      · exact .inl h
    · rcases g with g | ⟨rfl, g⟩
      · exact .inl g
      · exact .inr ⟨rfl, less_trans x y z h g⟩
theorem less_tri : ∀ x y, bytesLess x y = true ∨ x = y ∨ bytesLess y x = true
  | [], [] => .inr (.inl rfl)
  | [], _ :: _ => .inl rfl
  | _ :: _, [] => .inr (.inr rfl)
  | a :: x, b :: y => by
    simp only [bytesLess, Bool.or_eq_true, decide_eq_true_eq, Bool.and_eq_true, beq_iff_eq]
    rcases Nat.lt_trichotomy a.toNat b.toNat with h | h | h
    · exact .inl (.inl (UInt8.lt_iff_toNat_lt.2 h))
    · obtain rfl := UInt8.toNat_inj.1 h
      rcases less_tri x y with h | h | h
      · exact .inl (.inr ⟨rfl, h⟩)
      · exact .inr (.inl (by rw [h]))
      · exact .inr (.inr (.inr ⟨rfl, h⟩))
    · exact .inr (.inr (.inl (UInt8.lt_iff_toNat_lt.2 h)))
theorem ordR : Ordered bytesLess := ⟨less_irr, less_trans, less_tri⟩

end Go.Proofs.Ytibbligidncocaa

namespace Go.Proofs.Ytibbligidncocaa

def bv (b : Bool) : Nat := if b then 1 else 0
/-- The number that bits are. -/
def val (l : List Bool) : Nat := l.foldl (fun x b => 2 * x + bv b) 0
/-- Bit n of x, from the lowest. -/
def bit (x n : Nat) : Bool := x / 2 ^ n % 2 == 1
/-- The lowest n bits of x. -/
def numB (x : Nat) : Nat → List Bool
  | 0 => []
  | n + 1 => bit x n :: numB x n

theorem bv_lt (b : Bool) : bv b < 2 := by cases b <;> decide
theorem bv_bit (x n : Nat) : bv (bit x n) = x / 2 ^ n % 2 := by
  unfold bv bit
  rcases Nat.mod_two_eq_zero_or_one (x / 2 ^ n) with h | h <;> simp [h]
theorem val_snoc (l : List Bool) (b : Bool) : val (l ++ [b]) = 2 * val l + bv b := by simp [val]
theorem val_foldl (l : List Bool) : ∀ x, l.foldl (fun x b => 2 * x + bv b) x = x * 2 ^ l.length + val l := by
  induction l with
  | nil => intro x; simp [val]
  | cons b l ih =>
    intro x
    unfold val
    rw [List.foldl_cons, List.foldl_cons, ih, ih, List.length_cons, Nat.pow_succ, Nat.add_mul, Nat.mul_zero, Nat.zero_add, Nat.add_assoc]
    congr 1
    rw [Nat.mul_comm 2 x, Nat.mul_assoc, Nat.mul_comm 2]
theorem val_append (a b : List Bool) : val (a ++ b) = val a * 2 ^ b.length + val b := by
  unfold val
  rw [List.foldl_append, val_foldl]
  rfl
theorem val_cons (b : Bool) (l : List Bool) : val (b :: l) = bv b * 2 ^ l.length + val l := by
  have := val_append [b] l
  simpa [val] using this
theorem val_lt (l : List Bool) : val l < 2 ^ l.length := by
  induction l with
  | nil => decide
  | cons b l ih =>
    rw [val_cons, List.length_cons, Nat.pow_succ]
    have := bv_lt b
    have : bv b * 2 ^ l.length ≤ 1 * 2 ^ l.length := Nat.mul_le_mul_right _ (by omega)
    omega
theorem numB_length (x : Nat) : ∀ n, (numB x n).length = n
  | 0 => rfl
  | n + 1 => by rw [numB, List.length_cons, numB_length x n]
theorem val_numB (x : Nat) : ∀ n, val (numB x n) = x % 2 ^ n
  | 0 => by rw [Nat.pow_zero, Nat.mod_one]; rfl
  | n + 1 => by
    rw [numB, val_cons, numB_length, val_numB x n, bv_bit, Nat.pow_succ, Nat.mod_mul]
    rw [Nat.mul_comm, Nat.add_comm]
theorem bit_mod (x n k : Nat) (h : k < n) : bit (x % 2 ^ n) k = bit x k := by
  unfold bit
  have e : 2 ^ n = 2 ^ k * 2 ^ (n - k) := by rw [← Nat.pow_add]; congr 1; omega
  rw [e, Nat.mod_mul_right_div_self]
  have e2 : 2 ^ (n - k) = 2 * 2 ^ (n - k - 1) := by rw [← Nat.pow_succ']; congr 1; omega
  rw [e2, Nat.mod_mul_right_mod]
theorem numB_mod (x n : Nat) : ∀ k, k ≤ n → numB (x % 2 ^ n) k = numB x k
  | 0, _ => rfl
  | k + 1, h => by rw [numB, numB, bit_mod x n k (by omega), numB_mod x n k (by omega)]
theorem numB_val (l : List Bool) : numB (val l) l.length = l := by
  induction l with
  | nil => rfl
  | cons b l ih =>
    have h1 := val_lt l
    have h2 : val (b :: l) % 2 ^ l.length = val l := by
      rw [val_cons, Nat.add_comm, Nat.add_mul_mod_self_right, Nat.mod_eq_of_lt h1]
    have h3 : bit (val (b :: l)) l.length = b := by
      unfold bit
      rw [val_cons, Nat.add_comm, Nat.add_mul_div_right _ _ (Nat.pow_pos (by omega)), Nat.div_eq_of_lt h1, Nat.zero_add]
      cases b <;> rfl
    rw [List.length_cons, numB, h3, ← numB_mod _ l.length l.length (Nat.le_refl _), h2, ih]
theorem val_inj {a b : List Bool} (hl : a.length = b.length) (h : val a = val b) : a = b := by
  rw [← numB_val a, ← numB_val b, h, hl]
theorem numB_at (x : Nat) : ∀ n k (h : k < n), (numB x n)[k]'(by rw [numB_length]; exact h) = bit x (n - 1 - k)
  | n + 1, 0, _ => by simp [numB]
  | n + 1, k + 1, h => by
    have := numB_at x n k (by omega)
    simp only [numB, List.getElem_cons_succ, this]
    congr 1
    omega
/-- Bit k of a number of bits. -/
theorem bit_val (l : List Bool) (k : Nat) (h : k < l.length) : bit (val l) (l.length - 1 - k) = l[k] := by
  have := numB_at (val l) l.length k h
  rw [← this]
  exact List.getElem_of_eq (numB_val l) _

/-- Eight bits from one on, noughts behind. -/
def eight (l : List Bool) (k : Nat) : List Bool := (List.range 8).map fun j => l.getD (8 * k + j) false
/-- Eight bits a byte, the first one highest, the last byte filled with noughts. -/
def pack (l : List Bool) : List UInt8 := (List.range ((l.length + 7) / 8)).map fun k => UInt8.ofNat (val (eight l k))
/-- Bit i of bytes. -/
def bitAt (p : List UInt8) (i : Nat) : Bool := bit (p.getD (i / 8) 0).toNat (7 - i % 8)
/-- All bits of bytes. -/
def unpack (p : List UInt8) : List Bool := (List.range (8 * p.length)).map fun i => bitAt p i

theorem eight_length (l : List Bool) (k : Nat) : (eight l k).length = 8 := by simp [eight]
theorem eight_lt (l : List Bool) (k : Nat) : val (eight l k) < 256 := by
  have := val_lt (eight l k)
  rw [eight_length] at this
  exact this
theorem ofNat_val (n : Nat) (h : n < 256) : (UInt8.ofNat n).toNat = n := by simp; omega
theorem pack_length (l : List Bool) : (pack l).length = (l.length + 7) / 8 := by simp [pack]
theorem pack_at (l : List Bool) (k : Nat) (h : k < (l.length + 7) / 8) : (pack l).getD k 0 = UInt8.ofNat (val (eight l k)) := by
  simp [pack, List.getD_eq_getElem?_getD, h]
theorem bitAt_pack (l : List Bool) (i : Nat) : bitAt (pack l) i = l.getD i false := by
  unfold bitAt
  rcases Nat.lt_or_ge (i / 8) ((l.length + 7) / 8) with h | h
  · rw [pack_at l _ h, ofNat_val _ (eight_lt l _)]
    have h7 : 7 - i % 8 = (eight l (i / 8)).length - 1 - i % 8 := by rw [eight_length]
    rw [h7, bit_val (eight l (i / 8)) (i % 8) (by rw [eight_length]; omega)]
    simp only [eight, List.getElem_map, List.getElem_range]
    rw [show 8 * (i / 8) + i % 8 = i from by omega]
  · have h1 : (pack l).getD (i / 8) 0 = 0 := by
      rw [List.getD_eq_getElem?_getD, List.getElem?_eq_none (by rw [pack_length]; exact h)]
      rfl
    rw [h1, List.getD_eq_getElem?_getD, List.getElem?_eq_none (by omega)]
    show bit 0 _ = false
    simp [bit]
/-- A byte is its eight bits. -/
theorem byte_eq8 {a b : UInt8} (h : ∀ j, j < 8 → bit a.toNat j = bit b.toNat j) : a = b := by
  have ha : a.toNat < 2 ^ 8 := a.toNat_lt
  have hb : b.toNat < 2 ^ 8 := b.toNat_lt
  have e : ∀ n, n ≤ 8 → numB a.toNat n = numB b.toNat n := by
    intro n
    induction n with
    | zero => intro _; rfl
    | succ n ih => intro hn; rw [numB, numB, h n (by omega), ih (by omega)]
  have h8 := congrArg val (e 8 (Nat.le_refl _))
  rw [val_numB, val_numB, Nat.mod_eq_of_lt ha, Nat.mod_eq_of_lt hb] at h8
  exact UInt8.toNat_inj.1 h8
theorem bytes_ext {p q : List UInt8} (hl : p.length = q.length) (h : ∀ i, i < 8 * p.length → bitAt p i = bitAt q i) : p = q := by
  refine List.ext_getElem hl fun k h1 h2 => byte_eq8 fun j hj => ?_
  have := h (8 * k + (7 - j)) (by omega)
  unfold bitAt at this
  rw [show (8 * k + (7 - j)) / 8 = k from by omega, show 7 - (8 * k + (7 - j)) % 8 = j from by omega] at this
  simpa [List.getD_eq_getElem?_getD, h1, h2] using this
/-- Bytes are the bytes of their first n bits just if they are as many, and noughts stand behind. -/
theorem pack_first (p : List UInt8) (n : Nat) : pack ((unpack p).take n) = p ↔ (n ≥ 8 * p.length ∨ (8 * p.length < n + 8 ∧ ∀ i, n ≤ i → i < 8 * p.length → bitAt p i = false)) := by
  have hu : (unpack p).length = 8 * p.length := by simp [unpack]
  have hut : ∀ i, ((unpack p).take n).getD i false = if i < n ∧ i < 8 * p.length then bitAt p i else false := by
    intro i
    rw [List.getD_eq_getElem?_getD, List.getElem?_take]
    by_cases h1 : i < n
    · by_cases h2 : i < 8 * p.length
      · simp [h1, h2, unpack]
      · simp [h1, h2, unpack]
    · simp [h1]
  have hlen : ((unpack p).take n).length = min n (8 * p.length) := by rw [List.length_take, hu]
  constructor
  · intro h
    rcases Nat.lt_or_ge n (8 * p.length) with hlt | hge
    · refine .inr ⟨?_, fun i h1 h2 => ?_⟩
      · have := congrArg List.length h
        rw [pack_length, hlen, Nat.min_eq_left (by omega)] at this
        omega
      · have := bitAt_pack ((unpack p).take n) i
        rw [h, hut, if_neg (by omega)] at this
        exact this
    · exact .inl hge
  · intro h
    refine bytes_ext ?_ fun i hi => ?_
    · rw [pack_length, hlen]
      rcases h with h | ⟨h, -⟩ <;> omega
    · rw [bitAt_pack, hut]
      rw [pack_length, hlen] at hi
      split
      · rfl
      · rename_i hn
        rcases h with h | ⟨h1, h2⟩
        · unfold bitAt
          rw [List.getD_eq_getElem?_getD, List.getElem?_eq_none (by omega)]
          show false = bit 0 _
          simp [bit]
        · rcases Nat.lt_or_ge i (8 * p.length) with hlt | hge
          · exact (h2 i (by omega) hlt).symm
          · unfold bitAt
            rw [List.getD_eq_getElem?_getD, List.getElem?_eq_none (by omega)]
            show false = bit 0 _
            simp [bit]
/-- One bit more. -/
theorem pack_snoc_new (l : List Bool) (b : Bool) (h : l.length % 8 = 0) : pack (l ++ [b]) = pack l ++ [UInt8.ofNat (128 * bv b)] := by
  refine bytes_ext (by rw [List.length_append, pack_length, pack_length, List.length_append, List.length_singleton, List.length_singleton]; omega) fun i hi => ?_
  rw [pack_length, List.length_append, List.length_singleton] at hi
  rw [bitAt_pack]
  unfold bitAt
  rcases Nat.lt_or_ge (i / 8) (pack l).length with h1 | h1
  · have e1 : (pack l ++ [UInt8.ofNat (128 * bv b)]).getD (i / 8) 0 = (pack l).getD (i / 8) 0 := by
      rw [List.getD_eq_getElem?_getD, List.getD_eq_getElem?_getD, List.getElem?_append_left h1]
    rw [e1]
    have := bitAt_pack l i
    unfold bitAt at this
    rw [this]
    rw [pack_length] at h1
    rw [List.getD_eq_getElem?_getD, List.getD_eq_getElem?_getD, List.getElem?_append_left (by omega)]
  · rw [pack_length] at h1
    have e1 : (pack l ++ [UInt8.ofNat (128 * bv b)]).getD (i / 8) 0 = UInt8.ofNat (128 * bv b) := by
      rw [List.getD_eq_getElem?_getD, List.getElem?_append_right (by rw [pack_length]; exact h1), pack_length, show i / 8 - (l.length + 7) / 8 = 0 from by omega]
      rfl
    rw [e1, ofNat_val _ (by have := bv_lt b; omega)]
    by_cases h0 : i = l.length
    · subst h0
      rw [List.getD_eq_getElem?_getD, List.getElem?_append_right (Nat.le_refl _), Nat.sub_self, h]
      cases b <;> rfl
    · rw [List.getD_eq_getElem?_getD, List.getElem?_eq_none (by rw [List.length_append, List.length_singleton]; omega)]
      have hj : i % 8 = 1 ∨ i % 8 = 2 ∨ i % 8 = 3 ∨ i % 8 = 4 ∨ i % 8 = 5 ∨ i % 8 = 6 ∨ i % 8 = 7 := by omega
      rcases hj with hj | hj | hj | hj | hj | hj | hj <;> rw [hj] <;> cases b <;> rfl
theorem val_set (a : List Bool) (j : Nat) (h : j < a.length) (h0 : a[j] = false) (b : Bool) : val (a.set j b) = val a + bv b * 2 ^ (a.length - 1 - j) := by
  have e1 : a.set j b = a.take j ++ b :: a.drop (j + 1) := by rw [List.set_eq_take_append_cons_drop, if_pos h]
  have e2 : a = a.take j ++ false :: a.drop (j + 1) := by
    rw [← h0, ← List.drop_eq_getElem_cons h, List.take_append_drop]
  have e3 : val a = val (a.take j ++ false :: a.drop (j + 1)) := by rw [← e2]
  rw [e1, e3, val_append, val_append, val_cons, val_cons, List.length_drop, List.length_cons, List.length_cons, List.length_drop, show a.length - (j + 1) = a.length - 1 - j from by omega]
  show _ + (_ + _) = _ + (0 * _ + _) + _
  omega
theorem eight_at (l : List Bool) (k j : Nat) (h : j < 8) : (eight l k)[j]'(by rw [eight_length]; exact h) = l.getD (8 * k + j) false := by simp [eight]
theorem pack_snoc_set (l : List Bool) (b : Bool) (h : l.length % 8 ≠ 0) :
    pack (l ++ [b]) = (pack l).set (l.length / 8) (UInt8.ofNat (((pack l).getD (l.length / 8) 0).toNat + bv b * 2 ^ (7 - l.length % 8))) := by
  have hk : l.length / 8 < (l.length + 7) / 8 := by omega
  have h8 : eight (l ++ [b]) (l.length / 8) = (eight l (l.length / 8)).set (l.length % 8) b := by
    refine List.ext_getElem (by rw [List.length_set, eight_length, eight_length]) fun j h1 h2 => ?_
    rw [eight_length] at h1
    rw [eight_at _ _ _ h1, List.getElem_set, eight_at _ _ _ h1]
    split
    · rename_i he
      subst he
      rw [show 8 * (l.length / 8) + l.length % 8 = l.length from by omega, List.getD_eq_getElem?_getD, List.getElem?_append_right (Nat.le_refl _), Nat.sub_self]
      rfl
    · rename_i he
      rw [List.getD_eq_getElem?_getD, List.getD_eq_getElem?_getD]
      rcases Nat.lt_or_ge (8 * (l.length / 8) + j) l.length with hlt | hge
      · rw [List.getElem?_append_left hlt]
      · rw [List.getElem?_eq_none (by rw [List.length_append, List.length_singleton]; omega), List.getElem?_eq_none hge]
  have h0 : (eight l (l.length / 8))[l.length % 8]'(by rw [eight_length]; omega) = false := by
    rw [eight_at _ _ _ (by omega), show 8 * (l.length / 8) + l.length % 8 = l.length from by omega, List.getD_eq_getElem?_getD, List.getElem?_eq_none (Nat.le_refl _)]
    rfl
  have hv := val_set (eight l (l.length / 8)) (l.length % 8) (by rw [eight_length]; omega) h0 b
  rw [eight_length, ← h8, show 8 - 1 - l.length % 8 = 7 - l.length % 8 from rfl] at hv
  refine List.ext_getElem (by rw [List.length_set, pack_length, pack_length, List.length_append, List.length_singleton]; omega) fun i h1 h2 => ?_
  rw [pack_length, List.length_append, List.length_singleton] at h1
  have g : ∀ (m : List Bool) (hi : i < (pack m).length), (pack m)[i] = UInt8.ofNat (val (eight m i)) := by
    intro m hi
    simp [pack]
  rw [g, List.getElem_set]
  split
  · rename_i he
    subst he
    rw [hv, pack_at l _ hk, ofNat_val _ (eight_lt l _)]
  · rename_i he
    rw [g]
    congr 2
    refine List.ext_getElem (by rw [eight_length, eight_length]) fun j h3 h4 => ?_
    rw [eight_length] at h3
    rw [eight_at _ _ _ h3, eight_at _ _ _ h3, List.getD_eq_getElem?_getD, List.getD_eq_getElem?_getD, List.getElem?_append_left (by omega)]

end Go.Proofs.Ytibbligidncocaa

namespace Go.Proofs.Ytibbligidncocaa

/-- How many binary digits. -/
def digits (x : Nat) : Nat := if x = 0 then 0 else Nat.log2 x + 1
/-- A number's bits: noughts, and its digits. -/
def gam (x : Nat) : List Bool := if x = 0 then [] else List.replicate (digits x - 1) false ++ numB x (digits x)
/-- How many noughts stand ahead. -/
def noughts (l : List Bool) : Nat := (l.takeWhile (· == false)).length
/-- The number that begins at a place, and where it ends. -/
def getG (l : List Bool) (i : Nat) : Option (Nat × Nat) :=
  if 64 ≤ noughts (l.drop i) then none
  else if i + 2 * noughts (l.drop i) + 1 ≤ l.length then some (val ((l.drop (i + noughts (l.drop i))).take (noughts (l.drop i) + 1)), i + 2 * noughts (l.drop i) + 1) else none

theorem digits_zero : digits 0 = 0 := rfl
theorem digits_bounds (x : Nat) (h : x ≠ 0) : 2 ^ (digits x - 1) ≤ x ∧ x < 2 ^ digits x ∧ 1 ≤ digits x := by
  unfold digits
  rw [if_neg h, Nat.add_sub_cancel]
  exact ⟨Nat.log2_self_le h, Nat.lt_log2_self, by omega⟩
theorem digits_eq {x k : Nat} (h0 : 2 ^ k ≤ x) (h1 : x < 2 ^ (k + 1)) : digits x = k + 1 := by
  have hp : 0 < 2 ^ k := Nat.pow_pos (by omega)
  have hx : x ≠ 0 := by omega
  obtain ⟨a, b, c⟩ := digits_bounds x hx
  have h2 : k < digits x := (Nat.pow_lt_pow_iff_right (by omega : 1 < 2)).1 (Nat.lt_of_le_of_lt h0 b)
  have h3 : digits x - 1 < k + 1 := (Nat.pow_lt_pow_iff_right (by omega : 1 < 2)).1 (Nat.lt_of_le_of_lt a h1)
  omega
theorem digits_half (x : Nat) (h : x ≠ 0) : digits x = digits (x / 2) + 1 := by
  obtain ⟨a, b, c⟩ := digits_bounds x h
  by_cases h2 : x / 2 = 0
  · rw [h2, digits_zero]
    have : x = 1 := by omega
    subst this
    exact digits_eq (k := 0) (by decide) (by decide)
  · have hd : 2 ≤ digits x := by
      rcases Nat.lt_or_ge (digits x) 2 with h3 | h3
      · have : digits x = 1 := by omega
        rw [this] at b
        omega
      · exact h3
    have e1 : 2 ^ (digits x - 1) = 2 * 2 ^ (digits x - 2) := by rw [← Nat.pow_succ']; congr 1; omega
    have e2 : 2 ^ digits x = 2 * 2 ^ (digits x - 1) := by rw [← Nat.pow_succ']; congr 1; omega
    have := digits_eq (x := x / 2) (k := digits x - 2) (by omega) (by rw [show digits x - 2 + 1 = digits x - 1 from by omega]; omega)
    omega
theorem digits_64 (x : Nat) (h : x < 18446744073709551616) : digits x ≤ 64 := by
  by_cases h0 : x = 0
  · subst h0; decide
  · obtain ⟨a, b, c⟩ := digits_bounds x h0
    have : 2 ^ (digits x - 1) < 2 ^ 64 := Nat.lt_of_le_of_lt a h
    have := (Nat.pow_lt_pow_iff_right (by omega : 1 < 2)).1 this
    omega
theorem digits_mono {x y : Nat} (h : x ≤ y) : digits x ≤ digits y := by
  by_cases hx : x = 0
  · subst hx; rw [digits_zero]; omega
  · obtain ⟨a, b, c⟩ := digits_bounds x hx
    obtain ⟨a2, b2, c2⟩ := digits_bounds y (by omega)
    have := (Nat.pow_lt_pow_iff_right (by omega : 1 < 2)).1 (Nat.lt_of_le_of_lt a (Nat.lt_of_le_of_lt h b2))
    omega
theorem gam_length (x : Nat) : (gam x).length = 2 * digits x - 1 := by
  unfold gam
  split
  · rename_i h
    subst h
    rfl
  · rename_i h
    have := (digits_bounds x h).2.2
    rw [List.length_append, List.length_replicate, numB_length]
    omega
theorem top_bit (x : Nat) (h : x ≠ 0) : numB x (digits x) = true :: numB x (digits x - 1) := by
  obtain ⟨a, b, c⟩ := digits_bounds x h
  have e : digits x = (digits x - 1) + 1 := by omega
  have hb : bit x (digits x - 1) = true := by
    unfold bit
    have : x / 2 ^ (digits x - 1) = 1 := by
      have hp : 0 < 2 ^ (digits x - 1) := Nat.pow_pos (by omega)
      have e2 : 2 ^ digits x = 2 * 2 ^ (digits x - 1) := by rw [← Nat.pow_succ']; congr 1
      have h1 : 1 ≤ x / 2 ^ (digits x - 1) := (Nat.le_div_iff_mul_le hp).2 (by omega)
      have h2 : x / 2 ^ (digits x - 1) < 2 := (Nat.div_lt_iff_lt_mul hp).2 (by omega)
      omega
    rw [this]
    rfl
  rw [e, numB, hb, Nat.add_sub_cancel]
theorem noughts_rep (k : Nat) (r : List Bool) : noughts (List.replicate k false ++ true :: r) = k := by
  unfold noughts
  induction k with
  | zero => rfl
  | succ k ih => rw [List.replicate_succ, List.cons_append, List.takeWhile_cons_of_pos (by rfl), List.length_cons, ih]
/-- What is put is told again, whatever stands about. -/
theorem getG_gam (a r : List Bool) (x : Nat) (h : x ≠ 0) (h64 : x < 18446744073709551616) : getG (a ++ gam x ++ r) a.length = some (x, a.length + (gam x).length) := by
  obtain ⟨b0, b1, b2⟩ := digits_bounds x h
  have hd := digits_64 x h64
  have hg : gam x = List.replicate (digits x - 1) false ++ numB x (digits x) := by unfold gam; rw [if_neg h]
  have e1 : (a ++ gam x ++ r).drop a.length = List.replicate (digits x - 1) false ++ true :: (numB x (digits x - 1) ++ r) := by
    rw [List.append_assoc, List.drop_left, hg, top_bit x h]
    simp
  have e2 : noughts ((a ++ gam x ++ r).drop a.length) = digits x - 1 := by rw [e1, noughts_rep]
  have e3 : ((a ++ gam x ++ r).drop (a.length + (digits x - 1))).take (digits x) = numB x (digits x) := by
    rw [hg, ← List.drop_drop, List.append_assoc, List.drop_left, List.append_assoc]
    rw [List.drop_left' (by rw [List.length_replicate]), List.take_left' (by rw [numB_length])]
  unfold getG
  rw [e2, if_neg (by omega), gam_length]
  rw [show digits x - 1 + 1 = digits x from by omega, e3, val_numB, Nat.mod_eq_of_lt b1]
  rw [if_pos (by rw [List.length_append, List.length_append, gam_length]; omega)]
  rw [show a.length + 2 * (digits x - 1) + 1 = a.length + (2 * digits x - 1) from by omega]

/-- How many of the first i are set. -/
def ones (l : List Bool) (i : Nat) : Nat := (l.take i).count true
theorem ones_zero (l : List Bool) : ones l 0 = 0 := rfl
theorem ones_succ (l : List Bool) (i : Nat) (h : i < l.length) : ones l (i + 1) = ones l i + bv l[i] := by
  unfold ones
  rw [List.take_succ_eq_append_getElem h, List.count_append]
  cases l[i] <;> rfl
theorem ones_all (l : List Bool) (i : Nat) (h : l.length ≤ i) : ones l i = l.count true := by
  unfold ones
  rw [List.take_of_length_le h]
theorem ones_le (l : List Bool) (i : Nat) : ones l i ≤ i := by
  unfold ones
  exact Nat.le_trans List.count_le_length (List.length_take_le _ _)
theorem ones_mono (l : List Bool) {i j : Nat} (h : i ≤ j) : ones l i ≤ ones l j := by
  unfold ones
  exact List.Sublist.count_le _ (List.take_sublist_take_left h)
/-- Where the n-th one that is set stands. -/
def place (l : List Bool) (n : Nat) : Option Nat := (List.range l.length).find? fun i => l.getD i false && ones l i == n
theorem place_some {l : List Bool} {n i : Nat} (h : place l n = some i) : i < l.length ∧ l.getD i false = true ∧ ones l i = n := by
  have h1 := List.find?_some h
  have h2 := List.mem_of_find?_eq_some h
  rw [List.mem_range] at h2
  rw [Bool.and_eq_true, beq_iff_eq] at h1
  exact ⟨h2, h1.1, h1.2⟩
theorem place_at (l : List Bool) (i : Nat) (h : i < l.length) (hi : l[i] = true) : place l (ones l i) = some i := by
  cases hp : place l (ones l i) with
  | none =>
    have := List.find?_eq_none.1 hp i (List.mem_range.2 h)
    simp [List.getD_eq_getElem?_getD, h, hi] at this
  | some j =>
    obtain ⟨h1, h2, h3⟩ := place_some hp
    have hj : l[j] = true := by simpa [List.getD_eq_getElem?_getD, h1] using h2
    rcases Nat.lt_trichotomy i j with hij | hij | hij
    · have := ones_mono l (show i + 1 ≤ j from hij)
      rw [ones_succ l i h, hi] at this
      simp [bv] at this
      omega
    · rw [hij]
    · have := ones_mono l (show j + 1 ≤ i from hij)
      rw [ones_succ l j h1, hj] at this
      simp [bv] at this
      omega
theorem place_none (l : List Bool) (n : Nat) : place l n = none ↔ l.count true ≤ n := by
  constructor
  · intro h
    rcases Nat.lt_or_ge n (l.count true) with hlt | hge
    · exfalso
      have key : ∀ k, k ≤ l.length → n < ones l k → False := by
        intro k
        induction k with
        | zero => intro _ h0; rw [ones_zero] at h0; omega
        | succ k ih =>
          intro hk h0
          rw [ones_succ l k (by omega)] at h0
          rcases Nat.lt_or_ge n (ones l k) with h1 | h1
          · exact ih (by omega) h1
          · cases hb : l[k] with
            | false => rw [hb] at h0; simp [bv] at h0; omega
            | true =>
              rw [hb] at h0
              have : ones l k = n := by simp [bv] at h0; omega
              have hp := place_at l k (by omega) hb
              rw [this, h] at hp
              cases hp
      exact key l.length (Nat.le_refl _) (by rw [ones_all l _ (Nat.le_refl _)]; exact hlt)
    · exact hge
  · intro h
    cases hp : place l n with
    | none => rfl
    | some i =>
      obtain ⟨h1, h2, h3⟩ := place_some hp
      have hi : l[i] = true := by simpa [List.getD_eq_getElem?_getD, h1] using h2
      have := ones_mono l (show i + 1 ≤ l.length from h1)
      rw [ones_succ l i h1, hi, ones_all l _ (Nat.le_refl _)] at this
      simp [bv] at this
      omega

end Go.Proofs.Ytibbligidncocaa
