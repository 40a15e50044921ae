/-
  Bits by pieces: a number's bits in two pieces, a piece behind the last bit of bytes, a piece out of one byte: mathematics alone.
-/
import Derived.Test.YtmphcpggfgehhaaBitM
namespace Go.Proofs.Ytmphcpggfgehhaa

theorem bit_test (x n : Nat) : bit x n = x.testBit n := by
  unfold bit
  rw [Nat.testBit_eq_decide_div_mod_eq]
  by_cases h : x / 2 ^ n % 2 = 1 <;> simp [h]
theorem numB_split (x b : Nat) : ∀ a, numB x (a + b) = numB (x / 2 ^ b) a ++ numB x b
  | 0 => by rw [Nat.zero_add]; rfl
  | a + 1 => by
    rw [show a + 1 + b = (a + b) + 1 from by omega, numB, numB, List.cons_append, ← numB_split x b a]
    congr 1
    unfold bit
    rw [Nat.div_div_eq_div_mul, ← Nat.pow_add, Nat.add_comm b a]
theorem numB_take (x n t : Nat) (h : t ≤ n) : (numB x n) = numB (x / 2 ^ (n - t)) t ++ numB x (n - t) := by
  have := numB_split x (n - t) t
  rwa [show t + (n - t) = n from by omega] at this
theorem val_drop (m : List Bool) (p : Nat) : val (m.drop p) = val m % 2 ^ (m.length - p) := by
  have h1 := val_append (m.take p) (m.drop p)
  rw [List.take_append_drop, List.length_drop] at h1
  have h2 := val_lt (m.drop p)
  rw [List.length_drop] at h2
  rw [h1, Nat.add_comm, Nat.add_mul_mod_self_right, Nat.mod_eq_of_lt h2]
theorem val_take (m : List Bool) (t : Nat) : val (m.take t) = val m / 2 ^ (m.length - t) := by
  have h1 := val_append (m.take t) (m.drop t)
  rw [List.take_append_drop, List.length_drop] at h1
  have h2 := val_lt (m.drop t)
  rw [List.length_drop] at h2
  rw [h1, Nat.add_comm, Nat.add_mul_div_right _ _ (Nat.pow_pos (by omega)), Nat.div_eq_of_lt h2, Nat.zero_add]
/-- A piece out of eight bits. -/
theorem val_piece (m : List Bool) (p t : Nat) (h8 : m.length = 8) (h : p + t ≤ 8) : val ((m.drop p).take t) = val m * 2 ^ p % 256 / 2 ^ (8 - t) := by
  rw [val_take, val_drop, List.length_drop, h8]
  have e : 256 = 2 ^ (8 - p) * 2 ^ p := by rw [← Nat.pow_add, show 8 - p + p = 8 from by omega]
  rw [e, Nat.mul_mod_mul_right, show 8 - t = p + (8 - p - t) from by omega, Nat.pow_add, ← Nat.div_div_eq_div_mul, Nat.mul_div_cancel _ (Nat.pow_pos (by omega))]
theorem pack_getElem (l : List Bool) (k : Nat) (h : k < (pack l).length) : (pack l)[k] = UInt8.ofNat (val (eight l k)) := by simp [pack]
/-- t bits from one on, all in one byte. -/
theorem pack_piece (l : List Bool) (at_ t : Nat) (h : at_ % 8 + t ≤ 8) (h2 : at_ + t ≤ l.length) (ht : 0 < t) (hk : at_ / 8 < (pack l).length) :
    (pack l)[at_ / 8].toNat * 2 ^ (at_ % 8) % 256 / 2 ^ (8 - t) = val ((l.drop at_).take t) := by
  rw [pack_getElem, ofNat_val _ (eight_lt l _), ← val_piece _ _ _ (eight_length l _) h]
  congr 1
  refine List.ext_getElem (by simp only [List.length_take, List.length_drop, eight_length]; omega) fun j h3 h4 => ?_
  simp only [List.length_take, List.length_drop, eight_length] at h3 h4
  rw [List.getElem_take, List.getElem_take, List.getElem_drop, List.getElem_drop, eight_at _ _ _ (by omega), List.getD_eq_getElem?_getD, List.getElem?_eq_getElem (by omega)]
  simp only [Option.getD_some]
  congr 1
  omega
theorem take_more (l : List Bool) (i j t : Nat) : ((l.drop i).take j) ++ ((l.drop (i + j)).take t) = (l.drop i).take (j + t) := by
  rw [List.take_add, List.drop_drop]
/-- Put behind what has been gathered. -/
theorem or_val (x p t : Nat) (h : p < 2 ^ t) : x * 2 ^ t ||| p = x * 2 ^ t + p := by
  have := Nat.shiftLeft_add_eq_or_of_lt h x
  rw [Nat.shiftLeft_eq] at this
  exact this.symm

/-- Bytes with room for one bit more. -/
def room (l : List Bool) : List UInt8 := if l.length % 8 = 0 then pack l ++ [0] else pack l
theorem room_length (l : List Bool) : (room l).length = l.length / 8 + 1 := by
  unfold room
  split
  · rw [List.length_append, pack_length, List.length_singleton]; omega
  · rw [pack_length]; omega
theorem bitAt_room (l : List Bool) (i : Nat) : bitAt (room l) i = l.getD i false := by
  unfold room
  split
  · rename_i h
    rw [← bitAt_pack]
    unfold bitAt
    rcases Nat.lt_or_ge (i / 8) (pack l).length with h1 | h1
    · rw [List.getD_eq_getElem?_getD, List.getD_eq_getElem?_getD, List.getElem?_append_left h1]
    · rw [List.getD_eq_getElem?_getD, List.getD_eq_getElem?_getD, List.getElem?_append_right h1, List.getElem?_eq_none h1]
      rcases Nat.eq_zero_or_pos (i / 8 - (pack l).length) with h2 | h2
      · rw [h2]; rfl
      · rw [List.getElem?_eq_none (by simp only [List.length_singleton]; omega)]
  · exact bitAt_pack l i
/-- The byte that a piece is put into. -/
def putByte (o c t u : Nat) : Nat := o ||| c * 2 ^ (8 - t) / 2 ^ u
theorem putByte_lt (o c t u : Nat) (ho : o < 256) (hc : c < 2 ^ t) (ht : t ≤ 8) : putByte o c t u < 256 := by
  unfold putByte
  have h1 : c * 2 ^ (8 - t) < 2 ^ 8 := by
    have : 2 ^ 8 = 2 ^ t * 2 ^ (8 - t) := by rw [← Nat.pow_add]; congr 1; omega
    rw [this]
    exact Nat.mul_lt_mul_of_pos_right hc (Nat.pow_pos (by omega))
  have h2 := Nat.div_le_self (c * 2 ^ (8 - t)) (2 ^ u)
  exact Nat.or_lt_two_pow (n := 8) (by omega) (by omega)
/-- A piece behind the last bit. -/
theorem pack_more (l c : List Bool) (h : l.length % 8 + c.length ≤ 8) (hc : 0 < c.length) :
    pack (l ++ c) = (room l).set (l.length / 8) (UInt8.ofNat (putByte ((room l).getD (l.length / 8) 0).toNat (val c) c.length (l.length % 8))) := by
  have hv := val_lt c
  refine bytes_ext (by rw [List.length_set, room_length, pack_length, List.length_append]; omega) fun i hi => ?_
  rw [pack_length, List.length_append] at hi
  rw [bitAt_pack]
  by_cases hk : i / 8 = l.length / 8
  · have e1 : ((room l).set (l.length / 8) (UInt8.ofNat (putByte ((room l).getD (l.length / 8) 0).toNat (val c) c.length (l.length % 8)))).getD (i / 8) 0 = UInt8.ofNat (putByte ((room l).getD (l.length / 8) 0).toNat (val c) c.length (l.length % 8)) := by
      rw [hk, List.getD_eq_getElem?_getD, List.getElem?_set_self (by rw [room_length]; omega), Option.getD_some]
    have e2 := bitAt_room l i
    unfold bitAt at e2 ⊢
    rw [e1, ofNat_val _ (putByte_lt _ _ _ _ (UInt8.toNat_lt _) hv (by omega))]
    unfold putByte
    rw [bit_test, Nat.testBit_or, ← hk, ← bit_test, e2, Nat.testBit_div_two_pow, Nat.testBit_mul_two_pow]
    rcases Nat.lt_or_ge i l.length with hlt | hge
    · rw [List.getD_eq_getElem?_getD, List.getD_eq_getElem?_getD, List.getElem?_append_left hlt]
      have hz : (decide (8 - c.length ≤ 7 - i % 8 + l.length % 8) && (val c).testBit (7 - i % 8 + l.length % 8 - (8 - c.length))) = false := by
        have : val c < 2 ^ (7 - i % 8 + l.length % 8 - (8 - c.length)) := Nat.lt_of_lt_of_le hv (Nat.pow_le_pow_right (by omega) (by omega))
        rw [Nat.testBit_lt_two_pow this, Bool.and_false]
      rw [hz, Bool.or_false]
    · rw [List.getD_eq_getElem?_getD, List.getD_eq_getElem?_getD, List.getElem?_eq_none hge, List.getElem?_append_right hge, Option.getD_none, Bool.false_or]
      rcases Nat.lt_or_ge (i - l.length) c.length with h1 | h1
      · have hb := bit_val c (i - l.length) h1
        rw [List.getElem?_eq_getElem h1, Option.getD_some, ← hb, bit_test, show 7 - i % 8 + l.length % 8 - (8 - c.length) = c.length - 1 - (i - l.length) from by omega, decide_eq_true (by omega), Bool.true_and]
      · rw [List.getElem?_eq_none h1, Option.getD_none]
        have : ¬ (8 - c.length ≤ 7 - i % 8 + l.length % 8) := by omega
        rw [decide_eq_false this, Bool.false_and]
  · have e1 : ((room l).set (l.length / 8) (UInt8.ofNat (putByte ((room l).getD (l.length / 8) 0).toNat (val c) c.length (l.length % 8)))).getD (i / 8) 0 = (room l).getD (i / 8) 0 := by
      rw [List.getD_eq_getElem?_getD, List.getElem?_set_ne (by omega), ← List.getD_eq_getElem?_getD]
    have e2 := bitAt_room l i
    unfold bitAt at e2 ⊢
    rw [e1, e2, List.getD_eq_getElem?_getD, List.getD_eq_getElem?_getD, List.getElem?_append_left (by omega)]

end Go.Proofs.Ytmphcpggfgehhaa
