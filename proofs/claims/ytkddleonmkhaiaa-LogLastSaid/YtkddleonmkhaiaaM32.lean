/-
  Bits by pieces: a number's bits in two pieces, a piece behind the last bit of bytes, a piece out of one byte: mathematics alone.
  Slices of bools.
  A slice of bools that came in.
-/
import Derived.Test.YtkddleonmkhaiaaM31
import Derived.Test.YtkddleonmkhaiaaM02
import Derived.Laws.BitsAllLaws
import Derived.LoopTactic
import Derived.Deep.Grids
namespace Go.Proofs.Ytkddleonmkhaiaa

theorem bit_test (x n : Nat) : bit x n = x.testBit n := by
  unfold bit
  rw [Nat.testBit_eq_decide_div_mod_eq]
  by_cases h : x / 2 ^ n % 2 = 1 <;> simp [h]
theorem numB_split (x b : Nat) : ∀ a, numB x (a + b) = numB (x / 2 ^ b) a ++ numB x b
  | 0 => by rw [Nat.zero_add]; rfl
  | a + 1 => by
    rw [show a + 1 + b = (a + b) + 1 from by omega, numB, numB, List.cons_append, ← numB_split x b a]
    congr 1
    unfold bit
    rw [Nat.div_div_eq_div_mul, ← Nat.pow_add, Nat.add_comm b a]
theorem numB_take (x n t : Nat) (h : t ≤ n) : (numB x n) = numB (x / 2 ^ (n - t)) t ++ numB x (n - t) := by
  have := numB_split x (n - t) t
  rwa [show t + (n - t) = n from by omega] at this
theorem val_drop (m : List Bool) (p : Nat) : val (m.drop p) = val m % 2 ^ (m.length - p) := by
  have h1 := val_append (m.take p) (m.drop p)
  rw [List.take_append_drop, List.length_drop] at h1
  have h2 := val_lt (m.drop p)
  rw [List.length_drop] at h2
  rw [h1, Nat.add_comm, Nat.add_mul_mod_self_right, Nat.mod_eq_of_lt h2]
theorem val_take (m : List Bool) (t : Nat) : val (m.take t) = val m / 2 ^ (m.length - t) := by
  have h1 := val_append (m.take t) (m.drop t)
  rw [List.take_append_drop, List.length_drop] at h1
  have h2 := val_lt (m.drop t)
  rw [List.length_drop] at h2
  rw [h1, Nat.add_comm, Nat.add_mul_div_right _ _ (Nat.pow_pos (by omega)), Nat.div_eq_of_lt h2, Nat.zero_add]
/-- A piece out of eight bits. -/
theorem val_piece (m : List Bool) (p t : Nat) (h8 : m.length = 8) (h : p + t ≤ 8) : val ((m.drop p).take t) = val m * 2 ^ p % 256 / 2 ^ (8 - t) := by
  rw [val_take, val_drop, List.length_drop, h8]
  have e : 256 = 2 ^ (8 - p) * 2 ^ p := by rw [← Nat.pow_add, show 8 - p + p = 8 from by omega]
  rw [e, Nat.mul_mod_mul_right, show 8 - t = p + (8 - p - t) from by omega, Nat.pow_add, ← Nat.div_div_eq_div_mul, Nat.mul_div_cancel _ (Nat.pow_pos (by omega))]
theorem pack_getElem (l : List Bool) (k : Nat) (h : k < (pack l).length) : (pack l)[k] = UInt8.ofNat (val (eight l k)) := by simp [pack]
/-- t bits from one on, all in one byte. -/
theorem pack_piece (l : List Bool) (at_ t : Nat) (h : at_ % 8 + t ≤ 8) (h2 : at_ + t ≤ l.length) (ht : 0 < t) (hk : at_ / 8 < (pack l).length) :
    (pack l)[at_ / 8].toNat * 2 ^ (at_ % 8) % 256 / 2 ^ (8 - t) = val ((l.drop at_).take t) := by
  rw [pack_getElem, ofNat_val _ (eight_lt l _), ← val_piece _ _ _ (eight_length l _) h]
  congr 1
  refine List.ext_getElem (by simp only [List.length_take, List.length_drop, eight_length]; omega) fun j h3 h4 => ?_
  simp only [List.length_take, List.length_drop, eight_length] at h3 h4
  rw [List.getElem_take, List.getElem_take, List.getElem_drop, List.getElem_drop, eight_at _ _ _ (by omega), List.getD_eq_getElem?_getD, List.getElem?_eq_getElem (by omega)]
  simp only [Option.getD_some]
  congr 1
  omega
theorem take_more (l : List Bool) (i j t : Nat) : ((l.drop i).take j) ++ ((l.drop (i + j)).take t) = (l.drop i).take (j + t) := by
  rw [List.take_add, List.drop_drop]
/-- Put behind what has been gathered. -/
theorem or_val (x p t : Nat) (h : p < 2 ^ t) : x * 2 ^ t ||| p = x * 2 ^ t + p := by
  have := Nat.shiftLeft_add_eq_or_of_lt h x
  rw [Nat.shiftLeft_eq] at this
  exact this.symm

/-- Bytes with room for one bit more. -/
def room (l : List Bool) : List UInt8 := if l.length % 8 = 0 then pack l ++ [0] else pack l
theorem room_length (l : List Bool) : (room l).length = l.length / 8 + 1 := by
  unfold room
  split
  · rw [List.length_append, pack_length, List.length_singleton]; omega
  · rw [pack_length]; omega
theorem bitAt_room (l : List Bool) (i : Nat) : bitAt (room l) i = l.getD i false := by
  unfold room
  split
  · rename_i h
    rw [← bitAt_pack]
    unfold bitAt
    rcases Nat.lt_or_ge (i / 8) (pack l).length with h1 | h1
    · rw [List.getD_eq_getElem?_getD, List.getD_eq_getElem?_getD, List.getElem?_append_left h1]
    · rw [List.getD_eq_getElem?_getD, List.getD_eq_getElem?_getD, List.getElem?_append_right h1, List.getElem?_eq_none h1]
      rcases Nat.eq_zero_or_pos (i / 8 - (pack l).length) with h2 | h2
      · rw [h2]; rfl
      · rw [List.getElem?_eq_none (by simp only [List.length_singleton]; omega)]
  · exact bitAt_pack l i
/-- The byte that a piece is put into. -/
def putByte (o c t u : Nat) : Nat := o ||| c * 2 ^ (8 - t) / 2 ^ u
theorem putByte_lt (o c t u : Nat) (ho : o < 256) (hc : c < 2 ^ t) (ht : t ≤ 8) : putByte o c t u < 256 := by
  unfold putByte
  have h1 : c * 2 ^ (8 - t) < 2 ^ 8 := by
    have : 2 ^ 8 = 2 ^ t * 2 ^ (8 - t) := by rw [← Nat.pow_add]; congr 1; omega
    rw [this]
    exact Nat.mul_lt_mul_of_pos_right hc (Nat.pow_pos (by omega))
  have h2 := Nat.div_le_self (c * 2 ^ (8 - t)) (2 ^ u)
  exact Nat.or_lt_two_pow (n := 8) (by omega) (by omega)
/-- A piece behind the last bit. -/
theorem pack_more (l c : List Bool) (h : l.length % 8 + c.length ≤ 8) (hc : 0 < c.length) :
    pack (l ++ c) = (room l).set (l.length / 8) (UInt8.ofNat (putByte ((room l).getD (l.length / 8) 0).toNat (val c) c.length (l.length % 8))) := by
  have hv := val_lt c
  refine bytes_ext (by rw [List.length_set, room_length, pack_length, List.length_append]; omega) fun i hi => ?_
  rw [pack_length, List.length_append] at hi
  rw [bitAt_pack]
  by_cases hk : i / 8 = l.length / 8
  · have e1 : ((room l).set (l.length / 8) (UInt8.ofNat (putByte ((room l).getD (l.length / 8) 0).toNat (val c) c.length (l.length % 8)))).getD (i / 8) 0 = UInt8.ofNat (putByte ((room l).getD (l.length / 8) 0).toNat (val c) c.length (l.length % 8)) := by
      rw [hk, List.getD_eq_getElem?_getD, List.getElem?_set_self (by rw [room_length]; omega), Option.getD_some]
    have e2 := bitAt_room l i
    unfold bitAt at e2 ⊢
    rw [e1, ofNat_val _ (putByte_lt _ _ _ _ (UInt8.toNat_lt _) hv (by omega))]
    unfold putByte
    rw [bit_test, Nat.testBit_or, ← hk, ← bit_test, e2, Nat.testBit_div_two_pow, Nat.testBit_mul_two_pow]
    rcases Nat.lt_or_ge i l.length with hlt | hge
    · rw [List.getD_eq_getElem?_getD, List.getD_eq_getElem?_getD, List.getElem?_append_left hlt]
      have hz : (decide (8 - c.length ≤ 7 - i % 8 + l.length % 8) && (val c).testBit (7 - i % 8 + l.length % 8 - (8 - c.length))) = false := by
        have : val c < 2 ^ (7 - i % 8 + l.length % 8 - (8 - c.length)) := Nat.lt_of_lt_of_le hv (Nat.pow_le_pow_right (by omega) (by omega))
        rw [Nat.testBit_lt_two_pow this, Bool.and_false]
      rw [hz, Bool.or_false]
    · rw [List.getD_eq_getElem?_getD, List.getD_eq_getElem?_getD, List.getElem?_eq_none hge, List.getElem?_append_right hge, Option.getD_none, Bool.false_or]
      rcases Nat.lt_or_ge (i - l.length) c.length with h1 | h1
      · have hb := bit_val c (i - l.length) h1
        rw [List.getElem?_eq_getElem h1, Option.getD_some, ← hb, bit_test, show 7 - i % 8 + l.length % 8 - (8 - c.length) = c.length - 1 - (i - l.length) from by omega, decide_eq_true (by omega), Bool.true_and]
      · rw [List.getElem?_eq_none h1, Option.getD_none]
        have : ¬ (8 - c.length ≤ 7 - i % 8 + l.length % 8) := by omega
        rw [decide_eq_false this, Bool.false_and]
  · have e1 : ((room l).set (l.length / 8) (UInt8.ofNat (putByte ((room l).getD (l.length / 8) 0).toNat (val c) c.length (l.length % 8)))).getD (i / 8) 0 = (room l).getD (i / 8) 0 := by
      rw [List.getD_eq_getElem?_getD, List.getElem?_set_ne (by omega), ← List.getD_eq_getElem?_getD]
    have e2 := bitAt_room l i
    unfold bitAt at e2 ⊢
    rw [e1, e2, List.getD_eq_getElem?_getD, List.getD_eq_getElem?_getD, List.getElem?_append_left (by omega)]

end Go.Proofs.Ytkddleonmkhaiaa

namespace Go.Proofs.Ytkddleonmkhaiaa
open Go.RowKit

def zb (l : List Bool) : List Value := l.map Value.bool
theorem zb_length (l : List Bool) : (zb l).length = l.length := by simp [zb]
theorem zb_append (l m : List Bool) : zb (l ++ m) = zb l ++ zb m := by simp [zb]
theorem zb_at (l : List Bool) (i : Nat) (h : i < l.length) : (zb l)[i]'(by rw [zb_length]; exact h) = .bool l[i] := by simp [zb]
theorem zb_one (l : List Bool) : ∀ u ∈ zb l, u.oneCell' = true := by
  intro u hu
  obtain ⟨n, -, rfl⟩ := List.mem_map.1 hu
  rfl
/-- A bool of it. -/
theorem RV.zbAt {w : World} {a : Option Addr} {len cap : Nat} {l : List Bool} (h : RV w (.slice a len cap) (zb l)) (k : Nat) (hk : k < l.length) : ∃ b o, a = some ⟨b, o, none⟩ ∧ w.cell? ⟨b, o + k, none⟩ = some (.bool l[k]) ∧ b < w.heap.size := by
  obtain ⟨b, o, h1, h2, h3⟩ := h.at k (by rw [zb_length]; exact hk)
  rw [zb_at l k hk] at h2
  exact ⟨b, o, h1, h2, h3⟩
theorem RV.zbForm {w : World} {v : Value} {l : List Bool} (h : RV w v (zb l)) : ∃ a cap, v = .slice a l.length cap ∧ l.length ≤ 9223372036854775807 ∧ (a = none → l.length = 0) := by
  obtain ⟨a, cap, hv, h1, h2, h3, -⟩ := h
  rw [zb_length] at hv h1
  refine ⟨a, cap, hv, by unfold maxLen at h2; omega, fun ha => by have := h3 ha; omega⟩

theorem RV.zbCap {w : World} {a : Option Addr} {len cap : Nat} {l : List Bool} (h : RV w (.slice a len cap) (zb l)) : l.length ≤ cap := by
  obtain ⟨a', cap', hv, h1, -⟩ := h
  simp only [Value.slice.injEq] at hv
  obtain ⟨rfl, rfl, rfl⟩ := hv
  rw [zb_length] at h1
  exact h1
theorem RV.zbTake {w : World} {a : Option Addr} {len cap : Nat} {l : List Bool} (h : RV w (.slice a len cap) (zb l)) (n : Nat) (hn : n ≤ l.length) : RV w (.slice a n cap) (zb (l.take n)) := by
  obtain ⟨a', cap', hv, h1, h2, h3, h4⟩ := h
  simp only [Value.slice.injEq] at hv
  obtain ⟨rfl, rfl, rfl⟩ := hv
  rw [zb_length] at h1
  have hlen : (zb (l.take n)).length = n := by rw [zb_length, List.length_take]; omega
  refine ⟨a, cap, by rw [hlen], by rw [hlen]; omega, h2, h3, fun hne => ?_⟩
  obtain ⟨b, o, ha, hc⟩ := h4 (by intro e; rw [← List.length_eq_zero_iff, zb_length] at e; apply hne; rw [← List.length_eq_zero_iff, hlen]; omega)
  refine ⟨b, o, ha, fun i hi => ?_⟩
  rw [hlen] at hi
  have := hc i (by rw [zb_length]; omega)
  rw [zb_at l i (by omega)] at this
  rw [this, zb_at _ i (by rw [List.length_take]; omega)]
  simp
/-- 'append(s, x...)', s the call's own, x whatever reads as m: bools. -/
theorem wpList_append_zb {P : Program} {ops : Array Oper} {rest : List Oper} {o : Oper} {a : Act} {w : World} {Q : Exit → Act → World → Prop} (hgd : o.guard = none) (s x : Operand) (t : TypeId)
    (ho : o.op = .call { callee := .builtin .append, args := #[s, x], argTypes := #[t, t] })
    (B : Nat) (e : TypeId) (ht : P.underlying t = some (.slice e)) (hinfo : (P.info? e).map (fun i => (i.zero, i.size, i.bytes)) = some (some (.bool false), 1, 1))
    (v xv : Value) (l m : List Bool) (hs : a.eval s = v) (hx : a.eval x = xv) (hown : OwnV e w B v (zb l)) (hrb : RV w xv (zb m))
    (hlen : l.length + m.length ≤ 140737488355328) (hbase : B ≤ w.heap.size)
    (h : ∀ v' w', OwnV e w' B v' (zb (l ++ m)) → w.grownBy w' v.ownBlock → wpList P ops Q rest (a.put o.dst v') w') : wpList P ops Q (o :: rest) a w := by
  refine wpList_append_RV hgd s x t ho B e ht (.bool false) 1 rfl hinfo v xv (zb l) (zb m) hs hx hown hrb (zb_one m) (by rw [zb_length, zb_length]; omega) (by rw [zb_length, zb_length]; omega) hbase fun v' w' h1 h2 => h v' w' ?_ h2
  rw [zb_append]
  exact h1
/-- 'make([]bool, n)'. -/
theorem wpList_make_zb {P : Program} {ops : Array Oper} {rest : List Oper} {o : Oper} {a : Act} {w : World} {Q : Exit → Act → World → Prop} (hgd : o.guard = none) (lo co : Operand) (t : TypeId)
    (hop : o.op = Op.makeSlice t lo co) (e : TypeId) (ht : P.underlying t = some (.slice e)) (hinfo : (P.info? e).map (fun i => (i.zero, i.size, i.bytes)) = some (some (.bool false), 1, 1))
    (kl kc : IntKind) (L : Int) (n : Nat) (hl : a.eval lo = .int kl L) (hc : a.eval co = .int kc L) (hL : L = (n : Int)) (hcm : n ≤ 140737488355328)
    (h : ∀ v w', OwnV e w' w.heap.size v (zb (List.replicate n false)) → Below w.heap.size w w' → wpList P ops Q rest (a.put o.dst v) w') : wpList P ops Q (o :: rest) a w := by
  obtain ⟨i, hi, hz, hsize, hby⟩ := info_parts hinfo
  subst hL
  have hr := run_make (P := P) w t e i (.bool false) ht hi hz kl kc n n (by omega) (by omega) (by rw [hby]; omega) (by omega)
  simp only [Int.toNat_natCast, hsize, Nat.mul_one] at hr
  refine wpList_gives hgd (.slice (some ⟨w.heap.size, 0, none⟩) n n) (w.alloc (.cells (madeCells (Value.bool false).cells n) e)) (by simp [execOp, hop, hl, hc, hr, Result.andThen]) (h _ _ ?_ (grown_below (World.grownBy_alloc w _ none) (Nat.le_refl _) (by simp)))
  refine ⟨by simp, .inr ⟨w.heap.size, n, madeCells #[Value.bool false] n, (by simp [zb]), Nat.le_refl _, ?_, by simp [zb], by unfold maxLen; omega, by simp [size_madeCells], ?_⟩⟩
  · exact heap_alloc_new w _
  · rw [toList_madeCells_one, List.take_replicate]
    simp [zb]
theorem grown_new {w w' : World} (hg : w.grownBy w' (Value.slice none 0 0).ownBlock) : Below w.heap.size w w' := grown_below hg (Nat.le_refl _) (by simp [Value.ownBlock])
/-- Bools that are written out, in a new block of their own. -/
theorem RV.zbLits (w : World) (e : TypeId) (l : List Bool) (arr : Array Value) (n : Nat) (h : arr = (zb l).toArray) (hn : n = l.length) (hm : l.length ≤ 1000) : RV (w.alloc (.cells arr e)) (.slice (some ⟨w.heap.size, 0, none⟩) n n) (zb l) := by
  subst h hn
  refine ⟨some ⟨w.heap.size, 0, none⟩, l.length, by rw [zb_length], by rw [zb_length]; exact Nat.le_refl _, by unfold maxLen; omega, (fun h => by cases h), fun _ => ⟨w.heap.size, 0, rfl, fun i hi => ?_⟩⟩
  rw [cell_of_row _ w.heap.size (0 + i) (zb l).toArray e (0, 0) (heap_alloc_new w _)]
  simp [hi]
theorem RV.zbOne (w : World) (e : TypeId) (t : Bool) : RV (w.alloc (.cells #[.bool t] e)) (.slice (some ⟨w.heap.size, 0, none⟩) 1 1) (zb [t]) := RV.one w e (.bool t)
theorem infoB : (Try.prog.info? 4).map (fun i => (i.zero, i.size, i.bytes)) = some (some (.bool false), 1, 1) := by kernel_rfl

end Go.Proofs.Ytkddleonmkhaiaa

namespace Go.Proofs.Ytkddleonmkhaiaa
open Go.RowKit

theorem open_zb {H : Type} {enc : TypeId × Value → H} {W : World} {t e : TypeId} {a : Option Addr} {len cap : Nat} {d : DataW H} {p : List MemPlace} (ht : Try.prog.underlying t = some (.slice e)) (he : Try.prog.underlying e = some .bool) (hc : Try.prog.cellsOf e = 1)
    (h : DataW.Trod enc Try.prog W 0 (fun _ => true) true t (.slice a len cap) d p) : ∃ l : List Bool, RV W (.slice a len cap) (zb l) := by
  obtain ⟨fuel, hf⟩ := h
  rcases Go.Deep.open_bools ht he hc hf with ⟨hcs, -⟩ | ⟨x, l, c, B, hcs, -, hl, hm, -, hcell⟩
  · simp [Value.cells] at hcs
    obtain ⟨rfl, rfl, rfl⟩ := hcs
    exact ⟨[], none, 0, rfl, Nat.le_refl _, by simp [maxLen], fun _ => rfl, fun h => absurd rfl h⟩
  · simp [Value.cells] at hcs
    obtain ⟨rfl, rfl, rfl⟩ := hcs
    refine ⟨(List.range len).map B, some x, cap, by simp [zb], by simpa [zb] using hl, hm, (fun h => by cases h), fun hne => ?_⟩
    have hpos : 0 < len := by
      rcases Nat.eq_zero_or_pos len with h0 | h0
      · subst h0; simp [zb] at hne
      · exact h0
    obtain ⟨b, o, spot⟩ := x
    have hspot : spot = none := by simpa [Addr.add] using World.cell?_spot (hcell 0 (by omega))
    subst hspot
    refine ⟨b, o, rfl, fun i hi => ?_⟩
    have hi' : i < len := by simpa [zb] using hi
    have h1 := hcell i (by omega)
    have hadd : (⟨b, o, none⟩ : Addr).add i = ⟨b, o + i, none⟩ := by unfold Addr.add; split <;> simp_all
    rw [hadd] at h1
    rw [h1]
    simp [zb]

end Go.Proofs.Ytkddleonmkhaiaa
