/-
  Bits by pieces: a number's bits in two pieces, a piece behind the last bit of bytes, a piece out of one byte: mathematics alone.
  A *bits.Bits in memory: what it holds; worlds in which two blocks may have changed. Plain facts.
  'append' to what the call itself owns, with one thing more than the library's law says: the row is the one it was, or a new one.
-/
import Derived.Test.YtibbligidncocaaM07
import Derived.Test.YtibbligidncocaaM01
namespace Go.Proofs.Ytibbligidncocaa

theorem bit_test (x n : Nat) : bit x n = x.testBit n := by
  unfold bit
  rw [Nat.testBit_eq_decide_div_mod_eq]
  by_cases h : x / 2 ^ n % 2 = 1 <;> simp [h]
theorem numB_split (x b : Nat) : ∀ a, numB x (a + b) = numB (x / 2 ^ b) a ++ numB x b
  | 0 => by rw [Nat.zero_add]; rfl
  | a + 1 => by
    rw [show a + 1 + b = (a + b) + 1 from by omega, numB, numB, List.cons_append, ← numB_split x b a]
    congr 1
    unfold bit
    rw [Nat.div_div_eq_div_mul, ← Nat.pow_add, Nat.add_comm b a]
theorem numB_take (x n t : Nat) (h : t ≤ n) : (numB x n) = numB (x / 2 ^ (n - t)) t ++ numB x (n - t) := by
  have := numB_split x (n - t) t
  rwa [show t + (n - t) = n from by omega] at this
theorem val_drop (m : List Bool) (p : Nat) : val (m.drop p) = val m % 2 ^ (m.length - p) := by
  have h1 := val_append (m.take p) (m.drop p)
  rw [List.take_append_drop, List.length_drop] at h1
  have h2 := val_lt (m.drop p)
  rw [List.length_drop] at h2
  rw [h1, Nat.add_comm, Nat.add_mul_mod_self_right, Nat.mod_eq_of_lt h2]
theorem val_take (m : List Bool) (t : Nat) : val (m.take t) = val m / 2 ^ (m.length - t) := by
  have h1 := val_append (m.take t) (m.drop t)
  rw [List.take_append_drop, List.length_drop] at h1
  have h2 := val_lt (m.drop t)
  rw [List.length_drop] at h2
  rw [h1, Nat.add_comm, Nat.add_mul_div_right _ _ (Nat.pow_pos (by omega)), Nat.div_eq_of_lt h2, Nat.zero_add]
/-- A piece out of eight bits. -/
theorem val_piece (m : List Bool) (p t : Nat) (h8 : m.length = 8) (h : p + t ≤ 8) : val ((m.drop p).take t) = val m * 2 ^ p % 256 / 2 ^ (8 - t) := by
  rw [val_take, val_drop, List.length_drop, h8]
  have e : 256 = 2 ^ (8 - p) * 2 ^ p := by rw [← Nat.pow_add, show 8 - p + p = 8 from by omega]
  rw [e, Nat.mul_mod_mul_right, show 8 - t = p + (8 - p - t) from by omega, Nat.pow_add, ← Nat.div_div_eq_div_mul, Nat.mul_div_cancel _ (Nat.pow_pos (by omega))]
theorem pack_getElem (l : List Bool) (k : Nat) (h : k < (pack l).length) : (pack l)[k] = UInt8.ofNat (val (eight l k)) := by simp [pack]
/-- t bits from one on, all in one byte. -/
theorem pack_piece (l : List Bool) (at_ t : Nat) (h : at_ % 8 + t ≤ 8) (h2 : at_ + t ≤ l.length) (ht : 0 < t) (hk : at_ / 8 < (pack l).length) :
    (pack l)[at_ / 8].toNat * 2 ^ (at_ % 8) % 256 / 2 ^ (8 - t) = val ((l.drop at_).take t) := by
  rw [pack_getElem, ofNat_val _ (eight_lt l _), ← val_piece _ _ _ (eight_length l _) h]
  congr 1
  refine List.ext_getElem (by simp only [List.length_take, List.length_drop, eight_length]; omega) fun j h3 h4 => ?_
  simp only [List.length_take, List.length_drop, eight_length] at h3 h4
  rw [List.getElem_take, List.getElem_take, List.getElem_drop, List.getElem_drop, eight_at _ _ _ (by omega), List.getD_eq_getElem?_getD, List.getElem?_eq_getElem (by omega)]
  simp only [Option.getD_some]
  congr 1
  omega
theorem take_more (l : List Bool) (i j t : Nat) : ((l.drop i).take j) ++ ((l.drop (i + j)).take t) = (l.drop i).take (j + t) := by
  rw [List.take_add, List.drop_drop]
/-- Put behind what has been gathered. -/
theorem or_val (x p t : Nat) (h : p < 2 ^ t) : x * 2 ^ t ||| p = x * 2 ^ t + p := by
  have := Nat.shiftLeft_add_eq_or_of_lt h x
  rw [Nat.shiftLeft_eq] at this
  exact this.symm

/-- Bytes with room for one bit more. -/
def room (l : List Bool) : List UInt8 := if l.length % 8 = 0 then pack l ++ [0] else pack l
theorem room_length (l : List Bool) : (room l).length = l.length / 8 + 1 := by
  unfold room
  split
  · rw [List.length_append, pack_length, List.length_singleton]; omega
  · rw [pack_length]; omega
theorem bitAt_room (l : List Bool) (i : Nat) : bitAt (room l) i = l.getD i false := by
  unfold room
  split
  · rename_i h
    rw [← bitAt_pack]
    unfold bitAt
    rcases Nat.lt_or_ge (i / 8) (pack l).length with h1 | h1
    · rw [List.getD_eq_getElem?_getD, List.getD_eq_getElem?_getD, List.getElem?_append_left h1]
    · rw [List.getD_eq_getElem?_getD, List.getD_eq_getElem?_getD, List.getElem?_append_right h1, List.getElem?_eq_none h1]
      rcases Nat.eq_zero_or_pos (i / 8 - (pack l).length) with h2 | h2
      · rw [h2]; rfl
      · rw [List.getElem?_eq_none (by simp only [List.length_singleton]; omega)]
  · exact bitAt_pack l i
/-- The byte that a piece is put into. -/
def putByte (o c t u : Nat) : Nat := o ||| c * 2 ^ (8 - t) / 2 ^ u
theorem putByte_lt (o c t u : Nat) (ho : o < 256) (hc : c < 2 ^ t) (ht : t ≤ 8) : putByte o c t u < 256 := by
  unfold putByte
  have h1 : c * 2 ^ (8 - t) < 2 ^ 8 := by
    have : 2 ^ 8 = 2 ^ t * 2 ^ (8 - t) := by rw [← Nat.pow_add]; congr 1; omega
    rw [this]
    exact Nat.mul_lt_mul_of_pos_right hc (Nat.pow_pos (by omega))
  have h2 := Nat.div_le_self (c * 2 ^ (8 - t)) (2 ^ u)
  exact Nat.or_lt_two_pow (n := 8) (by omega) (by omega)
/-- A piece behind the last bit. -/
theorem pack_more (l c : List Bool) (h : l.length % 8 + c.length ≤ 8) (hc : 0 < c.length) :
    pack (l ++ c) = (room l).set (l.length / 8) (UInt8.ofNat (putByte ((room l).getD (l.length / 8) 0).toNat (val c) c.length (l.length % 8))) := by
  have hv := val_lt c
  refine bytes_ext (by rw [List.length_set, room_length, pack_length, List.length_append]; omega) fun i hi => ?_
  rw [pack_length, List.length_append] at hi
  rw [bitAt_pack]
  by_cases hk : i / 8 = l.length / 8
  · have e1 : ((room l).set (l.length / 8) (UInt8.ofNat (putByte ((room l).getD (l.length / 8) 0).toNat (val c) c.length (l.length % 8)))).getD (i / 8) 0 = UInt8.ofNat (putByte ((room l).getD (l.length / 8) 0).toNat (val c) c.length (l.length % 8)) := by
      rw [hk, List.getD_eq_getElem?_getD, List.getElem?_set_self (by rw [room_length]; omega), Option.getD_some]
    have e2 := bitAt_room l i
    unfold bitAt at e2 ⊢
    rw [e1, ofNat_val _ (putByte_lt _ _ _ _ (UInt8.toNat_lt _) hv (by omega))]
    unfold putByte
    rw [bit_test, Nat.testBit_or, ← hk, ← bit_test, e2, Nat.testBit_div_two_pow, Nat.testBit_mul_two_pow]
    rcases Nat.lt_or_ge i l.length with hlt | hge
    · rw [List.getD_eq_getElem?_getD, List.getD_eq_getElem?_getD, List.getElem?_append_left hlt]
      have hz : (decide (8 - c.length ≤ 7 - i % 8 + l.length % 8) && (val c).testBit (7 - i % 8 + l.length % 8 - (8 - c.length))) = false := by
        have : val c < 2 ^ (7 - i % 8 + l.length % 8 - (8 - c.length)) := Nat.lt_of_lt_of_le hv (Nat.pow_le_pow_right (by omega) (by omega))
        rw [Nat.testBit_lt_two_pow this, Bool.and_false]
      rw [hz, Bool.or_false]
    · rw [List.getD_eq_getElem?_getD, List.getD_eq_getElem?_getD, List.getElem?_eq_none hge, List.getElem?_append_right hge, Option.getD_none, Bool.false_or]
      rcases Nat.lt_or_ge (i - l.length) c.length with h1 | h1
      · have hb := bit_val c (i - l.length) h1
        rw [List.getElem?_eq_getElem h1, Option.getD_some, ← hb, bit_test, show 7 - i % 8 + l.length % 8 - (8 - c.length) = c.length - 1 - (i - l.length) from by omega, decide_eq_true (by omega), Bool.true_and]
      · rw [List.getElem?_eq_none h1, Option.getD_none]
        have : ¬ (8 - c.length ≤ 7 - i % 8 + l.length % 8) := by omega
        rw [decide_eq_false this, Bool.false_and]
  · have e1 : ((room l).set (l.length / 8) (UInt8.ofNat (putByte ((room l).getD (l.length / 8) 0).toNat (val c) c.length (l.length % 8)))).getD (i / 8) 0 = (room l).getD (i / 8) 0 := by
      rw [List.getD_eq_getElem?_getD, List.getElem?_set_ne (by omega), ← List.getD_eq_getElem?_getD]
    have e2 := bitAt_room l i
    unfold bitAt at e2 ⊢
    rw [e1, e2, List.getD_eq_getElem?_getD, List.getD_eq_getElem?_getD, List.getElem?_append_left (by omega)]

end Go.Proofs.Ytibbligidncocaa

namespace Go.Proofs.Ytibbligidncocaa
open Go.RowKit

/-- Of the blocks that there were all but b and r are as they were. -/
structure Two (b : Nat) (r : Option Nat) (w w' : World) : Prop where
  os : w'.os = w.os
  tape : w'.tape = w.tape
  output : w'.output = w.output
  size : w.heap.size ≤ w'.heap.size
  block : ∀ k, k < w.heap.size → k ≠ b → some k ≠ r → w'.heap[k]? = w.heap[k]?

theorem Two.refl (b : Nat) (r : Option Nat) (w : World) : Two b r w w := ⟨rfl, rfl, rfl, Nat.le_refl _, fun _ _ _ _ => rfl⟩
/-- The second row is the first one, or new. -/
theorem Two.trans {b : Nat} {r r' : Option Nat} {w w1 w2 : World} (h : Two b r w w1) (k : Two b r' w1 w2) (hr : ∀ j, r' = some j → r = some j ∨ w.heap.size ≤ j) : Two b r w w2 :=
  ⟨k.os.trans h.os, k.tape.trans h.tape, k.output.trans h.output, Nat.le_trans h.size k.size, fun i hi hb hn => (k.block i (Nat.lt_of_lt_of_le hi h.size) hb (fun e => by
    rcases hr i e.symm with h' | h'
    · exact hn h'.symm
    · omega)).trans (h.block i hi hb hn)⟩
theorem Two.of_grown {b : Nat} {r : Option Nat} {w w' : World} (h : w.grownBy w' r) : Two b r w w' := ⟨h.os, h.tape, h.output, h.size, fun k hk _ hr => h.block k hk hr⟩
theorem Two.drew {b : Nat} {r : Option Nat} {w w' : World} (h : Two b r w w') : Two b r w w'.drew := ⟨h.os, h.tape, h.output, h.size, h.block⟩
theorem Two.of_below {b : Nat} {r : Option Nat} {w w' : World} (h : Below w.heap.size w w') : Two b r w w' := ⟨h.os, h.tape, h.output, h.size, fun k hk _ _ => h.block k hk⟩
theorem Two.below {b : Nat} {r : Option Nat} {w w' : World} {B : Nat} (h : Two b r w w') (hb : B ≤ b) (hr : ∀ k, r = some k → B ≤ k) (hB : B ≤ w.heap.size) : Below B w w' :=
  ⟨h.os, h.tape, h.output, h.size, fun k hk => h.block k (by omega) (by omega) (fun e => by have := hr k e.symm; omega)⟩
theorem Two.set {b : Nat} {r : Option Nat} {w w' : World} (h : Two b r w w') {p : Addr} (hp : p.block = b ∨ some p.block = r ∨ w.heap.size ≤ p.block) (u : Value) : Two b r w (w'.setCell p u) :=
  ⟨h.os, h.tape, h.output, by simpa [World.setCell] using h.size, fun k hk hb hr => (Below.heap_setCell _ _ _ _ (by rintro rfl; rcases hp with hp | hp | hp <;> first | exact hb hp | exact hr hp | omega)).trans (h.block k hk hb hr)⟩

theorem heap_set {w : World} {b : Nat} {cs : Array Value} {t : TypeId} {fr : Nat × Nat} (h : w.heap[b]? = some (.cells cs t fr)) (o : Nat) (u : Value) : (w.setCell ⟨b, o, none⟩ u).heap[b]? = some (.cells (cs.setIfInBounds o u) t fr) := by
  simp [World.setCell, Array.getElem?_modify, h]

/-- b, a *bits.Bits whose row is v, holds the bytes p and says n bits; all of it lies from block B on. -/
structure BB (w : World) (B b : Nat) (v : Value) (p : List UInt8) (n : Nat) : Prop where
  blk : w.heap[b]? = some (.cells #[v, .int .i64 (n : Int)] 94)
  row : Own 5 w B v p
  low : B ≤ b
/-- It holds the bits l. -/
abbrev BT (w : World) (B b : Nat) (v : Value) (l : List Bool) : Prop := BB w B b v (pack l) l.length

theorem own_not {e t : TypeId} {w : World} {B b : Nat} {v : Value} {l : List UInt8} {cs : Array Value} (h : Own e w B v l) (hb : w.heap[b]? = some (.cells cs t)) (hne : e ≠ t) : v.ownBlock ≠ some b := by
  intro hv
  rcases h.2 with ⟨rfl, -⟩ | ⟨g, cap, cur, rfl, -, hg, -⟩
  · cases hv
  · simp only [Value.ownBlock, Option.some.injEq] at hv
    subst hv
    rw [hb] at hg
    simp only [Option.some.injEq, Obj.cells.injEq] at hg
    exact hne hg.2.1.symm
section
variable {w : World} {B b : Nat} {v : Value} {p : List UInt8} {n : Nat}
theorem BB.lt (h : BB w B b v p n) : b < w.heap.size := (Array.getElem?_eq_some_iff.1 h.blk).1
theorem BB.apart (h : BB w B b v p n) : v.ownBlock ≠ some b := own_not h.row h.blk (by decide)
theorem BB.below {w' : World} (h : BB w B b v p n) (hb : Below w.heap.size w w') : BB w' B b v p n := ⟨(hb.block b h.lt).trans h.blk, h.row.below hb, h.low⟩
theorem BB.mono {B' : Nat} (h : BB w B b v p n) (hB : B' ≤ B) : BB w B' b v p n := ⟨h.blk, h.row.mono hB, Nat.le_trans hB h.low⟩
theorem BB.rows (h : BB w B b v p n) : ∀ k, v.ownBlock = some k → B ≤ k := h.row.row
theorem BB.row_lt (h : BB w B b v p n) : ∀ k, v.ownBlock = some k → k < w.heap.size := fun k hk => (World.ownsRow.lt h.row k hk).2
theorem BB.c0 (h : BB w B b v p n) : w.cell? ⟨b, 0, none⟩ = some v := by rw [cell_of_row w b 0 _ _ _ h.blk]; rfl
theorem BB.c1 (h : BB w B b v p n) : w.cell? ⟨b, 1, none⟩ = some (.int .i64 (n : Int)) := by rw [cell_of_row w b 1 _ _ _ h.blk]; rfl
theorem BB.f (h : BB w B b v p n) (o : Nat) : w.frozen? ⟨b, o, none⟩ = false := frozen_of_row w b o _ _ h.blk
theorem BB.drew (h : BB w B b v p n) : BB w.drew B b v p n := ⟨h.blk, h.row.drew, h.low⟩
/-- A row that has grown is stored. -/
theorem BB.grown {w' : World} {v' : Value} {q : List UInt8} (h : BB w B b v p n) (hg : w.grownBy w' v.ownBlock) (ho : Own 5 w' B v' q) : BB (w'.setCell ⟨b, 0, none⟩ v') B b v' q n := by
  have h1 : w'.heap[b]? = some (.cells #[v, .int .i64 (n : Int)] 94) := (hg.block b h.lt h.apart.symm).trans h.blk
  refine ⟨by rw [heap_set h1]; rfl, ?_, h.low⟩
  have hno := own_not ho h1 (by decide)
  refine ⟨ho.1, ?_⟩
  rcases ho.2 with h' | ⟨g, cap, cur, e1, hB, e2, e3⟩
  · exact .inl h'
  · refine .inr ⟨g, cap, cur, e1, hB, (Below.heap_setCell _ _ _ _ ?_).trans e2, e3⟩
    rintro rfl
    subst e1
    exact hno rfl
/-- A byte is stored. -/
theorem BB.put {g m cap : Nat} (h : BB w B b (.slice (some ⟨g, 0, none⟩) m cap) p n) (j : Nat) (c : UInt8) (x : Int) (hx : x = (c.toNat : Int)) : BB (w.setCell ⟨g, j, none⟩ (.int .u8 x)) B b (.slice (some ⟨g, 0, none⟩) m cap) (p.set j c) n := by
  refine ⟨(Below.heap_setCell _ _ _ _ ?_).trans h.blk, h.row.store j c x hx, h.low⟩
  rintro rfl
  exact h.apart rfl
/-- The number of bits is stored. -/
theorem BB.count (h : BB w B b v p n) (n' : Nat) (x : Int) (hx : x = (n' : Int)) : BB (w.setCell ⟨b, 1, none⟩ (.int .i64 x)) B b v p n' := by
  subst hx
  refine ⟨by rw [heap_set h.blk]; rfl, ?_, h.low⟩
  have hno := h.apart
  refine ⟨h.row.1, ?_⟩
  rcases h.row.2 with h' | ⟨g, cap, cur, e1, hB, e2, e3⟩
  · exact .inl h'
  · refine .inr ⟨g, cap, cur, e1, hB, (Below.heap_setCell _ _ _ _ ?_).trans e2, e3⟩
    rintro rfl
    subst e1
    exact hno rfl
end
/-- A new one has none. -/
theorem BT.new (w : World) : BT (w.alloc (.cells #[.slice none 0 0, .int .i64 0] 94)) w.heap.size w.heap.size (.slice none 0 0) [] :=
  ⟨heap_alloc_new w _, Own.nil _ _ _, Nat.le_refl _⟩

end Go.Proofs.Ytibbligidncocaa

namespace Go.Proofs.Ytibbligidncocaa
open Go.RowKit

section
variable {P : Program} (w : World)

theorem run_append_where (base : Nat) (t ty e : TypeId) (i : TypeInfo) (z : Value) (size bytes : Nat) (ht : P.underlying t = some (.slice e)) (hi : P.info? e = some i) (hz : i.zero = some z)
    (hsize : i.size = size) (hby : i.bytes = bytes) (hzs : z.cells.size = size) (hsz : 0 < size)
    (v : Value) (n : Nat) (xs : List Value) (hown : w.ownsRow base e size v n xs)
    (a : Addr) (m c : Nat) (news : List Value) (hl : news.length = m * size) (hnews : ∀ j u, news[j]? = some u → w.cell? (a.add j) = some u) (h1 : ∀ u ∈ news, u.oneCell' = true)
    (h63 : n + m ≤ maxLen) (hbytes : (n + m) * bytes ≤ 140737488355328) (hbase : base ≤ w.heap.size) :
    ∃ v' w', (Builtin.append_ #[t, t] ty #[v, .slice (some a) m c]).run P w = .ok v' w' ∧ w'.ownsRow base e size v' (n + m) (xs ++ news) ∧ w.grownBy w' v.ownBlock ∧
      (v'.ownBlock = v.ownBlock ∨ ∀ k, v'.ownBlock = some k → w.heap.size ≤ k) := by
  obtain ⟨v', w', hr, h2, h3, -⟩ := run_append_own (P := P) w base t ty e i z size bytes ht hi hz hsize hby hzs hsz v n xs hown a m c news hl hnews h1 h63 hbytes hbase
  refine ⟨v', w', hr, h2, h3, ?_⟩
  rcases hown.2 with ⟨rfl, rfl⟩ | ⟨g, cap, cur, rfl, hbg, hg, hnc, hcm, hcs, htake⟩
  · right
    obtain ⟨v2, w2, hr2, k2, -, -⟩ := run_append_own (P := P) w w.heap.size t ty e i z size bytes ht hi hz hsize hby hzs hsz (.slice none 0 0) 0 xs ⟨hown.1, .inl ⟨rfl, rfl⟩⟩ a m c news hl hnews h1 h63 hbytes (Nat.le_refl _)
    rw [hr] at hr2
    cases hr2
    exact fun k hk => (World.ownsRow.lt k2 k hk).1
  · by_cases hroom : n + m ≤ cap
    · left
      obtain ⟨w2, hr2, -, -⟩ := run_append_fits (P := P) w base t ty e i size ht hi hsize g n cap xs hown a m c news hl hnews h1 hroom
      rw [hr] at hr2
      cases hr2
      rfl
    · right
      have hsmall : n + m ≤ 9223372036854775807 := by simp only [maxLen] at h63; omega
      have holds : ∀ j u, xs[j]? = some u → w.cell? ((⟨g, 0, none⟩ : Addr).add j) = some u := hown.cells (g := g) rfl
      subst hsize hby
      have hr2 := run_append_grow (P := P) w t ty e i z ht hi hz ⟨g, 0, none⟩ n cap xs hown.1 holds a m c news hl hnews (by omega) (by omega) (growslice_fits (by omega) hbytes)
      rw [hr] at hr2
      cases hr2
      intro k hk
      simp only [Value.ownBlock, Option.some.injEq] at hk
      omega

theorem wpList_append_where {ops : Array Oper} {rest : List Oper} {o : Oper} {a : Act} {Q : Exit → Act → World → Prop} (hgd : o.guard = none) (s x : Operand) (t : TypeId)
    (ho : o.op = .call { callee := .builtin .append, args := #[s, x], argTypes := #[t, t] })
    (base : Nat) (e : TypeId) (ht : P.underlying t = some (.slice e)) (z : Value) (size bytes : Nat) (hinfo : (P.info? e).map (fun i => (i.zero, i.size, i.bytes)) = some (some z, size, bytes)) (hzs : z.cells.size = size) (hsz : 0 < size)
    (v : Value) (n : Nat) (xs : List Value) (hs : a.eval s = v) (hown : w.ownsRow base e size v n xs)
    (ad : Addr) (m c : Nat) (news : List Value) (hx : a.eval x = .slice (some ad) m c) (hl : news.length = m * size) (hnews : ∀ j u, news[j]? = some u → w.cell? (ad.add j) = some u) (h1 : ∀ u ∈ news, u.oneCell' = true)
    (h63 : n + m ≤ maxLen) (hbytes : (n + m) * bytes ≤ 140737488355328) (hbase : base ≤ w.heap.size)
    (h : ∀ v' w', w'.ownsRow base e size v' (n + m) (xs ++ news) → w.grownBy w' v.ownBlock → (v'.ownBlock = v.ownBlock ∨ ∀ k, v'.ownBlock = some k → w.heap.size ≤ k) → wpList P ops Q rest (a.put o.dst v') w') : wpList P ops Q (o :: rest) a w := by
  obtain ⟨i, hi, hz, hsize, hby⟩ := info_parts hinfo
  obtain ⟨v', w', hr, h2, h3, h4⟩ := run_append_where (P := P) w base t o.type e i z size bytes ht hi hz hsize hby hzs hsz v n xs hown ad m c news hl hnews h1 h63 hbytes hbase
  refine wpList_gives hgd v' w' ?_ (h v' w' h2 h3 h4)
  unfold execOp
  simp only [ho, resolve, invoke, builtin, Sem.run_bind, Sem.run_pure, Result.andThen_ok, List.map_toArray, List.map_cons, List.map_nil, hs, hx, hr]

/-- One byte more. -/
theorem wpList_append_byte {ops : Array Oper} {rest : List Oper} {o : Oper} {a : Act} {Q : Exit → Act → World → Prop} (hgd : o.guard = none) (s x : Operand) (t : TypeId)
    (ho : o.op = .call { callee := .builtin .append, args := #[s, x], argTypes := #[t, t] })
    (B : Nat) (e : TypeId) (ht : P.underlying t = some (.slice e)) (hinfo : (P.info? e).map (fun i => (i.zero, i.size, i.bytes)) = some (some (.int .u8 0), 1, 1))
    (v : Value) (l : List UInt8) (g cap : Nat) (y : UInt8) (hs : a.eval s = v) (hx : a.eval x = .slice (some ⟨g, 0, none⟩) 1 cap) (hown : Own e w B v l) (hy : w.cell? ⟨g, 0, none⟩ = some (.int .u8 (y.toNat : Int)))
    (hlen : l.length < 140737488355328) (hbase : B ≤ w.heap.size)
    (h : ∀ v' w', Own e w' B v' (l ++ [y]) → w.grownBy w' v.ownBlock → (v'.ownBlock = v.ownBlock ∨ ∀ k, v'.ownBlock = some k → w.heap.size ≤ k) → wpList P ops Q rest (a.put o.dst v') w') : wpList P ops Q (o :: rest) a w := by
  refine wpList_append_where w hgd s x t ho B e ht (.int .u8 0) 1 1 hinfo rfl (by decide) v l.length (cells l) hs hown ⟨g, 0, none⟩ 1 cap [.int .u8 (y.toNat : Int)] hx rfl ?_ ?_ (by unfold maxLen; omega) (by omega) hbase ?_
  · intro j u hj
    match j, hj with
    | 0, hj => rw [show (⟨g, 0, none⟩ : Addr).add 0 = ⟨g, 0, none⟩ from rfl, hy]; exact hj
    | j + 1, hj => simp at hj
  · intro u hu
    simp only [List.mem_cons, List.not_mem_nil, or_false] at hu
    subst hu
    rfl
  · intro v' w' h2 h3 h4
    refine h v' w' ?_ h3 h4
    unfold Own
    rw [List.length_append, cells_append]
    exact h2
end

end Go.Proofs.Ytibbligidncocaa
