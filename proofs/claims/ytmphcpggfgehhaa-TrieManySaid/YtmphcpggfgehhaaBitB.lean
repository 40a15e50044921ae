/-
  A *bits.Bits in memory: what it holds; worlds in which two blocks may have changed. Plain facts.
-/
import Derived.Test.YtmphcpggfgehhaaBitC
namespace Go.Proofs.Ytmphcpggfgehhaa
open Go.RowKit

/-- Of the blocks that there were all but b and r are as they were. -/
structure Two (b : Nat) (r : Option Nat) (w w' : World) : Prop where
  os : w'.os = w.os
  tape : w'.tape = w.tape
  output : w'.output = w.output
  size : w.heap.size ≤ w'.heap.size
  block : ∀ k, k < w.heap.size → k ≠ b → some k ≠ r → w'.heap[k]? = w.heap[k]?

theorem Two.refl (b : Nat) (r : Option Nat) (w : World) : Two b r w w := ⟨rfl, rfl, rfl, Nat.le_refl _, fun _ _ _ _ => rfl⟩
/-- The second row is the first one, or new. -/
theorem Two.trans {b : Nat} {r r' : Option Nat} {w w1 w2 : World} (h : Two b r w w1) (k : Two b r' w1 w2) (hr : ∀ j, r' = some j → r = some j ∨ w.heap.size ≤ j) : Two b r w w2 :=
  ⟨k.os.trans h.os, k.tape.trans h.tape, k.output.trans h.output, Nat.le_trans h.size k.size, fun i hi hb hn => (k.block i (Nat.lt_of_lt_of_le hi h.size) hb (fun e => by
    rcases hr i e.symm with h' | h'
    · exact hn h'.symm
    · omega)).trans (h.block i hi hb hn)⟩
theorem Two.of_grown {b : Nat} {r : Option Nat} {w w' : World} (h : w.grownBy w' r) : Two b r w w' := ⟨h.os, h.tape, h.output, h.size, fun k hk _ hr => h.block k hk hr⟩
theorem Two.drew {b : Nat} {r : Option Nat} {w w' : World} (h : Two b r w w') : Two b r w w'.drew := ⟨h.os, h.tape, h.output, h.size, h.block⟩
theorem Two.of_below {b : Nat} {r : Option Nat} {w w' : World} (h : Below w.heap.size w w') : Two b r w w' := ⟨h.os, h.tape, h.output, h.size, fun k hk _ _ => h.block k hk⟩
theorem Two.below {b : Nat} {r : Option Nat} {w w' : World} {B : Nat} (h : Two b r w w') (hb : B ≤ b) (hr : ∀ k, r = some k → B ≤ k) (hB : B ≤ w.heap.size) : Below B w w' :=
  ⟨h.os, h.tape, h.output, h.size, fun k hk => h.block k (by omega) (by omega) (fun e => by have := hr k e.symm; omega)⟩
theorem Two.set {b : Nat} {r : Option Nat} {w w' : World} (h : Two b r w w') {p : Addr} (hp : p.block = b ∨ some p.block = r ∨ w.heap.size ≤ p.block) (u : Value) : Two b r w (w'.setCell p u) :=
  ⟨h.os, h.tape, h.output, by simpa [World.setCell] using h.size, fun k hk hb hr => (Below.heap_setCell _ _ _ _ (by rintro rfl; rcases hp with hp | hp | hp <;> first | exact hb hp | exact hr hp | omega)).trans (h.block k hk hb hr)⟩

theorem heap_set {w : World} {b : Nat} {cs : Array Value} {t : TypeId} {fr : Nat × Nat} (h : w.heap[b]? = some (.cells cs t fr)) (o : Nat) (u : Value) : (w.setCell ⟨b, o, none⟩ u).heap[b]? = some (.cells (cs.setIfInBounds o u) t fr) := by
  simp [World.setCell, Array.getElem?_modify, h]

/-- b, a *bits.Bits whose row is v, holds the bytes p and says n bits; all of it lies from block B on. -/
structure BB (w : World) (B b : Nat) (v : Value) (p : List UInt8) (n : Nat) : Prop where
  blk : w.heap[b]? = some (.cells #[v, .int .i64 (n : Int)] 48)
  row : Own 5 w B v p
  low : B ≤ b
/-- It holds the bits l. -/
abbrev BT (w : World) (B b : Nat) (v : Value) (l : List Bool) : Prop := BB w B b v (pack l) l.length

theorem own_not {e t : TypeId} {w : World} {B b : Nat} {v : Value} {l : List UInt8} {cs : Array Value} (h : Own e w B v l) (hb : w.heap[b]? = some (.cells cs t)) (hne : e ≠ t) : v.ownBlock ≠ some b := by
  intro hv
  rcases h.2 with ⟨rfl, -⟩ | ⟨g, cap, cur, rfl, -, hg, -⟩
  · cases hv
  · simp only [Value.ownBlock, Option.some.injEq] at hv
    subst hv
    rw [hb] at hg
    simp only [Option.some.injEq, Obj.cells.injEq] at hg
    exact hne hg.2.1.symm
section
variable {w : World} {B b : Nat} {v : Value} {p : List UInt8} {n : Nat}
theorem BB.lt (h : BB w B b v p n) : b < w.heap.size := (Array.getElem?_eq_some_iff.1 h.blk).1
theorem BB.apart (h : BB w B b v p n) : v.ownBlock ≠ some b := own_not h.row h.blk (by decide)
theorem BB.below {w' : World} (h : BB w B b v p n) (hb : Below w.heap.size w w') : BB w' B b v p n := ⟨(hb.block b h.lt).trans h.blk, h.row.below hb, h.low⟩
theorem BB.mono {B' : Nat} (h : BB w B b v p n) (hB : B' ≤ B) : BB w B' b v p n := ⟨h.blk, h.row.mono hB, Nat.le_trans hB h.low⟩
theorem BB.rows (h : BB w B b v p n) : ∀ k, v.ownBlock = some k → B ≤ k := h.row.row
theorem BB.row_lt (h : BB w B b v p n) : ∀ k, v.ownBlock = some k → k < w.heap.size := fun k hk => (World.ownsRow.lt h.row k hk).2
theorem BB.c0 (h : BB w B b v p n) : w.cell? ⟨b, 0, none⟩ = some v := by rw [cell_of_row w b 0 _ _ _ h.blk]; rfl
theorem BB.c1 (h : BB w B b v p n) : w.cell? ⟨b, 1, none⟩ = some (.int .i64 (n : Int)) := by rw [cell_of_row w b 1 _ _ _ h.blk]; rfl
theorem BB.f (h : BB w B b v p n) (o : Nat) : w.frozen? ⟨b, o, none⟩ = false := frozen_of_row w b o _ _ h.blk
theorem BB.drew (h : BB w B b v p n) : BB w.drew B b v p n := ⟨h.blk, h.row.drew, h.low⟩
/-- A row that has grown is stored. -/
theorem BB.grown {w' : World} {v' : Value} {q : List UInt8} (h : BB w B b v p n) (hg : w.grownBy w' v.ownBlock) (ho : Own 5 w' B v' q) : BB (w'.setCell ⟨b, 0, none⟩ v') B b v' q n := by
  have h1 : w'.heap[b]? = some (.cells #[v, .int .i64 (n : Int)] 48) := (hg.block b h.lt h.apart.symm).trans h.blk
  refine ⟨by rw [heap_set h1]; rfl, ?_, h.low⟩
  have hno := own_not ho h1 (by decide)
  refine ⟨ho.1, ?_⟩
  rcases ho.2 with h' | ⟨g, cap, cur, e1, hB, e2, e3⟩
  · exact .inl h'
  · refine .inr ⟨g, cap, cur, e1, hB, (Below.heap_setCell _ _ _ _ ?_).trans e2, e3⟩
    rintro rfl
    subst e1
    exact hno rfl
/-- A byte is stored. -/
theorem BB.put {g m cap : Nat} (h : BB w B b (.slice (some ⟨g, 0, none⟩) m cap) p n) (j : Nat) (c : UInt8) (x : Int) (hx : x = (c.toNat : Int)) : BB (w.setCell ⟨g, j, none⟩ (.int .u8 x)) B b (.slice (some ⟨g, 0, none⟩) m cap) (p.set j c) n := by
  refine ⟨(Below.heap_setCell _ _ _ _ ?_).trans h.blk, h.row.store j c x hx, h.low⟩
  rintro rfl
  exact h.apart rfl
/-- The number of bits is stored. -/
theorem BB.count (h : BB w B b v p n) (n' : Nat) (x : Int) (hx : x = (n' : Int)) : BB (w.setCell ⟨b, 1, none⟩ (.int .i64 x)) B b v p n' := by
  subst hx
  refine ⟨by rw [heap_set h.blk]; rfl, ?_, h.low⟩
  have hno := h.apart
  refine ⟨h.row.1, ?_⟩
  rcases h.row.2 with h' | ⟨g, cap, cur, e1, hB, e2, e3⟩
  · exact .inl h'
  · refine .inr ⟨g, cap, cur, e1, hB, (Below.heap_setCell _ _ _ _ ?_).trans e2, e3⟩
    rintro rfl
    subst e1
    exact hno rfl
end
/-- A new one has none. -/
theorem BT.new (w : World) : BT (w.alloc (.cells #[.slice none 0 0, .int .i64 0] 48)) w.heap.size w.heap.size (.slice none 0 0) [] :=
  ⟨heap_alloc_new w _, Own.nil _ _ _, Nat.le_refl _⟩

end Go.Proofs.Ytmphcpggfgehhaa
