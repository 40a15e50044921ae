/-
  The law's own device in memory (rows of slices of bytes, a row of bools, two numbers). Plain facts.
-/
import Derived.Test.YtdobkocckdpghaaBegun11
namespace Go.Proofs.Ytdobkocckdpghaa
open Go.RowKit

/-- What is not loose lasts. -/
def Clean (S : Nat → Sec) (n : Nat) : Prop := ∀ j, j < n → (S j).loose = false → (S j).now = (S j).kept
theorem Clean.new (n : Nat) : Clean newS n := fun _ _ _ => rfl
theorem Clean.wr {S : Nat → Sec} {n : Nat} (h : Clean S n) (i : Nat) (b : List UInt8) : Clean (wrS S i b) n := fun j hj hl => by
  unfold wrS upS at hl ⊢
  by_cases e : j = i
  · rw [if_pos e] at hl; cases hl
  · rw [if_neg e] at hl ⊢; exact h j hj hl
theorem Clean.fl {S : Nat → Sec} {n : Nat} (h : Clean S n) : Clean (flS S) n := fun j hj hl => by
  unfold flS at hl ⊢
  by_cases e : (S j).loose = true
  · rw [if_pos e] at hl ⊢; rfl
  · rw [if_neg e] at hl ⊢; exact h j hj hl
theorem Clean.cr (S : Nat → Sec) (keep : List Bool) (n : Nat) : Clean (crS S keep) n := fun _ _ _ => rfl
theorem Clean.fl_all {S : Nat → Sec} {n : Nat} (h : Clean S n) (j : Nat) (hj : j < n) : flSec (S j) = flS S j := by
  unfold flS
  by_cases e : (S j).loose = true
  · rw [if_pos e]
  · rw [if_neg e]
    have e' : (S j).loose = false := by simpa using e
    have h1 := h j hj e'
    cases hs : S j with
    | mk a b c =>
      rw [hs] at h1 e'
      simp only at h1 e'
      subst h1 e'
      rfl

def upV (X : Nat → Value) (i : Nat) (v : Value) : Nat → Value := fun j => if j = i then v else X j

structure WV (w : World) (B q g1 c1 g2 c2 g3 c3 n : Nat) (X1 X2 : Nat → Value) (S : Nat → Sec) (calls fuse : Int) : Prop where
  blk : w.heap[q]? = some (.cells #[.slice (some ⟨g1, 0, none⟩) n c1, .slice (some ⟨g2, 0, none⟩) n c2, .slice (some ⟨g3, 0, none⟩) n c3, .int .i64 calls, .int .i64 fuse] 30)
  b1 : ∃ cur : Array Value, w.heap[g1]? = some (.cells cur 31) ∧ ∀ i, i < n → cur[i]? = some (X1 i)
  b2 : ∃ cur : Array Value, w.heap[g2]? = some (.cells cur 31) ∧ ∀ i, i < n → cur[i]? = some (X2 i)
  b3 : ∃ cur : Array Value, w.heap[g3]? = some (.cells cur 4) ∧ ∀ i, i < n → cur[i]? = some (.bool (S i).loose)
  e1 : ∀ i, i < n → Own 5 w B (X1 i) (S i).now
  e2 : ∀ i, i < n → Own 5 w B (X2 i) (S i).kept
  whole : Whole S n
  ne : g1 ≠ g2
  lq : B ≤ q
  l1 : B ≤ g1
  l2 : B ≤ g2
  l3 : B ≤ g3

/-- Of the blocks that there were all but four are as they were. -/
structure Far (q g1 g2 g3 : Nat) (w w' : World) : Prop where
  os : w'.os = w.os
  tape : w'.tape = w.tape
  output : w'.output = w.output
  size : w.heap.size ≤ w'.heap.size
  block : ∀ k, k < w.heap.size → k ≠ q → k ≠ g1 → k ≠ g2 → k ≠ g3 → w'.heap[k]? = w.heap[k]?
theorem Far.refl (q g1 g2 g3 : Nat) (w : World) : Far q g1 g2 g3 w w := ⟨rfl, rfl, rfl, Nat.le_refl _, fun _ _ _ _ _ _ => rfl⟩
theorem Far.trans {q g1 g2 g3 : Nat} {w w1 w2 : World} (h : Far q g1 g2 g3 w w1) (k : Far q g1 g2 g3 w1 w2) : Far q g1 g2 g3 w w2 :=
  ⟨k.os.trans h.os, k.tape.trans h.tape, k.output.trans h.output, Nat.le_trans h.size k.size, fun i hi a b c d => (k.block i (Nat.lt_of_lt_of_le hi h.size) a b c d).trans (h.block i hi a b c d)⟩
theorem Far.of_below {q g1 g2 g3 : Nat} {w w' : World} (h : Below w.heap.size w w') : Far q g1 g2 g3 w w' := ⟨h.os, h.tape, h.output, h.size, fun k hk _ _ _ _ => h.block k hk⟩
theorem Far.drew {q g1 g2 g3 : Nat} {w w' : World} (h : Far q g1 g2 g3 w w') : Far q g1 g2 g3 w w'.drew := ⟨h.os, h.tape, h.output, h.size, h.block⟩
theorem Far.set {q g1 g2 g3 k o : Nat} {w w' : World} (h : Far q g1 g2 g3 w w') (hk : k = q ∨ k = g1 ∨ k = g2 ∨ k = g3) (u : Value) : Far q g1 g2 g3 w (w'.setCell ⟨k, o, none⟩ u) :=
  ⟨h.os, h.tape, h.output, by simpa [World.setCell] using h.size, fun j hj a b c d => (Below.heap_setCell _ _ _ _ (by rintro rfl; rcases hk with e | e | e | e <;> subst e <;> simp at *)).trans (h.block j hj a b c d)⟩
theorem Far.below {q g1 g2 g3 B : Nat} {w w' : World} (h : Far q g1 g2 g3 w w') (a : B ≤ q) (b : B ≤ g1) (c : B ≤ g2) (d : B ≤ g3) (hB : B ≤ w.heap.size) : Below B w w' :=
  ⟨h.os, h.tape, h.output, h.size, fun k hk => h.block k (by omega) (by omega) (by omega) (by omega) (by omega)⟩

/-- A row of bytes stays while a cell of a block of another type is written. -/
theorem own_far {e t : TypeId} {w : World} {B g o : Nat} {v : Value} {l : List UInt8} {cur : Array Value} (h : Own e w B v l) (hg : w.heap[g]? = some (.cells cur t)) (ht : t ≠ e) (u : Value) : Own e (w.setCell ⟨g, o, none⟩ u) B v l := by
  refine ⟨h.1, ?_⟩
  rcases h.2 with h' | ⟨q, cap, cur', e1, hB, e2, e3⟩
  · exact .inl h'
  · refine .inr ⟨q, cap, cur', e1, hB, (Below.heap_setCell _ _ _ _ ?_).trans e2, e3⟩
    rintro rfl
    rw [hg] at e2
    simp only [Option.some.injEq, Obj.cells.injEq] at e2
    exact ht e2.2.1
theorem blocks_ne {w : World} {a b : Nat} {ca cb : Array Value} {ta tb : TypeId} (ha : w.heap[a]? = some (.cells ca ta)) (hb : w.heap[b]? = some (.cells cb tb)) (h : ta ≠ tb) : a ≠ b := by
  rintro rfl
  rw [ha] at hb
  simp only [Option.some.injEq, Obj.cells.injEq] at hb
  exact h hb.2.1
theorem set_at {cur : Array Value} {n i : Nat} {X : Nat → Value} (h : ∀ j, j < n → cur[j]? = some (X j)) (hi : i < n) (u : Value) : ∀ j, j < n → (cur.setIfInBounds i u)[j]? = some (upV X i u j) := by
  intro j hj
  unfold upV
  have hs : i < cur.size := (Array.getElem?_eq_some_iff.1 (h i hi)).1
  by_cases e : j = i
  · subst e
    rw [if_pos rfl]
    simp [hs]
  · rw [if_neg e, Array.getElem?_setIfInBounds_ne (Ne.symm e)]
    exact h j hj

section
variable {w w' : World} {B q g1 c1 g2 c2 g3 c3 n : Nat} {X1 X2 : Nat → Value} {S : Nat → Sec} {calls fuse : Int}
theorem WV.lt (h : WV w B q g1 c1 g2 c2 g3 c3 n X1 X2 S calls fuse) : q < w.heap.size := (Array.getElem?_eq_some_iff.1 h.blk).1
theorem WV.lt1 (h : WV w B q g1 c1 g2 c2 g3 c3 n X1 X2 S calls fuse) : g1 < w.heap.size := by obtain ⟨cur, h1, -⟩ := h.b1; exact (Array.getElem?_eq_some_iff.1 h1).1
theorem WV.lt2 (h : WV w B q g1 c1 g2 c2 g3 c3 n X1 X2 S calls fuse) : g2 < w.heap.size := by obtain ⟨cur, h1, -⟩ := h.b2; exact (Array.getElem?_eq_some_iff.1 h1).1
theorem WV.lt3 (h : WV w B q g1 c1 g2 c2 g3 c3 n X1 X2 S calls fuse) : g3 < w.heap.size := by obtain ⟨cur, h1, -⟩ := h.b3; exact (Array.getElem?_eq_some_iff.1 h1).1
theorem WV.apart (h : WV w B q g1 c1 g2 c2 g3 c3 n X1 X2 S calls fuse) : q ≠ g1 ∧ q ≠ g2 ∧ q ≠ g3 ∧ g1 ≠ g3 ∧ g2 ≠ g3 := by
  obtain ⟨_, h1, -⟩ := h.b1
  obtain ⟨_, h2, -⟩ := h.b2
  obtain ⟨_, h3, -⟩ := h.b3
  exact ⟨blocks_ne h.blk h1 (by decide), blocks_ne h.blk h2 (by decide), blocks_ne h.blk h3 (by decide), blocks_ne h1 h3 (by decide), blocks_ne h2 h3 (by decide)⟩
theorem WV.k0 (h : WV w B q g1 c1 g2 c2 g3 c3 n X1 X2 S calls fuse) : w.cell? ⟨q, 0, none⟩ = some (.slice (some ⟨g1, 0, none⟩) n c1) := by rw [cell_of_row w q 0 _ _ _ h.blk]; rfl
theorem WV.k1 (h : WV w B q g1 c1 g2 c2 g3 c3 n X1 X2 S calls fuse) : w.cell? ⟨q, 1, none⟩ = some (.slice (some ⟨g2, 0, none⟩) n c2) := by rw [cell_of_row w q 1 _ _ _ h.blk]; rfl
theorem WV.k2 (h : WV w B q g1 c1 g2 c2 g3 c3 n X1 X2 S calls fuse) : w.cell? ⟨q, 2, none⟩ = some (.slice (some ⟨g3, 0, none⟩) n c3) := by rw [cell_of_row w q 2 _ _ _ h.blk]; rfl
theorem WV.k3 (h : WV w B q g1 c1 g2 c2 g3 c3 n X1 X2 S calls fuse) : w.cell? ⟨q, 3, none⟩ = some (.int .i64 calls) := by rw [cell_of_row w q 3 _ _ _ h.blk]; rfl
theorem WV.k4 (h : WV w B q g1 c1 g2 c2 g3 c3 n X1 X2 S calls fuse) : w.cell? ⟨q, 4, none⟩ = some (.int .i64 fuse) := by rw [cell_of_row w q 4 _ _ _ h.blk]; rfl
theorem WV.fz (h : WV w B q g1 c1 g2 c2 g3 c3 n X1 X2 S calls fuse) (o : Nat) : w.frozen? ⟨q, o, none⟩ = false := frozen_of_row w q o _ _ h.blk
theorem WV.fz1 (h : WV w B q g1 c1 g2 c2 g3 c3 n X1 X2 S calls fuse) (o : Nat) : w.frozen? ⟨g1, o, none⟩ = false := by obtain ⟨cur, h1, -⟩ := h.b1; exact frozen_of_row w g1 o _ _ h1
theorem WV.fz2 (h : WV w B q g1 c1 g2 c2 g3 c3 n X1 X2 S calls fuse) (o : Nat) : w.frozen? ⟨g2, o, none⟩ = false := by obtain ⟨cur, h1, -⟩ := h.b2; exact frozen_of_row w g2 o _ _ h1
theorem WV.fz3 (h : WV w B q g1 c1 g2 c2 g3 c3 n X1 X2 S calls fuse) (o : Nat) : w.frozen? ⟨g3, o, none⟩ = false := by obtain ⟨cur, h1, -⟩ := h.b3; exact frozen_of_row w g3 o _ _ h1
theorem WV.r1 (h : WV w B q g1 c1 g2 c2 g3 c3 n X1 X2 S calls fuse) (i : Nat) (hi : i < n) : w.cell? ⟨g1, i, none⟩ = some (X1 i) := by obtain ⟨cur, h1, h2⟩ := h.b1; rw [cell_of_row w g1 i _ _ _ h1]; exact h2 i hi
theorem WV.r2 (h : WV w B q g1 c1 g2 c2 g3 c3 n X1 X2 S calls fuse) (i : Nat) (hi : i < n) : w.cell? ⟨g2, i, none⟩ = some (X2 i) := by obtain ⟨cur, h1, h2⟩ := h.b2; rw [cell_of_row w g2 i _ _ _ h1]; exact h2 i hi
theorem WV.r3 (h : WV w B q g1 c1 g2 c2 g3 c3 n X1 X2 S calls fuse) (i : Nat) (hi : i < n) : w.cell? ⟨g3, i, none⟩ = some (.bool (S i).loose) := by obtain ⟨cur, h1, h2⟩ := h.b3; rw [cell_of_row w g3 i _ _ _ h1]; exact h2 i hi
theorem own_same {e : TypeId} {v : Value} {l : List UInt8} (h : Own e w B v l) (hk : ∀ k, k < w.heap.size → (∃ c fr, w.heap[k]? = some (.cells c e fr)) → w'.heap[k]? = w.heap[k]?) : Own e w' B v l := by
  refine ⟨h.1, ?_⟩
  rcases h.2 with h' | ⟨k, cap, cur, e1, hB, e2, e3⟩
  · exact .inl h'
  · exact .inr ⟨k, cap, cur, e1, hB, (hk k (Array.getElem?_eq_some_iff.1 e2).1 ⟨cur, _, e2⟩).trans e2, e3⟩
theorem WV.same (h : WV w B q g1 c1 g2 c2 g3 c3 n X1 X2 S calls fuse) (hk : ∀ k, k < w.heap.size → k = q ∨ k = g1 ∨ k = g2 ∨ k = g3 ∨ (∃ c fr, w.heap[k]? = some (.cells c 5 fr)) → w'.heap[k]? = w.heap[k]?) : WV w' B q g1 c1 g2 c2 g3 c3 n X1 X2 S calls fuse := by
  obtain ⟨u1, h1, h1'⟩ := h.b1
  obtain ⟨u2, h2, h2'⟩ := h.b2
  obtain ⟨u3, h3, h3'⟩ := h.b3
  refine ⟨(hk q h.lt (.inl rfl)).trans h.blk, ⟨u1, (hk g1 h.lt1 (.inr (.inl rfl))).trans h1, h1'⟩, ⟨u2, (hk g2 h.lt2 (.inr (.inr (.inl rfl)))).trans h2, h2'⟩, ⟨u3, (hk g3 h.lt3 (.inr (.inr (.inr (.inl rfl))))).trans h3, h3'⟩, fun i hi => ?_, fun i hi => ?_, h.whole, h.ne, h.lq, h.l1, h.l2, h.l3⟩
  · exact own_same (h.e1 i hi) fun k hk' hc => hk k hk' (.inr (.inr (.inr (.inr hc))))
  · exact own_same (h.e2 i hi) fun k hk' hc => hk k hk' (.inr (.inr (.inr (.inr hc))))
theorem WV.below (h : WV w B q g1 c1 g2 c2 g3 c3 n X1 X2 S calls fuse) (hb : Below w.heap.size w w') : WV w' B q g1 c1 g2 c2 g3 c3 n X1 X2 S calls fuse := h.same fun k hk _ => hb.block k hk
theorem WV.drew (h : WV w B q g1 c1 g2 c2 g3 c3 n X1 X2 S calls fuse) : WV w.drew B q g1 c1 g2 c2 g3 c3 n X1 X2 S calls fuse := h.same fun _ _ _ => rfl
theorem WV.congr {S' : Nat → Sec} (h : WV w B q g1 c1 g2 c2 g3 c3 n X1 X2 S calls fuse) (e : ∀ j, j < n → S' j = S j) : WV w B q g1 c1 g2 c2 g3 c3 n X1 X2 S' calls fuse := by
  obtain ⟨u3, h3, h3'⟩ := h.b3
  exact ⟨h.blk, h.b1, h.b2, ⟨u3, h3, fun i hi => by rw [e i hi]; exact h3' i hi⟩, fun i hi => by rw [e i hi]; exact h.e1 i hi, fun i hi => by rw [e i hi]; exact h.e2 i hi, fun i hi => by rw [e i hi]; exact h.whole i hi, h.ne, h.lq, h.l1, h.l2, h.l3⟩
/-- It stays while a device is written to. -/
theorem WV.two {d g m B' : Nat} {T : Nat → Sec} {L : Life} (h : WV w B q g1 c1 g2 c2 g3 c3 n X1 X2 S calls fuse) (hd : DV w B' d g m T L) (hk : Two d (some g) w w') : WV w' B q g1 c1 g2 c2 g3 c3 n X1 X2 S calls fuse := by
  obtain ⟨_, h1, -⟩ := h.b1
  obtain ⟨_, h2, -⟩ := h.b2
  obtain ⟨_, h3, -⟩ := h.b3
  obtain ⟨_, hg, -⟩ := hd.row.row
  refine h.same fun k hk' hc => hk.block k hk' ?_ ?_
  · rintro rfl
    rcases hc with rfl | rfl | rfl | rfl | ⟨c, fr, hc⟩
    · exact blocks_ne hd.blk h.blk (by decide) rfl
    · exact blocks_ne hd.blk h1 (by decide) rfl
    · exact blocks_ne hd.blk h2 (by decide) rfl
    · exact blocks_ne hd.blk h3 (by decide) rfl
    · rw [hd.blk] at hc
      simp only [Option.some.injEq, Obj.cells.injEq] at hc
      exact absurd hc.2.1 (by decide)
  · intro e
    simp only [Option.some.injEq] at e
    subst e
    rcases hc with rfl | rfl | rfl | rfl | ⟨c, fr, hc⟩
    · exact blocks_ne hg h.blk (by decide) rfl
    · exact blocks_ne hg h1 (by decide) rfl
    · exact blocks_ne hg h2 (by decide) rfl
    · exact blocks_ne hg h3 (by decide) rfl
    · rw [hg] at hc
      simp only [Option.some.injEq, Obj.cells.injEq] at hc
      exact absurd hc.2.1 (by decide)
/-- A device stays while it is written to. -/
theorem DV.far {d g m B' : Nat} {T : Nat → Sec} {L : Life} (hd : DV w B' d g m T L) (h : WV w B q g1 c1 g2 c2 g3 c3 n X1 X2 S calls fuse) (hk : Far q g1 g2 g3 w w') : DV w' B' d g m T L := by
  obtain ⟨_, h1, -⟩ := h.b1
  obtain ⟨_, h2, -⟩ := h.b2
  obtain ⟨_, h3, -⟩ := h.b3
  obtain ⟨_, hg, -⟩ := hd.row.row
  exact hd.same (hk.block d hd.lt (blocks_ne hd.blk h.blk (by decide)) (blocks_ne hd.blk h1 (by decide)) (blocks_ne hd.blk h2 (by decide)) (blocks_ne hd.blk h3 (by decide)))
    (hk.block g hd.ltg (blocks_ne hg h.blk (by decide)) (blocks_ne hg h1 (by decide)) (blocks_ne hg h2 (by decide)) (blocks_ne hg h3 (by decide)))
theorem Far.belowWV (hk : Far q g1 g2 g3 w w') (h : WV w B q g1 c1 g2 c2 g3 c3 n X1 X2 S calls fuse) (hB : B ≤ w.heap.size) : Below B w w' := hk.below h.lq h.l1 h.l2 h.l3 hB

/-- w.now[i] = v. -/
theorem WV.set1 (h : WV w B q g1 c1 g2 c2 g3 c3 n X1 X2 S calls fuse) (i : Nat) (hi : i < n) (v : Value) (l : List UInt8) (hv : Own 5 w B v l) (hl : l.length = 64) :
    WV (w.setCell ⟨g1, i, none⟩ v) B q g1 c1 g2 c2 g3 c3 n (upV X1 i v) X2 (upS S i ⟨l, (S i).kept, (S i).loose⟩) calls fuse := by
  obtain ⟨a1, a2, a3, a4, a5⟩ := h.apart
  obtain ⟨u1, h1, h1'⟩ := h.b1
  obtain ⟨u2, h2, h2'⟩ := h.b2
  obtain ⟨u3, h3, h3'⟩ := h.b3
  refine ⟨(Below.heap_setCell _ _ _ _ a1).trans h.blk, ⟨_, heap_set h1 i v, set_at h1' hi v⟩, ⟨u2, (Below.heap_setCell _ _ _ _ h.ne.symm).trans h2, h2'⟩, ⟨u3, (Below.heap_setCell _ _ _ _ a4.symm).trans h3, fun j hj => ?_⟩, fun j hj => ?_, fun j hj => ?_, h.whole.up i _ hl (h.whole i hi).2, h.ne, h.lq, h.l1, h.l2, h.l3⟩
  · rw [h3' j hj]
    unfold upS
    by_cases e : j = i <;> simp [e]
  · unfold upV upS
    by_cases e : j = i
    · rw [if_pos e, if_pos e]; exact own_far hv h1 (by decide) v
    · rw [if_neg e, if_neg e]; exact own_far (h.e1 j hj) h1 (by decide) v
  · unfold upS
    by_cases e : j = i
    · subst e; rw [if_pos rfl]; exact own_far (h.e2 j hj) h1 (by decide) v
    · rw [if_neg e]; exact own_far (h.e2 j hj) h1 (by decide) v
/-- w.safe[i] = v. -/
theorem WV.set2 (h : WV w B q g1 c1 g2 c2 g3 c3 n X1 X2 S calls fuse) (i : Nat) (hi : i < n) (v : Value) (l : List UInt8) (hv : Own 5 w B v l) (hl : l.length = 64) :
    WV (w.setCell ⟨g2, i, none⟩ v) B q g1 c1 g2 c2 g3 c3 n X1 (upV X2 i v) (upS S i ⟨(S i).now, l, (S i).loose⟩) calls fuse := by
  obtain ⟨a1, a2, a3, a4, a5⟩ := h.apart
  obtain ⟨u1, h1, h1'⟩ := h.b1
  obtain ⟨u2, h2, h2'⟩ := h.b2
  obtain ⟨u3, h3, h3'⟩ := h.b3
  refine ⟨(Below.heap_setCell _ _ _ _ a2).trans h.blk, ⟨u1, (Below.heap_setCell _ _ _ _ h.ne).trans h1, h1'⟩, ⟨_, heap_set h2 i v, set_at h2' hi v⟩, ⟨u3, (Below.heap_setCell _ _ _ _ a5.symm).trans h3, fun j hj => ?_⟩, fun j hj => ?_, fun j hj => ?_, h.whole.up i _ (h.whole i hi).1 hl, h.ne, h.lq, h.l1, h.l2, h.l3⟩
  · rw [h3' j hj]
    unfold upS
    by_cases e : j = i <;> simp [e]
  · unfold upS
    by_cases e : j = i
    · subst e; rw [if_pos rfl]; exact own_far (h.e1 j hj) h2 (by decide) v
    · rw [if_neg e]; exact own_far (h.e1 j hj) h2 (by decide) v
  · unfold upV upS
    by_cases e : j = i
    · rw [if_pos e, if_pos e]; exact own_far hv h2 (by decide) v
    · rw [if_neg e, if_neg e]; exact own_far (h.e2 j hj) h2 (by decide) v
/-- w.loose[i] = b. -/
theorem WV.set3 (h : WV w B q g1 c1 g2 c2 g3 c3 n X1 X2 S calls fuse) (i : Nat) (hi : i < n) (b : Bool) :
    WV (w.setCell ⟨g3, i, none⟩ (.bool b)) B q g1 c1 g2 c2 g3 c3 n X1 X2 (upS S i ⟨(S i).now, (S i).kept, b⟩) calls fuse := by
  obtain ⟨a1, a2, a3, a4, a5⟩ := h.apart
  obtain ⟨u1, h1, h1'⟩ := h.b1
  obtain ⟨u2, h2, h2'⟩ := h.b2
  obtain ⟨u3, h3, h3'⟩ := h.b3
  refine ⟨(Below.heap_setCell _ _ _ _ a3).trans h.blk, ⟨u1, (Below.heap_setCell _ _ _ _ a4).trans h1, h1'⟩, ⟨u2, (Below.heap_setCell _ _ _ _ a5).trans h2, h2'⟩, ⟨_, heap_set h3 i (.bool b), fun j hj => ?_⟩, fun j hj => ?_, fun j hj => ?_, h.whole.up i _ (h.whole i hi).1 (h.whole i hi).2, h.ne, h.lq, h.l1, h.l2, h.l3⟩
  · rw [set_at (X := fun i => .bool (S i).loose) h3' hi (.bool b) j hj]
    unfold upV upS
    by_cases e : j = i <;> simp [e]
  · unfold upS
    by_cases e : j = i
    · subst e; rw [if_pos rfl]; exact own_far (h.e1 j hj) h3 (by decide) _
    · rw [if_neg e]; exact own_far (h.e1 j hj) h3 (by decide) _
  · unfold upS
    by_cases e : j = i
    · subst e; rw [if_pos rfl]; exact own_far (h.e2 j hj) h3 (by decide) _
    · rw [if_neg e]; exact own_far (h.e2 j hj) h3 (by decide) _
/-- w.calls = x. -/
theorem WV.setCalls (h : WV w B q g1 c1 g2 c2 g3 c3 n X1 X2 S calls fuse) (x : Int) : WV (w.setCell ⟨q, 3, none⟩ (.int .i64 x)) B q g1 c1 g2 c2 g3 c3 n X1 X2 S x fuse := by
  obtain ⟨a1, a2, a3, a4, a5⟩ := h.apart
  obtain ⟨u1, h1, h1'⟩ := h.b1
  obtain ⟨u2, h2, h2'⟩ := h.b2
  obtain ⟨u3, h3, h3'⟩ := h.b3
  exact ⟨by rw [heap_set h.blk]; rfl, ⟨u1, (Below.heap_setCell _ _ _ _ a1.symm).trans h1, h1'⟩, ⟨u2, (Below.heap_setCell _ _ _ _ a2.symm).trans h2, h2'⟩, ⟨u3, (Below.heap_setCell _ _ _ _ a3.symm).trans h3, h3'⟩, fun i hi => own_far (h.e1 i hi) h.blk (by decide) _, fun i hi => own_far (h.e2 i hi) h.blk (by decide) _, h.whole, h.ne, h.lq, h.l1, h.l2, h.l3⟩
/-- w.fuse = x. -/
theorem WV.setFuse (h : WV w B q g1 c1 g2 c2 g3 c3 n X1 X2 S calls fuse) (x : Int) : WV (w.setCell ⟨q, 4, none⟩ (.int .i64 x)) B q g1 c1 g2 c2 g3 c3 n X1 X2 S calls x := by
  obtain ⟨a1, a2, a3, a4, a5⟩ := h.apart
  obtain ⟨u1, h1, h1'⟩ := h.b1
  obtain ⟨u2, h2, h2'⟩ := h.b2
  obtain ⟨u3, h3, h3'⟩ := h.b3
  exact ⟨by rw [heap_set h.blk]; rfl, ⟨u1, (Below.heap_setCell _ _ _ _ a1.symm).trans h1, h1'⟩, ⟨u2, (Below.heap_setCell _ _ _ _ a2.symm).trans h2, h2'⟩, ⟨u3, (Below.heap_setCell _ _ _ _ a3.symm).trans h3, h3'⟩, fun i hi => own_far (h.e1 i hi) h.blk (by decide) _, fun i hi => own_far (h.e2 i hi) h.blk (by decide) _, h.whole, h.ne, h.lq, h.l1, h.l2, h.l3⟩
end

end Go.Proofs.Ytdobkocckdpghaa
