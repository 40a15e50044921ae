/-
  Stage 17: what CuckooAll's two regions with appends keep (regions 13, 17), and its loop.
-/
import Derived.Test.YtgbaeipemlcbcaaBegun17
import Derived.Test.YtgbaeipemlcbcaaOpsC
import Derived.Test.YtgbaeipemlcbcaaDrawC
namespace Go.Proofs.Ytgbaeipemlcbcaa
open Go.RowKit

namespace Lay
section
variable {α β : Type} {K : Lay α} {K' : Lay β} {P : Program} {w w' : World} {B B' : Nat} {u v : Value} {l : List α} {m : List β}
/-- Rows of other types lie in other blocks. -/
theorem O.ne (h : K.O w B u l) (g : K'.O w B' v m) (he : K.elem ≠ K'.elem) : v.ownBlock = none ∨ v.ownBlock ≠ u.ownBlock := by
  rcases g.2 with ⟨rfl, -⟩ | ⟨b, cap, cur, rfl, -, hg, -⟩
  · exact .inl rfl
  · refine .inr fun e => ?_
    rcases h.2 with ⟨rfl, -⟩ | ⟨b', cap', cur', rfl, -, hg', -⟩
    · cases e
    · simp only [Value.ownBlock, Option.some.injEq] at e
      subst e
      rw [hg] at hg'
      simp only [Option.some.injEq, Obj.cells.injEq] at hg'
      exact he hg'.2.1.symm
theorem O.blk (h : K.O w B u l) {q : Nat} {cs : Array Value} {e : TypeId} {fr : Nat × Nat} (hq : w.heap[q]? = some (.cells cs e fr)) (he : K.elem ≠ e) : u.ownBlock ≠ some q := by
  intro e2
  rcases h.2 with ⟨rfl, -⟩ | ⟨b', cap', cur', rfl, -, hg', -⟩
  · cases e2
  · simp only [Value.ownBlock, Option.some.injEq] at e2
    subst e2
    rw [hq] at hg'
    simp only [Option.some.injEq, Obj.cells.injEq] at hg'
    exact he hg'.2.1.symm
/-- .. so what lies there stays when the row grows. -/
theorem O.blkKept (h : K.O w B u l) (hg : w.grownBy w' u.ownBlock) {q : Nat} {cs : Array Value} {e : TypeId} {fr : Nat × Nat} (hq : w.heap[q]? = some (.cells cs e fr)) (he : K.elem ≠ e) : w'.heap[q]? = some (.cells cs e fr) :=
  (hg.block q (Array.getElem?_eq_some_iff.1 hq).1 (fun e2 => h.blk hq he e2.symm)).trans hq
theorem R.oneAt {x : α} {q : Nat} {e : TypeId} {fr : Nat × Nat} (h : w.heap[q]? = some (.cells (K.enc x).toArray e fr)) : K.R w (.slice (some ⟨q, 0, none⟩) 1 1) [x] := by
  refine ⟨some ⟨q, 0, none⟩, 1, rfl, Nat.le_refl _, by simp [maxLen], (fun h => by cases h), fun _ => ⟨q, 0, rfl, fun j y hj => ?_⟩⟩
  rw [cell_of_row _ q (0 + j) _ _ _ h, Nat.zero_add]
  rw [flat_cons, flat_nil, List.append_nil] at hj
  rw [List.getElem?_toArray]
  exact hj
end
end Lay

theorem put_other {a : Act} {t s : Nat} {v : Value} (h : s ≠ t) : (a.put (some t) v).tmps[s]? = a.tmps[s]? := Array.getElem?_setIfInBounds_ne (Ne.symm h)
theorem put_same {a : Act} {t : Nat} {v : Value} (h : t < a.tmps.size) : (a.put (some t) v).tmps[t]? = some v := by simp [Act.put, h]
theorem no_way {P : Prop} {b : Bool} (h : b = false) (g : b = true) : P := by rw [h] at g; cases g
theorem block_kept {w w' : World} {q : Nat} {o : Obj} (h : w.heap[q]? = some o) (hb : Below w.heap.size w w') : w'.heap[q]? = some o := (hb.block _ (Array.getElem?_eq_some_iff.1 h).1).trans h
theorem block_lt {w : World} {q : Nat} {o : Obj} (h : w.heap[q]? = some o) : q < w.heap.size := (Array.getElem?_eq_some_iff.1 h).1

/-- The box of an Op. -/
def boxO (x : OpC) : Obj := .cells #[.int .i64 x.kind, .int .i64 x.id, .int .i64 x.old, .int .u64 (x.h : Int)] 30
def boxE (h : Nat) (i : Int) : Obj := .cells #[.int .u64 (h : Int), .int .i64 i] 34
def boxU (h : Nat) : Obj := .cells #[.int .u64 (h : Int)] 28

/-! ### Region 13: hashes and one more, in a row of their own. -/
def I13 (w0 : World) (hs : List Nat) (h : Nat) (done : Nat → Bool) (a : Act) (w : World) : Prop :=
  Below w0.heap.size w0 w ∧
  (done 10 = true → done 14 = false → ∃ v, a.tmps[46]? = some v ∧ KU.O w w0.heap.size v hs) ∧
  (done 13 = true → done 14 = false → ∃ v, a.tmps[49]? = some v ∧ KU.R w v [h]) ∧
  (done 14 = true → ∃ v, a.tmps[50]? = some v ∧ KU.R w v (hs ++ [h]))
section
variable {w0 w w' : World} {hs : List Nat} {h : Nat} {done : Nat → Bool} {a : Act} {v : Value}
theorem I13.start (w0 : World) (hs : List Nat) (h : Nat) (a : Act) : I13 w0 hs h (fun _ => false) a w0.drew :=
  ⟨(Below.refl _ _).drew, fun h => Bool.noConfusion h, fun h => Bool.noConfusion h, fun h => Bool.noConfusion h⟩
theorem I13.keep (i : I13 w0 hs h done a w) (j : Nat) (hj : (j != 10 && j != 13 && j != 14) = true) (t : Nat) (ht : (t != 46 && t != 49 && t != 50) = true) (v : Value) (hb : Below w.heap.size w w') : I13 w0 hs h (doneToo done j) (a.put (some t) v) w' := by
  simp only [Bool.and_eq_true, bne_iff_ne, ne_eq] at hj ht
  obtain ⟨⟨j1, j2⟩, j3⟩ := hj
  obtain ⟨⟨t1, t2⟩, t3⟩ := ht
  obtain ⟨b1, i1, i2, i3⟩ := i
  refine ⟨b1.trans (hb.mono b1.size), ?_, ?_, ?_⟩
  · rw [doneToo_other (Ne.symm j1), doneToo_other (Ne.symm j3), put_other (Ne.symm t1)]
    intro p q; obtain ⟨v, e, ho⟩ := i1 p q; exact ⟨v, e, ho.below hb⟩
  · rw [doneToo_other (Ne.symm j2), doneToo_other (Ne.symm j3), put_other (Ne.symm t2)]
    intro p q; obtain ⟨v, e, ho⟩ := i2 p q; exact ⟨v, e, ho.below hb⟩
  · rw [doneToo_other (Ne.symm j3), put_other (Ne.symm t3)]
    intro p; obtain ⟨v, e, ho⟩ := i3 p; exact ⟨v, e, ho.below hb⟩
theorem I13.s10 (i : I13 w0 hs h done a w) (h14 : done 14 = false) {n : Nat} (hl : a.tmps.size = n + 51) (ho : KU.O w' w0.heap.size v ([] ++ hs)) (hb : Below w.heap.size w w') : I13 w0 hs h (doneToo done 10) (a.put (some 46) v) w' := by
  obtain ⟨b1, i1, i2, i3⟩ := i
  refine ⟨b1.trans (hb.mono b1.size), fun _ _ => ⟨v, put_same (by rw [hl]; omega), by simpa using ho⟩, ?_, ?_⟩
  · rw [doneToo_other (by decide), doneToo_other (by decide), put_other (by decide)]
    intro p q; obtain ⟨v, e, ho⟩ := i2 p q; exact ⟨v, e, ho.below hb⟩
  · rw [doneToo_other (by decide)]; exact fun p => no_way h14 p
theorem I13.s13 (i : I13 w0 hs h done a w) (h14 : done 14 = false) {n : Nat} (hl : a.tmps.size = n + 51) (ho : KU.R w' v [h]) (hb : Below w.heap.size w w') : I13 w0 hs h (doneToo done 13) (a.put (some 49) v) w' := by
  obtain ⟨b1, i1, i2, i3⟩ := i
  refine ⟨b1.trans (hb.mono b1.size), ?_, fun _ _ => ⟨v, put_same (by rw [hl]; omega), ho⟩, ?_⟩
  · rw [doneToo_other (by decide), doneToo_other (by decide), put_other (by decide)]
    intro p q; obtain ⟨v, e, ho⟩ := i1 p q; exact ⟨v, e, ho.below hb⟩
  · rw [doneToo_other (by decide)]; exact fun p => no_way h14 p
theorem I13.s14 (_i : I13 w0 hs h done a w) {n : Nat} (hl : a.tmps.size = n + 51) (ho : KU.R w' v (hs ++ [h])) (hb : Below w0.heap.size w0 w') : I13 w0 hs h (doneToo done 14) (a.put (some 50) v) w' := by
  refine ⟨hb, ?_, ?_, fun _ => ⟨v, put_same (by rw [hl]; omega), ho⟩⟩
  · rw [doneToo_self]; intro _ q; cases q
  · rw [doneToo_self]; intro _ q; cases q
end

/-! ### Region 17: an entry more, a hash more, each behind its own row. -/
def I17 (w0 : World) (B p : Nat) (x : OpC) (u v : Value) (es : List EnT) (hs : List Nat) (done : Nat → Bool) (a : Act) (w : World) : Prop :=
  (Below B w0 w ∧ B ≤ w.heap.size ∧ w.heap[p]? = some (boxO x)) ∧
  (done 7 = false → KE.O w B u es) ∧
  (done 7 = true → ∃ y, a.tmps[69]? = some y ∧ KE.O w B y (es ++ [(x.h, x.id)])) ∧
  (done 12 = false → KU.O w B v hs) ∧
  (done 12 = true → ∃ y, a.tmps[74]? = some y ∧ KU.O w B y (hs ++ [x.h])) ∧
  (done 6 = true → done 7 = false → ∃ q, a.tmps[68]? = some (.slice (some ⟨q, 0, none⟩) 1 1) ∧ w.heap[q]? = some (boxE x.h x.id)) ∧
  (done 11 = true → done 12 = false → ∃ q, a.tmps[73]? = some (.slice (some ⟨q, 0, none⟩) 1 1) ∧ w.heap[q]? = some (boxU x.h)) ∧
  (done 13 = true → ∃ y, a.tmps[5]? = some y ∧ KE.O w B y (es ++ [(x.h, x.id)])) ∧
  (done 14 = true → ∃ y, a.tmps[6]? = some y ∧ KU.O w B y (hs ++ [x.h]))
theorem ku_ke : KU.elem ≠ KE.elem := by decide
theorem ke_ku : KE.elem ≠ KU.elem := by decide
theorem ke_op : KE.elem ≠ 30 := by decide
theorem ku_op : KU.elem ≠ 30 := by decide
section
variable {w0 w w' : World} {B p : Nat} {x : OpC} {u v y : Value} {es : List EnT} {hs : List Nat} {done : Nat → Bool} {a : Act}
theorem I17.start (hB : B ≤ w0.heap.size) (hp : w0.heap[p]? = some (boxO x)) (hu : KE.O w0 B u es) (hv : KU.O w0 B v hs) (a : Act) : I17 w0 B p x u v es hs (fun _ => false) a w0.drew :=
  ⟨⟨(Below.refl _ _).drew, hB, hp⟩, fun _ => hu.drew, fun h => Bool.noConfusion h, fun _ => hv.drew, fun h => Bool.noConfusion h, fun h => Bool.noConfusion h, fun h => Bool.noConfusion h, fun h => Bool.noConfusion h, fun h => Bool.noConfusion h⟩
theorem I17.keep (i : I17 w0 B p x u v es hs done a w) (j : Nat) (hj : (j != 6 && j != 7 && j != 11 && j != 12 && j != 13 && j != 14) = true) (t : Nat) (ht : (t != 68 && t != 69 && t != 73 && t != 74 && t != 5 && t != 6) = true) (z : Value) (hb : Below w.heap.size w w') : I17 w0 B p x u v es hs (doneToo done j) (a.put (some t) z) w' := by
  simp only [Bool.and_eq_true, bne_iff_ne, ne_eq] at hj ht
  obtain ⟨⟨⟨⟨⟨j1, j2⟩, j3⟩, j4⟩, j5⟩, j6⟩ := hj
  obtain ⟨⟨⟨⟨⟨t1, t2⟩, t3⟩, t4⟩, t5⟩, t6⟩ := ht
  obtain ⟨⟨b1, b2, b3⟩, i1, i2, i3, i4, i5, i6, i7, i8⟩ := i
  refine ⟨⟨b1.trans (hb.mono b2), Nat.le_trans b2 hb.size, block_kept b3 hb⟩, ?_, ?_, ?_, ?_, ?_, ?_, ?_, ?_⟩
  · rw [doneToo_other (Ne.symm j2)]; exact fun q => (i1 q).below hb
  · rw [doneToo_other (Ne.symm j2), put_other (Ne.symm t2)]; intro q; obtain ⟨z, e, ho⟩ := i2 q; exact ⟨z, e, ho.below hb⟩
  · rw [doneToo_other (Ne.symm j4)]; exact fun q => (i3 q).below hb
  · rw [doneToo_other (Ne.symm j4), put_other (Ne.symm t4)]; intro q; obtain ⟨z, e, ho⟩ := i4 q; exact ⟨z, e, ho.below hb⟩
  · rw [doneToo_other (Ne.symm j1), doneToo_other (Ne.symm j2), put_other (Ne.symm t1)]; intro q r; obtain ⟨z, e, ho⟩ := i5 q r; exact ⟨z, e, block_kept ho hb⟩
  · rw [doneToo_other (Ne.symm j3), doneToo_other (Ne.symm j4), put_other (Ne.symm t3)]; intro q r; obtain ⟨z, e, ho⟩ := i6 q r; exact ⟨z, e, block_kept ho hb⟩
  · rw [doneToo_other (Ne.symm j5), put_other (Ne.symm t5)]; intro q; obtain ⟨z, e, ho⟩ := i7 q; exact ⟨z, e, ho.below hb⟩
  · rw [doneToo_other (Ne.symm j6), put_other (Ne.symm t6)]; intro q; obtain ⟨z, e, ho⟩ := i8 q; exact ⟨z, e, ho.below hb⟩
theorem I17.s6 (i : I17 w0 B p x u v es hs done a w) (h7 : done 7 = false) (h13 : done 13 = false) {n : Nat} (hl : a.tmps.size = n + 75) : I17 w0 B p x u v es hs (doneToo done 6) (a.put (some 68) (.slice (some ⟨w.heap.size, 0, none⟩) 1 1)) (w.alloc (boxE x.h x.id)) := by
  have hb : Below w.heap.size w (w.alloc (boxE x.h x.id)) := (Below.refl _ w).alloc (Nat.le_refl _) _
  obtain ⟨⟨b1, b2, b3⟩, i1, i2, i3, i4, i5, i6, i7, i8⟩ := i
  refine ⟨⟨b1.trans (hb.mono b2), Nat.le_trans b2 hb.size, block_kept b3 hb⟩, ?_, ?_, ?_, ?_, fun _ _ => ⟨w.heap.size, put_same (by rw [hl]; omega), heap_alloc_new w _⟩, ?_, ?_, ?_⟩
  · rw [doneToo_other (by decide)]; exact fun q => (i1 q).below hb
  · rw [doneToo_other (by decide)]; exact fun q => no_way h7 q
  · rw [doneToo_other (by decide)]; exact fun q => (i3 q).below hb
  · rw [doneToo_other (by decide), put_other (by decide)]; intro q; obtain ⟨z, e, ho⟩ := i4 q; exact ⟨z, e, ho.below hb⟩
  · rw [doneToo_other (by decide), doneToo_other (by decide), put_other (by decide)]; intro q r; obtain ⟨z, e, ho⟩ := i6 q r; exact ⟨z, e, block_kept ho hb⟩
  · rw [doneToo_other (by decide)]; exact fun q => no_way h13 q
  · rw [doneToo_other (by decide), put_other (by decide)]; intro q; obtain ⟨z, e, ho⟩ := i8 q; exact ⟨z, e, ho.below hb⟩
theorem I17.s11 (i : I17 w0 B p x u v es hs done a w) (h12 : done 12 = false) (h14 : done 14 = false) {n : Nat} (hl : a.tmps.size = n + 75) : I17 w0 B p x u v es hs (doneToo done 11) (a.put (some 73) (.slice (some ⟨w.heap.size, 0, none⟩) 1 1)) (w.alloc (boxU x.h)) := by
  have hb : Below w.heap.size w (w.alloc (boxU x.h)) := (Below.refl _ w).alloc (Nat.le_refl _) _
  obtain ⟨⟨b1, b2, b3⟩, i1, i2, i3, i4, i5, i6, i7, i8⟩ := i
  refine ⟨⟨b1.trans (hb.mono b2), Nat.le_trans b2 hb.size, block_kept b3 hb⟩, ?_, ?_, ?_, ?_, ?_, fun _ _ => ⟨w.heap.size, put_same (by rw [hl]; omega), heap_alloc_new w _⟩, ?_, ?_⟩
  · rw [doneToo_other (by decide)]; exact fun q => (i1 q).below hb
  · rw [doneToo_other (by decide), put_other (by decide)]; intro q; obtain ⟨z, e, ho⟩ := i2 q; exact ⟨z, e, ho.below hb⟩
  · rw [doneToo_other (by decide)]; exact fun q => (i3 q).below hb
  · rw [doneToo_other (by decide)]; exact fun q => no_way h12 q
  · rw [doneToo_other (by decide), doneToo_other (by decide), put_other (by decide)]; intro q r; obtain ⟨z, e, ho⟩ := i5 q r; exact ⟨z, e, block_kept ho hb⟩
  · rw [doneToo_other (by decide), put_other (by decide)]; intro q; obtain ⟨z, e, ho⟩ := i7 q; exact ⟨z, e, ho.below hb⟩
  · rw [doneToo_other (by decide)]; exact fun q => no_way h14 q
theorem I17.s7 (i : I17 w0 B p x u v es hs done a w) (h7 : done 7 = false) (h12 : done 12 = false) (h13 : done 13 = false) (h14 : done 14 = false) {n : Nat} (hl : a.tmps.size = n + 75) (ho : KE.O w' B y (es ++ [(x.h, x.id)])) (hg : w.grownBy w' u.ownBlock) : I17 w0 B p x u v es hs (doneToo done 7) (a.put (some 69) y) w' := by
  obtain ⟨⟨b1, b2, b3⟩, i1, i2, i3, i4, i5, i6, i7, i8⟩ := i
  have hu := i1 h7
  refine ⟨⟨b1.grown hg b2 hu.row, Nat.le_trans b2 hg.size, hu.blkKept hg b3 ke_op⟩, ?_, fun _ => ⟨y, put_same (by rw [hl]; omega), ho⟩, ?_, ?_, ?_, ?_, ?_, ?_⟩
  · rw [doneToo_self]; intro q; cases q
  · rw [doneToo_other (by decide)]; exact fun q => (i3 q).kept hg (hu.ne (i3 q) ke_ku)
  · rw [doneToo_other (by decide)]; exact fun q => no_way h12 q
  · rw [doneToo_self]; intro _ q; cases q
  · rw [doneToo_other (by decide), doneToo_other (by decide), put_other (by decide)]; intro q r; obtain ⟨z, e, hz⟩ := i6 q r; exact ⟨z, e, hu.blkKept hg hz ke_ku⟩
  · rw [doneToo_other (by decide)]; exact fun q => no_way h13 q
  · rw [doneToo_other (by decide)]; exact fun q => no_way h14 q
theorem I17.s12 (i : I17 w0 B p x u v es hs done a w) (h7 : done 7 = true) (h12 : done 12 = false) (h13 : done 13 = false) (h14 : done 14 = false) {n : Nat} (hl : a.tmps.size = n + 75) (ho : KU.O w' B y (hs ++ [x.h])) (hg : w.grownBy w' v.ownBlock) : I17 w0 B p x u v es hs (doneToo done 12) (a.put (some 74) y) w' := by
  obtain ⟨⟨b1, b2, b3⟩, i1, i2, i3, i4, i5, i6, i7, i8⟩ := i
  have hv := i3 h12
  refine ⟨⟨b1.grown hg b2 hv.row, Nat.le_trans b2 hg.size, hv.blkKept hg b3 ku_op⟩, ?_, ?_, ?_, fun _ => ⟨y, put_same (by rw [hl]; omega), ho⟩, ?_, ?_, ?_, ?_⟩
  · rw [doneToo_other (by decide)]; exact fun q => no_way q h7
  · rw [doneToo_other (by decide), put_other (by decide)]; intro q; obtain ⟨z, e, hz⟩ := i2 q; exact ⟨z, e, hz.kept hg (hv.ne hz ku_ke)⟩
  · rw [doneToo_self]; intro q; cases q
  · rw [doneToo_other (by decide), doneToo_other (show (7 : Nat) ≠ 12 by decide)]; exact fun _ q => no_way q h7
  · rw [doneToo_self]; intro _ q; cases q
  · rw [doneToo_other (by decide)]; exact fun q => no_way h13 q
  · rw [doneToo_other (by decide)]; exact fun q => no_way h14 q
theorem I17.s13 (i : I17 w0 B p x u v es hs done a w) (_h6 : done 6 = true) (h7 : done 7 = true) (_h11 : done 11 = true) (h12 : done 12 = true) {n : Nat} (hl : a.tmps.size = n + 75) (ho : KE.O w B y (es ++ [(x.h, x.id)])) : I17 w0 B p x u v es hs (doneToo done 13) (a.put (some 5) y) w := by
  obtain ⟨⟨b1, b2, b3⟩, i1, i2, i3, i4, i5, i6, i7, i8⟩ := i
  refine ⟨⟨b1, b2, b3⟩, ?_, ?_, ?_, ?_, ?_, ?_, fun _ => ⟨y, put_same (by rw [hl]; omega), ho⟩, ?_⟩
  · rw [doneToo_other (by decide)]; exact fun q => no_way q h7
  · rw [doneToo_other (by decide), put_other (by decide)]; exact i2
  · rw [doneToo_other (by decide)]; exact fun q => no_way q h12
  · rw [doneToo_other (by decide), put_other (by decide)]; exact i4
  · rw [doneToo_other (show (6 : Nat) ≠ 13 by decide), doneToo_other (show (7 : Nat) ≠ 13 by decide)]; exact fun _ q => no_way q h7
  · rw [doneToo_other (show (11 : Nat) ≠ 13 by decide), doneToo_other (show (12 : Nat) ≠ 13 by decide)]; exact fun _ q => no_way q h12
  · rw [doneToo_other (by decide), put_other (by decide)]; exact i8
theorem I17.s14 (i : I17 w0 B p x u v es hs done a w) (_h6 : done 6 = true) (h7 : done 7 = true) (_h11 : done 11 = true) (h12 : done 12 = true) {n : Nat} (hl : a.tmps.size = n + 75) (ho : KU.O w B y (hs ++ [x.h])) : I17 w0 B p x u v es hs (doneToo done 14) (a.put (some 6) y) w := by
  obtain ⟨⟨b1, b2, b3⟩, i1, i2, i3, i4, i5, i6, i7, i8⟩ := i
  refine ⟨⟨b1, b2, b3⟩, ?_, ?_, ?_, ?_, ?_, ?_, ?_, fun _ => ⟨y, put_same (by rw [hl]; omega), ho⟩⟩
  · rw [doneToo_other (by decide)]; exact fun q => no_way q h7
  · rw [doneToo_other (by decide), put_other (by decide)]; exact i2
  · rw [doneToo_other (by decide)]; exact fun q => no_way q h12
  · rw [doneToo_other (by decide), put_other (by decide)]; exact i4
  · rw [doneToo_other (show (6 : Nat) ≠ 14 by decide), doneToo_other (show (7 : Nat) ≠ 14 by decide)]; exact fun _ q => no_way q h7
  · rw [doneToo_other (show (11 : Nat) ≠ 14 by decide), doneToo_other (show (12 : Nat) ≠ 14 by decide)]; exact fun _ q => no_way q h12
  · rw [doneToo_other (by decide), put_other (by decide)]; exact i7
end

/-! ### Which entry of an old number is near. -/
def FoundO (es : List EnT) (x : Nat) (old : Int) (j : Nat) (at' : Int) : Prop :=
  (at' = -1 ∧ ∀ r (hr : r < es.length), r < j → es[r].2 = old → nearN x es[r].1 = false) ∨ ∃ r, ∃ hr : r < es.length, at' = (r : Int) ∧ es[r].2 = old ∧ nearN x es[r].1 = true
theorem FoundO.no {es : List EnT} {x : Nat} {old : Int} {j : Nat} {at' : Int} (h : FoundO es x old j at') (hj : j < es.length) (hk : es[j].2 = old → nearN x es[j].1 = false) : FoundO es x old (j + 1) at' := by
  rcases h with ⟨h1, h2⟩ | h
  · refine .inl ⟨h1, fun r hr hlt => ?_⟩
    rcases Nat.lt_or_ge r j with h | h
    · exact h2 r hr h
    · obtain rfl : r = j := by omega
      exact hk
  · exact .inr h
theorem FoundO.yes {es : List EnT} {x : Nat} {old : Int} {j : Nat} (hj : j < es.length) (h1 : es[j].2 = old) (h2 : nearN x es[j].1 = true) : FoundO es x old (j + 1) (j : Int) := .inr ⟨j, hj, rfl, h1, h2⟩
theorem FoundO.none {es : List EnT} {x : Nat} {old : Int} (h : FoundO es x old es.length (-1)) : ∀ e ∈ es, e.2 = old → nearN x e.1 = false := by
  rcases h with ⟨-, h2⟩ | ⟨r, hr, h1, -⟩
  · intro e he
    obtain ⟨r, hr, rfl⟩ := List.mem_iff_getElem.1 he
    exact h2 r hr hr
  · omega
/-- The sorted numbers near a hash. -/
def srtF (es : List EnT) (x : Nat) : List Int := (findL es x).mergeSort (fun a b => decide (a ≤ b))
theorem srtF_of {es : List EnT} {x : Nat} {F : List Int} (h1 : F.Pairwise (· ≤ ·)) (h2 : F.Perm (findL es x)) : F = srtF es x := by
  refine sorted_one h1 ?_ (h2.trans (List.mergeSort_perm _ _).symm)
  have := List.pairwise_mergeSort (le := fun a b : Int => decide (a ≤ b)) (fun a b c h1 h2 => by simp only [decide_eq_true_eq] at *; omega) (fun a b => by simp only [Bool.or_eq_true, decide_eq_true_eq]; omega) (findL es x)
  exact this.imp fun h => by simpa using h
theorem es_set_fst {es : List EnT} {r : Nat} (hr : r < es.length) (i : Int) : (es.set r (es[r].1, i)).map Prod.fst = es.map Prod.fst := by
  rw [List.map_set]
  apply List.ext_getElem
  · simp
  · intro k h1 h2
    rw [List.getElem_set]
    split
    · subst_vars; simp
    · rfl

end Go.Proofs.Ytgbaeipemlcbcaa
