/-
  A *super.Super in memory. Plain facts.
-/
import Derived.Test.YtiejjiccncmeiaaDoorSupD
import Derived.Test.YtiejjiccncmeiaaDoorDevK
namespace Go.Proofs.YtiejjiccncmeiaaDoor
open Go.RowKit

/-- Of the blocks that there were all but those of l are as they were. -/
structure Offs (l : List Nat) (w w' : World) : Prop where
  os : w'.os = w.os
  tape : w'.tape = w.tape
  output : w'.output = w.output
  size : w.heap.size ≤ w'.heap.size
  block : ∀ k, k < w.heap.size → k ∉ l → w'.heap[k]? = w.heap[k]?
theorem Offs.refl (l : List Nat) (w : World) : Offs l w w := ⟨rfl, rfl, rfl, Nat.le_refl _, fun _ _ _ => rfl⟩
theorem Offs.trans {l : List Nat} {w w1 w2 : World} (h : Offs l w w1) (k : Offs l w1 w2) : Offs l w w2 :=
  ⟨k.os.trans h.os, k.tape.trans h.tape, k.output.trans h.output, Nat.le_trans h.size k.size, fun i hi hn => (k.block i (Nat.lt_of_lt_of_le hi h.size) hn).trans (h.block i hi hn)⟩
theorem Offs.of_below {l : List Nat} {w w' : World} (h : Below w.heap.size w w') : Offs l w w' := ⟨h.os, h.tape, h.output, h.size, fun k hk _ => h.block k hk⟩
theorem Offs.of_two {d g : Nat} {l : List Nat} {w w' : World} (h : Two d (some g) w w') (hd : d ∈ l) (hg : g ∈ l) : Offs l w w' :=
  ⟨h.os, h.tape, h.output, h.size, fun k hk hn => h.block k hk (fun e => hn (e ▸ hd)) (fun e => hn (by cases e; exact hg))⟩
theorem Offs.set {l : List Nat} {w w' : World} (h : Offs l w w') {p : Nat} (hp : p ∈ l) (o : Nat) (u : Value) : Offs l w (w'.setCell ⟨p, o, none⟩ u) :=
  ⟨h.os, h.tape, h.output, by simpa [World.setCell] using h.size, fun k hk hn => (Below.heap_setCell _ _ _ _ (by show k ≠ p; rintro rfl; exact hn hp)).trans (h.block k hk hn)⟩
theorem Offs.below {l : List Nat} {w w' : World} {B : Nat} (h : Offs l w w') (hl : ∀ k, k ∈ l → B ≤ k) (hB : B ≤ w.heap.size) : Below B w w' :=
  ⟨h.os, h.tape, h.output, h.size, fun k hk => h.block k (by omega) (fun hm => by have := hl k hm; omega)⟩
theorem Offs.cell {l : List Nat} {w w' : World} (h : Offs l w w') {p : Addr} {v : Value} (hc : w.cell? p = some v) (hp : p.block ∉ l) : w'.cell? p = some v :=
  (World.cell?_of_block (w := w) (h.block p.block (World.block_lt_of_cell? w _ hc) hp)).trans hc

/-- None of the blocks of l is one of bytes. -/
def NoBytes (w : World) (l : List Nat) : Prop := ∀ k, k ∈ l → ∀ cs fr, w.heap[k]? ≠ some (.cells cs 5 fr)
theorem TX.offs {w w' : World} {v : Value} {x : List UInt8} {l : List Nat} (h : TX w v x) (hk : Offs l w w') (hn : NoBytes w l) : TX w' v x := by
  obtain ⟨⟨a, cap, rfl, h1, h2, h3, h4⟩, ht⟩ := h
  have hb : ∀ b o, x ≠ [] → a = some ⟨b, o, none⟩ → w'.heap[b]? = w.heap[b]? := fun b o hne e => by
    obtain ⟨b', o', n, cap', cur, fr, hv, hg⟩ := ht hne
    simp only [Value.slice.injEq] at hv
    obtain ⟨rfl, -, -⟩ := hv
    simp only [Option.some.injEq, Addr.mk.injEq] at e
    obtain ⟨rfl, -, -⟩ := e
    exact hk.block b' (Array.getElem?_eq_some_iff.1 hg).1 (fun hm => hn b' hm _ _ hg)
  refine ⟨⟨a, cap, rfl, h1, h2, h3, fun hne => ?_⟩, fun hne => ?_⟩
  · obtain ⟨b, o, ha, hc⟩ := h4 hne
    exact ⟨b, o, ha, fun i hi => (World.cell?_of_block (w := w) (hb b o hne ha)).trans (hc i hi)⟩
  · obtain ⟨b, o, n, cap', cur, fr, hv, hg⟩ := ht hne
    simp only [Value.slice.injEq] at hv
    obtain ⟨rfl, rfl, rfl⟩ := hv
    exact ⟨b, o, _, _, cur, fr, rfl, (hb b o hne rfl).trans hg⟩

/-- p, a *super.Super: its device at d, its place, what it holds; it lies from block B on. -/
structure SU (w : World) (B p d at_ : Nat) (f : Found) : Prop where
  blk : ∃ v, w.heap[p]? = some (.cells #[.pointer (some ⟨d, 0, none⟩), .int .i64 (at_ : Int), .int .i64 (f.slot : Int), v, .int .i64 (f.turn : Int)] 54) ∧ TX w v f.text
  low : B ≤ p
  fits : f.Fits
section
variable {w w' : World} {B p d at_ g n : Nat} {f : Found} {S : Nat → Sec} {L : Life}
theorem SU.lt (h : SU w B p d at_ f) : p < w.heap.size := by
  obtain ⟨v, hv, -⟩ := h.blk
  exact (Array.getElem?_eq_some_iff.1 hv).1
theorem SU.mono {B' : Nat} (h : SU w B p d at_ f) (hB : B' ≤ B) : SU w B' p d at_ f := ⟨h.blk, Nat.le_trans hB h.low, h.fits⟩
theorem SU.below (h : SU w B p d at_ f) (hb : Below w.heap.size w w') : SU w' B p d at_ f := by
  obtain ⟨v, hv, ht⟩ := h.blk
  exact ⟨⟨v, (hb.block p h.lt).trans hv, ht.below hb⟩, h.low, h.fits⟩
theorem SU.offs {l : List Nat} (h : SU w B p d at_ f) (hk : Offs l w w') (hp : p ∉ l) (hn : NoBytes w l) : SU w' B p d at_ f := by
  obtain ⟨v, hv, ht⟩ := h.blk
  exact ⟨⟨v, (hk.block p h.lt hp).trans hv, ht.offs hk hn⟩, h.low, h.fits⟩
theorem DV.noBytes (h : DV w B d g n S L) : NoBytes w [d, g] := by
  obtain ⟨cur, hr, -⟩ := h.row.row
  intro k hk cs fr e
  simp only [List.mem_cons, List.not_mem_nil, or_false] at hk
  rcases hk with rfl | rfl
  · rw [h.blk] at e
    simp only [Option.some.injEq, Obj.cells.injEq] at e
    exact absurd e.2.1 (by decide)
  · rw [hr] at e
    simp only [Option.some.injEq, Obj.cells.injEq] at e
    exact absurd e.2.1 (by decide)
theorem SU.noBytes (h : SU w B p d at_ f) : NoBytes w [p] := by
  obtain ⟨v, hv, -⟩ := h.blk
  intro k hk cs fr e
  simp only [List.mem_cons, List.not_mem_nil, or_false] at hk
  subst hk
  rw [hv] at e
  simp only [Option.some.injEq, Obj.cells.injEq] at e
  exact absurd e.2.1 (by decide)
theorem SU.apart {d' : Nat} {B' : Nat} (h : SU w B p d' at_ f) (k : DV w B' d g n S L) : p ≠ d ∧ p ≠ g := by
  obtain ⟨v, hv, -⟩ := h.blk
  obtain ⟨cur, hr, -⟩ := k.row.row
  constructor
  · rintro rfl
    rw [k.blk] at hv
    simp only [Option.some.injEq, Obj.cells.injEq] at hv
    exact absurd hv.2.1 (by decide)
  · rintro rfl
    rw [hr] at hv
    simp only [Option.some.injEq, Obj.cells.injEq] at hv
    exact absurd hv.2.1 (by decide)
/-- The device is written to: the Super stays. -/
theorem SU.two {d' B' : Nat} (h : SU w B p d' at_ f) (k : DV w B' d g n S L) (hk : Two d (some g) w w') : SU w' B p d' at_ f :=
  h.offs (l := [d, g]) (Offs.of_two hk (by simp) (by simp)) (by have := h.apart k; simp [this]) k.noBytes
/-- The Super is written to: the device stays. -/
theorem DV.super {B' d' : Nat} (k : DV w B d g n S L) (h : SU w B' p d' at_ f) (o : Nat) (u : Value) : DV (w.setCell ⟨p, o, none⟩ u) B d g n S L := by
  obtain ⟨h1, h2⟩ := h.apart k
  exact k.same (Below.heap_setCell _ _ _ _ (Ne.symm h1)) (Below.heap_setCell _ _ _ _ (Ne.symm h2))
theorem DV.offs {l : List Nat} (k : DV w B d g n S L) (hk : Offs l w w') (h1 : d ∉ l) (h2 : g ∉ l) : DV w' B d g n S L := k.same (hk.block d k.lt h1) (hk.block g k.ltg h2)
theorem SU.cells (h : SU w B p d at_ f) : ∃ v, TX w v f.text ∧ w.cell? ⟨p, 0, none⟩ = some (.pointer (some ⟨d, 0, none⟩)) ∧ w.cell? ⟨p, 1, none⟩ = some (.int .i64 (at_ : Int)) ∧ w.cell? ⟨p, 2, none⟩ = some (.int .i64 (f.slot : Int)) ∧ w.cell? ⟨p, 3, none⟩ = some v ∧ w.cell? ⟨p, 4, none⟩ = some (.int .i64 (f.turn : Int)) := by
  obtain ⟨v, hv, ht⟩ := h.blk
  exact ⟨v, ht, by rw [cell_of_row w p 0 _ _ _ hv]; rfl, by rw [cell_of_row w p 1 _ _ _ hv]; rfl, by rw [cell_of_row w p 2 _ _ _ hv]; rfl, by rw [cell_of_row w p 3 _ _ _ hv]; rfl, by rw [cell_of_row w p 4 _ _ _ hv]; rfl⟩
theorem SU.frozen (h : SU w B p d at_ f) (o : Nat) : w.frozen? ⟨p, o, none⟩ = false := by
  obtain ⟨v, hv, -⟩ := h.blk
  exact frozen_of_row w p o _ _ hv
/-- The slot, the text, the turn are stored. -/
theorem SU.store (h : SU w B p d at_ f) {x : Found} (hx : x.Fits) {u : Value} (hu : TX w u x.text) :
    SU (((w.setCell ⟨p, 2, none⟩ (.int .i64 (x.slot : Int))).setCell ⟨p, 3, none⟩ u).setCell ⟨p, 4, none⟩ (.int .i64 (x.turn : Int))) B p d at_ x ∧ Offs [p] w (((w.setCell ⟨p, 2, none⟩ (.int .i64 (x.slot : Int))).setCell ⟨p, 3, none⟩ u).setCell ⟨p, 4, none⟩ (.int .i64 (x.turn : Int))) := by
  obtain ⟨v, hv, ht⟩ := h.blk
  have ho : Offs [p] w (((w.setCell ⟨p, 2, none⟩ (.int .i64 (x.slot : Int))).setCell ⟨p, 3, none⟩ u).setCell ⟨p, 4, none⟩ (.int .i64 (x.turn : Int))) := (((Offs.refl [p] w).set (by simp) _ _).set (by simp) _ _).set (by simp) _ _
  refine ⟨⟨⟨u, ?_, hu.offs ho h.noBytes⟩, h.low, hx⟩, ho⟩
  rw [heap_set (heap_set (heap_set hv _ _) _ _) _ _]
  rfl
theorem DV.whole64 (k : DV w B d g n S L) {i : Nat} (hi : i < n) : (S i).now.length = 64 := (k.row.whole i hi).1
end

end Go.Proofs.YtiejjiccncmeiaaDoor
