/-
  A *dev.Dev in memory: its sectors' row, its life. Plain facts.
-/
import Derived.Test.YtiejjiccncmeiaaDoorDevM
import Derived.Test.YtiejjiccncmeiaaDoorBools
import Derived.Deep.MidRow
import Derived.Laws.IdiomCopy
namespace Go.Proofs.YtiejjiccncmeiaaDoor
open Go.RowKit

/-- A row of the call's own, open: its block and cells. -/
theorem OwnV.open {e : TypeId} {w : World} {B : Nat} {v : Value} {xs : List Value} (h : OwnV e w B v xs) (hne : 0 < xs.length) : ∃ g cap, v = .slice (some ⟨g, 0, none⟩) xs.length cap ∧ g < w.heap.size ∧ B ≤ g ∧ ∀ i (hi : i < xs.length), w.cell? ⟨g, i, none⟩ = some xs[i] := by
  rcases h.2 with ⟨-, h0⟩ | ⟨g, cap, cur, rfl, hB, hg, h1, h2, h3, h4⟩
  · omega
  · refine ⟨g, cap, rfl, (Array.getElem?_eq_some_iff.1 hg).1, hB, fun i hi => ?_⟩
    rw [cell_of_row w g i _ _ _ hg]
    obtain ⟨y, hy⟩ : ∃ y, y = xs[i] := ⟨_, rfl⟩
    have h5 : xs[i]? = some y := by rw [hy]; exact List.getElem?_eq_getElem hi
    rw [← hy]
    clear hy
    rw [← h4, List.getElem?_take] at h5
    split at h5
    · rw [Array.getElem?_toList] at h5
      exact h5
    · cases h5

/-- The sector i of the row at block g. -/
structure SecAt (w : World) (g i : Nat) (s : Sec) : Prop where
  now : w.rangeAt g (i * 129) (cells s.now)
  kept : w.rangeAt g (i * 129 + 64) (cells s.kept)
  loose : w.cell? ⟨g, i * 129 + 128, none⟩ = some (.bool s.loose)

/-- The row at block g: n sectors. -/
structure SR (w : World) (g n : Nat) (S : Nat → Sec) : Prop where
  row : ∃ cur : Array Value, w.heap[g]? = some (.cells cur 57) ∧ cur.size = n * 129
  sec : ∀ i, i < n → SecAt w g i (S i)
  whole : Whole S n

theorem setCells_heap_other {w : World} {b o : Nat} {vs : List Value} {k : Nat} (h : k ≠ b) : (w.setCells b o vs).heap[k]? = w.heap[k]? := by
  induction vs generalizing o w with
  | nil => rfl
  | cons v r ih =>
    rw [World.setCells, ih]
    exact Below.heap_setCell _ _ _ _ h
theorem setCells_heap_same {w : World} {b o : Nat} {vs : List Value} {cs : Array Value} {t : TypeId} {fr : Nat × Nat} (h : w.heap[b]? = some (.cells cs t fr)) : ∃ cs' : Array Value, (w.setCells b o vs).heap[b]? = some (.cells cs' t fr) ∧ cs'.size = cs.size := by
  induction vs generalizing o w cs with
  | nil => exact ⟨cs, h, rfl⟩
  | cons v r ih =>
    rw [World.setCells]
    have h1 : (w.setCell ⟨b, o, none⟩ v).heap[b]? = some (.cells (cs.setIfInBounds o v) t fr) := by simp [World.setCell, Array.getElem?_modify, h]
    obtain ⟨cs', h2, h3⟩ := ih (o := o + 1) h1
    exact ⟨cs', h2, by simpa using h3⟩
theorem setCells_size {w : World} {b o : Nat} {vs : List Value} : (w.setCells b o vs).heap.size = w.heap.size := by
  induction vs generalizing o w with
  | nil => rfl
  | cons v r ih => rw [World.setCells, ih]; simp [World.setCell]
theorem setCells_os {w : World} {b o : Nat} {vs : List Value} : (w.setCells b o vs).os = w.os ∧ (w.setCells b o vs).tape = w.tape ∧ (w.setCells b o vs).output = w.output := by
  induction vs generalizing o w with
  | nil => exact ⟨rfl, rfl, rfl⟩
  | cons v r ih => rw [World.setCells]; exact ih
theorem cell_apart {w : World} {p : Addr} {v : Value} (h : w.cell? p = some v) (_hs : p.spot = none) (b o : Nat) (vs : List Value) (hap : p.block ≠ b ∨ p.off < o ∨ o + vs.length ≤ p.off) : (w.setCells b o vs).cell? p = some v := by
  rw [World.cell?_setCells_out b vs o w p (fun hb _ => by rcases hap with h | h | h; exact absurd hb h; exact .inl h; exact .inr h)]
  exact h

/-- Of the blocks that there were all but b and r are as they were. -/
structure Two (b : Nat) (r : Option Nat) (w w' : World) : Prop where
  os : w'.os = w.os
  tape : w'.tape = w.tape
  output : w'.output = w.output
  size : w.heap.size ≤ w'.heap.size
  block : ∀ k, k < w.heap.size → k ≠ b → some k ≠ r → w'.heap[k]? = w.heap[k]?
theorem Two.refl (b : Nat) (r : Option Nat) (w : World) : Two b r w w := ⟨rfl, rfl, rfl, Nat.le_refl _, fun _ _ _ _ => rfl⟩
theorem Two.trans {b : Nat} {r : Option Nat} {w w1 w2 : World} (h : Two b r w w1) (k : Two b r w1 w2) : Two b r w w2 :=
  ⟨k.os.trans h.os, k.tape.trans h.tape, k.output.trans h.output, Nat.le_trans h.size k.size, fun i hi hb hn => (k.block i (Nat.lt_of_lt_of_le hi h.size) hb hn).trans (h.block i hi hb hn)⟩
theorem Two.of_below {b : Nat} {r : Option Nat} {w w' : World} (h : Below w.heap.size w w') : Two b r w w' := ⟨h.os, h.tape, h.output, h.size, fun k hk _ _ => h.block k hk⟩
theorem Two.drew {b : Nat} {r : Option Nat} {w w' : World} (h : Two b r w w') : Two b r w w'.drew := ⟨h.os, h.tape, h.output, h.size, h.block⟩
theorem Two.below {b : Nat} {r : Option Nat} {w w' : World} {B : Nat} (h : Two b r w w') (hb : B ≤ b) (hr : ∀ k, r = some k → B ≤ k) (hB : B ≤ w.heap.size) : Below B w w' :=
  ⟨h.os, h.tape, h.output, h.size, fun k hk => h.block k (by omega) (by omega) (fun e => by have := hr k e.symm; omega)⟩
theorem Two.set {b : Nat} {r : Option Nat} {w w' : World} (h : Two b r w w') {p : Addr} (hp : p.block = b ∨ some p.block = r) (u : Value) : Two b r w (w'.setCell p u) :=
  ⟨h.os, h.tape, h.output, by simpa [World.setCell] using h.size, fun k hk hb hr => (Below.heap_setCell _ _ _ _ (by rintro rfl; rcases hp with hp | hp <;> first | exact hb hp | exact hr hp)).trans (h.block k hk hb hr)⟩
theorem Two.setD {b o : Nat} {r : Option Nat} {w w' : World} (h : Two b r w w') (u : Value) : Two b r w (w'.setCell ⟨b, o, none⟩ u) := h.set (.inl rfl) u
theorem Two.setR {b r o : Nat} {w w' : World} (h : Two b (some r) w w') (u : Value) : Two b (some r) w (w'.setCell ⟨r, o, none⟩ u) := h.set (.inr rfl) u
theorem Two.cells {b : Nat} {r : Option Nat} {w w' : World} (h : Two b r w w') {k o : Nat} {vs : List Value} (hp : k = b ∨ some k = r) : Two b r w (w'.setCells k o vs) :=
  ⟨setCells_os.1.trans h.os, setCells_os.2.1.trans h.tape, setCells_os.2.2.trans h.output, by rw [setCells_size]; exact h.size, fun j hj hb hr => (setCells_heap_other (by rintro rfl; rcases hp with hp | hp <;> first | exact hb hp | exact hr hp)).trans (h.block j hj hb hr)⟩

section
variable {w w' : World} {g n : Nat} {S : Nat → Sec}
theorem SR.lt (h : SR w g n S) : g < w.heap.size := by
  obtain ⟨cur, h1, -⟩ := h.row
  exact (Array.getElem?_eq_some_iff.1 h1).1
theorem SR.there (h : SR w g n S) (o k : Nat) (hk : o + k ≤ n * 129) : w.there g o k := by
  obtain ⟨cur, h1, h2⟩ := h.row
  intro j hj
  refine ⟨?_, frozen_of_row w g (o + j) cur _ h1⟩
  rw [cell_of_row w g (o + j) cur _ (0, 0) h1]
  simp [show o + j < cur.size from by omega]
theorem SR.frozen (h : SR w g n S) (o : Nat) : w.frozen? ⟨g, o, none⟩ = false := by
  obtain ⟨cur, h1, -⟩ := h.row
  exact frozen_of_row w g o cur _ h1
theorem SR.same (h : SR w g n S) (hb : w'.heap[g]? = w.heap[g]?) : SR w' g n S := by
  obtain ⟨cur, h1, h2⟩ := h.row
  have hc : ∀ o, w'.cell? ⟨g, o, none⟩ = w.cell? ⟨g, o, none⟩ := fun o => World.cell?_of_block (w := w) hb
  exact ⟨⟨cur, hb.trans h1, h2⟩, fun i hi => ⟨fun j v hv => (hc _).trans ((h.sec i hi).now j v hv), fun j v hv => (hc _).trans ((h.sec i hi).kept j v hv), (hc _).trans (h.sec i hi).loose⟩, h.whole⟩
theorem SR.congr {S' : Nat → Sec} (h : SR w g n S) (e : ∀ j, j < n → S' j = S j) : SR w g n S' :=
  ⟨h.row, fun i hi => by rw [e i hi]; exact h.sec i hi, fun i hi => by rw [e i hi]; exact h.whole i hi⟩
theorem sec_apart {i k o : Nat} {s : Sec} {vs : List Value} (h : SecAt w g k s) (hn : s.now.length = 64) (hk : s.kept.length = 64) (hik : k ≠ i) (h1 : i * 129 ≤ o) (h2 : o + vs.length ≤ i * 129 + 129) : SecAt (w.setCells g o vs) g k s := by
  have hc1 : (cells s.now).length = 64 := by rw [cells_length, hn]
  have hc2 : (cells s.kept).length = 64 := by rw [cells_length, hk]
  rcases Nat.lt_or_gt_of_ne hik with hlt | hlt
  · have : k * 129 + 129 ≤ i * 129 := by omega
    exact ⟨World.rangeAt_setCells_apart h.now _ _ _ (.inr (.inl (by omega))), World.rangeAt_setCells_apart h.kept _ _ _ (.inr (.inl (by omega))), cell_apart h.loose rfl _ _ _ (.inr (.inl (by show k * 129 + 128 < o; omega)))⟩
  · have : i * 129 + 129 ≤ k * 129 := by omega
    exact ⟨World.rangeAt_setCells_apart h.now _ _ _ (.inr (.inr (by omega))), World.rangeAt_setCells_apart h.kept _ _ _ (.inr (.inr (by omega))), cell_apart h.loose rfl _ _ _ (.inr (.inr (by show o + vs.length ≤ k * 129 + 128; omega)))⟩
/-- What lasts of a sector is stored. -/
theorem SR.putKept (h : SR w g n S) (i : Nat) (hi : i < n) (l : List UInt8) (hl : l.length = 64) : SR (w.setCells g (i * 129 + 64) (cells l)) g n (upS S i ⟨(S i).now, l, (S i).loose⟩) := by
  obtain ⟨cur, h1, h2⟩ := h.row
  obtain ⟨cur', h3, h4⟩ := setCells_heap_same (o := i * 129 + 64) (vs := cells l) h1
  have hcl : (cells l).length = 64 := by rw [cells_length, hl]
  obtain ⟨w1, w2⟩ := h.whole i hi
  refine ⟨⟨cur', h3, h4.trans h2⟩, fun k hk => ?_, h.whole.up i _ w1 hl⟩
  unfold upS
  by_cases hik : k = i
  · subst hik
    rw [if_pos rfl]
    have hs := h.sec k hk
    exact ⟨World.rangeAt_setCells_apart hs.now _ _ _ (.inr (.inl (by rw [cells_length, w1]; omega))), World.rangeAt_setCells_same _ _ _ _ (h.there _ _ (by rw [hcl]; omega)), cell_apart hs.loose rfl _ _ _ (.inr (.inr (by rw [hcl]; show k * 129 + 64 + 64 ≤ k * 129 + 128; omega)))⟩
  · rw [if_neg hik]
    exact sec_apart (h.sec k hk) (h.whole k hk).1 (h.whole k hk).2 hik (by omega) (by omega)
/-- What a sector holds is stored. -/
theorem SR.putNow (h : SR w g n S) (i : Nat) (hi : i < n) (l : List UInt8) (hl : l.length ≤ 64) : SR (w.setCells g (i * 129) (cells l)) g n (upS S i ⟨over (S i).now l, (S i).kept, (S i).loose⟩) := by
  obtain ⟨cur, h1, h2⟩ := h.row
  obtain ⟨cur', h3, h4⟩ := setCells_heap_same (o := i * 129) (vs := cells l) h1
  have hcl : (cells l).length = l.length := cells_length l
  obtain ⟨w1, w2⟩ := h.whole i hi
  refine ⟨⟨cur', h3, h4.trans h2⟩, fun k hk => ?_, h.whole.up i _ (by show (over _ _).length = 64; rw [over_length (by omega), w1]) w2⟩
  unfold upS
  by_cases hik : k = i
  · subst hik
    rw [if_pos rfl]
    have hs := h.sec k hk
    refine ⟨fun j v hv => ?_, World.rangeAt_setCells_apart hs.kept _ _ _ (.inr (.inr (by rw [hcl]; omega))), cell_apart hs.loose rfl _ _ _ (.inr (.inr (by rw [hcl]; show k * 129 + l.length ≤ k * 129 + 128; omega)))⟩
    have hs1 := World.rangeAt_setCells_same w g (k * 129) (cells l) (h.there _ _ (by rw [hcl]; omega))
    simp only [over, cells_append] at hv
    rcases Nat.lt_or_ge j l.length with hj | hj
    · rw [List.getElem?_append_left (by rw [hcl]; exact hj)] at hv
      exact hs1 j v hv
    · rw [List.getElem?_append_right (by rw [hcl]; exact hj), hcl] at hv
      have hv2 : (cells (S k).now)[j]? = some v := by
        unfold cells at hv ⊢
        rw [List.map_drop, List.getElem?_drop] at hv
        rw [← hv]
        congr 1
        omega
      exact cell_apart (hs.now j v hv2) rfl _ _ _ (.inr (.inr (by rw [hcl]; show k * 129 + l.length ≤ k * 129 + j; omega)))
  · rw [if_neg hik]
    exact sec_apart (h.sec k hk) (h.whole k hk).1 (h.whole k hk).2 hik (by omega) (by omega)
/-- Whether it is loose is stored. -/
theorem SR.putLoose (h : SR w g n S) (i : Nat) (hi : i < n) (b : Bool) : SR (w.setCell ⟨g, i * 129 + 128, none⟩ (.bool b)) g n (upS S i ⟨(S i).now, (S i).kept, b⟩) := by
  have e : w.setCell ⟨g, i * 129 + 128, none⟩ (.bool b) = w.setCells g (i * 129 + 128) [.bool b] := rfl
  rw [e]
  obtain ⟨cur, h1, h2⟩ := h.row
  obtain ⟨cur', h3, h4⟩ := setCells_heap_same (o := i * 129 + 128) (vs := [.bool b]) h1
  obtain ⟨w1, w2⟩ := h.whole i hi
  refine ⟨⟨cur', h3, h4.trans h2⟩, fun k hk => ?_, h.whole.up i _ w1 w2⟩
  unfold upS
  by_cases hik : k = i
  · subst hik
    rw [if_pos rfl]
    have hs := h.sec k hk
    have ht := h.there (k * 129 + 128) 1 (by omega)
    refine ⟨World.rangeAt_setCells_apart hs.now _ _ _ (.inr (.inl (by rw [cells_length, w1]; omega))), World.rangeAt_setCells_apart hs.kept _ _ _ (.inr (.inl (by rw [cells_length, w2]; omega))), ?_⟩
    exact World.rangeAt_setCells_same w g (k * 129 + 128) [.bool b] ht 0 (.bool b) rfl
  · rw [if_neg hik]
    exact sec_apart (h.sec k hk) (h.whole k hk).1 (h.whole k hk).2 hik (by omega) (by simp)
end

theorem Two.cellsR {b r o : Nat} {w w' : World} {vs : List Value} (h : Two b (some r) w w') : Two b (some r) w (w'.setCells r o vs) := h.cells (.inr rfl)
/-- d, a *dev.Dev: n sectors in the row at block g; all of it lies from block B on. -/
structure DV (w : World) (B d g n : Nat) (S : Nat → Sec) (L : Life) : Prop where
  blk : w.heap[d]? = some (.cells #[.slice (some ⟨g, 0, none⟩) n n, .int .i64 L.calls, .bool L.fused, .int .i64 L.left, .bool L.dead] 49)
  row : SR w g n S
  ok : L.Ok
  lowd : B ≤ d
  lowg : B ≤ g
  n0 : 0 < n
  n1 : n ≤ 2048
section
variable {w w' : World} {B d g n : Nat} {S : Nat → Sec} {L : Life}
theorem DV.lt (h : DV w B d g n S L) : d < w.heap.size := (Array.getElem?_eq_some_iff.1 h.blk).1
theorem DV.ltg (h : DV w B d g n S L) : g < w.heap.size := h.row.lt
theorem DV.ne (h : DV w B d g n S L) : d ≠ g := by
  intro e
  obtain ⟨cur, h1, -⟩ := h.row.row
  have h2 := h.blk
  rw [e, h1] at h2
  simp only [Option.some.injEq, Obj.cells.injEq] at h2
  exact absurd h2.2.1 (by decide)
theorem DV.c0 (h : DV w B d g n S L) : w.cell? ⟨d, 0, none⟩ = some (.slice (some ⟨g, 0, none⟩) n n) := by rw [cell_of_row w d 0 _ _ _ h.blk]; rfl
theorem DV.c1 (h : DV w B d g n S L) : w.cell? ⟨d, 1, none⟩ = some (.int .i64 L.calls) := by rw [cell_of_row w d 1 _ _ _ h.blk]; rfl
theorem DV.c2 (h : DV w B d g n S L) : w.cell? ⟨d, 2, none⟩ = some (.bool L.fused) := by rw [cell_of_row w d 2 _ _ _ h.blk]; rfl
theorem DV.c3 (h : DV w B d g n S L) : w.cell? ⟨d, 3, none⟩ = some (.int .i64 L.left) := by rw [cell_of_row w d 3 _ _ _ h.blk]; rfl
theorem DV.c4 (h : DV w B d g n S L) : w.cell? ⟨d, 4, none⟩ = some (.bool L.dead) := by rw [cell_of_row w d 4 _ _ _ h.blk]; rfl
theorem DV.f (h : DV w B d g n S L) (o : Nat) : w.frozen? ⟨d, o, none⟩ = false := frozen_of_row w d o _ _ h.blk
theorem DV.same (h : DV w B d g n S L) (h1 : w'.heap[d]? = w.heap[d]?) (h2 : w'.heap[g]? = w.heap[g]?) : DV w' B d g n S L := ⟨h1.trans h.blk, h.row.same h2, h.ok, h.lowd, h.lowg, h.n0, h.n1⟩
theorem DV.below (h : DV w B d g n S L) (hb : Below w.heap.size w w') : DV w' B d g n S L := h.same (hb.block d h.lt) (hb.block g h.ltg)
theorem DV.drew (h : DV w B d g n S L) : DV w.drew B d g n S L := h.same rfl rfl
theorem DV.mono {B' : Nat} (h : DV w B d g n S L) (hB : B' ≤ B) : DV w B' d g n S L := ⟨h.blk, h.row, h.ok, Nat.le_trans hB h.lowd, Nat.le_trans hB h.lowg, h.n0, h.n1⟩
/-- It stays while another device is written to. -/
theorem DV.two {d' g' : Nat} (h : DV w B d g n S L) (hk : Two d' (some g') w w') (h1 : d ≠ d') (h2 : d ≠ g') (h3 : g ≠ d') (h4 : g ≠ g') : DV w' B d g n S L :=
  h.same (hk.block d h.lt h1 (by simpa using h2)) (hk.block g h.ltg h3 (by simpa using h4))
theorem DV.congr {S' : Nat → Sec} (h : DV w B d g n S L) (e : ∀ j, j < n → S' j = S j) : DV w B d g n S' L := ⟨h.blk, h.row.congr e, h.ok, h.lowd, h.lowg, h.n0, h.n1⟩
/-- A cell of the struct is stored. -/
theorem DV.life (h : DV w B d g n S L) {L' : Life} (hb : w'.heap[d]? = some (.cells #[.slice (some ⟨g, 0, none⟩) n n, .int .i64 L'.calls, .bool L'.fused, .int .i64 L'.left, .bool L'.dead] 49)) (hg : w'.heap[g]? = w.heap[g]?) (ho : L'.Ok) : DV w' B d g n S L' :=
  ⟨hb, h.row.same hg, ho, h.lowd, h.lowg, h.n0, h.n1⟩
theorem DV.rowTo (h : DV w B d g n S L) {S' : Nat → Sec} (hb : w'.heap[d]? = w.heap[d]?) (hr : SR w' g n S') : DV w' B d g n S' L := ⟨hb.trans h.blk, hr, h.ok, h.lowd, h.lowg, h.n0, h.n1⟩
theorem Two.belowDV (h : DV w B d g n S L) (hk : Two d (some g) w w') (hB : B ≤ w.heap.size) : Below B w w' := hk.below h.lowd (fun k hk => by cases hk; exact h.lowg) hB
end

theorem heap_set {w : World} {b : Nat} {cs : Array Value} {t : TypeId} {fr : Nat × Nat} (h : w.heap[b]? = some (.cells cs t fr)) (o : Nat) (u : Value) : (w.setCell ⟨b, o, none⟩ u).heap[b]? = some (.cells (cs.setIfInBounds o u) t fr) := by
  simp [World.setCell, Array.getElem?_modify, h]

end Go.Proofs.YtiejjiccncmeiaaDoor
