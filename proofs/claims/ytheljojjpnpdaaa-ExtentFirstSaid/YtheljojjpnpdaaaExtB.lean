/-
  Rows of bools as functions; an *extent.Room in memory. Plain facts.
-/
import Derived.Test.YtheljojjpnpdaaaExtM
import Derived.Test.YtheljojjpnpdaaaBools
namespace Go.Proofs.Ytheljojjpnpdaaa
open Go.RowKit

def zf (n : Nat) (f : Nat → Bool) : List Value := zb ((List.range n).map f)
theorem zf_length (n : Nat) (f : Nat → Bool) : (zf n f).length = n := by simp [zf, zb]
theorem zf_at (n : Nat) (f : Nat → Bool) (i : Nat) (h : i < n) : (zf n f)[i]? = some (.bool (f i)) := by simp [zf, zb, h]
theorem zf_congr {n : Nat} {f f' : Nat → Bool} (h : ∀ i, i < n → f i = f' i) : zf n f = zf n f' := by
  unfold zf
  congr 1
  refine List.map_congr_left fun i hi => h i (by simpa using hi)
theorem zf_set (n : Nat) (f : Nat → Bool) (i : Nat) (x : Bool) : (zf n f).set i (.bool x) = zf n (fun j => if j = i then x else f j) := by
  refine List.ext_getElem? fun j => ?_
  rw [List.getElem?_set]
  by_cases hj : j < n
  · rw [zf_at n f j hj, zf_at n (fun j => if j = i then x else f j) j hj]
    by_cases e : i = j
    · subst e
      rw [if_pos rfl, if_pos (by rw [zf_length]; exact hj), if_pos rfl]
    · rw [if_neg e, if_neg (fun h : j = i => e h.symm)]
  · rw [List.getElem?_eq_none (l := zf n (fun j => if j = i then x else f j)) (by rw [zf_length]; omega), List.getElem?_eq_none (l := zf n f) (by rw [zf_length]; omega), zf_length]
    split
    · split
      · omega
      · rfl
    · rfl
theorem zf_rep (n : Nat) : zf n (fun _ => false) = zb (List.replicate n false) := by
  unfold zf
  rw [List.map_const', List.length_range]
theorem grow_trans {a w w' : World} {row : Option Nat} (h : a.grownBy w row) (k : w.grownBy w' row) : a.grownBy w' row :=
  ⟨k.os.trans h.os, k.tape.trans h.tape, k.output.trans h.output, Nat.le_trans h.size k.size, fun i hi hn => (k.block i (Nat.lt_of_lt_of_le hi h.size) hn).trans (h.block i hi hn)⟩
theorem grow_below {w w' : World} {row : Option Nat} (h : Below w.heap.size w w') : w.grownBy w' row := ⟨h.os, h.tape, h.output, h.size, fun k hk _ => h.block k hk⟩
theorem grow_setRow {w0 w : World} {row : Option Nat} (h : w0.grownBy w row) (g : Nat) (cs : Array Value) (hg : w0.heap.size ≤ g) : w0.grownBy (w.setRow g cs) row :=
  ⟨h.os, h.tape, h.output, by simpa using h.size, fun k hk hn => (setRow_other _ _ _ _ (by omega)).trans (h.block k hk hn)⟩
theorem grow_row (w : World) (g : Nat) (cs : Array Value) : w.grownBy (w.setRow g cs) (some g) :=
  ⟨rfl, rfl, rfl, by simp, fun k hk hn => setRow_other _ _ _ _ (by intro e; exact hn (by rw [e]))⟩
theorem below_alloc (w : World) (o : Obj) : Below w.heap.size w (w.alloc o) := (Below.refl _ _).alloc (Nat.le_refl _) o

section
variable {e : TypeId} {w w' : World} {B g n c : Nat} {f : Nat → Bool} {v : Value}
theorem OwnV.fcell (h : OwnV e w B (.slice (some ⟨g, 0, none⟩) n c) (zf n f)) (i : Nat) (hi : i < n) : w.cell? ⟨g, i, none⟩ = some (.bool (f i)) := by
  have := World.ownsRow.cells h (g := g) rfl i _ (zf_at n f i hi)
  have hadd : (⟨g, 0, none⟩ : Addr).add i = ⟨g, i, none⟩ := by unfold Addr.add; split <;> simp_all
  rw [hadd] at this
  exact this
theorem OwnV.fz (h : OwnV e w B (.slice (some ⟨g, 0, none⟩) n c) (zf n f)) (i : Nat) : w.frozen? ⟨g, i, none⟩ = false := by
  rcases h.2 with ⟨h', -⟩ | ⟨g', cap', cur, h', -, hg, -⟩
  · cases h'
  · simp only [Value.slice.injEq, Option.some.injEq, Addr.mk.injEq, and_true] at h'
    obtain ⟨rfl, -⟩ := h'
    exact frozen_of_row w g i cur e hg
theorem OwnV.lt (h : OwnV e w B (.slice (some ⟨g, 0, none⟩) n c) (zf n f)) : g < w.heap.size ∧ B ≤ g := by
  have := World.ownsRow.lt h g rfl
  exact ⟨this.2, this.1⟩
theorem OwnV.capOk (h : OwnV e w B (.slice (some ⟨g, 0, none⟩) n c) (zf n f)) : n ≤ c ∧ c ≤ maxLen := by
  rcases h.2 with ⟨h', -⟩ | ⟨g', cap', cur, h', -, hg, h1, h2, -⟩
  · cases h'
  · simp only [Value.slice.injEq, Option.some.injEq, Addr.mk.injEq, and_true] at h'
    obtain ⟨rfl, h3, rfl⟩ := h'
    rw [zf_length] at h1
    exact ⟨h1, h2⟩
theorem OwnV.fset (h : OwnV e w B (.slice (some ⟨g, 0, none⟩) n c) (zf n f)) (i : Nat) (x : Bool) : OwnV e (w.setCell ⟨g, i, none⟩ (.bool x)) B (.slice (some ⟨g, 0, none⟩) n c) (zf n (fun j => if j = i then x else f j)) ∧ w.grownBy (w.setCell ⟨g, i, none⟩ (.bool x)) (some g) := by
  unfold OwnV at h ⊢
  rw [zf_length] at h ⊢
  obtain ⟨h1, h2⟩ := World.ownsRow.stored h i (.bool x)
  rw [zf_set] at h1
  exact ⟨h1, h2⟩
theorem OwnV.fform (h : OwnV e w B v (zf n f)) (hn : 0 < n) : ∃ g c, v = .slice (some ⟨g, 0, none⟩) n c := by
  rcases h.2 with ⟨-, h0⟩ | ⟨g, cap, cur, hv, -⟩
  · rw [zf_length] at h0; omega
  · rw [zf_length] at hv
    exact ⟨g, cap, hv⟩
theorem OwnV.anyform (h : OwnV e w B v (zf n f)) : ∃ a c, v = .slice a n c := by
  obtain ⟨a, c, hv, -⟩ := h.rv.form
  rw [zf_length] at hv
  exact ⟨a, c, hv⟩
end

/-- r, a *extent.Room: n sectors from at on, those free at which G is true; it lies from block B on; v: its row. -/
structure RM (w : World) (B r at_ n : Nat) (v : Value) (G : Nat → Bool) : Prop where
  blk : w.heap[r]? = some (.cells #[.int .i64 (at_ : Int), v] 45)
  row : OwnV 4 w B v (zf n (fun i => G (at_ + i)))
  low : B ≤ r
  out : ∀ k, k < at_ ∨ at_ + n ≤ k → G k = false
  small : at_ + n ≤ 100000
section
variable {w w' : World} {B r at_ n : Nat} {v : Value} {G : Nat → Bool}
theorem RM.lt (h : RM w B r at_ n v G) : r < w.heap.size := (Array.getElem?_eq_some_iff.1 h.blk).1
theorem RM.c0 (h : RM w B r at_ n v G) : w.cell? ⟨r, 0, none⟩ = some (.int .i64 (at_ : Int)) := by rw [cell_of_row w r 0 _ _ _ h.blk]; rfl
theorem RM.c1 (h : RM w B r at_ n v G) : w.cell? ⟨r, 1, none⟩ = some v := by rw [cell_of_row w r 1 _ _ _ h.blk]; rfl
theorem RM.below (h : RM w B r at_ n v G) (hb : Below w.heap.size w w') : RM w' B r at_ n v G := ⟨(hb.block r h.lt).trans h.blk, h.row.below hb, h.low, h.out, h.small⟩
theorem RM.mono {B' : Nat} (h : RM w B r at_ n v G) (hB : B' ≤ B) : RM w B' r at_ n v G := ⟨h.blk, h.row.mono hB, Nat.le_trans hB h.low, h.out, h.small⟩
theorem RM.ne (h : RM w B r at_ n v G) : some r ≠ v.ownBlock := by
  intro e
  rcases h.row.2 with ⟨rfl, -⟩ | ⟨g, cap, cur, rfl, -, hg, -⟩
  · cases e
  · simp only [Value.ownBlock, Option.some.injEq] at e
    subst e
    have h2 := h.blk
    rw [hg] at h2
    simp only [Option.some.injEq, Obj.cells.injEq] at h2
    exact absurd h2.2.1 (by decide)
/-- The row is another one. -/
theorem RM.rowTo {G' : Nat → Bool} (h : RM w B r at_ n v G) (hg : w.grownBy w' v.ownBlock) (hr : OwnV 4 w' B v (zf n (fun i => G' (at_ + i)))) (ho : ∀ k, k < at_ ∨ at_ + n ≤ k → G' k = false) : RM w' B r at_ n v G' :=
  ⟨(hg.block r h.lt h.ne).trans h.blk, hr, h.low, ho, h.small⟩
theorem RM.belowOf (h : RM w B r at_ n v G) (hg : w.grownBy w' v.ownBlock) (hB : B ≤ w.heap.size) : Below B w w' := grown_below hg hB h.row.row
/-- It stays while another row grows. -/
theorem RM.kept {row : Option Nat} (h : RM w B r at_ n v G) (hg : w.grownBy w' row) (h1 : some r ≠ row) (h2 : v.ownBlock = none ∨ v.ownBlock ≠ row) : RM w' B r at_ n v G :=
  ⟨(hg.block r h.lt h1).trans h.blk, h.row.kept hg h2, h.low, h.out, h.small⟩
/-- It stays while a row of another type grows. -/
theorem RM.keptRow {e : TypeId} {B' : Nat} {u : Value} {xs : List Value} {s m : Nat} (h : RM w B r at_ n v G) (hu : w.ownsRow B' e s u m xs) (he1 : e ≠ 4) (he2 : e ≠ 45) (hg : w.grownBy w' u.ownBlock) : RM w' B r at_ n v G := by
  refine h.kept hg (fun e' => ?_) ?_
  · rcases hu.2 with ⟨rfl, -⟩ | ⟨g, cap, cur, rfl, -, hg2, -⟩
    · cases e'
    · simp only [Value.ownBlock, Option.some.injEq] at e'
      subst e'
      have h2 := h.blk
      rw [hg2] at h2
      simp only [Option.some.injEq, Obj.cells.injEq] at h2
      exact he2 h2.2.1
  · rcases h.row.2 with ⟨rfl, -⟩ | ⟨g, cap, cur, rfl, -, hg1, -⟩
    · exact .inl rfl
    · refine .inr fun e' => ?_
      rcases hu.2 with ⟨rfl, -⟩ | ⟨g2, cap2, cur2, rfl, -, hg2, -⟩
      · cases e'
      · simp only [Value.ownBlock, Option.some.injEq] at e'
        subst e'
        rw [hg1] at hg2
        simp only [Option.some.injEq, Obj.cells.injEq] at hg2
        exact he1 hg2.2.1.symm
theorem RM.notBlk {k : Nat} {cs : Array Value} {t : TypeId} {fr : Nat × Nat} (h : RM w B r at_ n v G) (hk : w.heap[k]? = some (.cells cs t fr)) (he1 : t ≠ 4) : some k ≠ v.ownBlock := by
  intro e'
  rcases h.row.2 with ⟨rfl, -⟩ | ⟨g, cap, cur, rfl, -, hg1, -⟩
  · cases e'
  · simp only [Value.ownBlock, Option.some.injEq] at e'
    subst e'
    rw [hg1] at hk
    simp only [Option.some.injEq, Obj.cells.injEq] at hk
    exact he1 hk.2.1.symm
/-- It stays while a block of another type is written. -/
theorem RM.keptBlk {k : Nat} {cs : Array Value} {t : TypeId} {fr : Nat × Nat} (h : RM w B r at_ n v G) (hk : w.heap[k]? = some (.cells cs t fr)) (he1 : t ≠ 4) (he2 : t ≠ 45) (hg : w.grownBy w' (some k)) : RM w' B r at_ n v G := by
  refine h.kept hg (fun e' => ?_) ?_
  · simp only [Option.some.injEq] at e'
    subst e'
    have h2 := h.blk
    rw [hk] at h2
    simp only [Option.some.injEq, Obj.cells.injEq] at h2
    exact he2 h2.2.1
  · rcases h.row.2 with ⟨rfl, -⟩ | ⟨g, cap, cur, rfl, -, hg1, -⟩
    · exact .inl rfl
    · refine .inr fun e' => ?_
      simp only [Value.ownBlock, Option.some.injEq] at e'
      subst e'
      rw [hg1] at hk
      simp only [Option.some.injEq, Obj.cells.injEq] at hk
      exact he1 hk.2.1.symm
theorem RM.form (h : RM w B r at_ n v G) : ∃ a c, v = .slice a n c := h.row.anyform
end

end Go.Proofs.Ytheljojjpnpdaaa
