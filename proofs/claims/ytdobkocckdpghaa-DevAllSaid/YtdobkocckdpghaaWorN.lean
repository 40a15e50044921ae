/-
  The law's own device while a sector is added to it: three rows that grow, three stores. Plain facts.
-/
import Derived.Test.YtdobkocckdpghaaWorI
import Derived.Test.YtdobkocckdpghaaDrawT
import Derived.Test.YtdobkocckdpghaaGrow
namespace Go.Proofs.Ytdobkocckdpghaa
open Go.RowKit

theorem rows_ne {w : World} {B1 B2 : Nat} {e1 e2 : TypeId} {s1 s2 n1 n2 : Nat} {v1 v2 : Value} {xs1 xs2 : List Value} (h1 : w.ownsRow B1 e1 s1 v1 n1 xs1) (h2 : w.ownsRow B2 e2 s2 v2 n2 xs2) (hne : e1 ≠ e2) : v1.ownBlock = none ∨ v1.ownBlock ≠ v2.ownBlock := by
  rcases h1.2 with ⟨rfl, -⟩ | ⟨b, cap, cur, rfl, -, hg, -⟩
  · exact .inl rfl
  · refine .inr fun e => ?_
    rcases h2.2 with ⟨rfl, -⟩ | ⟨b', cap', cur', rfl, -, hg', -⟩
    · cases e
    · simp only [Value.ownBlock, Option.some.injEq] at e
      subst e
      rw [hg] at hg'
      simp only [Option.some.injEq, Obj.cells.injEq] at hg'
      exact absurd hg'.2.1 hne
theorem row_not {e t : TypeId} {w : World} {B b s n : Nat} {v : Value} {xs : List Value} {cs : Array Value} {fr : Nat × Nat} (h : w.ownsRow B e s v n xs) (hb : w.heap[b]? = some (.cells cs t fr)) (hne : e ≠ t) : v.ownBlock ≠ some b := by
  intro hv
  rcases h.2 with ⟨rfl, -⟩ | ⟨g, cap, cur, rfl, -, hg, -⟩
  · cases hv
  · simp only [Value.ownBlock, Option.some.injEq] at hv
    subst hv
    rw [hb] at hg
    simp only [Option.some.injEq, Obj.cells.injEq] at hg
    exact hne hg.2.1.symm
theorem OwnV.same {e : TypeId} {w w' : World} {B : Nat} {v : Value} {xs : List Value} (h : OwnV e w B v xs) (hk : ∀ g, g < w.heap.size → v.ownBlock = some g → w'.heap[g]? = w.heap[g]?) : OwnV e w' B v xs := by
  refine ⟨h.1, ?_⟩
  rcases h.2 with h' | ⟨g, cap, cur, e1, hB, e2, e3⟩
  · exact .inl h'
  · subst e1
    exact .inr ⟨g, cap, cur, rfl, hB, (hk g (Array.getElem?_eq_some_iff.1 e2).1 rfl).trans e2, e3⟩

structure WJ (w : World) (B q : Nat) (x0 x1 x2 r1 r2 r3 : Value) (ys1 ys2 : List Value) (m : Nat) : Prop where
  blk : w.heap[q]? = some (.cells #[x0, x1, x2, .int .i64 0, .int .i64 (-1)] 30)
  o1 : OwnV 31 w B r1 ys1
  o2 : OwnV 31 w B r2 ys2
  o3 : OwnV 4 w B r3 (zb (List.replicate m false))
  e1 : ∀ x ∈ ys1, Own 5 w B x zeros
  e2 : ∀ x ∈ ys2, Own 5 w B x zeros
  ne : ∀ g, r1.ownBlock = some g → r2.ownBlock ≠ some g
  lq : B ≤ q
section
variable {w w' : World} {B q m : Nat} {x0 x1 x2 r1 r2 r3 y u : Value} {ys1 ys2 : List Value}
theorem WJ.lt (h : WJ w B q x0 x1 x2 r1 r2 r3 ys1 ys2 m) : q < w.heap.size := (Array.getElem?_eq_some_iff.1 h.blk).1
theorem WJ.below (h : WJ w B q x0 x1 x2 r1 r2 r3 ys1 ys2 m) (hb : Below w.heap.size w w') : WJ w' B q x0 x1 x2 r1 r2 r3 ys1 ys2 m :=
  ⟨(hb.block q h.lt).trans h.blk, h.o1.below hb, h.o2.below hb, h.o3.below hb, fun x hx => (h.e1 x hx).below hb, fun x hx => (h.e2 x hx).below hb, h.ne, h.lq⟩
theorem own_grown {e : TypeId} {B' : Nat} {v r : Value} {l : List UInt8} {xs : List Value} (h : Own 5 w B v l) (hr : OwnV e w B' r xs) (he : 5 ≠ e) (hg : w.grownBy w' r.ownBlock) : Own 5 w' B v l := Own.kept h hg (rows_ne h hr he)
theorem WJ.grow1 (h : WJ w B q x0 x1 x2 r1 r2 r3 ys1 ys2 m) (hg : w.grownBy w' r1.ownBlock) (ho : OwnV 31 w' B y (ys1 ++ [u])) (hu : Own 5 w B u zeros) (hw : y.ownBlock = r1.ownBlock ∨ ∀ k, y.ownBlock = some k → w.heap.size ≤ k) : WJ w' B q x0 x1 x2 y r2 r3 (ys1 ++ [u]) ys2 m := by
  refine ⟨(hg.block q h.lt (row_not h.o1 h.blk (by decide)).symm).trans h.blk, ho, h.o2.same fun k hk hv => hg.block k hk fun e => h.ne k e.symm hv, OwnV.kept h.o3 hg (rows_ne h.o3 h.o1 (by decide)), fun x hx => ?_, fun x hx => own_grown (h.e2 x hx) h.o1 (by decide) hg, fun k hk hv => ?_, h.lq⟩
  · rcases List.mem_append.1 hx with hx | hx
    · exact own_grown (h.e1 x hx) h.o1 (by decide) hg
    · obtain rfl := List.mem_singleton.1 hx
      exact own_grown hu h.o1 (by decide) hg
  · rcases hw with hw | hw
    · exact h.ne k (hw.symm.trans hk) hv
    · have h1 := hw k hk
      have h2 := (World.ownsRow.lt h.o2 k hv).2
      omega
theorem WJ.grow2 (h : WJ w B q x0 x1 x2 r1 r2 r3 ys1 ys2 m) (hg : w.grownBy w' r2.ownBlock) (ho : OwnV 31 w' B y (ys2 ++ [u])) (hu : Own 5 w B u zeros) (hw : y.ownBlock = r2.ownBlock ∨ ∀ k, y.ownBlock = some k → w.heap.size ≤ k) : WJ w' B q x0 x1 x2 r1 y r3 ys1 (ys2 ++ [u]) m := by
  refine ⟨(hg.block q h.lt (row_not h.o2 h.blk (by decide)).symm).trans h.blk, h.o1.same fun k hk hv => hg.block k hk fun e => h.ne k hv e.symm, ho, OwnV.kept h.o3 hg (rows_ne h.o3 h.o2 (by decide)), fun x hx => own_grown (h.e1 x hx) h.o2 (by decide) hg, fun x hx => ?_, fun k hk hv => ?_, h.lq⟩
  · rcases List.mem_append.1 hx with hx | hx
    · exact own_grown (h.e2 x hx) h.o2 (by decide) hg
    · obtain rfl := List.mem_singleton.1 hx
      exact own_grown hu h.o2 (by decide) hg
  · rcases hw with hw | hw
    · exact h.ne k hk (hw.symm.trans hv)
    · have h1 := hw k hv
      have h2 := (World.ownsRow.lt h.o1 k hk).2
      omega
theorem WJ.grow3 (h : WJ w B q x0 x1 x2 r1 r2 r3 ys1 ys2 m) (hg : w.grownBy w' r3.ownBlock) (ho : OwnV 4 w' B y (zb (List.replicate (m + 1) false))) : WJ w' B q x0 x1 x2 r1 r2 y ys1 ys2 (m + 1) :=
  ⟨(hg.block q h.lt (row_not h.o3 h.blk (by decide)).symm).trans h.blk, OwnV.kept h.o1 hg (rows_ne h.o1 h.o3 (by decide)), OwnV.kept h.o2 hg (rows_ne h.o2 h.o3 (by decide)), ho, fun x hx => own_grown (h.e1 x hx) h.o3 (by decide) hg, fun x hx => own_grown (h.e2 x hx) h.o3 (by decide) hg, h.ne, h.lq⟩
theorem rowV_far {e t : TypeId} {o : Nat} {v : Value} {xs : List Value} {cur : Array Value} (h : OwnV e w B v xs) (hg : w.heap[q]? = some (.cells cur t)) (ht : e ≠ t) (z : Value) : OwnV e (w.setCell ⟨q, o, none⟩ z) B v xs :=
  h.same fun k _ hv => Below.heap_setCell _ _ _ _ (by rintro rfl; exact row_not h hg ht hv)
theorem WJ.store0 (h : WJ w B q x0 x1 x2 r1 r2 r3 ys1 ys2 m) (z : Value) : WJ (w.setCell ⟨q, 0, none⟩ z) B q z x1 x2 r1 r2 r3 ys1 ys2 m :=
  ⟨by rw [heap_set h.blk]; rfl, rowV_far h.o1 h.blk (by decide) z, rowV_far h.o2 h.blk (by decide) z, rowV_far h.o3 h.blk (by decide) z, fun x hx => own_far (h.e1 x hx) h.blk (by decide) z, fun x hx => own_far (h.e2 x hx) h.blk (by decide) z, h.ne, h.lq⟩
theorem WJ.store1 (h : WJ w B q x0 x1 x2 r1 r2 r3 ys1 ys2 m) (z : Value) : WJ (w.setCell ⟨q, 1, none⟩ z) B q x0 z x2 r1 r2 r3 ys1 ys2 m :=
  ⟨by rw [heap_set h.blk]; rfl, rowV_far h.o1 h.blk (by decide) z, rowV_far h.o2 h.blk (by decide) z, rowV_far h.o3 h.blk (by decide) z, fun x hx => own_far (h.e1 x hx) h.blk (by decide) z, fun x hx => own_far (h.e2 x hx) h.blk (by decide) z, h.ne, h.lq⟩
theorem WJ.store2 (h : WJ w B q x0 x1 x2 r1 r2 r3 ys1 ys2 m) (z : Value) : WJ (w.setCell ⟨q, 2, none⟩ z) B q x0 x1 z r1 r2 r3 ys1 ys2 m :=
  ⟨by rw [heap_set h.blk]; rfl, rowV_far h.o1 h.blk (by decide) z, rowV_far h.o2 h.blk (by decide) z, rowV_far h.o3 h.blk (by decide) z, fun x hx => own_far (h.e1 x hx) h.blk (by decide) z, fun x hx => own_far (h.e2 x hx) h.blk (by decide) z, h.ne, h.lq⟩
theorem DV.grown {e : TypeId} {d g n B' B2 : Nat} {T : Nat → Sec} {L : Life} {r : Value} {xs : List Value} (hd : DV w B' d g n T L) (hr : OwnV e w B2 r xs) (h1 : e ≠ 55) (h2 : e ≠ 60) (hg : w.grownBy w' r.ownBlock) : DV w' B' d g n T L := by
  obtain ⟨_, hgg, -⟩ := hd.row.row
  exact hd.same (hg.block d hd.lt (row_not hr hd.blk h1).symm) (hg.block g hd.ltg (row_not hr hgg h2).symm)
theorem DV.setOf {t : TypeId} {d g n B' o : Nat} {T : Nat → Sec} {L : Life} {cur : Array Value} (hd : DV w B' d g n T L) (hq : w.heap[q]? = some (.cells cur t)) (h1 : t ≠ 55) (h2 : t ≠ 60) (z : Value) : DV (w.setCell ⟨q, o, none⟩ z) B' d g n T L := by
  obtain ⟨_, hgg, -⟩ := hd.row.row
  exact hd.same (Below.heap_setCell _ _ _ _ (blocks_ne hd.blk hq h1.symm)) (Below.heap_setCell _ _ _ _ (blocks_ne hgg hq h2.symm))
end

/-- How far a region's operations have come: 9, 16, 22 are the appends, 25, 28, 31 the stores. -/
structure IX (w0 : World) (B q d g n k : Nat) (v1 v2 v3 : Value) (done : Nat → Bool) (a : Act) (w : World) (x0 x1 x2 r1 r2 r3 : Value) (ys1 ys2 : List Value) (m : Nat) : Prop where
  wj : WJ w B q x0 x1 x2 r1 r2 r3 ys1 ys2 m
  dv : DV w B d g n newS born
  bel : Below B w0 w
  size : B ≤ w.heap.size
  old : ∀ j, v1.ownBlock = some j ∨ v2.ownBlock = some j ∨ v3.ownBlock = some j → j < w.heap.size
  p1 : if done 9 = true then a.tmps[37]? = some r1 ∧ ys1.length = k + 1 else r1 = v1 ∧ ys1.length = k
  p2 : if done 16 = true then a.tmps[44]? = some r2 ∧ ys2.length = k + 1 else r2 = v2 ∧ ys2.length = k
  p3 : if done 22 = true then a.tmps[50]? = some r3 ∧ m = k + 1 else r3 = v3 ∧ m = k
  s1 : if done 25 = true then x0 = r1 else x0 = v1
  s2 : if done 28 = true then x1 = r2 else x1 = v2
  s3 : if done 31 = true then x2 = r3 else x2 = v3
def IY (w0 : World) (B q d g n k : Nat) (v1 v2 v3 : Value) (done : Nat → Bool) (a : Act) (w : World) : Prop := ∃ x0 x1 x2 r1 r2 r3 ys1 ys2 m, IX w0 B q d g n k v1 v2 v3 done a w x0 x1 x2 r1 r2 r3 ys1 ys2 m
theorem put_other {a : Act} {t s : Nat} {v : Value} (h : s ≠ t) : (a.put (some t) v).tmps[s]? = a.tmps[s]? := Array.getElem?_setIfInBounds_ne (Ne.symm h)
theorem put_same {a : Act} {t : Nat} {v : Value} (h : t < a.tmps.size) : (a.put (some t) v).tmps[t]? = some v := by simp [Act.put, h]
def plainOp (j : Nat) : Bool := j != 9 && j != 16 && j != 22 && j != 25 && j != 28 && j != 31
def plainSlot (t : Nat) : Bool := t != 37 && t != 44 && t != 50
theorem IY.keep {w0 w w' : World} {B q d g n k : Nat} {v1 v2 v3 : Value} {done : Nat → Bool} {a : Act} (j : Nat) (hj : plainOp j = true) (t : Nat) (ht : plainSlot t = true) (v : Value) (hb : Below w.heap.size w w') (h : IY w0 B q d g n k v1 v2 v3 done a w) : IY w0 B q d g n k v1 v2 v3 (doneToo done j) (a.put (some t) v) w' := by
  obtain ⟨x0, x1, x2, r1, r2, r3, ys1, ys2, m, h⟩ := h
  simp only [plainOp, plainSlot, Bool.and_eq_true, bne_iff_ne, ne_eq] at hj ht
  obtain ⟨⟨⟨⟨⟨j1, j2⟩, j3⟩, j4⟩, j5⟩, j6⟩ := hj
  obtain ⟨⟨t1, t2⟩, t3⟩ := ht
  refine ⟨x0, x1, x2, r1, r2, r3, ys1, ys2, m, h.wj.below hb, h.dv.below hb, h.bel.trans (hb.mono h.size), Nat.le_trans h.size hb.size, fun i hi => Nat.lt_of_lt_of_le (h.old i hi) hb.size, ?_, ?_, ?_, ?_, ?_, ?_⟩
  · rw [doneToo_other (Ne.symm j1), put_other (Ne.symm t1)]; exact h.p1
  · rw [doneToo_other (Ne.symm j2), put_other (Ne.symm t2)]; exact h.p2
  · rw [doneToo_other (Ne.symm j3), put_other (Ne.symm t3)]; exact h.p3
  · rw [doneToo_other (Ne.symm j4)]; exact h.s1
  · rw [doneToo_other (Ne.symm j5)]; exact h.s2
  · rw [doneToo_other (Ne.symm j6)]; exact h.s3

/-- A slot that holds a new row of one slice of bytes. -/
def NewS (B : Nat) (v1 v2 v3 : Value) (w : World) (v : Value) : Prop := ∃ h u, v = .slice (some ⟨h, 0, none⟩) 1 1 ∧ w.heap[h]? = some (.cells #[u] 31) ∧ Own 5 w B u zeros ∧ v1.ownBlock ≠ some h ∧ v2.ownBlock ≠ some h ∧ v3.ownBlock ≠ some h
def NewB (v1 v2 v3 : Value) (w : World) (v : Value) : Prop := ∃ h, v = .slice (some ⟨h, 0, none⟩) 1 1 ∧ w.heap[h]? = some (.cells #[.bool false] 4) ∧ v1.ownBlock ≠ some h ∧ v2.ownBlock ≠ some h ∧ v3.ownBlock ≠ some h
/-- What the slots hold. -/
def VX (q B : Nat) (v1 v2 v3 : Value) : Nat → World → Value → Prop
  | 28, _, v => v = .pointer (some ⟨q, 0, none⟩)
  | 29, _, v => v = .pointer (some ⟨q, 0, none⟩)
  | 30, _, v => v = .pointer (some ⟨q, 0, none⟩)
  | 31, _, v => v = .pointer (some ⟨q, 0, none⟩)
  | 32, _, v => v = .pointer (some ⟨q, 0, none⟩)
  | 33, _, v => v = .pointer (some ⟨q, 0, none⟩)
  | 38, _, v => v = .pointer (some ⟨q, 0, none⟩)
  | 39, _, v => v = .pointer (some ⟨q, 0, none⟩)
  | 45, _, v => v = .pointer (some ⟨q, 0, none⟩)
  | 46, _, v => v = .pointer (some ⟨q, 0, none⟩)
  | 51, _, v => v = .pointer (some ⟨q, 0, none⟩)
  | 52, _, v => v = .pointer (some ⟨q, 0, none⟩)
  | 53, _, v => v = .pointer (some ⟨q, 0, none⟩)
  | 55, _, v => v = .pointer (some ⟨q, 0, none⟩)
  | 40, _, v => v = .pointer (some ⟨q, 1, none⟩)
  | 54, _, v => v = .pointer (some ⟨q, 1, none⟩)
  | 47, _, v => v = .pointer (some ⟨q, 2, none⟩)
  | 56, _, v => v = .pointer (some ⟨q, 2, none⟩)
  | 34, _, v => v = v1
  | 41, _, v => v = v2
  | 48, _, v => v = v3
  | 35, w, v => Own 5 w B v zeros
  | 42, w, v => Own 5 w B v zeros
  | 36, w, v => NewS B v1 v2 v3 w v
  | 43, w, v => NewS B v1 v2 v3 w v
  | 49, w, v => NewB v1 v2 v3 w v
  | _, _, _ => True
theorem NewS.below {B : Nat} {v1 v2 v3 v : Value} {w w' : World} (hb : Below w.heap.size w w') (h : NewS B v1 v2 v3 w v) : NewS B v1 v2 v3 w' v := by
  obtain ⟨j, u, h1, h2, h3, h4⟩ := h
  exact ⟨j, u, h1, (hb.block j (Array.getElem?_eq_some_iff.1 h2).1).trans h2, h3.below hb, h4⟩
theorem NewB.below {v1 v2 v3 v : Value} {w w' : World} (hb : Below w.heap.size w w') (h : NewB v1 v2 v3 w v) : NewB v1 v2 v3 w' v := by
  obtain ⟨j, h1, h2, h4⟩ := h
  exact ⟨j, h1, (hb.block j (Array.getElem?_eq_some_iff.1 h2).1).trans h2, h4⟩
theorem VX.below {q B : Nat} {v1 v2 v3 : Value} (t : Nat) {w w' : World} (v : Value) (hb : Below w.heap.size w w') (h : VX q B v1 v2 v3 t w v) : VX q B v1 v2 v3 t w' v := by
  unfold VX at h ⊢
  split at h <;> first | exact h | trivial | exact Own.below h hb | exact NewS.below hb h | exact NewB.below hb h
theorem new_key {v1 v2 v3 r : Value} (hk : r = v1 ∨ r = v2 ∨ r = v3) {j : Nat} (h : v1.ownBlock ≠ some j ∧ v2.ownBlock ≠ some j ∧ v3.ownBlock ≠ some j) : some j ≠ r.ownBlock := by
  obtain ⟨a, b, c⟩ := h
  intro e
  rcases hk with rfl | rfl | rfl
  · exact a e.symm
  · exact b e.symm
  · exact c e.symm
theorem VX.grown {q B B' : Nat} {e : TypeId} {v1 v2 v3 r : Value} {xs : List Value} (t : Nat) {w w' : World} (v : Value) (hr : OwnV e w B' r xs) (he : 5 ≠ e) (hk : r = v1 ∨ r = v2 ∨ r = v3) (hg : w.grownBy w' r.ownBlock) (h : VX q B v1 v2 v3 t w v) : VX q B v1 v2 v3 t w' v := by
  have kS : NewS B v1 v2 v3 w v → NewS B v1 v2 v3 w' v := by
    rintro ⟨j, u, h1, h2, h3, h4⟩
    exact ⟨j, u, h1, (hg.block j (Array.getElem?_eq_some_iff.1 h2).1 (new_key hk h4)).trans h2, own_grown h3 hr he hg, h4⟩
  have kB : NewB v1 v2 v3 w v → NewB v1 v2 v3 w' v := by
    rintro ⟨j, h1, h2, h4⟩
    exact ⟨j, h1, (hg.block j (Array.getElem?_eq_some_iff.1 h2).1 (new_key hk h4)).trans h2, h4⟩
  unfold VX at h ⊢
  split at h <;> first | exact h | trivial | exact own_grown h hr he hg | exact kS h | exact kB h
theorem VX.set {q B o : Nat} {v1 v2 v3 : Value} (t : Nat) {w : World} {cur : Array Value} (v z : Value) (hq : w.heap[q]? = some (.cells cur 30)) (h : VX q B v1 v2 v3 t w v) : VX q B v1 v2 v3 t (w.setCell ⟨q, o, none⟩ z) v := by
  have kS : NewS B v1 v2 v3 w v → NewS B v1 v2 v3 (w.setCell ⟨q, o, none⟩ z) v := by
    rintro ⟨j, u, h1, h2, h3, h4⟩
    exact ⟨j, u, h1, (Below.heap_setCell _ _ _ _ (blocks_ne h2 hq (by decide))).trans h2, own_far h3 hq (by decide) z, h4⟩
  have kB : NewB v1 v2 v3 w v → NewB v1 v2 v3 (w.setCell ⟨q, o, none⟩ z) v := by
    rintro ⟨j, h1, h2, h4⟩
    exact ⟨j, h1, (Below.heap_setCell _ _ _ _ (blocks_ne h2 hq (by decide))).trans h2, h4⟩
  unfold VX at h ⊢
  split at h <;> first | exact h | trivial | exact own_far h hq (by decide) z | exact kS h | exact kB h

end Go.Proofs.Ytdobkocckdpghaa
