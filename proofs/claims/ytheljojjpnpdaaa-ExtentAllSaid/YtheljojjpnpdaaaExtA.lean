/-
  What ExtentAll's walk keeps: the room, the law's own row of bools beside it, the Op in a box; its mathematics.
-/
import Derived.Test.YtheljojjpnpdaaaExtE
import Derived.Test.YtheljojjpnpdaaaOpsE
namespace Go.Proofs.Ytheljojjpnpdaaa
open Go.RowKit

/-- May the Op's sectors be asked at all? -/
def inB (a n : Nat) (A N : Int) : Bool := decide (1 ≤ N ∧ (a : Int) ≤ A ∧ N ≤ (a : Int) + (n : Int) - A)
theorem inB_true {a n : Nat} {A N : Int} (h : inB a n A N = true) : ∃ p m : Nat, A = (p : Int) ∧ N = (m : Int) ∧ 0 < m ∧ a ≤ p ∧ p + m ≤ a + n := by
  unfold inB at h
  rw [decide_eq_true_eq] at h
  exact ⟨A.toNat, N.toNat, by omega, by omega, by omega, by omega, by omega⟩
/-- From p on j places are x. -/
def runB (G : Nat → Bool) (x : Bool) (p j : Nat) : Bool := decide (∀ i, i < j → G (p + i) = x)
theorem runB_zero (G : Nat → Bool) (x : Bool) (p : Nat) : runB G x p 0 = true := by unfold runB; simp
theorem runB_succ (G : Nat → Bool) (x : Bool) (p j : Nat) : runB G x p (j + 1) = (runB G x p j && decide (G (p + j) = x)) := by
  unfold runB
  rw [← Bool.decide_and, decide_eq_decide]
  constructor
  · intro h
    exact ⟨fun i hi => h i (by omega), h j (by omega)⟩
  · rintro ⟨h1, h2⟩ i hi
    rcases Nat.lt_or_ge i j with h | h
    · exact h1 i h
    · rw [show i = j from by omega]; exact h2
theorem runB_of {G : Nat → Bool} {x : Bool} {p j : Nat} (h : runB G x p j = true) (k : Nat) (h1 : p ≤ k) (h2 : k < p + j) : G k = x := by
  unfold runB at h
  rw [decide_eq_true_eq] at h
  have := h (k - p) (by omega)
  rwa [show p + (k - p) = k from by omega] at this
theorem runB_mk {G : Nat → Bool} {x : Bool} {p j : Nat} (h : ∀ k, p ≤ k → k < p + j → G k = x) : runB G x p j = true := by
  unfold runB
  rw [decide_eq_true_eq]
  exact fun i hi => h _ (by omega) (by omega)
theorem runB_less {G : Nat → Bool} {x : Bool} {p j m : Nat} (hj : j ≤ m) (h : runB G x p m = true) : runB G x p j = true := runB_mk fun k h1 h2 => runB_of h k h1 (by omega)
/-- The loop over a span has come to its end. -/
theorem loop_end {I t : Bool} {G : Nat → Bool} {x : Bool} {p j m : Nat} (ht : t = (I && runB G x p j)) (hj : I = true → j ≤ m) (he : (t && decide (j < m)) = false) : t = (I && runB G x p m) := by
  cases I with
  | false => simpa using ht
  | true =>
    have hjm := hj rfl
    rw [Bool.true_and] at ht ⊢
    cases t with
    | true =>
      simp at he
      rw [show m = j from by omega]
      exact ht
    | false =>
      cases h : runB G x p m with
      | false => rfl
      | true => rw [runB_less hjm h] at ht; cases ht

section
variable {w0 w w' : World} {r a n g c bo : Nat} {v : Value} {G Gf : Nat → Bool} {kd A N : Int}
/-- The room's parts and the law's row are not one block. -/
structure Apart3 (r g : Nat) (v : Value) : Prop where
  ne : r ≠ g
  nv : v.ownBlock = none ∨ v.ownBlock ≠ some g
theorem Apart3.ng (h : Apart3 r g v) : some g ≠ v.ownBlock := by
  rcases h.nv with e | e
  · rw [e]; simp
  · exact Ne.symm e
structure SZ (w0 w : World) (r a n g c : Nat) (v : Value) (G Gf : Nat → Bool) : Prop where
  rm : RM w w0.heap.size r a n v G
  fr : OwnV 4 w w0.heap.size (.slice (some ⟨g, 0, none⟩) 130 c) (zf 130 Gf)
  bel : Below w0.heap.size w0 w
theorem SZ.below (h : SZ w0 w r a n g c v G Gf) (hb : Below w.heap.size w w') : SZ w0 w' r a n g c v G Gf := ⟨h.rm.below hb, h.fr.below hb, below_on h.bel hb⟩
theorem SZ.call {G' : Nat → Bool} (h : SZ w0 w r a n g c v G Gf) (ap : Apart3 r g v) (hr : RM w' w0.heap.size r a n v G') (hg : w.grownBy w' v.ownBlock) : SZ w0 w' r a n g c v G' Gf := ⟨hr, h.fr.kept hg (.inr ap.ng), below_gr h.bel h.rm hg⟩
theorem SZ.set (h : SZ w0 w r a n g c v G Gf) (ap : Apart3 r g v) (i : Nat) (x : Bool) : SZ w0 (w.setCell ⟨g, i, none⟩ (.bool x)) r a n g c v G (fun j => if j = i then x else Gf j) := by
  obtain ⟨h1, h2⟩ := h.fr.fset i x
  exact ⟨h.rm.kept h2 (by simpa using ap.ne) ap.nv, h1, h.bel.grown h2 h.bel.size (fun k hk => by cases hk; exact h.fr.lt.2)⟩
theorem SZ.box (h : SZ w0 w r a n g c v G Gf) {cs : Array Value} {t : TypeId} (ap : Apart3 r g v) (hk : w.heap[bo]? = some (.cells cs t)) (ht : t ≠ 4) (i : Nat) (x : Bool) : (w.setCell ⟨g, i, none⟩ (.bool x)).heap[bo]? = some (.cells cs t) := by
  have hne : bo ≠ g := by
    rintro rfl
    rcases h.fr.2 with ⟨e, -⟩ | ⟨g', cap, cur, e, -, hg, -⟩
    · cases e
    · simp only [Value.slice.injEq, Option.some.injEq, Addr.mk.injEq, and_true] at e
      obtain ⟨rfl, -⟩ := e
      rw [hk] at hg
      simp only [Option.some.injEq, Obj.cells.injEq] at hg
      exact ht hg.2.1
  exact (Below.heap_setCell _ _ _ _ hne).trans hk
/-- The Op's box besides. -/
structure SO (w0 w : World) (r a n g c : Nat) (v : Value) (G Gf : Nat → Bool) (bo : Nat) (kd A N : Int) : Prop where
  z : SZ w0 w r a n g c v G Gf
  ob : w.heap[bo]? = some (.cells #[.int .i64 kd, .int .i64 A, .int .i64 N] 28)
theorem SO.below (h : SO w0 w r a n g c v G Gf bo kd A N) (hb : Below w.heap.size w w') : SO w0 w' r a n g c v G Gf bo kd A N := ⟨h.z.below hb, (hb.block bo (Array.getElem?_eq_some_iff.1 h.ob).1).trans h.ob⟩
theorem SO.call {G' : Nat → Bool} (h : SO w0 w r a n g c v G Gf bo kd A N) (ap : Apart3 r g v) (hr : RM w' w0.heap.size r a n v G') (hg : w.grownBy w' v.ownBlock) : SO w0 w' r a n g c v G' Gf bo kd A N := ⟨h.z.call ap hr hg, h.z.rm.blkKept hg h.ob (by decide)⟩
theorem SO.set (h : SO w0 w r a n g c v G Gf bo kd A N) (ap : Apart3 r g v) (i : Nat) (x : Bool) : SO w0 (w.setCell ⟨g, i, none⟩ (.bool x)) r a n g c v G (fun j => if j = i then x else Gf j) bo kd A N := ⟨h.z.set ap i x, h.z.box ap h.ob (by decide) i x⟩
theorem SO.o0 (h : SO w0 w r a n g c v G Gf bo kd A N) : w.cell? ⟨bo, 0, none⟩ = some (.int .i64 kd) := by rw [cell_of_row w bo 0 _ _ _ h.ob]; rfl
theorem SO.o1 (h : SO w0 w r a n g c v G Gf bo kd A N) : w.cell? ⟨bo, 1, none⟩ = some (.int .i64 A) := by rw [cell_of_row w bo 1 _ _ _ h.ob]; rfl
theorem SO.o2 (h : SO w0 w r a n g c v G Gf bo kd A N) : w.cell? ⟨bo, 2, none⟩ = some (.int .i64 N) := by rw [cell_of_row w bo 2 _ _ _ h.ob]; rfl
theorem SO.made (h : SZ w0 w r a n g c v G Gf) (kd A N : Int) : SO w0 (w.alloc (.cells #[.int .i64 kd, .int .i64 A, .int .i64 N] 28)) r a n g c v G Gf w.heap.size kd A N := ⟨h.below (below_alloc w _), heap_alloc_new w _⟩
theorem SO.drew (h : SO w0 w r a n g c v G Gf bo kd A N) (d : Nat) : SO w0 (w.drewN d) r a n g c v G Gf bo kd A N := h.below (below_drewN (Below.refl _ _) d)
/-- The law's row is written on. -/
theorem SO.setF {p j : Nat} {x : Bool} (h : SO w0 w r a n g c v G (setF Gf p j x) bo kd A N) (ap : Apart3 r g v) : SO w0 (w.setCell ⟨g, p + j, none⟩ (.bool x)) r a n g c v G (setF Gf p (j + 1) x) bo kd A N := by
  have := h.set ap (p + j) x
  rwa [setF_snoc] at this
end

/-- What is wanted of Take so far: the first place, or none till j. -/
def WantQ (G : Nat → Bool) (a m j : Nat) (W : Int) : Prop := (W = -1 ∧ ∀ i, i < j → ¬ allF G (a + i) m) ∨ ∃ q, W = ((a + q : Nat) : Int) ∧ allF G (a + q) m ∧ ∀ i, i < q → ¬ allF G (a + i) m
theorem want_fit {G : Nat → Bool} {a n m : Nat} {W : Int} (hm : 0 < m) (hlow : ∀ k, k < a → G k = false) (hout : ∀ k, a + n ≤ k → G k = false) (h : WantQ G a m 0 W ∨ ∃ j, WantQ G a m j W ∧ (0 ≤ W ∨ n < j + m)) (h0 : 0 ≤ W ∨ n < m ∨ ∃ j, WantQ G a m j W ∧ n < j + m) :
    (W = -1 ∧ fitF G (a + n) m = none) ∨ ∃ x, fitF G (a + n) m = some x ∧ W = (x.1 : Int) ∧ allF G x.1 m ∧ a ≤ x.1 ∧ x.1 + m ≤ a + n := by
  have hfound : ∀ q, W = ((a + q : Nat) : Int) → allF G (a + q) m → (∀ i, i < q → ¬ allF G (a + i) m) → ∃ x, fitF G (a + n) m = some x ∧ W = (x.1 : Int) ∧ allF G x.1 m ∧ a ≤ x.1 ∧ x.1 + m ≤ a + n := by
    intro q hW h1 h2
    cases hf : fitF G (a + n) m with
    | none => exact absurd h1 (fit_none hm hout hf _)
    | some x =>
      obtain ⟨f1, f2, f3, f4⟩ := fit_some hm hout hf
      have ge : a ≤ x.1 := by
        rcases Nat.lt_or_ge x.1 a with h | h
        · have := f1 x.1 (Nat.le_refl _) (by omega)
          rw [hlow _ h] at this; cases this
        · exact h
      have e : x.1 = a + q := by
        rcases Nat.lt_trichotomy x.1 (a + q) with h | h | h
        · have := h2 (x.1 - a) (by omega)
          rw [show a + (x.1 - a) = x.1 from by omega] at this
          exact absurd f1 this
        · exact h
        · exact absurd h1 (f4 _ h)
      exact ⟨x, rfl, by rw [hW, e], f1, ge, by omega⟩
  have hnone : (∀ i, i + m ≤ n → ¬ allF G (a + i) m) → fitF G (a + n) m = none := by
    intro hall
    cases hf : fitF G (a + n) m with
    | none => rfl
    | some x =>
      obtain ⟨f1, f2, f3, f4⟩ := fit_some hm hout hf
      have ge : a ≤ x.1 := by
        rcases Nat.lt_or_ge x.1 a with h | h
        · have := f1 x.1 (Nat.le_refl _) (by omega)
          rw [hlow _ h] at this; cases this
        · exact h
      have := hall (x.1 - a) (by omega)
      rw [show a + (x.1 - a) = x.1 from by omega] at this
      exact absurd f1 this
  rcases h0 with h0 | h0 | ⟨j, h0, hj⟩
  · rcases h with h | ⟨j, h, -⟩ <;>
    · rcases h with ⟨h1, -⟩ | ⟨q, h1, h2, h3⟩
      · omega
      · exact .inr (hfound q h1 h2 h3)
  · rcases h with h | ⟨j, h, -⟩ <;>
    · rcases h with ⟨h1, -⟩ | ⟨q, h1, h2, h3⟩
      · exact .inl ⟨h1, hnone fun i hi => by omega⟩
      · exact .inr (hfound q h1 h2 h3)
  · rcases h0 with ⟨h1, h2⟩ | ⟨q, h1, h2, h3⟩
    · exact .inl ⟨h1, hnone fun i hi => h2 i (by omega)⟩
    · exact .inr (hfound q h1 h2 h3)

theorem want_fin {G : Nat → Bool} {a n m j : Nat} {W : Int} (hm : 0 < m) (hlow : ∀ k, k < a → G k = false) (hout : ∀ k, a + n ≤ k → G k = false) (h : WantQ G a m j W) (he : 0 ≤ W ∨ n < j + m) :
    (W = -1 ∧ fitF G (a + n) m = none) ∨ ∃ x, fitF G (a + n) m = some x ∧ W = (x.1 : Int) ∧ allF G x.1 m ∧ a ≤ x.1 ∧ x.1 + m ≤ a + n :=
  want_fit hm hlow hout (.inr ⟨j, h, he⟩) (he.elim .inl fun h2 => .inr (.inr ⟨j, h, h2⟩))
theorem WantQ.zero (G : Nat → Bool) (a m : Nat) : WantQ G a m 0 (-1) := .inl ⟨rfl, fun i hi => by omega⟩
theorem WantQ.step {G : Nat → Bool} {a m j : Nat} {W : Int} (h : WantQ G a m j W) (hW : W < 0) (hn : ¬ allF G (a + j) m) : WantQ G a m (j + 1) W := by
  rcases h with ⟨h1, h2⟩ | ⟨q, h1, -⟩
  · refine .inl ⟨h1, fun i hi => ?_⟩
    rcases Nat.lt_or_ge i j with h | h
    · exact h2 i h
    · rw [show i = j from by omega]; exact hn
  · omega
theorem WantQ.found {G : Nat → Bool} {a m j : Nat} {W : Int} (h : WantQ G a m j W) (hW : W < 0) (hn : allF G (a + j) m) (j' : Nat) : WantQ G a m j' ((a + j : Nat) : Int) := by
  rcases h with ⟨h1, h2⟩ | ⟨q, h1, -⟩
  · exact .inr ⟨j, rfl, hn, h2⟩
  · omega

theorem may_turn {G : Nat → Bool} {a n : Nat} {A N : Int} {x : Bool} (h : mayTurn G a n A N x) : (inB a n A N && runB G (!x) A.toNat N.toNat) = true := by
  obtain ⟨h1, h2, h3, h4⟩ := h
  rw [Bool.and_eq_true]
  refine ⟨by unfold inB; rw [decide_eq_true_eq]; omega, runB_mk fun k k1 k2 => h4 k (by omega) (by omega)⟩
theorem no_use {G : Nat → Bool} {a n : Nat} {A N : Int} (h : false = (inB a n A N && runB G true A.toNat N.toNat)) : ¬ mayTurn G a n A N false := fun hm => by
  have := may_turn hm
  rw [Bool.not_false, ← h] at this
  cases this
theorem no_give {G : Nat → Bool} {a n : Nat} {A N : Int} (h : false = (inB a n A N && runB G false A.toNat N.toNat)) : ¬ mayTurn G a n A N true := fun hm => by
  have := may_turn hm
  rw [Bool.not_true, ← h] at this
  cases this

end Go.Proofs.Ytheljojjpnpdaaa
