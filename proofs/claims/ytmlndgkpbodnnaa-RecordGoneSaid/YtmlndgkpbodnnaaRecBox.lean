/-
  Boxes of records: their cells, in whatever world came later.
-/
import Derived.Test.YtmlndgkpbodnnaaRecs
namespace Go.Proofs.Ytmlndgkpbodnnaa
open Go.RowKit

theorem row_kept {w w' : World} {b : Nat} {o : Obj} (h : w.heap[b]? = some o) (hb : Below w.heap.size w w') : w'.heap[b]? = some o := (hb.block _ (Array.getElem?_eq_some_iff.1 h).1).trans h
theorem row5 {w : World} {b : Nat} {a0 a1 a2 a3 a4 : Value} {t : TypeId} {fr : Nat × Nat} (h : w.heap[b]? = some (.cells #[a0, a1, a2, a3, a4] t fr)) :
    w.cell? ⟨b, 0, none⟩ = some a0 ∧ w.cell? ⟨b, 1, none⟩ = some a1 ∧ w.cell? ⟨b, 2, none⟩ = some a2 ∧ w.cell? ⟨b, 3, none⟩ = some a3 ∧ w.cell? ⟨b, 4, none⟩ = some a4 := by
  have c := fun j => cell_of_row w b j _ _ _ h
  exact ⟨c 0, c 1, c 2, c 3, c 4⟩
theorem row_lt {w : World} {b : Nat} {o : Obj} (h : w.heap[b]? = some o) : b < w.heap.size := (Array.getElem?_eq_some_iff.1 h).1
theorem RRec.below {w w' : World} {v : Value} {l : List RecT} (h : RRec w v l) (hb : Below w.heap.size w w') : RRec w' v l := by
  have h5 := h.rs.below hb
  obtain ⟨a, cap, hv, h1, h2, h3, h4, -⟩ := h
  subst hv
  obtain ⟨a', cap', e, -, -, -, h5⟩ := h5
  simp only [Value.slice.injEq] at e
  obtain ⟨rfl, -, rfl⟩ := e
  exact ⟨a, cap, rfl, h1, h2, h3, h4, h5⟩

end Go.Proofs.Ytmlndgkpbodnnaa
