/-
  Records by the generic laws of slices (XGenS): their layout.
-/
import Derived.Test.YtkddleonmkhaiaaGreatM26
import Derived.Test.YtkddleonmkhaiaaGreatM18
import Derived.Test.YtkddleonmkhaiaaGreatM21
namespace Go.Proofs.YtkddleonmkhaiaaGreat
open Go.RowKit

theorem K5.row1 {w : World} {g : Nat} {x : RecT} {t : TypeId} {fr : Nat × Nat} (h : w.heap[g]? = some (.cells (rc5 x).toArray t fr)) : K5.R w (.slice (some ⟨g, 0, none⟩) 1 1) [x] := by
  refine ⟨some ⟨g, 0, none⟩, 1, rfl, Nat.le_refl _, by simp [maxLen], (fun h => by cases h), fun _ => ⟨g, 0, rfl, fun j u hj => ?_⟩⟩
  rw [cell_of_row _ g (0 + j) _ _ _ h, Nat.zero_add, List.getElem?_toArray]
  rw [Lay.flat_cons, Lay.flat_nil, List.append_nil] at hj
  exact hj
theorem own_form {w : World} {B : Nat} {v : Value} {L : List RecT} (h : OwnRec w B v L) (hl : L ≠ []) : ∃ g cap, v = .slice (some ⟨g, 0, none⟩) L.length cap ∧ g < w.heap.size := by
  obtain ⟨g, cap, h1, -, h2, -⟩ := Lay.O.form (K := K5) h hl
  exact ⟨g, cap, h1, h2⟩
theorem own_slice {w : World} {B : Nat} {v : Value} {L : List RecT} (h : OwnRec w B v L) : ∃ a n c, v = .slice a n c := by
  obtain ⟨a, cap, rfl, -⟩ := h.rs.form
  exact ⟨_, _, _, rfl⟩

end Go.Proofs.YtkddleonmkhaiaaGreat
