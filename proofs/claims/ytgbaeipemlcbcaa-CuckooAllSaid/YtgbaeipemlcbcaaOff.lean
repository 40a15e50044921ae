/-
  Of the blocks that there were all but one are as they were.
-/
import Derived.Test.YtgbaeipemlcbcaaBase
namespace Go.Proofs.Ytgbaeipemlcbcaa
open Go.RowKit

/-- Of the blocks that there were all but g are as they were. -/
structure Off1 (g : Nat) (w w' : World) : Prop where
  os : w'.os = w.os
  tape : w'.tape = w.tape
  output : w'.output = w.output
  size : w.heap.size ≤ w'.heap.size
  block : ∀ k, k < w.heap.size → k ≠ g → w'.heap[k]? = w.heap[k]?
section
variable {g : Nat} {w w1 w2 w' : World}
theorem Off1.refl (g : Nat) (w : World) : Off1 g w w := ⟨rfl, rfl, rfl, Nat.le_refl _, fun _ _ _ => rfl⟩
theorem Off1.trans (h : Off1 g w w1) (k : Off1 g w1 w2) : Off1 g w w2 :=
  ⟨k.os.trans h.os, k.tape.trans h.tape, k.output.trans h.output, Nat.le_trans h.size k.size, fun i hi hn => (k.block i (Nat.lt_of_lt_of_le hi h.size) hn).trans (h.block i hi hn)⟩
theorem Off1.of_below (h : Below w.heap.size w w') : Off1 g w w' := ⟨h.os, h.tape, h.output, h.size, fun k hk _ => h.block k hk⟩
theorem Off1.set (h : Off1 g w w') (o : Nat) (u : Value) : Off1 g w (w'.setCell ⟨g, o, none⟩ u) :=
  ⟨h.os, h.tape, h.output, by simpa [World.setCell] using h.size, fun k hk hn => (Below.heap_setCell _ _ _ _ hn).trans (h.block k hk hn)⟩
theorem Off1.below {B : Nat} (h : Off1 g w w') (hg : B ≤ g) (hB : B ≤ w.heap.size) : Below B w w' :=
  ⟨h.os, h.tape, h.output, h.size, fun k hk => h.block k (by omega) (by omega)⟩
/-- What lies elsewhere stays. -/
theorem Off1.cell (h : Off1 g w w') {p : Addr} {u : Value} (hc : w.cell? p = some u) (hp : p.block ≠ g) : w'.cell? p = some u :=
  (World.cell?_of_block (w := w) (h.block p.block (World.block_lt_of_cell? w _ hc) hp)).trans hc
theorem Off1.setRow' (g : Nat) (w : World) (cs : Array Value) : Off1 g w (w.setRow g cs) := ⟨rfl, rfl, rfl, by simp, fun k _ hn => setRow_other w g k cs hn⟩
theorem Off1.above (h : Off1 g w w1) (k : Below w1.heap.size w1 w2) : Off1 g w w2 := h.trans (Off1.of_below k)
end

end Go.Proofs.Ytgbaeipemlcbcaa
