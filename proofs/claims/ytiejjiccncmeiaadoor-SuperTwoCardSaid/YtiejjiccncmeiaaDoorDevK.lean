/-
  Plain facts of devices beside one another, of rows of the call's own.
-/
import Derived.Test.YtiejjiccncmeiaaDoorDevC
import Derived.Test.YtiejjiccncmeiaaDoorDevR
namespace Go.Proofs.YtiejjiccncmeiaaDoor
open Go.RowKit

theorem below_new (w : World) (o : Obj) : Below w.heap.size w (w.alloc o) := (Below.refl _ _).alloc (Nat.le_refl _) o
theorem DV.alloc {w : World} {B d g n : Nat} {S : Nat → Sec} {L : Life} (h : DV w B d g n S L) (o : Obj) : DV (w.alloc o) B d g n S L := h.below (below_new w o)
/-- A byte of a row of the call's own. -/
theorem Own.get {e : TypeId} {w : World} {B : Nat} {v : Value} {l : List UInt8} (h : Own e w B v l) (k : Nat) (x : UInt8) (hk : l[k]? = some x) : ∃ g cap, v = .slice (some ⟨g, 0, none⟩) l.length cap ∧ w.cell? ⟨g, k, none⟩ = some (.int .u8 (x.toNat : Int)) ∧ B ≤ g ∧ g < w.heap.size := by
  obtain ⟨hk1, hk2⟩ := List.getElem?_eq_some_iff.1 hk
  obtain ⟨g, cap, rfl, h1, h2, -⟩ := h.form (by omega)
  have := h.cell k hk1
  rw [hk2] at this
  exact ⟨g, cap, rfl, this, h1, h2⟩

theorem DV.twoAbove {w w' : World} {B d g n d' g' : Nat} {S : Nat → Sec} {L : Life} (h : DV w B d g n S L) (hk : Two d' (some g') w w') (h1 : d' < B) (h2 : g' < B) : DV w' B d g n S L :=
  h.two hk (by have := h.lowd; omega) (by have := h.lowd; omega) (by have := h.lowg; omega) (by have := h.lowg; omega)
theorem Two.cell {w w' : World} {d g : Nat} (hk : Two d (some g) w w') {p : Addr} {v : Value} (h : w.cell? p = some v) (h1 : p.block ≠ d) (h2 : p.block ≠ g) : w'.cell? p = some v :=
  (World.cell?_of_block (w := w) (hk.block p.block (World.block_lt_of_cell? w _ h) h1 (by simpa using h2))).trans h
theorem byte_of (k : Nat) (h : k < 256) : (k : Int) = ((UInt8.ofNat k).toNat : Int) := by
  rw [UInt8.toNat_ofNat']
  omega
theorem byte_succ (k : Nat) (h : k < 255) : (k : Int) + 1 = ((UInt8.ofNat (k + 1)).toNat : Int) := by
  rw [← byte_of (k + 1) (by omega)]
  omega
/-- The life of a device that was never fused, behind k calls. -/
def lifeN (k : Nat) : Life := ⟨(k : Int), false, 0, false⟩
theorem lifeN_zero : born = lifeN 0 := rfl
theorem lifeN_tick (k : Nat) : (lifeN k).tick = lifeN (k + 1) := by unfold lifeN Life.tick; simp

end Go.Proofs.YtiejjiccncmeiaaDoor
