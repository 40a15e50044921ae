/-
  Bytes of a text in a row of the call's own ('[]byte(s)').
-/
import Derived.Test.YtlmfdpdcffnocaaRunM
import Derived.Lib.ConvBytes
import Derived.Lib.BufferWrite
namespace Go.Proofs.Ytlmfdpdcffnocaa
open Go.RowKit Go.Op

/-- Block g holds the bytes l, and may be written there. -/
structure OwnC (w : World) (g : Nat) (l : List UInt8) : Prop where
  cell : ∀ i (h : i < l.length), w.cell? ⟨g, i, none⟩ = some (.int .u8 (l[i].toNat : Int))
  free : ∀ i, i < l.length → w.frozen? ⟨g, i, none⟩ = false

theorem OwnC.store {w : World} {g : Nat} {l : List UInt8} (h : OwnC w g l) (k : Nat) (hk : k < l.length) (c : UInt8) (x : Int) (hx : x = (c.toNat : Int)) : OwnC (w.setCell ⟨g, k, none⟩ (.int .u8 x)) g (l.set k c) := by
  subst hx
  refine ⟨fun i hi => ?_, fun i hi => ?_⟩
  · have hi' : i < l.length := by simpa using hi
    by_cases hik : i = k
    · subst hik
      rw [World.cell?_setCell_same _ _ _ (h.cell i hi'), List.getElem_set_self]
    · rw [World.cell?_setCell_other _ _ _ _ (by simp), h.cell i hi', List.getElem_set_ne (Ne.symm hik)]
  · have hi' : i < l.length := by simpa using hi
    simpa [go_sem] using h.free i hi'

theorem bytes_own (w : World) (e : TypeId) (s : ByteArray) : OwnC (Go.Lib.bytesWorld w e s) w.heap.size (bl s) := by
  have hsz : s.size ≤ (Go.Lib.bytesCells w e s).size := by
    unfold Go.Lib.bytesCells
    rw [Array.size_append, Array.size_map]
    show s.data.size ≤ _
    omega
  refine ⟨fun i hi => ?_, fun i hi => ?_⟩
  · rw [Go.Lib.bytesWorld_cell w e s i (by rw [bl_size]; exact hi)]
    simp [bl] at hi ⊢
    simp [hi]
  · rw [← bl_size] at hi
    simp [World.frozen?, Go.Lib.bytesWorld_at_new]
    omega
theorem bytes_below (w : World) (e : TypeId) (s : ByteArray) : Below w.heap.size w (Go.Lib.bytesWorld w e s) := by
  unfold Go.Lib.bytesWorld
  exact Go.Lib.below_freeze ((below_drewN (Below.refl _ w) 1).alloc (Nat.le_refl _) _) (p := ⟨w.heap.size, _, none⟩) (Nat.le_refl _) _
theorem OwnC.rb {w : World} {g n cap : Nat} {l : List UInt8} (h : OwnC w g l) (hn : n = l.length) (h1 : n ≤ cap) (h2 : cap ≤ maxLen) : RB w (.slice (some ⟨g, 0, none⟩) n cap) l := by
  subst hn
  refine ⟨some ⟨g, 0, none⟩, cap, rfl, h1, h2, (fun h => by cases h), fun _ => ⟨g, 0, rfl, fun i hi => ?_⟩⟩
  rw [Nat.zero_add]
  exact h.cell i hi


end Go.Proofs.Ytlmfdpdcffnocaa
