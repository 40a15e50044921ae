/-
  A slice of slices of bytes as an argument.
-/
import Derived.Test.YtiejjiccncmeiaaDoorOpen1
namespace Go.Proofs.YtiejjiccncmeiaaDoor
open Go.RowKit Go.Joins Go.ChangeShapes Go.WideShapes Go.Deep

/-- v, a [][]byte, reads as l: the values and their bytes. -/
def RLs (w : World) (v : Value) (l : List (Value × List UInt8)) : Prop :=
  ∃ a cap, v = .slice a l.length cap ∧ l.length ≤ cap ∧ cap ≤ maxLen ∧ (∀ x ∈ l, RB w x.1 x.2) ∧
    (l ≠ [] → ∃ b o, a = some ⟨b, o, none⟩ ∧ ∀ i (h : i < l.length), w.cell? ⟨b, o + i, none⟩ = some l[i].1)

set_option maxRecDepth 100000 in
theorem open_lists {H : Type} {enc : TypeId × Value → H} {W : World} {a : Option Addr} {len cap : Nat} {d : DataW H} {p : List MemPlace} (h : DataW.Trod enc Tryd.prog W 0 (fun _ => true) true 22 (.slice a len cap) d p) :
    ∃ l, RLs W (.slice a len cap) l := by
  obtain ⟨fuel, hf⟩ := h
  rcases open_slice Tryd.underlying22 hf with ⟨hcs, -⟩ | ⟨x, l, c, m, n, D, Pl, hcs, hb, hl, hm, hmm, -, hi⟩
  · simp [Value.cells] at hcs
    obtain ⟨rfl, rfl, rfl⟩ := hcs
    exact ⟨[], none, 0, rfl, Nat.le_refl _, by simp [maxLen], (fun x hx => by cases hx), fun h => absurd rfl h⟩
  · simp [Value.cells] at hcs
    obtain ⟨rfl, rfl, rfl⟩ := hcs
    have hC : Tryd.prog.cellsOf 30 = 1 := by kernel_rfl
    simp only [if_true] at hmm
    subst hmm
    have key : ∀ i, i < len → ∃ y : Value × List UInt8, RB W y.1 y.2 ∧ W.cell? (x.add i) = some y.1 := by
      intro i hil
      obtain ⟨cs', hc, ht⟩ := hi i (by omega)
      rw [hC, Nat.mul_one] at hc
      obtain ⟨-, hcl, hat⟩ := World.cells?_some hc
      obtain ⟨c0, rfl⟩ : ∃ c0, cs' = [c0] := by
        match cs', hcl with
        | [c0], _ => exact ⟨c0, rfl⟩
      obtain ⟨y, hy⟩ := open_bytes1 ht
      have hz : (x.add i).add 0 = x.add i := by generalize x.add i = y; unfold Addr.add; simp
      have t0 := hat 0 (by omega)
      rw [hz] at t0
      exact ⟨(c0, y), hy, t0⟩
    obtain ⟨L, hL, hp⟩ := list_of_op len _ key
    subst hL
    refine ⟨L, some x, _, rfl, hl, hm, ?_, ?_⟩
    · intro y hy
      obtain ⟨i, hi', rfl⟩ := List.mem_iff_getElem.1 hy
      exact (hp i hi').1
    · intro hne
      obtain ⟨b, o, spot⟩ := x
      have h0 := (hp 0 (List.length_pos_iff.2 hne)).2
      have hspot : spot = none := by simpa [Addr.add] using World.cell?_spot h0
      subst hspot
      have hadd (j k : Nat) : (⟨b, j, none⟩ : Addr).add k = ⟨b, j + k, none⟩ := by unfold Addr.add; split <;> simp_all
      refine ⟨b, o, rfl, fun i hi' => ?_⟩
      have := (hp i hi').2
      rw [hadd] at this
      exact this

theorem RLs.below {w w' : World} {v : Value} {l : List (Value × List UInt8)} (h : RLs w v l) (hb : Below w.heap.size w w') : RLs w' v l := by
  obtain ⟨a, cap, hv, h1, h2, h3, h4⟩ := h
  refine ⟨a, cap, hv, h1, h2, fun x hx => (h3 x hx).below hb, fun hl => ?_⟩
  obtain ⟨b, o, ha, hc⟩ := h4 hl
  have hlt := World.block_lt_of_cell? w _ (hc 0 (List.length_pos_iff.2 hl))
  exact ⟨b, o, ha, fun i hi => (hb.cell (by exact hlt)).trans (hc i hi)⟩
theorem RLs.len {w : World} {a : Option Addr} {len cap : Nat} {l : List (Value × List UInt8)} (h : RLs w (.slice a len cap) l) : len = l.length ∧ len ≤ 9223372036854775807 := by
  obtain ⟨a', cap', hv, h1, h2, -⟩ := h
  simp only [Value.slice.injEq] at hv
  obtain ⟨rfl, rfl, rfl⟩ := hv
  exact ⟨rfl, by unfold maxLen at h2; omega⟩
/-- One of them. -/
theorem RLs.get {w : World} {a : Option Addr} {len cap : Nat} {l : List (Value × List UInt8)} (h : RLs w (.slice a len cap) l) (i : Nat) (hi : i < len) : ∃ b o u x, a = some ⟨b, o, none⟩ ∧ w.cell? ⟨b, o + i, none⟩ = some u ∧ RB w u x := by
  obtain ⟨a', cap', hv, h1, h2, h3, h4⟩ := h
  simp only [Value.slice.injEq] at hv
  obtain ⟨rfl, rfl, rfl⟩ := hv
  obtain ⟨b, o, rfl, hc⟩ := h4 (by intro e; subst e; simp at hi)
  exact ⟨b, o, _, _, rfl, hc i hi, h3 _ (List.getElem_mem hi)⟩

end Go.Proofs.YtiejjiccncmeiaaDoor
