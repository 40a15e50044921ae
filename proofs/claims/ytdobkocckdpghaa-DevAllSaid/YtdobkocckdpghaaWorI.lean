/-
  The law's own device while it is made; its fuse against the device's life. Plain facts.
-/
import Derived.Test.YtdobkocckdpghaaWorS
namespace Go.Proofs.Ytdobkocckdpghaa
open Go.RowKit

def fuseOf (L : Life) : Int := if L.fused = true then L.left else -1
theorem fuse_dead {L : Life} (h : L.Ok) : L.dead = (fuseOf L == 0) := by
  obtain ⟨c, f, l, d⟩ := L
  have := h.dead
  simp only at this
  show d = _
  rw [this]
  cases f <;> simp [fuseOf, beq_dec]
theorem fuse_lo {L : Life} (h : L.Ok) : -1 ≤ fuseOf L := by
  unfold fuseOf
  split
  · have := h.fuse (by assumption); omega
  · omega
theorem fuse_hi {L : Life} (h : L.Ok) : fuseOf L ≤ 9223372036854775807 := by
  unfold fuseOf
  split
  · exact h.l1
  · omega
theorem burn_tick {L : Life} (h : L.Ok) (hd : L.dead = false) : burn (fuseOf L) = fuseOf L.tick := by
  obtain ⟨c, f, l, d⟩ := L
  have h1 := h.dead
  have h2 := h.fuse
  simp only at h1 h2 hd
  cases f with
  | false => simp [burn, fuseOf, Life.tick]
  | true =>
    have h3 := h2 rfl
    have h4 : l ≠ 0 := by
      intro e
      subst e
      rw [hd] at h1
      simp at h1
    simp [burn, fuseOf, Life.tick]
    omega
theorem fuse_to {L : Life} (hd : L.dead = false) (n : Int) : fuseOf (L.fuseTo n) = max (-1) n := by
  unfold Life.fuseTo
  rw [hd]
  simp only [Bool.false_eq_true, if_false]
  unfold fuseOf
  simp only [decide_eq_true_eq]
  split <;> omega
theorem fuse_to_dead {L : Life} (hd : L.dead = true) (n : Int) : L.fuseTo n = L := by
  unfold Life.fuseTo
  rw [if_pos hd]
theorem fuse_to_calls (L : Life) (n : Int) : (L.fuseTo n).calls = L.calls := by
  unfold Life.fuseTo
  split <;> rfl

structure WI (w : World) (B q i : Nat) (v1 v2 v3 : Value) (xs1 xs2 : List Value) : Prop where
  blk : w.heap[q]? = some (.cells #[v1, v2, v3, .int .i64 0, .int .i64 (-1)] 30)
  r1 : OwnV 31 w B v1 xs1
  r2 : OwnV 31 w B v2 xs2
  r3 : OwnV 4 w B v3 (zb (List.replicate i false))
  n1 : xs1.length = i
  n2 : xs2.length = i
  e1 : ∀ x ∈ xs1, Own 5 w B x zeros
  e2 : ∀ x ∈ xs2, Own 5 w B x zeros
  ne : ∀ g, v1.ownBlock = some g → v2.ownBlock ≠ some g
  lq : B ≤ q
theorem WI.below {w w' : World} {B q i : Nat} {v1 v2 v3 : Value} {xs1 xs2 : List Value} (h : WI w B q i v1 v2 v3 xs1 xs2) (hb : Below w.heap.size w w') : WI w' B q i v1 v2 v3 xs1 xs2 :=
  ⟨(hb.block q (Array.getElem?_eq_some_iff.1 h.blk).1).trans h.blk, h.r1.below hb, h.r2.below hb, h.r3.below hb, h.n1, h.n2, fun x hx => (h.e1 x hx).below hb, fun x hx => (h.e2 x hx).below hb, h.ne, h.lq⟩
theorem row_of {e : TypeId} {w : World} {B : Nat} {v : Value} {xs : List Value} (h : OwnV e w B v xs) (h0 : 0 < xs.length) : ∃ g c, v = .slice (some ⟨g, 0, none⟩) xs.length c ∧ B ≤ g ∧ ∃ cur : Array Value, w.heap[g]? = some (.cells cur e) ∧ ∀ i (hi : i < xs.length), cur[i]? = some xs[i] := by
  rcases h.2 with ⟨-, hn⟩ | ⟨g, cap, cur, rfl, hB, hg, h1, h2, h3, h4⟩
  · omega
  · refine ⟨g, cap, rfl, hB, cur, hg, fun i hi => ?_⟩
    obtain ⟨y, hy⟩ : ∃ y, y = xs[i] := ⟨_, rfl⟩
    have h5 : xs[i]? = some y := by rw [hy]; exact List.getElem?_eq_getElem hi
    rw [← hy]
    clear hy
    rw [← h4, List.getElem?_take] at h5
    split at h5
    · rw [Array.getElem?_toList] at h5
      exact h5
    · cases h5
theorem WI.wv {w : World} {B q i : Nat} {v1 v2 v3 : Value} {xs1 xs2 : List Value} (h : WI w B q i v1 v2 v3 xs1 xs2) (h0 : 0 < i) : ∃ g1 c1 g2 c2 g3 c3, WV w B q g1 c1 g2 c2 g3 c3 i (fun j => xs1.getD j undef) (fun j => xs2.getD j undef) newS 0 (-1) := by
  obtain ⟨g1, c1, rfl, l1, u1, p1, p1'⟩ := row_of h.r1 (by rw [h.n1]; exact h0)
  obtain ⟨g2, c2, rfl, l2, u2, p2, p2'⟩ := row_of h.r2 (by rw [h.n2]; exact h0)
  obtain ⟨g3, c3, rfl, l3, u3, p3, p3'⟩ := row_of h.r3 (by rw [zb_length, List.length_replicate]; exact h0)
  have hb := h.blk
  rw [h.n1, h.n2, zb_length, List.length_replicate] at hb
  have d1 : ∀ j, j < i → ∃ hj : j < xs1.length, xs1.getD j undef = xs1[j] := fun j hj => ⟨by rw [h.n1]; exact hj, by rw [List.getD_eq_getElem?_getD, List.getElem?_eq_getElem (by rw [h.n1]; exact hj)]; rfl⟩
  have d2 : ∀ j, j < i → ∃ hj : j < xs2.length, xs2.getD j undef = xs2[j] := fun j hj => ⟨by rw [h.n2]; exact hj, by rw [List.getD_eq_getElem?_getD, List.getElem?_eq_getElem (by rw [h.n2]; exact hj)]; rfl⟩
  refine ⟨g1, c1, g2, c2, g3, c3, hb, ⟨u1, p1, fun j hj => ?_⟩, ⟨u2, p2, fun j hj => ?_⟩, ⟨u3, p3, fun j hj => ?_⟩, fun j hj => ?_, fun j hj => ?_, Whole.new i, fun e => h.ne g1 rfl (by rw [e]; rfl), h.lq, l1, l2, l3⟩
  · obtain ⟨hj', e⟩ := d1 j hj
    show _ = some (xs1.getD j undef)
    rw [e]
    exact p1' j hj'
  · obtain ⟨hj', e⟩ := d2 j hj
    show _ = some (xs2.getD j undef)
    rw [e]
    exact p2' j hj'
  · rw [p3' j (by rw [zb_length, List.length_replicate]; exact hj), zb_at _ _ (by rw [List.length_replicate]; exact hj), List.getElem_replicate]
    rfl
  · obtain ⟨hj', e⟩ := d1 j hj
    show Own _ _ _ (xs1.getD j undef) _
    rw [e]
    exact h.e1 _ (List.getElem_mem _)
  · obtain ⟨hj', e⟩ := d2 j hj
    show Own _ _ _ (xs2.getD j undef) _
    rw [e]
    exact h.e2 _ (List.getElem_mem _)
theorem WI.new (w : World) (B : Nat) (hB : B ≤ w.heap.size) : WI (w.alloc (.cells #[.slice none 0 0, .slice none 0 0, .slice none 0 0, .int .i64 0, .int .i64 (-1)] 30)) B w.heap.size 0 (.slice none 0 0) (.slice none 0 0) (.slice none 0 0) [] [] :=
  ⟨heap_alloc_new w _, OwnV.nil _ _ _, OwnV.nil _ _ _, OwnV.nil _ _ _, rfl, rfl, (fun x hx => by cases hx), (fun x hx => by cases hx), (fun g hg => by cases hg), hB⟩

theorem rb_other {w : World} {A B : Array Value} {t : TypeId} {v : Value} {l : List UInt8} (h : RB (w.alloc (.cells A t)) v l) (hA : ∀ (j : Nat) (x : Int), A[j]? ≠ some (Value.int .u8 x)) : RB (w.alloc (.cells B t)) v l := by
  obtain ⟨a, cap, hv, h1, h2, h3, h4⟩ := h
  refine ⟨a, cap, hv, h1, h2, h3, fun hl => ?_⟩
  obtain ⟨b, o, ha, hc⟩ := h4 hl
  refine ⟨b, o, ha, fun i hi => ?_⟩
  have h5 := hc i hi
  have hlt := World.block_lt_of_cell? _ _ h5
  by_cases hb : b = w.heap.size
  · subst hb
    rw [cell_of_row _ _ _ _ _ _ (heap_alloc_new w _)] at h5
    exact absurd h5 (hA _ _)
  · have hb2 : b < w.heap.size := by
      have e : (w.alloc (.cells A t)).heap.size = w.heap.size + 1 := Array.size_push ..
      rw [e] at hlt
      simp only at hlt
      omega
    exact ((below_new w (.cells B t)).cell (by exact hb2)).trans (((below_new w (.cells A t)).cell (by exact hb2)).symm.trans h5)
theorem op_cells_no (a b : Int) (u v : Value) (hu : ∀ x, u ≠ Value.int .u8 x) (hv : ∀ x, v ≠ Value.int .u8 x) : ∀ (j : Nat) (x : Int), (#[Value.int .i64 a, .int .i64 b, u, v] : Array Value)[j]? ≠ some (Value.int .u8 x) := by
  intro j x h
  match j, h with
  | 0, h => simp at h
  | 1, h => simp at h
  | 2, h => simp at h; exact hu x h
  | 3, h => simp at h; exact hv x h
  | j + 4, h => simp at h

end Go.Proofs.Ytdobkocckdpghaa
