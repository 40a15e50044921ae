/-
  Slices of values of one cell each: what one reads as, what the call itself owns, and laws over them. Plain facts, of no one program.
-/
import Derived.Test.YtmphcpggfgehhaaBase
namespace Go.Proofs.Ytmphcpggfgehhaa
open Go.RowKit

/-- Whole numbers as values. -/
def zi (k : IntKind) (l : List Nat) : List Value := l.map fun (n : Nat) => Value.int k (n : Int)
theorem zi_length (k : IntKind) (l : List Nat) : (zi k l).length = l.length := by simp [zi]
theorem zi_append (k : IntKind) (l m : List Nat) : zi k (l ++ m) = zi k l ++ zi k m := by simp [zi]
theorem zi_one (k : IntKind) (l : List Nat) : ∀ u ∈ zi k l, u.oneCell' = true := by
  intro u hu
  obtain ⟨n, -, rfl⟩ := List.mem_map.1 hu
  rfl
theorem zi_at (k : IntKind) (l : List Nat) (i : Nat) (h : i < l.length) : (zi k l)[i]'(by rw [zi_length]; exact h) = .int k (l[i] : Int) := by simp [zi]

/-- v, a slice of values of one cell, reads as xs. -/
def RV (w : World) (v : Value) (xs : List Value) : Prop :=
  ∃ a cap, v = .slice a xs.length cap ∧ xs.length ≤ cap ∧ cap ≤ maxLen ∧ (a = none → cap = 0) ∧
    (xs ≠ [] → ∃ b o, a = some ⟨b, o, none⟩ ∧ ∀ i (h : i < xs.length), w.cell? ⟨b, o + i, none⟩ = some xs[i])

/-- v, a slice that was made from block B on, holds xs; e: the elements' type. -/
def OwnV (e : TypeId) (w : World) (B : Nat) (v : Value) (xs : List Value) : Prop := w.ownsRow B e 1 v xs.length xs

theorem RV.block {w : World} {xs : List Value} {b o : Nat} (h : ∀ i (h : i < xs.length), w.cell? ⟨b, o + i, none⟩ = some xs[i]) (hl : xs ≠ []) : b < w.heap.size :=
  World.block_lt_of_cell? w _ (h 0 (List.length_pos_iff.2 hl))

theorem RV.below {w w' : World} {v : Value} {xs : List Value} (h : RV w v xs) (hb : Below w.heap.size w w') : RV w' v xs := by
  obtain ⟨a, cap, hv, h1, h2, h3, h4⟩ := h
  refine ⟨a, cap, hv, h1, h2, h3, fun hl => ?_⟩
  obtain ⟨b, o, ha, hc⟩ := h4 hl
  have hlt := RV.block hc hl
  exact ⟨b, o, ha, fun i hi => (hb.cell (by exact hlt)).trans (hc i hi)⟩

theorem RV.at {w : World} {a : Option Addr} {len cap : Nat} {xs : List Value} (h : RV w (.slice a len cap) xs) (k : Nat) (hk : k < xs.length) : ∃ b o, a = some ⟨b, o, none⟩ ∧ w.cell? ⟨b, o + k, none⟩ = some xs[k] ∧ b < w.heap.size := by
  obtain ⟨a', cap', hv, h1, h2, h3, h4⟩ := h
  cases hv
  have hne : xs ≠ [] := by intro e; subst e; simp at hk
  obtain ⟨b, o, rfl, hc⟩ := h4 hne
  exact ⟨b, o, rfl, hc k hk, RV.block hc hne⟩

theorem RV.form {w : World} {v : Value} {xs : List Value} (h : RV w v xs) : ∃ a cap, v = .slice a xs.length cap ∧ xs.length ≤ 9223372036854775807 := by
  obtain ⟨a, cap, hv, h1, h2, -⟩ := h
  exact ⟨a, cap, hv, by unfold maxLen at h2; omega⟩

theorem OwnV.nil (e : TypeId) (w : World) (B : Nat) : OwnV e w B (.slice none 0 0) [] := World.ownsRow_nil w B e 1

theorem OwnV.rv {e : TypeId} {w : World} {B : Nat} {v : Value} {xs : List Value} (h : OwnV e w B v xs) : RV w v xs := by
  have hc0 := fun (g : Nat) (hg : v.ownBlock = some g) (i : Nat) (hi : i < xs.length) => World.ownsRow.cells h (g := g) hg i _ (List.getElem?_eq_getElem hi)
  rcases h.2 with ⟨rfl, hn⟩ | ⟨g, cap, cur, rfl, hb, hg, h1, h2, h3, h4⟩
  · obtain rfl : xs = [] := List.eq_nil_of_length_eq_zero hn
    exact ⟨none, 0, rfl, Nat.le_refl _, by simp [maxLen], fun _ => rfl, fun h => absurd rfl h⟩
  · refine ⟨some ⟨g, 0, none⟩, cap, rfl, h1, h2, (fun h => by cases h), fun hl => ⟨g, 0, rfl, fun i hi => ?_⟩⟩
    have := hc0 g rfl i hi
    have hadd : (⟨g, 0, none⟩ : Addr).add i = ⟨g, 0 + i, none⟩ := by unfold Addr.add; split <;> simp_all
    rw [hadd] at this
    exact this

theorem OwnV.below {e : TypeId} {w w' : World} {B : Nat} {v : Value} {xs : List Value} (h : OwnV e w B v xs) (hb : Below w.heap.size w w') : OwnV e w' B v xs := by
  refine ⟨h.1, ?_⟩
  rcases h.2 with h' | ⟨g, cap, cur, h1, hB, h2, h3⟩
  · exact .inl h'
  · exact .inr ⟨g, cap, cur, h1, hB, (hb.block g (Array.getElem?_eq_some_iff.1 h2).1).trans h2, h3⟩

theorem OwnV.mono {e : TypeId} {w : World} {B B' : Nat} {v : Value} {xs : List Value} (h : OwnV e w B v xs) (hB : B' ≤ B) : OwnV e w B' v xs := by
  refine ⟨h.1, ?_⟩
  rcases h.2 with h' | ⟨g, cap, cur, h1, hb, h2⟩
  · exact .inl h'
  · exact .inr ⟨g, cap, cur, h1, Nat.le_trans hB hb, h2⟩

theorem OwnV.alloc {e : TypeId} {w : World} {B : Nat} {v : Value} {xs : List Value} (h : OwnV e w B v xs) (o : Obj) : OwnV e (w.alloc o) B v xs := World.ownsRow.alloc h o

theorem OwnV.kept {e : TypeId} {w w' : World} {B : Nat} {v : Value} {xs : List Value} {row : Option Nat} (h : OwnV e w B v xs) (hg : w.grownBy w' row) (hne : v.ownBlock = none ∨ v.ownBlock ≠ row) : OwnV e w' B v xs :=
  World.ownsRow.kept h hg hne

theorem OwnV.row {e : TypeId} {w : World} {B : Nat} {v : Value} {xs : List Value} (h : OwnV e w B v xs) : ∀ k, v.ownBlock = some k → B ≤ k := fun k hk => (World.ownsRow.lt h k hk).1

/-- A change of one block that is not its own. -/
theorem OwnV.other {e : TypeId} {w w' : World} {B : Nat} {v : Value} {xs : List Value} (h : OwnV e w B v xs) (k : Nat) (o : Obj) (hk : w.heap[k]? = some o) (hno : ∀ c t f, o ≠ .cells c t f) (hw : ∀ j, j ≠ k → w'.heap[j]? = w.heap[j]?) : OwnV e w' B v xs := by
  refine ⟨h.1, ?_⟩
  rcases h.2 with h' | ⟨g, cap, cur, h1, hB, h2, h3⟩
  · exact .inl h'
  · refine .inr ⟨g, cap, cur, h1, hB, (hw g ?_).trans h2, h3⟩
    intro e'
    subst e'
    rw [h2] at hk
    exact hno _ _ _ (Option.some.inj hk).symm

/-- One value in a new block of its own. -/
theorem RV.one (w : World) (e : TypeId) (x : Value) : RV (w.alloc (.cells #[x] e)) (.slice (some ⟨w.heap.size, 0, none⟩) 1 1) [x] := by
  refine ⟨some ⟨w.heap.size, 0, none⟩, 1, rfl, Nat.le_refl _, by simp [maxLen], (fun h => by cases h), fun _ => ⟨w.heap.size, 0, rfl, fun i hi => ?_⟩⟩
  obtain rfl : i = 0 := by simpa using hi
  rw [cell_of_row _ w.heap.size 0 #[x] e (0, 0) (heap_alloc_new w _)]
  simp

section
variable {P : Program}

/-- 'append(s, x...)', s the call's own, x whatever reads as m. -/
theorem wpList_append_RV {ops : Array Oper} {rest : List Oper} {o : Oper} {a : Act} {w : World} {Q : Exit → Act → World → Prop} (hgd : o.guard = none) (s x : Operand) (t : TypeId)
    (ho : o.op = .call { callee := .builtin .append, args := #[s, x], argTypes := #[t, t] })
    (B : Nat) (e : TypeId) (ht : P.underlying t = some (.slice e)) (z : Value) (bytes : Nat) (hz1 : z.cells.size = 1) (hinfo : (P.info? e).map (fun i => (i.zero, i.size, i.bytes)) = some (some z, 1, bytes))
    (v xv : Value) (l m : List Value) (hs : a.eval s = v) (hx : a.eval x = xv) (hown : OwnV e w B v l) (hrb : RV w xv m) (hm1 : ∀ u ∈ m, u.oneCell' = true)
    (hlen : (l.length + m.length) * bytes ≤ 140737488355328) (hl63 : l.length + m.length ≤ 140737488355328) (hbase : B ≤ w.heap.size)
    (h : ∀ v' w', OwnV e w' B v' (l ++ m) → w.grownBy w' v.ownBlock → wpList P ops Q rest (a.put o.dst v') w') : wpList P ops Q (o :: rest) a w := by
  obtain ⟨i, hi, hz, hsize, hby⟩ := info_parts hinfo
  obtain ⟨ad, cap, rfl, h1, h2, h3, h4⟩ := hrb
  cases ad with
  | none =>
    obtain rfl := h3 rfl
    obtain rfl : m = [] := List.eq_nil_of_length_eq_zero (by omega)
    refine wpList_append_own_none hgd s x t ho B e i 1 ht hi v l.length l hs hown hx ?_
    exact h v w (by simpa using hown) (World.grownBy.refl _ _)
  | some ad =>
    refine wpList_append_own w hgd s x t ho B e i z 1 bytes ht hi hz hsize hby hz1 (by decide) v l.length l hs hown ad m.length cap m hx (by simp) ?_ hm1 (by unfold maxLen; omega) hlen hbase ?_
    · intro j u hj
      have hjm : j < m.length := by
        rcases Nat.lt_or_ge j m.length with hlt | hge
        · exact hlt
        · rw [List.getElem?_eq_none hge] at hj; cases hj
      obtain ⟨b, o', hao, hc⟩ := h4 (by intro hm; subst hm; simp at hjm)
      cases hao
      rw [List.getElem?_eq_getElem hjm] at hj
      cases hj
      have hadd : (⟨b, o', none⟩ : Addr).add j = ⟨b, o' + j, none⟩ := by unfold Addr.add; split <;> simp_all
      rw [hadd]
      exact hc j hjm
    · intro v' w' hown' hg _
      exact h v' w' (by unfold OwnV; rw [List.length_append]; exact hown') hg

/-- 'make([]T, 0, c)'. -/
theorem wpList_make_none {ops : Array Oper} {rest : List Oper} {o : Oper} {a : Act} {w : World} {Q : Exit → Act → World → Prop} (hgd : o.guard = none) (lo co : Operand) (t : TypeId)
    (hop : o.op = Op.makeSlice t lo co) (e : TypeId) (ht : P.underlying t = some (.slice e)) (z : Value) (bytes : Nat) (hinfo : (P.info? e).map (fun i => (i.zero, i.size, i.bytes)) = some (some z, 1, bytes))
    (kl kc : IntKind) (C : Int) (c : Nat) (hl : a.eval lo = .int kl 0) (hc : a.eval co = .int kc C) (hC : C = (c : Int)) (hcm : bytes * c ≤ 281474976710656) (hcm2 : c ≤ 281474976710656)
    (h : ∀ v w', OwnV e w' w.heap.size v [] → w.grownBy w' none → wpList P ops Q rest (a.put o.dst v) w') : wpList P ops Q (o :: rest) a w := by
  obtain ⟨i, hi, hz, hsize, hby⟩ := info_parts hinfo
  subst hC
  have hr := run_make (P := P) w t e i z ht hi hz kl kc 0 c (by omega) (by omega) (by rw [hby, ← Int.natCast_mul]; omega) (by omega)
  have h00 : Int.toNat 0 = 0 := rfl
  simp only [Int.toNat_natCast, hsize, Nat.mul_one, h00] at hr
  have hgo := h (.slice (some ⟨w.heap.size, 0, none⟩) 0 c) (w.alloc (.cells (madeCells z.cells c) e))
  refine wpList_gives hgd (.slice (some ⟨w.heap.size, 0, none⟩) 0 c) (w.alloc (.cells (madeCells z.cells c) e)) (by simp only [execOp, hop, hl, hc]; rw [Sem.run_bind, hr]; rfl) (hgo ?_ (World.grownBy_alloc w _ none))
  refine ⟨by simp, .inr ⟨w.heap.size, c, madeCells z.cells c, rfl, Nat.le_refl _, heap_alloc_new w _, by simp, by unfold maxLen; omega, by simp [size_madeCells], by simp⟩⟩
end

end Go.Proofs.Ytmphcpggfgehhaa
