/-
  Slices of bools.
-/
import Derived.Test.YtmphcpggfgehhaaBitC
import Derived.Test.YtmphcpggfgehhaaVals
import Derived.Laws.BitsAllLaws
import Derived.LoopTactic
namespace Go.Proofs.Ytmphcpggfgehhaa
open Go.RowKit

def zb (l : List Bool) : List Value := l.map Value.bool
theorem zb_length (l : List Bool) : (zb l).length = l.length := by simp [zb]
theorem zb_append (l m : List Bool) : zb (l ++ m) = zb l ++ zb m := by simp [zb]
theorem zb_at (l : List Bool) (i : Nat) (h : i < l.length) : (zb l)[i]'(by rw [zb_length]; exact h) = .bool l[i] := by simp [zb]
theorem zb_one (l : List Bool) : ∀ u ∈ zb l, u.oneCell' = true := by
  intro u hu
  obtain ⟨n, -, rfl⟩ := List.mem_map.1 hu
  rfl
/-- A bool of it. -/
theorem RV.zbAt {w : World} {a : Option Addr} {len cap : Nat} {l : List Bool} (h : RV w (.slice a len cap) (zb l)) (k : Nat) (hk : k < l.length) : ∃ b o, a = some ⟨b, o, none⟩ ∧ w.cell? ⟨b, o + k, none⟩ = some (.bool l[k]) ∧ b < w.heap.size := by
  obtain ⟨b, o, h1, h2, h3⟩ := h.at k (by rw [zb_length]; exact hk)
  rw [zb_at l k hk] at h2
  exact ⟨b, o, h1, h2, h3⟩
theorem RV.zbForm {w : World} {v : Value} {l : List Bool} (h : RV w v (zb l)) : ∃ a cap, v = .slice a l.length cap ∧ l.length ≤ 9223372036854775807 ∧ (a = none → l.length = 0) := by
  obtain ⟨a, cap, hv, h1, h2, h3, -⟩ := h
  rw [zb_length] at hv h1
  refine ⟨a, cap, hv, by unfold maxLen at h2; omega, fun ha => by have := h3 ha; omega⟩

theorem RV.zbCap {w : World} {a : Option Addr} {len cap : Nat} {l : List Bool} (h : RV w (.slice a len cap) (zb l)) : l.length ≤ cap := by
  obtain ⟨a', cap', hv, h1, -⟩ := h
  simp only [Value.slice.injEq] at hv
  obtain ⟨rfl, rfl, rfl⟩ := hv
  rw [zb_length] at h1
  exact h1
theorem RV.zbTake {w : World} {a : Option Addr} {len cap : Nat} {l : List Bool} (h : RV w (.slice a len cap) (zb l)) (n : Nat) (hn : n ≤ l.length) : RV w (.slice a n cap) (zb (l.take n)) := by
  obtain ⟨a', cap', hv, h1, h2, h3, h4⟩ := h
  simp only [Value.slice.injEq] at hv
  obtain ⟨rfl, rfl, rfl⟩ := hv
  rw [zb_length] at h1
  have hlen : (zb (l.take n)).length = n := by rw [zb_length, List.length_take]; omega
  refine ⟨a, cap, by rw [hlen], by rw [hlen]; omega, h2, h3, fun hne => ?_⟩
  obtain ⟨b, o, ha, hc⟩ := h4 (by intro e; rw [← List.length_eq_zero_iff, zb_length] at e; apply hne; rw [← List.length_eq_zero_iff, hlen]; omega)
  refine ⟨b, o, ha, fun i hi => ?_⟩
  rw [hlen] at hi
  have := hc i (by rw [zb_length]; omega)
  rw [zb_at l i (by omega)] at this
  rw [this, zb_at _ i (by rw [List.length_take]; omega)]
  simp
/-- 'append(s, x...)', s the call's own, x whatever reads as m: bools. -/
theorem wpList_append_zb {P : Program} {ops : Array Oper} {rest : List Oper} {o : Oper} {a : Act} {w : World} {Q : Exit → Act → World → Prop} (hgd : o.guard = none) (s x : Operand) (t : TypeId)
    (ho : o.op = .call { callee := .builtin .append, args := #[s, x], argTypes := #[t, t] })
    (B : Nat) (e : TypeId) (ht : P.underlying t = some (.slice e)) (hinfo : (P.info? e).map (fun i => (i.zero, i.size, i.bytes)) = some (some (.bool false), 1, 1))
    (v xv : Value) (l m : List Bool) (hs : a.eval s = v) (hx : a.eval x = xv) (hown : OwnV e w B v (zb l)) (hrb : RV w xv (zb m))
    (hlen : l.length + m.length ≤ 140737488355328) (hbase : B ≤ w.heap.size)
    (h : ∀ v' w', OwnV e w' B v' (zb (l ++ m)) → w.grownBy w' v.ownBlock → wpList P ops Q rest (a.put o.dst v') w') : wpList P ops Q (o :: rest) a w := by
  refine wpList_append_RV hgd s x t ho B e ht (.bool false) 1 rfl hinfo v xv (zb l) (zb m) hs hx hown hrb (zb_one m) (by rw [zb_length, zb_length]; omega) (by rw [zb_length, zb_length]; omega) hbase fun v' w' h1 h2 => h v' w' ?_ h2
  rw [zb_append]
  exact h1
/-- 'make([]bool, n)'. -/
theorem wpList_make_zb {P : Program} {ops : Array Oper} {rest : List Oper} {o : Oper} {a : Act} {w : World} {Q : Exit → Act → World → Prop} (hgd : o.guard = none) (lo co : Operand) (t : TypeId)
    (hop : o.op = Op.makeSlice t lo co) (e : TypeId) (ht : P.underlying t = some (.slice e)) (hinfo : (P.info? e).map (fun i => (i.zero, i.size, i.bytes)) = some (some (.bool false), 1, 1))
    (kl kc : IntKind) (L : Int) (n : Nat) (hl : a.eval lo = .int kl L) (hc : a.eval co = .int kc L) (hL : L = (n : Int)) (hcm : n ≤ 140737488355328)
    (h : ∀ v w', OwnV e w' w.heap.size v (zb (List.replicate n false)) → Below w.heap.size w w' → wpList P ops Q rest (a.put o.dst v) w') : wpList P ops Q (o :: rest) a w := by
  obtain ⟨i, hi, hz, hsize, hby⟩ := info_parts hinfo
  subst hL
  have hr := run_make (P := P) w t e i (.bool false) ht hi hz kl kc n n (by omega) (by omega) (by rw [hby]; omega) (by omega)
  simp only [Int.toNat_natCast, hsize, Nat.mul_one] at hr
  refine wpList_gives hgd (.slice (some ⟨w.heap.size, 0, none⟩) n n) (w.alloc (.cells (madeCells (Value.bool false).cells n) e)) (by simp [execOp, hop, hl, hc, hr, Result.andThen]) (h _ _ ?_ (grown_below (World.grownBy_alloc w _ none) (Nat.le_refl _) (by simp)))
  refine ⟨by simp, .inr ⟨w.heap.size, n, madeCells #[Value.bool false] n, (by simp [zb]), Nat.le_refl _, ?_, by simp [zb], by unfold maxLen; omega, by simp [size_madeCells], ?_⟩⟩
  · exact heap_alloc_new w _
  · rw [toList_madeCells_one, List.take_replicate]
    simp [zb]
theorem grown_new {w w' : World} (hg : w.grownBy w' (Value.slice none 0 0).ownBlock) : Below w.heap.size w w' := grown_below hg (Nat.le_refl _) (by simp [Value.ownBlock])
/-- Bools that are written out, in a new block of their own. -/
theorem RV.zbLits (w : World) (e : TypeId) (l : List Bool) (arr : Array Value) (n : Nat) (h : arr = (zb l).toArray) (hn : n = l.length) (hm : l.length ≤ 1000) : RV (w.alloc (.cells arr e)) (.slice (some ⟨w.heap.size, 0, none⟩) n n) (zb l) := by
  subst h hn
  refine ⟨some ⟨w.heap.size, 0, none⟩, l.length, by rw [zb_length], by rw [zb_length]; exact Nat.le_refl _, by unfold maxLen; omega, (fun h => by cases h), fun _ => ⟨w.heap.size, 0, rfl, fun i hi => ?_⟩⟩
  rw [cell_of_row _ w.heap.size (0 + i) (zb l).toArray e (0, 0) (heap_alloc_new w _)]
  simp [hi]
theorem RV.zbOne (w : World) (e : TypeId) (t : Bool) : RV (w.alloc (.cells #[.bool t] e)) (.slice (some ⟨w.heap.size, 0, none⟩) 1 1) (zb [t]) := RV.one w e (.bool t)
theorem infoB : (Try.prog.info? 4).map (fun i => (i.zero, i.size, i.bytes)) = some (some (.bool false), 1, 1) := by kernel_rfl

end Go.Proofs.Ytmphcpggfgehhaa
