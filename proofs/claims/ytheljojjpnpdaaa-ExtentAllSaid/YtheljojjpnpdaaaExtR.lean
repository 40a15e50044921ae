/-
  Slices of spans that are read and cut, whatever lies behind them: one is taken out.
-/
import Derived.Test.YtheljojjpnpdaaaBegun13
import Derived.ArgAppend
import Derived.Deep.Upon
namespace Go.Proofs.Ytheljojjpnpdaaa
open Go.RowKit

/-- v, a slice of spans, reads as l. -/
def RS (w : World) (v : Value) (l : List (Nat × Nat)) : Prop :=
  ∃ a cap, v = .slice a l.length cap ∧ l.length ≤ cap ∧ cap ≤ maxLen ∧
    (l ≠ [] → ∃ b o cs fr, a = some ⟨b, o, none⟩ ∧ w.heap[b]? = some (.cells cs 30 fr) ∧ ∀ j u, (flatS l)[j]? = some u → cs[o + j]? = some u)
section
variable {w w' : World} {B : Nat} {v : Value} {l : List (Nat × Nat)}
theorem RS.ofOwn (h : OwnS w B v l) : RS w v l := by
  rcases h.2 with ⟨rfl, hn⟩ | ⟨g, cap, cur, rfl, hB, hg, h1, h2, h3, h4⟩
  · obtain rfl : l = [] := List.eq_nil_of_length_eq_zero hn
    exact ⟨none, 0, rfl, Nat.le_refl _, by simp [maxLen], fun h => absurd rfl h⟩
  · refine ⟨_, cap, rfl, h1, h2, fun _ => ⟨g, 0, cur, _, rfl, hg, fun j u hj => ?_⟩⟩
    rw [← h4, List.getElem?_take] at hj
    split at hj
    · rw [Nat.zero_add, ← Array.getElem?_toList]
      exact hj
    · cases hj
theorem RS.below (h : RS w v l) (hb : Below w.heap.size w w') : RS w' v l := by
  obtain ⟨a, cap, hv, h1, h2, h3⟩ := h
  refine ⟨a, cap, hv, h1, h2, fun hl => ?_⟩
  obtain ⟨b, o, cs, fr, ha, hg, hc⟩ := h3 hl
  exact ⟨b, o, cs, fr, ha, (hb.block b (Array.getElem?_eq_some_iff.1 hg).1).trans hg, hc⟩
theorem RS.kept {r at_ n : Nat} {u : Value} {G : Nat → Bool} (h : RS w v l) (hr : RM w B r at_ n u G) (hg : w.grownBy w' u.ownBlock) : RS w' v l := by
  obtain ⟨a, cap, hv, h1, h2, h3⟩ := h
  refine ⟨a, cap, hv, h1, h2, fun hl => ?_⟩
  obtain ⟨b, o, cs, fr, ha, hgg, hc⟩ := h3 hl
  exact ⟨b, o, cs, fr, ha, hr.blkKept hg hgg (by decide), hc⟩
theorem RS.form (h : RS w v l) : ∃ a cap, v = .slice a l.length cap := by
  obtain ⟨a, cap, hv, -⟩ := h
  exact ⟨a, cap, hv⟩
theorem flatS_getd (l : List (Nat × Nat)) (i : Nat) (hi : i < l.length) : (flatS l)[i * 2]? = some (.int .i64 (l[i].1 : Int)) ∧ (flatS l)[i * 2 + 1]? = some (.int .i64 (l[i].2 : Int)) :=
  ⟨flatS_at l i 0 hi (by decide), flatS_at l i 1 hi (by decide)⟩
theorem RS.at {a : Option Addr} {n cap : Nat} (h : RS w (.slice a n cap) l) (i : Nat) (hi : i < l.length) : ∃ b o, a = some ⟨b, o, none⟩ ∧ n = l.length ∧ n ≤ cap ∧ cap ≤ maxLen ∧ w.cell? ⟨b, o + i * 2, none⟩ = some (.int .i64 (l[i].1 : Int)) ∧ w.cell? ⟨b, o + i * 2 + 1, none⟩ = some (.int .i64 (l[i].2 : Int)) := by
  obtain ⟨a', cap', hv, h1, h2, h3⟩ := h
  cases hv
  obtain ⟨b, o, cs, fr, ha, hg, hc⟩ := h3 (by intro e; subst e; simp at hi)
  obtain ⟨f0, f1⟩ := flatS_getd l i hi
  refine ⟨b, o, ha, rfl, h1, h2, ?_, ?_⟩
  · rw [cell_of_row w b _ cs _ fr hg]; exact hc _ _ f0
  · rw [cell_of_row w b _ cs _ fr hg]; exact hc _ _ f1
theorem flatS_drop (l : List (Nat × Nat)) (k : Nat) : flatS (l.drop k) = (flatS l).drop (k * 2) := by
  induction k generalizing l with
  | zero => simp
  | succ k ih =>
    cases l with
    | nil => simp [flatS]
    | cons x l =>
      rw [List.drop_succ_cons, ih l, show flatS (x :: l) = sc x ++ flatS l from rfl, show (k + 1) * 2 = (sc x).length + k * 2 from by simp [sc]; omega, List.drop_append, show (sc x).drop ((sc x).length + k * 2) = [] from List.drop_eq_nil_of_le (by omega), List.nil_append, Nat.add_sub_cancel_left]
theorem flatS_take (l : List (Nat × Nat)) (k : Nat) : flatS (l.take k) = (flatS l).take (k * 2) := by
  induction k generalizing l with
  | zero => simp [flatS]
  | succ k ih =>
    cases l with
    | nil => simp [flatS]
    | cons x l =>
      rw [List.take_succ_cons, show flatS (x :: l.take k) = sc x ++ flatS (l.take k) from rfl, ih l, show flatS (x :: l) = sc x ++ flatS l from rfl, show (k + 1) * 2 = (sc x).length + k * 2 from by simp [sc]; omega, List.take_length_add_append]
/-- What stands behind the k-th. -/
theorem RS.drop {a : Option Addr} {n cap : Nat} (h : RS w (.slice a n cap) l) (k : Nat) (hk : k ≤ l.length) : RS w (sliced a k n cap 2) (l.drop k) := by
  obtain ⟨a', cap', hv, h1, h2, h3⟩ := h
  cases hv
  unfold sliced
  refine ⟨_, cap - k, by rw [List.length_drop], by rw [List.length_drop]; omega, by omega, fun hne => ?_⟩
  have hkl : k < l.length := by
    rcases Nat.lt_or_ge k l.length with h | h
    · exact h
    · exact absurd (List.drop_eq_nil_of_le h) hne
  obtain ⟨b, o, cs, fr, rfl, hg, hc⟩ := h3 (by intro e; subst e; simp at hkl)
  refine ⟨b, o + k * 2, cs, fr, ?_, hg, fun j u hj => ?_⟩
  · rw [if_neg (by omega)]
    have hadd : (⟨b, o, none⟩ : Addr).add (k * 2) = ⟨b, o + k * 2, none⟩ := by unfold Addr.add; split <;> simp_all
    rw [Option.map_some, hadd]
  · rw [flatS_drop, List.getElem?_drop] at hj
    have := hc _ _ hj
    rwa [← Nat.add_assoc] at this
/-- The first k. -/
theorem RS.first {a : Option Addr} {n cap : Nat} (h : RS w (.slice a n cap) l) (k : Nat) (hk : k ≤ l.length) : RS w (.slice a k k) (l.take k) := by
  obtain ⟨a', cap', hv, h1, h2, h3⟩ := h
  cases hv
  have hlen : (l.take k).length = k := by rw [List.length_take]; omega
  refine ⟨a, k, by rw [hlen], by rw [hlen]; exact Nat.le_refl _, by omega, fun hne => ?_⟩
  obtain ⟨b, o, cs, fr, rfl, hg, hc⟩ := h3 (by intro e; subst e; simp at hne)
  refine ⟨b, o, cs, fr, rfl, hg, fun j u hj => ?_⟩
  rw [flatS_take, List.getElem?_take] at hj
  split at hj
  · exact hc _ _ hj
  · cases hj
end

theorem RM.keptS {w w' : World} {B B' r at_ n : Nat} {v u : Value} {G : Nat → Bool} {l : List (Nat × Nat)} (h : RM w B r at_ n v G) (hu : OwnS w B' u l) (hg : w.grownBy w' u.ownBlock) : RM w' B r at_ n v G := h.keptRow hu (by decide) (by decide) hg
theorem run_sizeS (W : World) : (sizeOf (Try.prog.elem 37)).run Try.prog W = .ok 2 W := by
  obtain ⟨i, hi, hz, hsize, hby⟩ := info_parts infoS
  have he : Try.prog.elem 37 = 30 := by kernel_rfl
  rw [he]
  simp [sizeOf, typeInfo, hi, hsize]
theorem elemS : Try.prog.underlying 37 = some (.slice (Try.prog.elem 37)) := by
  rw [show Try.prog.elem 37 = 30 by kernel_rfl]; exact Try.underlying37
theorem cutS_l (a : Option Addr) (n c k : Nat) (h : k ≤ n) (W : World) : (Instr.slice 37 (.slice a n c) (some (.int .i64 (k : Int))) none none).run Try.prog W = .ok (sliced a k n c 2) W := by
  have hr := run_slice_l (P := Try.prog) W 37 a n c elemS .i64 (k : Int) (by omega) (by omega)
  rw [hr, run_sizeS]
  simp only [Result.andThen, Int.toNat_natCast]
theorem cutS_hm (b o n c k : Nat) (h : k ≤ c) (W : World) : (Instr.slice 37 (.slice (some ⟨b, o, none⟩) n c) none (some (.int .i64 (k : Int))) (some (.int .i64 (k : Int)))).run Try.prog W = .ok (.slice (some ⟨b, o, none⟩) k k) W := by
  have hr := run_slice_hm (P := Try.prog) W 37 (some ⟨b, o, none⟩) n c elemS .i64 .i64 (k : Int) (k : Int) (by omega) (by omega) (by omega)
  rw [hr, run_sizeS]
  have hadd : (⟨b, o, none⟩ : Addr).add (0 * 2) = ⟨b, o, none⟩ := by unfold Addr.add; split <;> simp_all
  simp only [Result.andThen, sliced, Int.toNat_natCast, Nat.sub_zero, Option.map_some, hadd]
  split <;> rfl

/-- 'append(s, x...)', s full, both read as spans: what comes out reads as both. -/
theorem wpList_append_RS {ops : Array Oper} {rest : List Oper} {o : Oper} {a : Act} {w : World} {Q : Exit → Act → World → Prop} (hgd : o.guard = none) (s x : Operand)
    (ho : o.op = .call { callee := .builtin .append, args := #[s, x], argTypes := #[37, 37] })
    (b off k : Nat) (xv : Value) (l m : List (Nat × Nat)) (hs : a.eval s = .slice (some ⟨b, off, none⟩) k k) (hx : a.eval x = xv) (h1 : RS w (.slice (some ⟨b, off, none⟩) k k) l) (h2 : RS w xv m) (hlen : l.length + m.length ≤ 100000)
    (h : ∀ v' w', RS w' v' (l ++ m) → Below w.heap.size w w' → wpList Try.prog ops Q rest (a.put o.dst v') w') : wpList Try.prog ops Q (o :: rest) a w := by
  obtain ⟨i, hi, hz, hsize, hby⟩ := info_parts infoS
  obtain ⟨a1, c1, e1, g1, g2, g3⟩ := id h1
  simp only [Value.slice.injEq] at e1
  obtain ⟨rfl, rfl, rfl⟩ := e1
  obtain ⟨a2, c2, rfl, k1, k2, k3⟩ := id h2
  cases m with
  | nil =>
    have hsrc : Src Try.prog i.size 37 (.slice a2 ([] : List (Nat × Nat)).length c2) 0 [] w := by
      cases a2 with
      | none => exact Src.ofNil w Try.underlying37 c2
      | some ad => exact Src.ofSlice w Try.underlying37 ad 0 c2 [] (by simp) (fun j u hj => by simp at hj) (fun u hu => by cases hu)
    have hrun := run_append_nothing (P := Try.prog) w 37 37 o.type 30 i Try.underlying37 hi (some ⟨b, off, none⟩) l.length l.length (Nat.le_refl _) _ hsrc
    refine wpList_plain hgd fun K hK => ?_
    unfold Oper.wp
    simp only [List.length_nil] at hrun hx
    simp [execOp, ho, resolve, invoke, builtin, hs, hx, hrun, Result.andThen]
    exact hK _ _ (h _ _ (by rw [List.append_nil]; exact h1) (Below.refl _ _))
  | cons y m =>
    obtain ⟨b2, o2, cs2, fr2, rfl, hg2, hc2⟩ := k3 (by simp)
    refine wpList_append_grows w hgd s x _ ho 30 i (.agg #[.int .i64 0, .int .i64 0]) 2 16 Try.underlying37 hi hz hsize hby rfl (by decide) (some ⟨b, off, none⟩) l.length l.length (flatS l) hs (fun h => by cases h) (flatS_length l) ?_ ⟨b2, o2, none⟩ (y :: m).length c2 (flatS (y :: m)) hx (flatS_length _) ?_ (flatS_one _) (by simp) (by unfold maxLen; omega) (by omega) ?_
    · intro ad hb j u hj
      cases hb
      have hl : l ≠ [] := by intro e; subst e; simp [flatS] at hj
      obtain ⟨b', o', cs, fr, hb', hg, hc⟩ := g3 hl
      cases hb'
      have hadd : (⟨b, off, none⟩ : Addr).add j = ⟨b, off + j, none⟩ := by unfold Addr.add; split <;> simp_all
      rw [hadd, cell_of_row w b _ cs _ fr hg]
      exact hc j u hj
    · intro j u hj
      have hadd : (⟨b2, o2, none⟩ : Addr).add j = ⟨b2, o2 + j, none⟩ := by unfold Addr.add; split <;> simp_all
      rw [hadd, cell_of_row w b2 _ cs2 _ fr2 hg2]
      exact hc2 j u hj
    · intro v' w' hown hg
      refine h v' w' (RS.ofOwn (B := w.heap.size) ?_) (grown_below hg (Nat.le_refl _) (by simp))
      unfold OwnS
      rw [List.length_append, flatS_append]
      exact hown

end Go.Proofs.Ytheljojjpnpdaaa
