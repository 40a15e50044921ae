/-
  A slice of records that the call makes at its whole length; a record that is stored into it.
-/
import Derived.Test.YtoaiogfeffnlcaaRecBox
import Derived.Deep.MidRow
namespace Go.Proofs.Ytoaiogfeffnlcaa
open Go.RowKit

theorem flat5_len (l : List RecT) : (flat5 l).length = l.length * 5 := by
  induction l with
  | nil => rfl
  | cons x l ih =>
    show (rc5 x ++ flat5 l).length = _
    rw [List.length_append, ih, List.length_cons]
    simp [rc5]
    omega
theorem flat5_set (x : RecT) : ∀ (l : List RecT) (i : Nat), i < l.length →
    flat5 (l.set i x) = (((((flat5 l).set (i * 5) (.string x.1)).set (i * 5 + 1) (.bool x.2.1)).set (i * 5 + 1 + 1) (.int .i64 x.2.2.1)).set (i * 5 + 1 + 1 + 1) (.int .i64 x.2.2.2.1)).set (i * 5 + 1 + 1 + 1 + 1) (.string x.2.2.2.2)
  | [], i, h => absurd h (by simp)
  | y :: t, 0, h => rfl
  | y :: t, i + 1, h => by
    have ih := flat5_set x t i (by simpa using h)
    show rc5 y ++ flat5 (t.set i x) = _
    rw [ih]
    show _ = (((((rc5 y ++ flat5 t).set ((i + 1) * 5) _).set ((i + 1) * 5 + 1) _).set ((i + 1) * 5 + 1 + 1) _).set ((i + 1) * 5 + 1 + 1 + 1) _).set ((i + 1) * 5 + 1 + 1 + 1 + 1) _
    rw [show (i + 1) * 5 = i * 5 + 5 by omega]
    have e (l : List Value) (k : Nat) (v : Value) : (rc5 y ++ l).set (k + 5) v = rc5 y ++ l.set k v := by
      rw [List.set_append_right _ _ (by simp [rc5])]
      simp [rc5]
    rw [e, show i * 5 + 5 + 1 = (i * 5 + 1) + 5 by omega, e, show i * 5 + 1 + 5 + 1 = (i * 5 + 1 + 1) + 5 by omega, e, show i * 5 + 1 + 1 + 5 + 1 = (i * 5 + 1 + 1 + 1) + 5 by omega, e, show i * 5 + 1 + 1 + 1 + 5 + 1 = (i * 5 + 1 + 1 + 1 + 1) + 5 by omega, e]

theorem OwnRec.there {w : World} {B g n cap : Nat} {l : List RecT} (h : OwnRec w B (.slice (some ⟨g, 0, none⟩) n cap) l) (i : Nat) (hi : i < l.length) : w.there g (i * 5) 5 := by
  have hn : n = l.length := by
    rcases h.2 with ⟨h', _⟩ | ⟨g', cap', cur, h', _⟩
    · simp at h'
    · simp at h'; exact h'.2.1
  subst hn
  intro j hj
  refine ⟨?_, World.ownsRow.frozenAt h _⟩
  rw [World.ownsRow.cellAt h (i * 5 + j) (by omega), flat5_at l i j hi hj]
  match j, hj with
  | 0, _ => rfl
  | 1, _ => rfl
  | 2, _ => rfl
  | 3, _ => rfl
  | 4, _ => rfl
  | j + 5, hj => omega
theorem grown_two {w w1 w2 : World} {r : Option Nat} (h : w.grownBy w1 r) (g : w1.grownBy w2 r) : w.grownBy w2 r := h.trans g
/-- A record is stored. -/
theorem OwnRec.store {w : World} {B g n cap : Nat} {l : List RecT} (h : OwnRec w B (.slice (some ⟨g, 0, none⟩) n cap) l) (i : Nat) (hi : i < l.length) (x : RecT) :
    OwnRec (w.setCells g (i * 5) (rc5 x)) B (.slice (some ⟨g, 0, none⟩) n cap) (l.set i x) ∧ w.grownBy (w.setCells g (i * 5) (rc5 x)) (some g) := by
  have hn : n = l.length := by
    rcases h.2 with ⟨h', _⟩ | ⟨g', cap', cur, h', _⟩
    · simp at h'
    · simp at h'; exact h'.2.1
  subst hn
  obtain ⟨h1, g1⟩ := World.ownsRow.stored h (i * 5) (.string x.1)
  obtain ⟨h2, g2⟩ := World.ownsRow.stored h1 (i * 5 + 1) (.bool x.2.1)
  obtain ⟨h3, g3⟩ := World.ownsRow.stored h2 (i * 5 + 1 + 1) (.int .i64 x.2.2.1)
  obtain ⟨h4, g4⟩ := World.ownsRow.stored h3 (i * 5 + 1 + 1 + 1) (.int .i64 x.2.2.2.1)
  obtain ⟨h5, g5⟩ := World.ownsRow.stored h4 (i * 5 + 1 + 1 + 1 + 1) (.string x.2.2.2.2)
  rw [← flat5_set x l i hi] at h5
  refine ⟨?_, (((g1.trans g2).trans g3).trans g4).trans g5⟩
  unfold OwnRec
  rw [List.length_set]
  exact h5

def zR : RecT := (⟨#[]⟩, false, 0, 0, ⟨#[]⟩)
def zC : Array Value := #[.string ⟨#[]⟩, .bool false, .int .i64 0, .int .i64 0, .string ⟨#[]⟩]
theorem made5 (n : Nat) : (madeCells zC (n * 5)).toList = flat5 (List.replicate n zR) := by
  apply List.ext_getElem?
  intro q
  by_cases hq : q < n * 5
  · have h1 : q / 5 < n := by omega
    have h2 : q / 5 < (List.replicate n zR).length := by rw [List.length_replicate]; exact h1
    have e := flat5_at (List.replicate n zR) (q / 5) (q % 5) h2 (by omega)
    rw [show q / 5 * 5 + q % 5 = q by omega, List.getElem_replicate] at e
    rw [e, ← Array.getElem?_toList.symm]
    unfold madeCells
    rw [Array.getElem?_map, Array.getElem?_range, if_pos hq]
    have h5 : q % 5 < 5 := by omega
    show some zC[q % 5]! = _
    generalize q % 5 = r at h5
    match r, h5 with
    | 0, _ => rfl
    | 1, _ => rfl
    | 2, _ => rfl
    | 3, _ => rfl
    | 4, _ => rfl
    | r + 5, h5 => omega
  · rw [List.getElem?_eq_none (by rw [Array.length_toList, size_madeCells]; omega), List.getElem?_eq_none (by rw [flat5_len, List.length_replicate]; omega)]

/-- 'make([]api.Rec, n)'. -/
theorem wpList_make_all {ops : Array Oper} {rest : List Oper} {o : Oper} {a : Act} {w : World} {Q : Exit → Act → World → Prop} (hgd : o.guard = none) (lo co : Operand)
    (hop : o.op = Op.makeSlice 22 lo co) (kl kc : IntKind) (L C : Int) (n : Nat) (hl : a.eval lo = .int kl L) (hc : a.eval co = .int kc C) (hL : L = (n : Int)) (hC : C = (n : Int)) (hcm : n ≤ 100000)
    (h : ∀ g w', OwnRec w' w.heap.size (.slice (some ⟨g, 0, none⟩) n n) (List.replicate n zR) → w.grownBy w' none → wpList Try.prog ops Q rest (a.put o.dst (.slice (some ⟨g, 0, none⟩) n n)) w') : wpList Try.prog ops Q (o :: rest) a w := by
  obtain ⟨i, hi, hz, hsize, hby⟩ := info_parts info5
  subst hL hC
  have hr := run_make (P := Try.prog) w 22 38 i _ Try.underlying22 hi hz kl kc n n (by omega) (by omega) (by rw [hby]; omega) (by omega)
  simp only [Int.toNat_natCast, hsize] at hr
  refine wpList_gives hgd (.slice (some ⟨w.heap.size, 0, none⟩) n n) (w.alloc (.cells (madeCells zC (n * 5)) 38)) (by simp [execOp, hop, hl, hc, hr, Result.andThen]; rfl) (h _ _ ?_ (World.grownBy_alloc w _ none))
  refine ⟨by rw [flat5_len], .inr ⟨w.heap.size, n, _, by rw [List.length_replicate], Nat.le_refl _, heap_alloc_new w _, by rw [List.length_replicate]; exact Nat.le_refl _, by unfold maxLen; omega, by simp [size_madeCells], ?_⟩⟩
  rw [made5, List.length_replicate, List.take_of_length_le (by rw [flat5_len, List.length_replicate]; exact Nat.le_refl _)]

theorem sizeRec : (Try.prog.info? 38).map (·.size) = some 5 := by kernel_rfl
/-- 'l[i] = x'. -/
theorem wpList_store_rec {ops : Array Oper} {rest : List Oper} {o : Oper} {a : Act} {w : World} {Q : Exit → Act → World → Prop} (hgd : o.guard = none) (hd : o.dst = none) (x y : Operand) (ho : o.op = .store 38 x y)
    (g i : Nat) (r : RecT) (hx : a.eval x = .pointer (some ⟨g, i * 5, none⟩)) (hy : a.eval y = .agg #[.string r.1, .bool r.2.1, .int .i64 r.2.2.1, .int .i64 r.2.2.2.1, .string r.2.2.2.2]) (ht : w.there g (i * 5) 5)
    (h : wpList Try.prog ops Q rest a (w.setCells g (i * 5) (rc5 r))) : wpList Try.prog ops Q (o :: rest) a w := by
  refine wpList_store_mid hgd 38 x y ho g (i * 5) #[.string r.1, .bool r.2.1, .int .i64 r.2.2.1, .int .i64 r.2.2.2.1, .string r.2.2.2.2] hx hy ht sizeRec (by simp [Value.oneCell']) ?_
  rw [hd]
  exact h

end Go.Proofs.Ytoaiogfeffnlcaa
