/-
  Slices of structs of whatever kind: how one lies in cells is a parameter. What one reads as, what the call itself makes; appended to, cut, stored into.
  Slices of hashes.
-/
import Derived.Test.YtkddleonmkhaiaaGreatM01
import Derived.ArgAppend
import Derived.Deep.Upon
import Derived.Deep.MidRow
namespace Go.Proofs.YtkddleonmkhaiaaGreat
open Go.RowKit

/-- How a thing lies in cells, and of which types a row of them is. -/
structure Lay (α : Type) where
  enc : α → List Value
  size : Nat
  elem : TypeId
  row : TypeId
  zero : Value
  bytes : Nat

structure Lay.Ok {α : Type} (K : Lay α) (P : Program) : Prop where
  pos : 0 < K.size
  len : ∀ x, (K.enc x).length = K.size
  one : ∀ x, ∀ u ∈ K.enc x, u.oneCell' = true
  under : P.underlying K.row = some (.slice K.elem)
  info : (P.info? K.elem).map (fun i => (i.zero, i.size, i.bytes)) = some (some K.zero, K.size, K.bytes)
  zsize : K.zero.cells.size = K.size
  fit : K.bytes ≤ 1000

namespace Lay
section
variable {α : Type} {K : Lay α} {P : Program}

def flat (K : Lay α) (l : List α) : List Value := l.flatMap K.enc
theorem flat_append (l m : List α) : K.flat (l ++ m) = K.flat l ++ K.flat m := by simp [flat]
theorem flat_nil : K.flat [] = [] := rfl
theorem flat_cons (x : α) (l : List α) : K.flat (x :: l) = K.enc x ++ K.flat l := by simp [flat]
theorem Ok.flat_len (h : K.Ok P) (l : List α) : (K.flat l).length = l.length * K.size := by
  induction l with
  | nil => simp [flat]
  | cons x l ih => rw [flat_cons, List.length_append, ih, h.len, List.length_cons, Nat.add_mul, Nat.one_mul, Nat.add_comm]
theorem Ok.flat_one (h : K.Ok P) (l : List α) : ∀ u ∈ K.flat l, u.oneCell' = true := by
  intro u hu
  obtain ⟨x, -, hx⟩ := List.mem_flatMap.1 hu
  exact h.one x u hx
theorem Ok.flat_at (h : K.Ok P) : ∀ (l : List α) (i j : Nat) (hi : i < l.length), j < K.size → (K.flat l)[i * K.size + j]? = (K.enc l[i])[j]?
  | [], i, j, hi, _ => absurd hi (by simp)
  | x :: l, 0, j, hi, hj => by rw [flat_cons, Nat.zero_mul, Nat.zero_add, List.getElem?_append_left (by rw [h.len]; exact hj)]; rfl
  | x :: l, i + 1, j, hi, hj => by
    rw [flat_cons, List.getElem?_append_right (by rw [h.len, Nat.add_mul, Nat.one_mul]; omega), h.len, show (i + 1) * K.size + j - K.size = i * K.size + j by rw [Nat.add_mul, Nat.one_mul]; omega]
    exact h.flat_at l i j (by simpa using hi) hj
theorem Ok.flat_drop (h : K.Ok P) (l : List α) (k : Nat) : K.flat (l.drop k) = (K.flat l).drop (k * K.size) := by
  induction k generalizing l with
  | zero => simp
  | succ k ih =>
    cases l with
    | nil => simp [flat]
    | cons x l =>
      rw [List.drop_succ_cons, ih l, flat_cons, show (k + 1) * K.size = (K.enc x).length + k * K.size by rw [h.len, Nat.add_mul, Nat.one_mul, Nat.add_comm], List.drop_append, show (K.enc x).drop ((K.enc x).length + k * K.size) = [] from List.drop_eq_nil_of_le (by omega), List.nil_append, Nat.add_sub_cancel_left]
theorem Ok.flat_take (h : K.Ok P) (l : List α) (k : Nat) : K.flat (l.take k) = (K.flat l).take (k * K.size) := by
  induction k generalizing l with
  | zero => simp [flat]
  | succ k ih =>
    cases l with
    | nil => simp [flat]
    | cons x l =>
      rw [List.take_succ_cons, flat_cons, ih l, flat_cons, show (k + 1) * K.size = (K.enc x).length + k * K.size by rw [h.len, Nat.add_mul, Nat.one_mul, Nat.add_comm], List.take_length_add_append]

/-! ### Cells that are set one behind the other. -/
def sets (xs : List Value) (o : Nat) : List Value → List Value
  | [] => xs
  | v :: r => sets (xs.set o v) (o + 1) r
theorem sets_length : ∀ (vs : List Value) (xs : List Value) (o : Nat), (sets xs o vs).length = xs.length
  | [], xs, o => rfl
  | v :: r, xs, o => by rw [sets, sets_length r, List.length_set]
theorem sets_at : ∀ (vs : List Value) (xs : List Value) (o q : Nat), q < xs.length → (sets xs o vs)[q]? = if o ≤ q ∧ q < o + vs.length then vs[q - o]? else xs[q]?
  | [], xs, o, q, hq => by rw [sets, if_neg (by simp)]
  | v :: r, xs, o, q, hq => by
    rw [sets, sets_at r _ _ _ (by rw [List.length_set]; exact hq)]
    by_cases h1 : q = o
    · subst h1
      rw [if_neg (by omega), if_pos (by simp), List.getElem?_set_self hq]
      simp
    · by_cases h2 : o + 1 ≤ q ∧ q < o + 1 + r.length
      · rw [if_pos h2, if_pos (by rw [List.length_cons]; omega), show q - o = (q - (o + 1)) + 1 by omega, List.getElem?_cons_succ]
      · rw [if_neg h2, if_neg (by rw [List.length_cons]; omega), List.getElem?_set_ne (fun e => h1 e.symm)]
theorem Ok.flat_set (h : K.Ok P) (l : List α) (i : Nat) (_hi : i < l.length) (x : α) : K.flat (l.set i x) = sets (K.flat l) (i * K.size) (K.enc x) := by
  apply List.ext_getElem?
  intro q
  have hp := h.pos
  by_cases hq : q < l.length * K.size
  · have h1 : q / K.size < l.length := (Nat.div_lt_iff_lt_mul hp).2 hq
    have h2 : q % K.size < K.size := Nat.mod_lt _ hp
    have hd : q / K.size * K.size + q % K.size = q := by rw [Nat.mul_comm]; exact Nat.div_add_mod q K.size
    have e1 := h.flat_at (l.set i x) (q / K.size) (q % K.size) (by rw [List.length_set]; exact h1) h2
    have e2 := h.flat_at l (q / K.size) (q % K.size) h1 h2
    rw [hd] at e1 e2
    rw [e1, sets_at _ _ _ _ (by rw [h.flat_len]; exact hq), h.len]
    by_cases hqi : q / K.size = i
    · have hmul : q / K.size * K.size = i * K.size := by rw [hqi]
      rw [if_pos (by omega)]
      have e3 : (l.set i x)[q / K.size]'(by rw [List.length_set]; exact h1) = x := by simp [hqi]
      rw [e3]
      congr 1
      omega
    · rw [if_neg ?_, e2]
      · have e3 : (l.set i x)[q / K.size]'(by rw [List.length_set]; exact h1) = l[q / K.size] := by rw [List.getElem_set_ne (fun e => hqi e.symm)]
        rw [e3]
      · intro hc
        apply hqi
        exact Nat.div_eq_of_lt_le hc.1 (by rw [Nat.succ_mul]; omega)
  · rw [List.getElem?_eq_none (by rw [h.flat_len, List.length_set]; omega), List.getElem?_eq_none (by rw [sets_length, h.flat_len]; omega)]

/-! ### What reads as a list. -/
def R (K : Lay α) (w : World) (v : Value) (l : List α) : Prop :=
  ∃ a cap, v = .slice a l.length cap ∧ l.length ≤ cap ∧ cap ≤ maxLen ∧ (a = none → cap = 0) ∧
    (l ≠ [] → ∃ b o, a = some ⟨b, o, none⟩ ∧ ∀ j u, (K.flat l)[j]? = some u → w.cell? ⟨b, o + j, none⟩ = some u)
theorem R.nil (w : World) : K.R w (.slice none 0 0) [] := ⟨none, 0, rfl, Nat.le_refl _, by simp [maxLen], fun _ => rfl, fun h => absurd rfl h⟩
theorem R.below {w w' : World} {v : Value} {l : List α} (h : K.R w v l) (hb : Below w.heap.size w w') : K.R w' v l := by
  obtain ⟨a, cap, hv, h1, h2, h3, h4⟩ := h
  refine ⟨a, cap, hv, h1, h2, h3, fun hl => ?_⟩
  obtain ⟨b, o, ha, hc⟩ := h4 hl
  exact ⟨b, o, ha, fun j u hj => (hb.cell (World.block_lt_of_cell? w _ (hc j u hj))).trans (hc j u hj)⟩
theorem R.form {w : World} {v : Value} {l : List α} (h : K.R w v l) : ∃ a cap, v = .slice a l.length cap ∧ l.length ≤ 9223372036854775807 := by
  obtain ⟨a, cap, hv, h1, h2, -⟩ := h
  exact ⟨a, cap, hv, by unfold maxLen at h2; omega⟩
theorem R.len {w : World} {a : Option Addr} {n cap : Nat} {l : List α} (h : K.R w (.slice a n cap) l) : n = l.length ∧ n ≤ cap ∧ cap ≤ maxLen := by
  obtain ⟨a', cap', hv, h1, h2, -⟩ := h
  cases hv
  exact ⟨rfl, h1, h2⟩
theorem R.at {w : World} {a : Option Addr} {n cap : Nat} {l : List α} (h : K.R w (.slice a n cap) l) (hK : K.Ok P) (i : Nat) (hi : i < l.length) :
    ∃ b o, a = some ⟨b, o, none⟩ ∧ n = l.length ∧ b < w.heap.size ∧ ∀ j u, (K.enc l[i])[j]? = some u → w.cell? ⟨b, o + i * K.size + j, none⟩ = some u := by
  obtain ⟨a', cap', hv, h1, h2, h3, h4⟩ := h
  cases hv
  obtain ⟨b, o, ha, hc⟩ := h4 (by intro e; subst e; simp at hi)
  have key : ∀ j u, (K.enc l[i])[j]? = some u → w.cell? ⟨b, o + i * K.size + j, none⟩ = some u := fun j u hj => by
    have hjs : j < K.size := by rw [← hK.len l[i]]; exact (List.getElem?_eq_some_iff.1 hj).1
    rw [Nat.add_assoc]
    exact hc _ _ ((hK.flat_at l i j hi hjs).trans hj)
  have h0 : 0 < (K.enc l[i]).length := by rw [hK.len]; exact hK.pos
  exact ⟨b, o, ha, rfl, World.block_lt_of_cell? w _ (key 0 _ (List.getElem?_eq_getElem h0)), key⟩
/-- A piece. -/
theorem R.cut {w : World} {a : Option Addr} {n cap : Nat} {l : List α} (h : K.R w (.slice a n cap) l) (hK : K.Ok P) (i j m : Nat) (hij : i ≤ j) (hj : j ≤ l.length) (hjm : j ≤ m) (hm : m ≤ cap) : K.R w (sliced a i j m K.size) ((l.take j).drop i) := by
  obtain ⟨a', cap', hv, h1, h2, h3, h4⟩ := h
  cases hv
  have hlen : ((l.take j).drop i).length = j - i := by simp; omega
  unfold sliced
  refine ⟨_, m - i, by rw [hlen], by rw [hlen]; omega, by omega, ?_, fun hne => ?_⟩
  · intro hn
    by_cases hc : m = i
    · omega
    · rw [if_neg hc] at hn
      have := h3 (by simpa using hn)
      omega
  · have hji : i < j := by
      rcases Nat.lt_or_ge i j with h | h
      · exact h
      · exact absurd (List.eq_nil_of_length_eq_zero (by rw [hlen]; omega)) hne
    obtain ⟨b, o, rfl, hc⟩ := h4 (by intro e; subst e; simp at hj; omega)
    refine ⟨b, o + i * K.size, ?_, fun q u hq => ?_⟩
    · rw [if_neg (by omega), Option.map_some, Addr.add_mid]
    · rw [hK.flat_drop, List.getElem?_drop, hK.flat_take, List.getElem?_take] at hq
      split at hq
      · rw [Nat.add_assoc]; exact hc _ _ hq
      · cases hq

theorem Ok.elemOf (hK : K.Ok P) : P.elem K.row = K.elem := by simp [Program.elem, hK.under]
theorem Ok.run_size (hK : K.Ok P) (W : World) : (sizeOf (P.elem K.row)).run P W = .ok K.size W := by
  obtain ⟨i, hi, -, hsize, -⟩ := info_parts hK.info
  rw [hK.elemOf]
  simp [sizeOf, typeInfo, hi, hsize]
theorem Ok.underE (hK : K.Ok P) : P.underlying K.row = some (.slice (P.elem K.row)) := by rw [hK.elemOf]; exact hK.under
/-- 'l[j]', in whatever world. -/
theorem Ok.run_idx (hK : K.Ok P) (b o n cap j : Nat) (h : j < n) (W : World) : (Instr.indexAt K.row (.slice (some ⟨b, o, none⟩) n cap) (.int .i64 (j : Int))).run P W = .ok (.pointer (some ⟨b, o + j * K.size, none⟩)) W := by
  rw [run_indexAt_slice W _ _ _ _ _ _ hK.underE, if_pos ⟨by omega, by omega⟩, hK.run_size]
  simp [Result.andThen, Addr.add_mid]
/-- 'l[:j]', 'l[i:]', 'l[:j:m]', in whatever world: the value said. -/
theorem Ok.run_h (hK : K.Ok P) (a : Option Addr) (n cap j : Nat) (hj : j ≤ cap) (k : IntKind) (W : World) : (Instr.slice K.row (.slice a n cap) none (some (.int k (j : Int))) none).run P W = .ok (sliced a 0 j cap K.size) W := by
  have hr := run_slice_h (P := P) W K.row a n cap hK.underE k (j : Int) (by omega) (by omega)
  rw [hK.run_size] at hr
  simpa [Result.andThen] using hr
theorem Ok.run_l (hK : K.Ok P) (a : Option Addr) (n cap i : Nat) (hi : i ≤ n) (k : IntKind) (W : World) : (Instr.slice K.row (.slice a n cap) (some (.int k (i : Int))) none none).run P W = .ok (sliced a i n cap K.size) W := by
  have hr := run_slice_l (P := P) W K.row a n cap hK.underE k (i : Int) (by omega) (by omega)
  rw [hK.run_size] at hr
  simpa [Result.andThen] using hr
theorem Ok.run_lh (hK : K.Ok P) (a : Option Addr) (n cap i j : Nat) (hij : i ≤ j) (hj : j ≤ cap) (k k' : IntKind) (W : World) : (Instr.slice K.row (.slice a n cap) (some (.int k (i : Int))) (some (.int k' (j : Int))) none).run P W = .ok (sliced a i j cap K.size) W := by
  have hr := run_slice_lh (P := P) W K.row a n cap hK.underE k k' (i : Int) (j : Int) (by omega) (by omega) (by omega)
  rw [hK.run_size] at hr
  simpa [Result.andThen] using hr
theorem Ok.run_hm (hK : K.Ok P) (a : Option Addr) (n cap j m : Nat) (hjm : j ≤ m) (hm : m ≤ cap) (k k' : IntKind) (W : World) : (Instr.slice K.row (.slice a n cap) none (some (.int k (j : Int))) (some (.int k' (m : Int)))).run P W = .ok (sliced a 0 j m K.size) W := by
  have hr := run_slice_hm (P := P) W K.row a n cap hK.underE k k' (j : Int) (m : Int) (by omega) (by omega) (by omega)
  rw [hK.run_size] at hr
  simpa [Result.andThen] using hr

/-! ### What the call itself makes, from block B on. -/
def O (K : Lay α) (w : World) (B : Nat) (v : Value) (l : List α) : Prop := w.ownsRow B K.elem K.size v l.length (K.flat l)
theorem O.nil (w : World) (B : Nat) : K.O w B (.slice none 0 0) [] := World.ownsRow_nil w B _ _
theorem O.below {w w' : World} {B : Nat} {v : Value} {l : List α} (h : K.O w B v l) (hb : Below w.heap.size w w') : K.O w' B v l := by
  refine ⟨h.1, ?_⟩
  rcases h.2 with h' | ⟨g, cap, cur, h1, hB, h2, h3⟩
  · exact .inl h'
  · exact .inr ⟨g, cap, cur, h1, hB, (hb.block g (Array.getElem?_eq_some_iff.1 h2).1).trans h2, h3⟩
/-- Blocks of other numbers may turn. -/
theorem O.same {w w' : World} {B : Nat} {v : Value} {l : List α} (h : K.O w B v l) (hb : ∀ (g : Nat) cs, w.heap[g]? = some (.cells cs K.elem (0, 0)) → B ≤ g → v.ownBlock = some g → w'.heap[g]? = w.heap[g]?) : K.O w' B v l := by
  refine ⟨h.1, ?_⟩
  rcases h.2 with h' | ⟨g, cap, cur, h1, hB, h2, h3⟩
  · exact .inl h'
  · exact .inr ⟨g, cap, cur, h1, hB, (hb g _ h2 hB (by rw [h1]; rfl)).trans h2, h3⟩
theorem O.mono {w : World} {B B' : Nat} {v : Value} {l : List α} (h : K.O w B v l) (hB : B' ≤ B) : K.O w B' v l := by
  refine ⟨h.1, ?_⟩
  rcases h.2 with h' | ⟨g, cap, cur, h1, hb, h2⟩
  · exact .inl h'
  · exact .inr ⟨g, cap, cur, h1, Nat.le_trans hB hb, h2⟩
theorem O.row {w : World} {B : Nat} {v : Value} {l : List α} (h : K.O w B v l) : ∀ k, v.ownBlock = some k → B ≤ k := fun k hk => (World.ownsRow.lt h k hk).1
theorem O.lt {w : World} {B : Nat} {v : Value} {l : List α} (h : K.O w B v l) : ∀ k, v.ownBlock = some k → k < w.heap.size := fun k hk => (World.ownsRow.lt h k hk).2
theorem O.kept {w w' : World} {B : Nat} {v : Value} {l : List α} {row : Option Nat} (h : K.O w B v l) (hg : w.grownBy w' row) (hne : v.ownBlock = none ∨ v.ownBlock ≠ row) : K.O w' B v l := World.ownsRow.kept h hg hne
theorem O.alloc {w : World} {B : Nat} {v : Value} {l : List α} (h : K.O w B v l) (o : Obj) : K.O (w.alloc o) B v l := World.ownsRow.alloc h o
theorem O.drew {w : World} {B : Nat} {v : Value} {l : List α} (h : K.O w B v l) : K.O w.drew B v l := World.ownsRow.drew h
theorem O.r {w : World} {B : Nat} {v : Value} {l : List α} (h : K.O w B v l) : K.R w v l := by
  rcases h.2 with ⟨h', hn⟩ | ⟨g, cap, cur, rfl, hB, h2, h3, h4, h5, h6⟩
  · obtain rfl : l = [] := List.eq_nil_of_length_eq_zero hn
    rw [h']
    exact R.nil w
  · refine ⟨_, cap, rfl, h3, h4, (fun h => by cases h), fun hl => ⟨g, 0, rfl, fun j u hj => ?_⟩⟩
    have hjl : j < l.length * K.size := by
      have h1 := h.1
      rw [← h1]
      exact (List.getElem?_eq_some_iff.1 hj).1
    rw [Nat.zero_add]
    exact (World.ownsRow.cellAt h j hjl).trans hj
theorem O.form {w : World} {B : Nat} {v : Value} {l : List α} (h : K.O w B v l) (hl : l ≠ []) : ∃ g cap, v = .slice (some ⟨g, 0, none⟩) l.length cap ∧ B ≤ g ∧ g < w.heap.size ∧ l.length ≤ cap ∧ cap ≤ maxLen := by
  rcases h.2 with ⟨h', hn⟩ | ⟨g, cap, cur, rfl, hB, h2, h3, h4, -⟩
  · exact absurd (List.eq_nil_of_length_eq_zero hn) hl
  · exact ⟨g, cap, rfl, hB, (Array.getElem?_eq_some_iff.1 h2).1, h3, h4⟩
theorem O.num {w : World} {B g n cap : Nat} {l : List α} (h : K.O w B (.slice (some ⟨g, 0, none⟩) n cap) l) : n = l.length := by
  rcases h.2 with ⟨h', _⟩ | ⟨g', cap', cur, h', _⟩
  · simp at h'
  · simp at h'; exact h'.2.1
theorem O.cell {w : World} {B g n cap : Nat} {l : List α} (h : K.O w B (.slice (some ⟨g, 0, none⟩) n cap) l) (hK : K.Ok P) (i : Nat) (hi : i < l.length) (j : Nat) (u : Value) (hj : (K.enc l[i])[j]? = some u) : w.cell? ⟨g, i * K.size + j, none⟩ = some u := by
  obtain rfl := h.num
  have hjs : j < K.size := by rw [← hK.len l[i]]; exact (List.getElem?_eq_some_iff.1 hj).1
  have hlt : i * K.size + j < l.length * K.size := by
    have := Nat.mul_le_mul_right K.size (show i + 1 ≤ l.length from hi)
    rw [Nat.add_mul, Nat.one_mul] at this
    omega
  exact (World.ownsRow.cellAt h _ hlt).trans ((hK.flat_at l i j hi hjs).trans hj)
theorem O.frozenAt {w : World} {B g n cap : Nat} {l : List α} (h : K.O w B (.slice (some ⟨g, 0, none⟩) n cap) l) (j : Nat) : w.frozen? ⟨g, j, none⟩ = false := by
  obtain rfl := h.num
  exact World.ownsRow.frozenAt h j
theorem O.there {w : World} {B g n cap : Nat} {l : List α} (h : K.O w B (.slice (some ⟨g, 0, none⟩) n cap) l) (hK : K.Ok P) (i : Nat) (hi : i < l.length) : w.there g (i * K.size) K.size := by
  intro j hj
  have hjl : j < (K.enc l[i]).length := by rw [hK.len]; exact hj
  exact ⟨by rw [h.cell hK i hi j _ (List.getElem?_eq_getElem hjl)]; rfl, h.frozenAt _⟩
theorem owns_setCells {B : Nat} {e : TypeId} {size g n cap : Nat} : ∀ (vs : List Value) (w : World) (xs : List Value) (o : Nat), w.ownsRow B e size (.slice (some ⟨g, 0, none⟩) n cap) n xs →
    (w.setCells g o vs).ownsRow B e size (.slice (some ⟨g, 0, none⟩) n cap) n (sets xs o vs) ∧ w.grownBy (w.setCells g o vs) (some g)
  | [], w, xs, o, h => ⟨h, World.grownBy.refl _ _⟩
  | v :: r, w, xs, o, h => by
    obtain ⟨h1, g1⟩ := World.ownsRow.stored h o v
    obtain ⟨h2, g2⟩ := owns_setCells r _ _ (o + 1) h1
    exact ⟨h2, g1.trans g2⟩
/-- One of them is stored. -/
theorem O.store {w : World} {B g n cap : Nat} {l : List α} (h : K.O w B (.slice (some ⟨g, 0, none⟩) n cap) l) (hK : K.Ok P) (i : Nat) (hi : i < l.length) (x : α) :
    K.O (w.setCells g (i * K.size) (K.enc x)) B (.slice (some ⟨g, 0, none⟩) n cap) (l.set i x) ∧ w.grownBy (w.setCells g (i * K.size) (K.enc x)) (some g) := by
  obtain rfl := h.num
  obtain ⟨h1, g1⟩ := owns_setCells (K.enc x) w _ (i * K.size) h
  rw [← hK.flat_set l i hi x] at h1
  refine ⟨?_, g1⟩
  unfold O
  rw [List.length_set]
  exact h1
/-- A cell of one of them is stored. -/
theorem O.storeCell {w : World} {B g n cap : Nat} {l : List α} (h : K.O w B (.slice (some ⟨g, 0, none⟩) n cap) l) (hK : K.Ok P) (i : Nat) (hi : i < l.length) (j : Nat) (hj : j < K.size) (u : Value) (x : α) (hx : K.enc x = (K.enc l[i]).set j u) :
    K.O (w.setCell ⟨g, i * K.size + j, none⟩ u) B (.slice (some ⟨g, 0, none⟩) n cap) (l.set i x) ∧ w.grownBy (w.setCell ⟨g, i * K.size + j, none⟩ u) (some g) := by
  obtain rfl := h.num
  obtain ⟨h1, g1⟩ := World.ownsRow.stored h (i * K.size + j) u
  have e : (K.flat l).set (i * K.size + j) u = K.flat (l.set i x) := by
    rw [hK.flat_set l i hi x]
    have hm : i * K.size + K.size ≤ l.length * K.size := by
      have := Nat.mul_le_mul_right K.size (show i + 1 ≤ l.length from hi)
      rwa [Nat.add_mul, Nat.one_mul] at this
    apply List.ext_getElem?
    intro q
    by_cases hq : q < l.length * K.size
    · rw [sets_at _ _ _ _ (by rw [hK.flat_len]; exact hq), hK.len]
      by_cases hr : i * K.size ≤ q ∧ q < i * K.size + K.size
      · rw [if_pos hr, hx]
        have e2 := hK.flat_at l i (q - i * K.size) hi (by omega)
        rw [show i * K.size + (q - i * K.size) = q by omega] at e2
        by_cases hqj : q = i * K.size + j
        · subst hqj
          rw [List.getElem?_set_self (by rw [hK.flat_len]; exact hq), Nat.add_sub_cancel_left, List.getElem?_set_self (by rw [hK.len]; exact hj)]
        · rw [List.getElem?_set_ne (fun e => hqj e.symm), List.getElem?_set_ne (by omega)]
          exact e2
      · rw [if_neg hr, List.getElem?_set_ne (by omega)]
    · rw [List.getElem?_eq_none (by rw [List.length_set, hK.flat_len]; omega), List.getElem?_eq_none (by rw [sets_length, hK.flat_len]; omega)]
  rw [e] at h1
  refine ⟨?_, g1⟩
  unfold O
  rw [List.length_set]
  exact h1
/-- One in a new block of its own. -/
theorem R.one (w : World) (_hK : K.Ok P) (x : α) (e : TypeId) (fr : Nat × Nat) : K.R (w.alloc (.cells (K.enc x).toArray e fr)) (.slice (some ⟨w.heap.size, 0, none⟩) 1 1) [x] := by
  refine ⟨some ⟨w.heap.size, 0, none⟩, 1, rfl, Nat.le_refl _, by simp [maxLen], (fun h => by cases h), fun _ => ⟨w.heap.size, 0, rfl, fun j u hj => ?_⟩⟩
  rw [cell_of_row _ w.heap.size (0 + j) _ _ _ (heap_alloc_new w _), Nat.zero_add]
  rw [flat_cons, flat_nil, List.append_nil] at hj
  rw [List.getElem?_toArray]
  exact hj

/-! ### Laws. -/
section
variable {ops : Array Oper} {rest : List Oper} {o : Oper} {a : Act} {w : World} {Q : Exit → Act → World → Prop}
/-- 'append(s, x...)', s the call's own. -/
theorem Ok.append (hK : K.Ok P) (hgd : o.guard = none) (s x : Operand) (ho : o.op = .call { callee := .builtin .append, args := #[s, x], argTypes := #[K.row, K.row] })
    (B : Nat) (v xv : Value) (l m : List α) (hs : a.eval s = v) (hx : a.eval x = xv) (hown : K.O w B v l) (hrb : K.R w xv m) (hl : l.length + m.length ≤ 1000000) (hbase : B ≤ w.heap.size)
    (h : ∀ v' w', K.O w' B v' (l ++ m) → w.grownBy w' v.ownBlock → wpList P ops Q rest (a.put o.dst v') w') : wpList P ops Q (o :: rest) a w := by
  obtain ⟨i, hi, hz, hsize, hby⟩ := info_parts hK.info
  obtain ⟨ad, cap, rfl, h1, h2, h3, h4⟩ := hrb
  cases ad with
  | none =>
    obtain rfl := h3 rfl
    obtain rfl : m = [] := List.eq_nil_of_length_eq_zero (by omega)
    refine wpList_append_own_none hgd s x K.row ho B K.elem i K.size hK.under hi v l.length (K.flat l) hs hown hx ?_
    exact h v w (by simpa using hown) (World.grownBy.refl _ _)
  | some ad =>
    have hb : (l.length + m.length) * K.bytes ≤ 140737488355328 := by
      have := Nat.mul_le_mul hl hK.fit
      omega
    refine wpList_append_own w hgd s x K.row ho B K.elem i K.zero K.size K.bytes hK.under hi hz hsize hby hK.zsize hK.pos v l.length (K.flat l) hs hown ad m.length cap (K.flat m) hx (hK.flat_len m) ?_ (hK.flat_one m) (by unfold maxLen; omega) hb hbase ?_
    · intro j u hj
      obtain ⟨b, o', hao, hc⟩ := h4 (by intro hm; subst hm; simp [flat] at hj)
      cases hao
      rw [Addr.add_mid]
      exact hc j u hj
    · intro v' w' hown' hg _
      refine h v' w' ?_ hg
      unfold O
      rw [List.length_append, flat_append]
      exact hown'
/-- 'append(s, x...)', s full, both read: what comes out reads as both. -/
theorem Ok.appendR (hK : K.Ok P) (hgd : o.guard = none) (s x : Operand) (ho : o.op = .call { callee := .builtin .append, args := #[s, x], argTypes := #[K.row, K.row] })
    (av : Option Addr) (xv : Value) (l m : List α) (k : Nat) (hs : a.eval s = .slice av k k) (hx : a.eval x = xv) (hl : K.R w (.slice av k k) l) (hm : K.R w xv m) (hlen : l.length + m.length ≤ 1000000)
    (h : ∀ v' w', K.R w' v' (l ++ m) → (m ≠ [] → K.O w' w.heap.size v' (l ++ m)) → w.grownBy w' none → wpList P ops Q rest (a.put o.dst v') w') : wpList P ops Q (o :: rest) a w := by
  obtain ⟨i, hi, hz, hsize, hby⟩ := info_parts hK.info
  obtain ⟨a1, c1, e1, g1, g2, g3, g4⟩ := id hl
  simp only [Value.slice.injEq] at e1
  obtain ⟨rfl, rfl, rfl⟩ := e1
  obtain ⟨a2, c2, rfl, k1, k2, k3, k4⟩ := id hm
  cases m with
  | nil =>
    have hsrc : Src P i.size K.row (.slice a2 ([] : List α).length c2) 0 [] w := by
      cases a2 with
      | none => exact Src.ofNil w hK.under c2
      | some ad => exact Src.ofSlice w hK.under ad 0 c2 [] (by simp) (fun j u hj => by simp at hj) (fun u hu => by cases hu)
    have hrun := run_append_nothing (P := P) w K.row K.row o.type K.elem i hK.under hi av l.length l.length (Nat.le_refl _) _ hsrc
    refine wpList_plain hgd fun F hF => ?_
    unfold Oper.wp
    simp only [List.length_nil] at hrun hx
    simp [execOp, ho, resolve, invoke, builtin, hs, hx, hrun, Result.andThen]
    exact hF _ _ (h _ _ (by rw [List.append_nil]; exact hl) (fun h => absurd rfl h) (World.grownBy.refl _ _))
  | cons y m =>
    obtain ⟨b2, o2, rfl, hc2⟩ := k4 (by simp)
    have hb : (l.length + (y :: m).length) * K.bytes ≤ 140737488355328 := by
      have := Nat.mul_le_mul hlen hK.fit
      omega
    refine wpList_append_grows w hgd s x K.row ho K.elem i K.zero K.size K.bytes hK.under hi hz hsize hby hK.zsize hK.pos av l.length l.length (K.flat l) hs (fun h => ⟨g3 h, g3 h⟩) (hK.flat_len l) ?_ ⟨b2, o2, none⟩ (y :: m).length c2 (K.flat (y :: m)) hx (hK.flat_len _) ?_ (hK.flat_one _) (by simp) (by unfold maxLen; omega) hb ?_
    · intro ad hb j u hj
      subst hb
      obtain ⟨b', o', hb', hc⟩ := g4 (by intro e; subst e; simp [flat] at hj)
      cases hb'
      rw [Addr.add_mid]
      exact hc j u hj
    · intro j u hj
      rw [Addr.add_mid]
      exact hc2 j u hj
    · intro v' w' hown hg
      have ho : K.O w' w.heap.size v' (l ++ y :: m) := by
        unfold O
        rw [List.length_append, flat_append]
        exact hown
      exact h v' w' ho.r (fun _ => ho) hg
/-- 'make([]T, 0, n)'. -/
theorem Ok.make0 (hK : K.Ok P) (hgd : o.guard = none) (lo co : Operand) (hop : o.op = Op.makeSlice K.row lo co) (kc : IntKind) (C : Int) (c : Nat) (hl : a.eval lo = .int .i64 0) (hc : a.eval co = .int kc C) (hC : C = (c : Int)) (hcm : c ≤ 1000000)
    (h : ∀ g w', K.O w' w.heap.size (.slice (some ⟨g, 0, none⟩) 0 c) [] → g = w.heap.size → w.grownBy w' none → wpList P ops Q rest (a.put o.dst (.slice (some ⟨g, 0, none⟩) 0 c)) w') : wpList P ops Q (o :: rest) a w := by
  obtain ⟨i, hi, hz, hsize, hby⟩ := info_parts hK.info
  subst hC
  have hb : i.bytes * c ≤ 1000 * 1000000 := Nat.mul_le_mul (by rw [hby]; exact hK.fit) hcm
  have hb' : (i.bytes : Int) * (c : Int) ≤ 281474976710656 := by
    have : ((i.bytes * c : Nat) : Int) ≤ 1000000000 := by omega
    push_cast at this
    omega
  have hr := run_make (P := P) w K.row K.elem i _ hK.under hi hz .i64 kc 0 c (by omega) (by omega) hb' (by omega)
  simp only [Int.toNat_natCast, hsize] at hr
  refine wpList_gives hgd (.slice (some ⟨w.heap.size, 0, none⟩) 0 c) (w.alloc (.cells (madeCells K.zero.cells (c * K.size)) K.elem)) (by simp at hr; simp [execOp, hop, hl, hc, hr, Result.andThen]) (h _ _ ?_ rfl (World.grownBy_alloc w _ none))
  refine ⟨by simp [flat], .inr ⟨w.heap.size, c, _, rfl, Nat.le_refl _, heap_alloc_new w _, by simp, by unfold maxLen; omega, by simp [size_madeCells], ?_⟩⟩
  simp [flat]
theorem Ok.made (hK : K.Ok P) (z : α) (hz : K.enc z = K.zero.cells.toList) (n : Nat) : (madeCells K.zero.cells (n * K.size)).toList = K.flat (List.replicate n z) := by
  apply List.ext_getElem?
  intro q
  have hp := hK.pos
  by_cases hq : q < n * K.size
  · have h1 : q / K.size < n := (Nat.div_lt_iff_lt_mul hp).2 hq
    have h2 : q % K.size < K.size := Nat.mod_lt _ hp
    have hd : q / K.size * K.size + q % K.size = q := by rw [Nat.mul_comm]; exact Nat.div_add_mod q K.size
    have e := hK.flat_at (List.replicate n z) (q / K.size) (q % K.size) (by rw [List.length_replicate]; exact h1) h2
    rw [hd, List.getElem_replicate, hz] at e
    rw [e, Array.getElem?_toList]
    unfold madeCells
    rw [Array.getElem?_map, Array.getElem?_range, if_pos hq, Array.getElem?_toList]
    simp only [Option.map_some, hK.zsize]
    rw [getElem!_pos _ _ (by rw [hK.zsize]; exact h2), Array.getElem?_eq_getElem (by rw [hK.zsize]; exact h2)]
  · rw [List.getElem?_eq_none (by rw [Array.length_toList, size_madeCells]; omega), List.getElem?_eq_none (by rw [hK.flat_len, List.length_replicate]; omega)]
/-- 'make([]T, n)'. -/
theorem Ok.make (hK : K.Ok P) (z : α) (hz0 : K.enc z = K.zero.cells.toList) (hgd : o.guard = none) (lo co : Operand) (hop : o.op = Op.makeSlice K.row lo co) (kl kc : IntKind) (L C : Int) (n : Nat) (hl : a.eval lo = .int kl L) (hc : a.eval co = .int kc C) (hL : L = (n : Int)) (hC : C = (n : Int)) (hcm : n ≤ 1000000)
    (h : ∀ g w', K.O w' w.heap.size (.slice (some ⟨g, 0, none⟩) n n) (List.replicate n z) → g = w.heap.size → w.grownBy w' none → wpList P ops Q rest (a.put o.dst (.slice (some ⟨g, 0, none⟩) n n)) w') : wpList P ops Q (o :: rest) a w := by
  obtain ⟨i, hi, hz, hsize, hby⟩ := info_parts hK.info
  subst hL hC
  have hb : i.bytes * n ≤ 1000 * 1000000 := Nat.mul_le_mul (by rw [hby]; exact hK.fit) hcm
  have hb' : (i.bytes : Int) * (n : Int) ≤ 281474976710656 := by
    have : ((i.bytes * n : Nat) : Int) ≤ 1000000000 := by omega
    push_cast at this
    omega
  have hr := run_make (P := P) w K.row K.elem i _ hK.under hi hz kl kc n n (by omega) (by omega) hb' (by omega)
  simp only [Int.toNat_natCast, hsize] at hr
  refine wpList_gives hgd (.slice (some ⟨w.heap.size, 0, none⟩) n n) (w.alloc (.cells (madeCells K.zero.cells (n * K.size)) K.elem)) (by simp [execOp, hop, hl, hc, hr, Result.andThen]) (h _ _ ?_ rfl (World.grownBy_alloc w _ none))
  refine ⟨by rw [hK.flat_len], .inr ⟨w.heap.size, n, _, by rw [List.length_replicate], Nat.le_refl _, heap_alloc_new w _, by rw [List.length_replicate]; exact Nat.le_refl _, by unfold maxLen; omega, by simp [size_madeCells], ?_⟩⟩
  rw [hK.made z hz0, List.length_replicate, List.take_of_length_le (by rw [hK.flat_len, List.length_replicate]; exact Nat.le_refl _)]
end
end
end Lay

end Go.Proofs.YtkddleonmkhaiaaGreat

namespace Go.Proofs.YtkddleonmkhaiaaGreat
open Go.RowKit

def KU : Lay Nat := ⟨fun n => [.int .u64 (n : Int)], 1, 58, 57, .int .u64 0, 8⟩
theorem KU_ok : KU.Ok Tryz.prog := ⟨by decide, fun _ => rfl, fun x u hu => by rw [List.mem_singleton.1 hu]; rfl, Tryz.underlying57, by kernel_rfl, rfl, by decide⟩
/-- What a law's argument of hashes reads as. -/
theorem ku_of_row {w : World} {a : Option Addr} {len cap : Nat} {zs : List Int} (h : (a = none ∧ len = 0 ∧ cap = 0 ∧ zs = []) ∨
    ∃ x, a = some x ∧ len ≤ cap ∧ cap ≤ maxLen ∧ zs.length = cap ∧ (∀ i, i < zs.length → w.cell? (x.add i) = some (.int .u64 (zs.getD i 0))) ∧ ∀ n ∈ zs, (Lit.int .u64 n).wf = true) :
    ∃ l : List Nat, KU.R w (.slice a len cap) l ∧ ∀ x ∈ l, x < 18446744073709551616 := by
  rcases h with ⟨rfl, rfl, rfl, rfl⟩ | ⟨x, rfl, hl, hm, hz, hc, hw⟩
  · exact ⟨[], Lay.R.nil _, fun x hx => by cases hx⟩
  · have hlen : ((zs.take len).map Int.toNat).length = len := by simp; omega
    have hb : ∀ (i : Nat) (hi : i < zs.length), 0 ≤ zs[i] ∧ zs[i] < 18446744073709551616 := fun i hi => by
      have h := hw zs[i] (List.getElem_mem hi)
      simp [Lit.wf, IntKind.min, IntKind.max, IntKind.signed, IntKind.bits] at h
      omega
    refine ⟨(zs.take len).map Int.toNat, ⟨some x, cap, by rw [hlen], by rw [hlen]; exact hl, hm, (fun h => by cases h), fun hne => ?_⟩, fun y hy => ?_⟩
    · have hpos : 0 < len := by rw [← hlen]; exact List.length_pos_iff.2 hne
      obtain ⟨b, o, spot⟩ := x
      have hspot : spot = none := by simpa [Addr.add] using World.cell?_spot (hc 0 (by omega))
      subst hspot
      refine ⟨b, o, rfl, fun j u hj => ?_⟩
      have hjl : j < len := by
        have := (List.getElem?_eq_some_iff.1 hj).1
        rw [KU_ok.flat_len, hlen] at this
        simpa [KU] using this
      have h1 := hc j (by omega)
      rw [Addr.add_mid] at h1
      have e := KU_ok.flat_at ((zs.take len).map Int.toNat) j 0 (by rw [hlen]; exact hjl) (by decide)
      rw [show j * KU.size + 0 = j from Nat.mul_one j, hj] at e
      have hi' : j < zs.length := by omega
      obtain ⟨b0, b1⟩ := hb j hi'
      rw [h1, e]
      simp only [KU, List.getElem_map, List.getElem_take, List.getElem?_cons_zero, List.getD_eq_getElem?_getD, List.getElem?_eq_getElem hi', Option.getD_some]
      congr 2
      omega
    · obtain ⟨z, hz', rfl⟩ := List.mem_map.1 hy
      obtain ⟨i, hi, rfl⟩ := List.mem_iff_getElem.1 (List.mem_of_mem_take hz')
      have := hb i hi
      omega
theorem KU.at' {w : World} {a : Option Addr} {n cap : Nat} {l : List Nat} (h : KU.R w (.slice a n cap) l) (i : Nat) (hi : i < l.length) : ∃ b o, a = some ⟨b, o, none⟩ ∧ n = l.length ∧ b < w.heap.size ∧ w.cell? ⟨b, o + i, none⟩ = some (.int .u64 (l[i] : Int)) := by
  obtain ⟨b, o, h1, h2, h3, h4⟩ := h.at KU_ok i hi
  exact ⟨b, o, h1, h2, h3, by have := h4 0 _ rfl; simpa [KU] using this⟩
theorem idxU (b o n cap j : Nat) (h : j < n) (W : World) : (Instr.indexAt 57 (.slice (some ⟨b, o, none⟩) n cap) (.int .i64 (j : Int))).run Tryz.prog W = .ok (.pointer (some ⟨b, o + j, none⟩)) W := by
  have := KU_ok.run_idx b o n cap j h W
  simpa [KU] using this


end Go.Proofs.YtkddleonmkhaiaaGreat
