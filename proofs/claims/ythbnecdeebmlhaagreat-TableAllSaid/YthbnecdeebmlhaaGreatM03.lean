/-
  Slices of records: what one reads as, what the call itself makes.
  Mathematics: the order of bytes is an order of keys (of no code).
  Slices of records: contract of the reference's Set.
  Mathematics: slices' symMerge, rotate and swapRange over an array (of no code): two sorted rows that lie side by side become one.
  strings.Compare; order.List's comparison of two records, by their keys.
  Boxes of records: their cells, in whatever world came later.
  A slice of records that the call makes at its whole length; a record that is stored into it.
  slices.swapRangeCmpFunc at records.
  slices.symMergeCmpFunc at records.
-/
import Derived.Test.YthbnecdeebmlhaaGreatM02
import Derived.Deep.QuietTactic
import Derived.BigQuiet
import Derived.Deep.DeepCutAuto
import Derived.LoopTactic
import Derived.Sort.LotA
import Derived.Lib.Bytealg
import Derived.Deep.MidRow
import Derived.Shelf.SlSortCmp.QuietGrown
import Derived.BigRegion
import Derived.Shelf.RegionOpenPlain
import Derived.Laws.IdiomCopy
import Derived.Shelf.SlicesQ.Load
namespace Go.Proofs.YthbnecdeebmlhaaGreat
open Go.RowKit

def rc5 (x : RecT) : List Value := [.string x.1, .bool x.2.1, .int .i64 x.2.2.1, .int .i64 x.2.2.2.1, .string x.2.2.2.2]
def flat5 (l : List RecT) : List Value := l.flatMap rc5
def recOf (x : RecT) : Value := recV x.1 x.2.1 x.2.2.1 x.2.2.2.1 x.2.2.2.2

theorem rc5_one (x : RecT) : ∀ v ∈ rc5 x, v.oneCell' = true := by
  intro v hv
  simp only [rc5, List.mem_cons, List.not_mem_nil, or_false] at hv
  rcases hv with rfl | rfl | rfl | rfl | rfl <;> rfl

/-- v, a slice of records, reads as l. -/
def RS (w : World) (v : Value) (l : List RecT) : Prop :=
  ∃ a cap, v = .slice a l.length cap ∧ l.length ≤ cap ∧ cap ≤ maxLen ∧ (a = none → cap = 0) ∧
    (l ≠ [] → ∃ b o, a = some ⟨b, o, none⟩ ∧ ∀ i (h : i < l.length), w.cell? ⟨b, o + i * 5, none⟩ = some (.string l[i].1) ∧ w.cell? ⟨b, o + i * 5 + 1, none⟩ = some (.bool l[i].2.1) ∧ w.cell? ⟨b, o + i * 5 + 2, none⟩ = some (.int .i64 l[i].2.2.1) ∧ w.cell? ⟨b, o + i * 5 + 3, none⟩ = some (.int .i64 l[i].2.2.2.1) ∧ w.cell? ⟨b, o + i * 5 + 4, none⟩ = some (.string l[i].2.2.2.2))
theorem RRec.rs {w : World} {v : Value} {l : List RecT} (h : RRec w v l) : RS w v l := by
  obtain ⟨a, cap, hv, h1, h2, h3, -, h5⟩ := h
  exact ⟨a, cap, hv, h1, h2, h3, h5⟩
theorem RRec.ok {w : World} {v : Value} {l : List RecT} (h : RRec w v l) : ∀ x ∈ l, RecOk x := by
  obtain ⟨a, cap, hv, h1, h2, h3, h4, h5⟩ := h
  exact h4
theorem RS.form {w : World} {v : Value} {l : List RecT} (h : RS w v l) : ∃ a cap, v = .slice a l.length cap ∧ l.length ≤ 9223372036854775807 := by
  obtain ⟨a, cap, hv, h1, h2, -⟩ := h
  exact ⟨a, cap, hv, by unfold maxLen at h2; omega⟩
theorem RS.at {w : World} {a : Option Addr} {n cap : Nat} {l : List RecT} (h : RS w (.slice a n cap) l) (i : Nat) (hi : i < l.length) :
    ∃ b o, a = some ⟨b, o, none⟩ ∧ n = l.length ∧ b < w.heap.size ∧ w.cell? ⟨b, o + i * 5, none⟩ = some (.string l[i].1) ∧ w.cell? ⟨b, o + i * 5 + 1, none⟩ = some (.bool l[i].2.1) ∧ w.cell? ⟨b, o + i * 5 + 2, none⟩ = some (.int .i64 l[i].2.2.1) ∧ w.cell? ⟨b, o + i * 5 + 3, none⟩ = some (.int .i64 l[i].2.2.2.1) ∧ w.cell? ⟨b, o + i * 5 + 4, none⟩ = some (.string l[i].2.2.2.2) := by
  obtain ⟨a', cap', hv, h1, h2, h3, h5⟩ := h
  simp only [Value.slice.injEq] at hv
  obtain ⟨rfl, rfl, rfl⟩ := hv
  obtain ⟨b, o, ha, hc⟩ := h5 (by intro e; subst e; simp at hi)
  obtain ⟨c0, c1, c2, c3, c4⟩ := hc i hi
  exact ⟨b, o, ha, rfl, World.block_lt_of_cell? w _ c0, c0, c1, c2, c3, c4⟩
theorem cell_kept {w w' : World} {p : Addr} {c : Value} (h : w.cell? p = some c) (hb : Below w.heap.size w w') : w'.cell? p = some c :=
  (hb.cell (World.block_lt_of_cell? w _ h)).trans h
theorem RS.below {w w' : World} {v : Value} {l : List RecT} (h : RS w v l) (hb : Below w.heap.size w w') : RS w' v l := by
  obtain ⟨a, cap, hv, h1, h2, h3, h5⟩ := h
  refine ⟨a, cap, hv, h1, h2, h3, fun hl => ?_⟩
  obtain ⟨b, o, ha, hc⟩ := h5 hl
  exact ⟨b, o, ha, fun i hi => ⟨cell_kept (hc i hi).1 hb, cell_kept (hc i hi).2.1 hb, cell_kept (hc i hi).2.2.1 hb, cell_kept (hc i hi).2.2.2.1 hb, cell_kept (hc i hi).2.2.2.2 hb⟩⟩
theorem RS.nil (w : World) : RS w (.slice none 0 0) [] := ⟨none, 0, rfl, Nat.le_refl _, by simp [maxLen], fun _ => rfl, fun h => absurd rfl h⟩

/-- v, a slice that was made from block B on, holds l. -/
def OwnRec (w : World) (B : Nat) (v : Value) (l : List RecT) : Prop := w.ownsRow B 28 5 v l.length (flat5 l)
theorem flat5_at : ∀ (l : List RecT) (i j : Nat) (hi : i < l.length), j < 5 → (flat5 l)[i * 5 + j]? = (rc5 l[i])[j]?
  | [], i, j, hi, _ => absurd hi (by simp)
  | x :: l, 0, j, hi, hj => by
    show (rc5 x ++ flat5 l)[0 * 5 + j]? = (rc5 x)[j]?
    rw [Nat.zero_mul, Nat.zero_add, List.getElem?_append_left (by simpa [rc5] using hj)]
  | x :: l, i + 1, j, hi, hj => by
    show (rc5 x ++ flat5 l)[(i + 1) * 5 + j]? = _
    rw [List.getElem?_append_right (by simp [rc5]; omega), show (i + 1) * 5 + j - (rc5 x).length = i * 5 + j from by simp [rc5]; omega]
    exact flat5_at l i j (by simpa using hi) hj
theorem OwnRec.nil (w : World) (B : Nat) : OwnRec w B (.slice none 0 0) [] := World.ownsRow_nil w B _ 5
theorem OwnRec.below {w w' : World} {B : Nat} {v : Value} {l : List RecT} (h : OwnRec w B v l) (hb : Below w.heap.size w w') : OwnRec w' B v l := by
  refine ⟨h.1, ?_⟩
  rcases h.2 with h' | ⟨g, cap, cur, h1, hB, h2, h3⟩
  · exact .inl h'
  · exact .inr ⟨g, cap, cur, h1, hB, (hb.block g (Array.getElem?_eq_some_iff.1 h2).1).trans h2, h3⟩
theorem OwnRec.mono {w : World} {B B' : Nat} {v : Value} {l : List RecT} (h : OwnRec w B v l) (hB : B' ≤ B) : OwnRec w B' v l := by
  refine ⟨h.1, ?_⟩
  rcases h.2 with h' | ⟨g, cap, cur, h1, hb, h2⟩
  · exact .inl h'
  · exact .inr ⟨g, cap, cur, h1, Nat.le_trans hB hb, h2⟩
theorem OwnRec.row {w : World} {B : Nat} {v : Value} {l : List RecT} (h : OwnRec w B v l) : ∀ k, v.ownBlock = some k → B ≤ k := fun k hk => (World.ownsRow.lt h k hk).1
theorem OwnRec.rs {w : World} {B : Nat} {v : Value} {l : List RecT} (h : OwnRec w B v l) : RS w v l := by
  have c0 := fun (i j : Nat) (hi : i < l.length) (hj : j < 5) => flat5_at l i j hi hj
  rcases h.2 with ⟨h', hn⟩ | ⟨g, cap, cur, rfl, hB, h2, h3, h4, -⟩
  · obtain rfl : l = [] := List.eq_nil_of_length_eq_zero hn
    rw [h']
    exact RS.nil w
  · refine ⟨_, cap, rfl, h3, h4, (fun h => by cases h), fun hl => ⟨g, 0, rfl, fun i hi => ?_⟩⟩
    have c := fun j (hj : j < 5) => (World.ownsRow.cellAt h (i * 5 + j) (by omega)).trans (flat5_at l i j hi hj)
    simp only [Nat.zero_add]
    exact ⟨c 0 (by omega), c 1 (by omega), c 2 (by omega), c 3 (by omega), c 4 (by omega)⟩

theorem info5 : (Tryz.prog.info? 28).map (fun i => (i.zero, i.size, i.bytes)) = some (some (.agg #[.string ⟨#[]⟩, .bool false, .int .i64 0, .int .i64 0, .string ⟨#[]⟩]), 5, 56) := by kernel_rfl

/-- 'l[j]', in whatever world. -/
theorem run_idx5 (b o n cap j : Nat) (h : j < n) (W : World) : (Instr.indexAt 22 (.slice (some ⟨b, o, none⟩) n cap) (.int .i64 (j : Int))).run Tryz.prog W = .ok (.pointer (some ⟨b, o + j * 5, none⟩)) W := by
  obtain ⟨i, hi, -, hsize, -⟩ := info_parts info5
  have he : Tryz.prog.elem 22 = 28 := by kernel_rfl
  have hs : (sizeOf 28).run Tryz.prog W = .ok 5 W := by simp [sizeOf, typeInfo, hi, hsize]
  have hadd : (⟨b, o, none⟩ : Addr).add (j * 5) = ⟨b, o + j * 5, none⟩ := by unfold Addr.add; split <;> simp_all
  rw [run_indexAt_slice W _ _ _ _ _ _ (by rw [he]; exact Tryz.underlying22), if_pos ⟨by omega, by omega⟩, he, hs]
  simp [Result.andThen, hadd]

/-- 'append(s, l...)', s the call's own. -/
theorem wpList_append_recs {ops : Array Oper} {rest : List Oper} {o : Oper} {a : Act} {w : World} {Q : Exit → Act → World → Prop} (hgd : o.guard = none) (s x : Operand)
    (ho : o.op = .call { callee := .builtin .append, args := #[s, x], argTypes := #[22, 22] })
    (B : Nat) (v xv : Value) (l m : List RecT) (hs : a.eval s = v) (hx : a.eval x = xv) (hown : OwnRec w B v l) (hrb : RS w xv m) (hl : l.length + m.length ≤ 1000000) (hbase : B ≤ w.heap.size)
    (h : ∀ v' w', OwnRec w' B v' (l ++ m) → w.grownBy w' v.ownBlock → wpList Tryz.prog ops Q rest (a.put o.dst v') w') : wpList Tryz.prog ops Q (o :: rest) a w := by
  obtain ⟨i, hi, hz, hsize, hby⟩ := info_parts info5
  have hfl : ∀ l : List RecT, (flat5 l).length = l.length * 5 := by
    intro l
    induction l with
    | nil => rfl
    | cons x l ih =>
      show (rc5 x ++ flat5 l).length = _
      rw [List.length_append, ih, List.length_cons]
      simp [rc5]
      omega
  obtain ⟨ad, cap, rfl, h1, h2, h3, h4⟩ := hrb
  cases ad with
  | none =>
    obtain rfl := h3 rfl
    obtain rfl : m = [] := List.eq_nil_of_length_eq_zero (by omega)
    refine wpList_append_own_none hgd s x _ ho B 28 i 5 Tryz.underlying22 hi v l.length (flat5 l) hs hown hx ?_
    exact h v w (by simpa using hown) (World.grownBy.refl _ _)
  | some ad =>
    refine wpList_append_own w hgd s x _ ho B 28 i _ 5 56 Tryz.underlying22 hi hz hsize hby rfl (by decide) v l.length (flat5 l) hs hown ad m.length cap (flat5 m) hx (by rw [hfl]) ?_ ?_ (by unfold maxLen; omega) (by omega) hbase ?_
    · intro j u hj
      have hjm : j < m.length * 5 := by
        rw [← hfl]
        exact (List.getElem?_eq_some_iff.1 hj).1
      have hi5 : j / 5 < m.length := by omega
      obtain ⟨b, o', hao, hc⟩ := h4 (by intro hm; subst hm; simp at hi5)
      cases hao
      have hadd : (⟨b, o', none⟩ : Addr).add j = ⟨b, o' + j, none⟩ := by unfold Addr.add; split <;> simp_all
      rw [hadd]
      obtain ⟨c0, c1, c2, c3, c4⟩ := hc (j / 5) hi5
      have hr := flat5_at m (j / 5) (j % 5) hi5 (by omega)
      rw [show j / 5 * 5 + j % 5 = j from by omega, hj] at hr
      have h5 : j % 5 < 5 := by omega
      rw [show o' + j = o' + j / 5 * 5 + j % 5 from by omega]
      generalize j % 5 = r at *
      match r, h5 with
      | 0, _ => rw [Nat.add_zero, c0]; exact hr.symm
      | 1, _ => rw [c1]; exact hr.symm
      | 2, _ => rw [c2]; exact hr.symm
      | 3, _ => rw [c3]; exact hr.symm
      | 4, _ => rw [c4]; exact hr.symm
      | r + 5, h5 => omega
    · intro u hu
      obtain ⟨x, -, hx⟩ := List.mem_flatMap.1 hu
      simp only [rc5, List.mem_cons, List.not_mem_nil, or_false] at hx
      rcases hx with rfl | rfl | rfl | rfl | rfl <;> rfl
    · intro v' w' hown' hg _
      refine h v' w' ?_ hg
      unfold OwnRec
      rw [List.length_append]
      unfold flat5 at *
      rw [List.flatMap_append]
      exact hown'

/-- One record in a new block of its own. -/
theorem RS.one (w : World) (x : RecT) : RS (w.alloc (.cells #[.string x.1, .bool x.2.1, .int .i64 x.2.2.1, .int .i64 x.2.2.2.1, .string x.2.2.2.2] 28)) (.slice (some ⟨w.heap.size, 0, none⟩) 1 1) [x] := by
  refine ⟨some ⟨w.heap.size, 0, none⟩, 1, rfl, Nat.le_refl _, by simp [maxLen], (fun h => by cases h), fun _ => ⟨w.heap.size, 0, rfl, fun i hi => ?_⟩⟩
  obtain rfl : i = 0 := by simpa using hi
  have c := fun j => cell_of_row _ w.heap.size j _ _ _ (heap_alloc_new w (.cells #[.string x.1, .bool x.2.1, .int .i64 x.2.2.1, .int .i64 x.2.2.2.1, .string x.2.2.2.2] 28))
  exact ⟨c 0, c 1, c 2, c 3, c 4⟩

theorem eqRec_iff (x y : RecT) : eqRec x.1 x.2.1 x.2.2.1 x.2.2.2.1 x.2.2.2.2 y.1 y.2.1 y.2.2.1 y.2.2.2.1 y.2.2.2.2 = decide (x = y) := by
  obtain ⟨k1, g1, a1, b1, s1⟩ := x
  obtain ⟨k2, g2, a2, b2, s2⟩ := y
  rw [Bool.eq_iff_iff, decide_eq_true_eq]
  unfold eqRec
  rw [Bool.and_eq_true, Bool.and_eq_true, eqR_iff, beq_iff_eq, beq_iff_eq]
  constructor
  · rintro ⟨⟨h1, h2⟩, h3, h4, h5⟩
    have : k1 = k2 := by
      rw [ByteArray.toList_eq, ByteArray.toList_eq] at h1
      exact ByteArray.ext (Array.toList_inj.1 h1)
    simp only [] at h2 h3 h4 h5
    subst this h2 h3 h4 h5
    rfl
  · intro h
    cases h
    exact ⟨⟨rfl, rfl⟩, rfl, rfl, rfl⟩

end Go.Proofs.YthbnecdeebmlhaaGreat

namespace Go.Proofs.YthbnecdeebmlhaaGreat
open Go.Op

theorem less_irr : ∀ x, bytesLess x x = false
  | [] => rfl
  | a :: x => by simp [bytesLess, less_irr x]
theorem less_trans : ∀ x y z, bytesLess x y = true → bytesLess y z = true → bytesLess x z = true
  | [], [], _, h, _ => by cases h
  | [], _ :: _, [], _, h => by cases h
  | [], _ :: _, _ :: _, _, _ => rfl
  | _ :: _, [], _, h, _ => by cases h
  | _ :: _, _ :: _, [], _, h => by cases h
  | a :: x, b :: y, c :: z, h, g => by
    simp only [bytesLess, Bool.or_eq_true, decide_eq_true_eq, Bool.and_eq_true, beq_iff_eq] at h g ⊢
    rcases h with h | ⟨rfl, h⟩
    · rcases g with g | ⟨rfl, -⟩
      · exact .inl (UInt8.lt_trans h g)
      · exact .inl h
    · rcases g with g | ⟨rfl, g⟩
      · exact .inl g
      · exact .inr ⟨rfl, less_trans x y z h g⟩
theorem less_tri : ∀ x y, bytesLess x y = true ∨ x = y ∨ bytesLess y x = true
  | [], [] => .inr (.inl rfl)
  | [], _ :: _ => .inl rfl
  | _ :: _, [] => .inr (.inr rfl)
  | a :: x, b :: y => by
    simp only [bytesLess, Bool.or_eq_true, decide_eq_true_eq, Bool.and_eq_true, beq_iff_eq]
    rcases Nat.lt_trichotomy a.toNat b.toNat with h | h | h
    · exact .inl (.inl (UInt8.lt_iff_toNat_lt.2 h))
    · obtain rfl := UInt8.toNat_inj.1 h
      rcases less_tri x y with h | h | h
      · exact .inl (.inr ⟨rfl, h⟩)
      · exact .inr (.inl (by rw [h]))
      · exact .inr (.inr (.inr ⟨rfl, h⟩))
    · exact .inr (.inr (.inl (UInt8.lt_iff_toNat_lt.2 h)))
theorem ordR : Ordered bytesLess := ⟨less_irr, less_trans, less_tri⟩

end Go.Proofs.YthbnecdeebmlhaaGreat

namespace Go.Proofs.YthbnecdeebmlhaaGreat
open Go.RowKit Go.Op

def keyR (x : RecT) : List UInt8 := x.1.toList
abbrev setR (l : List RecT) (r : RecT) : List RecT := setGo keyR bytesLess r l false

theorem setGo_step (r : RecT) (l : List RecT) (k : Nat) (h : k < l.length) (d : Bool) (acc : List RecT) (p q d' : Bool) (hp : (!d && !(bytesLess (keyR l[k]) (keyR r))) = p) (hq : decide (keyR l[k] = keyR r) = q) (hd : (d || p) = d') (he : acc ++ setGo keyR bytesLess r (l.drop k) d = setR l r) :
    acc ++ (if p then [r] else []) ++ (if q then [] else [l[k]]) ++ setGo keyR bytesLess r (l.drop (k + 1)) d' = setR l r := by
  rw [← he, List.drop_eq_getElem_cons h, setGo, hp, hd]
  subst hq
  simp [List.append_assoc]

/-- The box of the record, in whatever world came later. -/
theorem box_later {w w' : World} {key : ByteArray} {gone : Bool} {k n : Int} {s : ByteArray} (hb : Below (w.alloc (recO key gone k n s)).heap.size (w.alloc (recO key gone k n s)) w') :
    w'.cell? ⟨w.heap.size, 0, none⟩ = some (.string key) ∧ w'.cell? ⟨w.heap.size, 1, none⟩ = some (.bool gone) ∧ w'.cell? ⟨w.heap.size, 2, none⟩ = some (.int .i64 k) ∧ w'.cell? ⟨w.heap.size, 3, none⟩ = some (.int .i64 n) ∧ w'.cell? ⟨w.heap.size, 4, none⟩ = some (.string s) := (rec_box key gone k n s hb).2
theorem setR_len (r : RecT) : ∀ (l : List RecT) (d : Bool), (setGo keyR bytesLess r l d).length ≤ l.length + 1 ∧ (d = true → (setGo keyR bytesLess r l d).length ≤ l.length) := by
  intro l
  induction l with
  | nil => intro d; cases d <;> simp [setGo]
  | cons x t ih =>
    intro d
    rw [setGo]
    simp only [List.length_append, List.length_cons]
    cases d with
    | true =>
      have := (ih true).2 rfl
      simp only [Bool.not_true, Bool.false_and, Bool.false_eq_true, if_false, Bool.true_or, List.length_nil]
      split <;> simp <;> omega
    | false =>
      cases hb : bytesLess (keyR x) (keyR r) with
      | true =>
        have := (ih false).1
        simp only [Bool.not_true, Bool.and_false, Bool.false_eq_true, if_false, Bool.or_false, List.length_nil]
        split <;> simp <;> omega
      | false =>
        have := (ih true).2 rfl
        simp only [Bool.not_false, Bool.and_true, if_true, Bool.or_true, List.length_cons, List.length_nil]
        split <;> simp <;> omega
/-- Nothing is longer than what it becomes. -/
theorem acc_len {acc m l : List RecT} {r : RecT} (h : acc ++ m = setR l r) (hl : l.length ≤ 1000) : acc.length ≤ 1001 := by
  have h1 := (setR_len r l false).1
  unfold setR at h
  rw [← h, List.length_append] at h1
  omega

set_option maxHeartbeats 8000000 in
set_option maxRecDepth 100000 in
theorem rset_c (v : Value) (l : List RecT) (key : ByteArray) (gone : Bool) (rk rn : Int) (rs : ByteArray) (w : World) (hv : RS w v l) (hl : l.length ≤ 1000) :
    Calls Tryz.prog 66 #[v, recV key gone rk rn rs] w fun e w' => ∃ v', e = .returned v' ∧ OwnRec w' w.heap.size v' (setR l (key, gone, rk, rn, rs)) ∧ Below w.heap.size w w' := by
  obtain ⟨a, cap, rfl, hm⟩ := hv.form
  unfold recV
  have HW := Go.Lib.hid fun o => hv.below (below_one w o)
  have hB0 := below_one w (recO key gone rk rn rs)
  have HB0 := Go.Lib.hid hB0
  clear hv
  go_enter Tryz.func66, Tryz.ntmps66
  go_wp2_with fail
  have hid := Below.refl (w.alloc (recO key gone rk rn rs)).heap.size (w.alloc (recO key gone rk rn rs))
  go_loopw [5, 6, 7] (fun vb dv i w2 => ∃ (k : Nat) (d : Bool) (acc : List RecT), k ≤ l.length ∧ i = .int .i64 (k : Int) ∧ dv = .bool d ∧ OwnRec w2 (w.alloc (recO key gone rk rn rs)).heap.size vb acc ∧ acc ++ setGo keyR bytesLess (key, gone, rk, rn, rs) (l.drop k) d = setR l (key, gone, rk, rn, rs) ∧ Below (w.alloc (recO key gone rk rn rs)).heap.size (w.alloc (recO key gone rk rn rs)) w2) (fun _ _ i _ => l.length - (intOf i).toNat)
  case atStart => exact ⟨0, false, [], by omega, rfl, rfl, OwnRec.nil _ _, by simp, hid⟩
  case round =>
    obtain ⟨k, d, acc, hk, rfl, rfl, hown, hacc, hbc⟩ := hrel
    have Hacc := Go.Lib.hid hacc; clear hacc
    by_cases hlt : k < l.length
    · obtain ⟨b, o, rfl, -, hbs, c0, c1, c2, c3, c4⟩ := ((HW.out _).below hbc).at k hlt
      obtain ⟨r0, r1, r2, r3, r4⟩ := box_later hbc
      have Hst := Go.Lib.hid fun p q d' hp hq hd => setGo_step (key, gone, rk, rn, rs) l k hlt d acc p q d' hp hq hd Hacc.out
      have Hal := Go.Lib.hid (acc_len Hacc.out hl)
      have Hix := Go.Lib.hid (run_idx5 b o l.length cap k hlt)
      have HC := Go.Lib.hid (fun W (h : Below (w.alloc (recO key gone rk rn rs)).heap.size (w.alloc (recO key gone rk rn rs)) W) => ((HW.out _).below h).at k hlt)
      generalize hx : l[k] = x at *
      obtain ⟨kx, gx, ax, nx, sx⟩ := x
      simp only [keyR] at c0 c1 c2 c3 c4 Hst HC
      clear hx
      have hix := fun W => Hix.out W
      have hlti : (k : Int) < (l.length : Int) := by omega
      cases d with
      | true =>
        by_cases heq : kx.toList = key.toList
        · have hqb : (kx.toList == key.toList) = true := by simpa using heq
          have hacc := Hst.out false true true rfl (decide_eq_true heq) rfl
          simp only [if_true, if_false, Bool.false_eq_true, List.append_nil] at hacc
          have Hac2 := Go.Lib.hid hacc; clear hacc heq Hst Hacc
          go_upto_region 6 with (fail)
          go_quiet (fail)
          have hbq := below_drewN hbc nq
          have hownq := hown.below (below_drewN (Below.refl _ wr) nq)
          clear hbc hown c0 c1 c2 c3 c4 r0 r1 r2 r3 r4 hbs
          generalize wr.drewN nq = wq at *
          obtain ⟨b9, o9, e9, -, hbs, c0, c1, c2, c3, c4⟩ := HC.out _ hbq
          cases e9
          obtain ⟨r0, r1, r2, r3, r4⟩ := box_later hbq
          go_upto_region 9 with (fail)
          go_quiet (fail)
          have hbr := below_drewN hbq nq
          have hownr := hownq.below (below_drewN (Below.refl _ wq) nq)
          clear hownq hbq c0 c1 c2 c3 c4 r0 r1 r2 r3 r4 hbs
          generalize wq.drewN nq = wz at *
          obtain ⟨b9, o9, e9, -, hbs, c0, c1, c2, c3, c4⟩ := HC.out _ hbr
          cases e9
          obtain ⟨r0, r1, r2, r3, r4⟩ := box_later hbr
          go_wp2_with fail
          exact ⟨⟨k + 1, true, _, by omega, by go_num, rfl, hownr, Hac2.out, hbr⟩, by simp only [intOf]; omega⟩
        · have hqb : (kx.toList == key.toList) = false := by simpa using heq
          have hacc := Hst.out false false true rfl (decide_eq_false heq) rfl
          simp only [if_false, Bool.false_eq_true, List.append_nil] at hacc
          have Hac2 := Go.Lib.hid hacc; clear hacc heq Hst Hacc
          go_upto_region 6 with (fail)
          go_quiet (fail)
          have hbq := below_drewN hbc nq
          have hownq := hown.below (below_drewN (Below.refl _ wr) nq)
          clear hbc hown c0 c1 c2 c3 c4 r0 r1 r2 r3 r4 hbs
          generalize wr.drewN nq = wq at *
          obtain ⟨b9, o9, e9, -, hbs, c0, c1, c2, c3, c4⟩ := HC.out _ hbq
          cases e9
          obtain ⟨r0, r1, r2, r3, r4⟩ := box_later hbq
          go_upto_region 9 with (fail)
          go_quiet (fail)
          have hbr := below_drewN hbq nq
          have hownr := hownq.below (below_drewN (Below.refl _ wq) nq)
          clear hownq hbq c0 c1 c2 c3 c4 r0 r1 r2 r3 r4 hbs
          generalize wq.drewN nq = wz at *
          obtain ⟨b9, o9, e9, -, hbs, c0, c1, c2, c3, c4⟩ := HC.out _ hbr
          cases e9
          obtain ⟨r0, r1, r2, r3, r4⟩ := box_later hbr
          have ha2 := OwnRec.below hownr (below_one wz (.cells #[.string kx, .bool gx, .int .i64 ax, .int .i64 nx, .string sx] 28))
          have hone2 := RS.one wz (kx, gx, ax, nx, sx)
          simp only [] at hone2
          have hbx2 := hbr.trans ((below_one wz (.cells #[.string kx, .bool gx, .int .i64 ax, .int .i64 nx, .string sx] 28)).mono hbr.size)
          have hbz2 := hbx2.size
          skip
          go_wp2_with (first
            | (with_reducible show wpList _ _ _ (⟨some 44, _, _, _, _, _⟩ :: _) _ _; go_loud (refine wpList_append_recs rfl (.tmp 38) (.tmp 43) rfl (w.alloc (recO key gone rk rn rs)).heap.size u5 (.slice (some ⟨(wz).heap.size, 0, none⟩) 1 1) acc [(kx, gx, ax, nx, sx)] rfl rfl ha2 hone2 (by have := Hal.out; simp <;> omega) hbz2 ?_); intro v6 w2 hown2 hg2; have hbc2 := hbx2.grown hg2 hbz2 ha2.row)
            | fail)
          exact ⟨⟨k + 1, true, _, by omega, by go_num, rfl, hown2, Hac2.out, hbc2⟩, by simp only [intOf]; omega⟩
      | false =>
        cases hb : bytesLess kx.toList key.toList with
        | true =>
          by_cases heq : kx.toList = key.toList
          · exact absurd hb (by rw [heq]; simp [less_irr])
          · have hqb : (kx.toList == key.toList) = false := by simpa using heq
            have hacc := Hst.out false false false (by rw [hb]; rfl) (decide_eq_false heq) rfl
            simp only [if_false, Bool.false_eq_true, List.append_nil] at hacc
            have Hac2 := Go.Lib.hid hacc; clear hacc heq Hst Hacc
            go_upto_region 6 with (fail)
            go_quiet (fail)
            have hbq := below_drewN hbc nq
            have hownq := hown.below (below_drewN (Below.refl _ wr) nq)
            clear hbc hown c0 c1 c2 c3 c4 r0 r1 r2 r3 r4 hbs
            generalize wr.drewN nq = wq at *
            obtain ⟨b9, o9, e9, -, hbs, c0, c1, c2, c3, c4⟩ := HC.out _ hbq
            cases e9
            obtain ⟨r0, r1, r2, r3, r4⟩ := box_later hbq
            go_upto_region 9 with (fail)
            go_quiet (fail)
            have hbr := below_drewN hbq nq
            have hownr := hownq.below (below_drewN (Below.refl _ wq) nq)
            clear hownq hbq c0 c1 c2 c3 c4 r0 r1 r2 r3 r4 hbs
            generalize wq.drewN nq = wz at *
            obtain ⟨b9, o9, e9, -, hbs, c0, c1, c2, c3, c4⟩ := HC.out _ hbr
            cases e9
            obtain ⟨r0, r1, r2, r3, r4⟩ := box_later hbr
            have ha2 := OwnRec.below hownr (below_one wz (.cells #[.string kx, .bool gx, .int .i64 ax, .int .i64 nx, .string sx] 28))
            have hone2 := RS.one wz (kx, gx, ax, nx, sx)
            simp only [] at hone2
            have hbx2 := hbr.trans ((below_one wz (.cells #[.string kx, .bool gx, .int .i64 ax, .int .i64 nx, .string sx] 28)).mono hbr.size)
            have hbz2 := hbx2.size
            skip
            go_wp2_with (first
              | (with_reducible show wpList _ _ _ (⟨some 44, _, _, _, _, _⟩ :: _) _ _; go_loud (refine wpList_append_recs rfl (.tmp 38) (.tmp 43) rfl (w.alloc (recO key gone rk rn rs)).heap.size u5 (.slice (some ⟨(wz).heap.size, 0, none⟩) 1 1) acc [(kx, gx, ax, nx, sx)] rfl rfl ha2 hone2 (by have := Hal.out; simp <;> omega) hbz2 ?_); intro v6 w2 hown2 hg2; have hbc2 := hbx2.grown hg2 hbz2 ha2.row)
              | fail)
            exact ⟨⟨k + 1, false, _, by omega, by go_num, rfl, hown2, Hac2.out, hbc2⟩, by simp only [intOf]; omega⟩
        | false =>
          by_cases heq : kx.toList = key.toList
          · have hqb : (kx.toList == key.toList) = true := by simpa using heq
            have hacc := Hst.out true true true (by rw [hb]; rfl) (decide_eq_true heq) rfl
            simp only [if_true, List.append_nil] at hacc
            have Hac2 := Go.Lib.hid hacc; clear hacc heq Hst Hacc
            go_upto_region 6 with (fail)
            go_quiet (fail)
            have hbq := below_drewN hbc nq
            have hownq := hown.below (below_drewN (Below.refl _ wr) nq)
            clear hbc hown c0 c1 c2 c3 c4 r0 r1 r2 r3 r4 hbs
            generalize wr.drewN nq = wq at *
            obtain ⟨b9, o9, e9, -, hbs, c0, c1, c2, c3, c4⟩ := HC.out _ hbq
            cases e9
            obtain ⟨r0, r1, r2, r3, r4⟩ := box_later hbq
            have ha1 := OwnRec.below hownq (below_one wq (.cells #[.string key, .bool gone, .int .i64 rk, .int .i64 rn, .string rs] 28))
            have hone1 := RS.one wq (key, gone, rk, rn, rs)
            simp only [] at hone1
            have hbx1 := hbq.trans ((below_one wq (.cells #[.string key, .bool gone, .int .i64 rk, .int .i64 rn, .string rs] 28)).mono hbq.size)
            have hbz1 := hbx1.size
            go_upto_region 9 with (first
              | (with_reducible show wpList _ _ _ (⟨some 29, _, _, _, _, _⟩ :: _) _ _; go_loud (refine wpList_append_recs rfl (.tmp 26) (.tmp 28) rfl (w.alloc (recO key gone rk rn rs)).heap.size u5 (.slice (some ⟨(wq).heap.size, 0, none⟩) 1 1) acc [(key, gone, rk, rn, rs)] rfl rfl ha1 hone1 (by have := Hal.out; simp <;> omega) hbz1 ?_); intro v5 w1 hown1 hg1; have hbc1 := hbx1.grown hg1 hbz1 ha1.row)
              | fail)
            clear c0 c1 c2 c3 c4 r0 r1 r2 r3 r4 hbs ha1 hone1 hbx1 hbz1 hg1 hownq hbq
            obtain ⟨b9, o9, e9, -, hbs, c0, c1, c2, c3, c4⟩ := HC.out _ hbc1
            cases e9
            obtain ⟨r0, r1, r2, r3, r4⟩ := box_later hbc1
            go_quiet (fail)
            have hbr := below_drewN hbc1 nq
            have hownr := hown1.below (below_drewN (Below.refl _ w1) nq)
            clear hown1 hbc1 c0 c1 c2 c3 c4 r0 r1 r2 r3 r4 hbs
            generalize w1.drewN nq = wz at *
            obtain ⟨b9, o9, e9, -, hbs, c0, c1, c2, c3, c4⟩ := HC.out _ hbr
            cases e9
            obtain ⟨r0, r1, r2, r3, r4⟩ := box_later hbr
            go_wp2_with fail
            exact ⟨⟨k + 1, true, _, by omega, by go_num, rfl, hownr, Hac2.out, hbr⟩, by simp only [intOf]; omega⟩
          · have hqb : (kx.toList == key.toList) = false := by simpa using heq
            have hacc := Hst.out true false true (by rw [hb]; rfl) (decide_eq_false heq) rfl
            simp only [if_true, if_false, Bool.false_eq_true] at hacc
            have Hac2 := Go.Lib.hid hacc; clear hacc heq Hst Hacc
            go_upto_region 6 with (fail)
            go_quiet (fail)
            have hbq := below_drewN hbc nq
            have hownq := hown.below (below_drewN (Below.refl _ wr) nq)
            clear hbc hown c0 c1 c2 c3 c4 r0 r1 r2 r3 r4 hbs
            generalize wr.drewN nq = wq at *
            obtain ⟨b9, o9, e9, -, hbs, c0, c1, c2, c3, c4⟩ := HC.out _ hbq
            cases e9
            obtain ⟨r0, r1, r2, r3, r4⟩ := box_later hbq
            have ha1 := OwnRec.below hownq (below_one wq (.cells #[.string key, .bool gone, .int .i64 rk, .int .i64 rn, .string rs] 28))
            have hone1 := RS.one wq (key, gone, rk, rn, rs)
            simp only [] at hone1
            have hbx1 := hbq.trans ((below_one wq (.cells #[.string key, .bool gone, .int .i64 rk, .int .i64 rn, .string rs] 28)).mono hbq.size)
            have hbz1 := hbx1.size
            go_upto_region 9 with (first
              | (with_reducible show wpList _ _ _ (⟨some 29, _, _, _, _, _⟩ :: _) _ _; go_loud (refine wpList_append_recs rfl (.tmp 26) (.tmp 28) rfl (w.alloc (recO key gone rk rn rs)).heap.size u5 (.slice (some ⟨(wq).heap.size, 0, none⟩) 1 1) acc [(key, gone, rk, rn, rs)] rfl rfl ha1 hone1 (by have := Hal.out; simp <;> omega) hbz1 ?_); intro v5 w1 hown1 hg1; have hbc1 := hbx1.grown hg1 hbz1 ha1.row)
              | fail)
            clear c0 c1 c2 c3 c4 r0 r1 r2 r3 r4 hbs ha1 hone1 hbx1 hbz1 hg1 hownq hbq
            obtain ⟨b9, o9, e9, -, hbs, c0, c1, c2, c3, c4⟩ := HC.out _ hbc1
            cases e9
            obtain ⟨r0, r1, r2, r3, r4⟩ := box_later hbc1
            go_quiet (fail)
            have hbr := below_drewN hbc1 nq
            have hownr := hown1.below (below_drewN (Below.refl _ w1) nq)
            clear hown1 hbc1 c0 c1 c2 c3 c4 r0 r1 r2 r3 r4 hbs
            generalize w1.drewN nq = wz at *
            obtain ⟨b9, o9, e9, -, hbs, c0, c1, c2, c3, c4⟩ := HC.out _ hbr
            cases e9
            obtain ⟨r0, r1, r2, r3, r4⟩ := box_later hbr
            have ha2 := OwnRec.below hownr (below_one wz (.cells #[.string kx, .bool gx, .int .i64 ax, .int .i64 nx, .string sx] 28))
            have hone2 := RS.one wz (kx, gx, ax, nx, sx)
            simp only [] at hone2
            have hbx2 := hbr.trans ((below_one wz (.cells #[.string kx, .bool gx, .int .i64 ax, .int .i64 nx, .string sx] 28)).mono hbr.size)
            have hbz2 := hbx2.size
            skip
            go_wp2_with (first
              | (with_reducible show wpList _ _ _ (⟨some 44, _, _, _, _, _⟩ :: _) _ _; go_loud (refine wpList_append_recs rfl (.tmp 38) (.tmp 43) rfl (w.alloc (recO key gone rk rn rs)).heap.size v5 (.slice (some ⟨(wz).heap.size, 0, none⟩) 1 1) (acc ++ [(key, gone, rk, rn, rs)]) [(kx, gx, ax, nx, sx)] rfl rfl ha2 hone2 (by have := Hal.out; simp <;> omega) hbz2 ?_); intro v6 w2 hown2 hg2; have hbc2 := hbx2.grown hg2 hbz2 ha2.row)
              | fail)
            exact ⟨⟨k + 1, true, _, by omega, by go_num, rfl, hown2, Hac2.out, hbc2⟩, by simp only [intOf]; omega⟩
    · obtain rfl : k = l.length := by omega
      have hacc := Hacc.out
      rw [List.drop_of_length_le (Nat.le_refl _)] at hacc
      obtain ⟨r0, r1, r2, r3, r4⟩ := box_later hbc
      cases d with
      | true =>
        simp only [setGo, if_true, List.append_nil] at hacc
        have hacc2 := Go.Lib.hid hacc; clear hacc Hacc
        go_wp2_with fail
        go_ret
        refine ⟨_, rfl, ?_, ?_⟩
        · rw [← hacc2.out]
          exact hown.mono (HB0.out.size)
        · exact HB0.out.trans (hbc.mono HB0.out.size)
      | false =>
        simp only [setGo, Bool.false_eq_true, if_false] at hacc
        have hacc2 := Go.Lib.hid hacc; clear hacc Hacc
        have Hal := Go.Lib.hid (show acc.length ≤ 1001 from acc_len hacc2.out hl)
        have hbs := hbc.size
        have ha1 := OwnRec.below hown (below_one wr (.cells #[.string key, .bool gone, .int .i64 rk, .int .i64 rn, .string rs] 28))
        have hone1 := RS.one wr (key, gone, rk, rn, rs)
        simp only [] at hone1
        have hbx1 := hbc.trans ((below_one wr (.cells #[.string key, .bool gone, .int .i64 rk, .int .i64 rn, .string rs] 28)).mono hbc.size)
        have hbz1 := hbx1.size
        go_wp2_with (first
          | (with_reducible show wpList _ _ _ (⟨some 50, _, _, _, _, _⟩ :: _) _ _; go_loud (refine wpList_append_recs rfl (.tmp 47) (.tmp 49) rfl (w.alloc (recO key gone rk rn rs)).heap.size u5 (.slice (some ⟨(wr).heap.size, 0, none⟩) 1 1) acc [(key, gone, rk, rn, rs)] rfl rfl ha1 hone1 (by have := Hal.out; simp <;> omega) hbz1 ?_); intro v5 w1 hown1 hg1; have hbc1 := hbx1.grown hg1 hbz1 ha1.row)
          | fail)
        go_ret
        refine ⟨_, rfl, ?_, ?_⟩
        · rw [← hacc2.out]
          exact hown1.mono (HB0.out.size)
        · exact HB0.out.trans (hbc1.mono HB0.out.size)

end Go.Proofs.YthbnecdeebmlhaaGreat

namespace Go.Proofs.YthbnecdeebmlhaaGreat
open Go.Sort
section
variable {α : Type} [Inhabited α] {lt : α → α → Bool}

/-! ### swapRange -/
def swR (a b r x : Nat) : Nat := if a ≤ x ∧ x < a + r then x + (b - a) else if b ≤ x ∧ x < b + r then x - (b - a) else x
structure SwpR (d : Array α) (a b hi r : Nat) (dk : Array α) : Prop where
  perm : PermIn a hi d dk
  get : ∀ x, dk[x]! = d[swR a b r x]!
theorem SwpR.size {d dk : Array α} {a b hi r : Nat} (h : SwpR d a b hi r dk) : dk.size = d.size := h.perm.1
theorem SwpR.start (d : Array α) (a b hi : Nat) : SwpR d a b hi 0 d := by
  refine ⟨permIn_refl d a hi, fun x => ?_⟩
  have : swR a b 0 x = x := by unfold swR; split <;> (try split) <;> omega
  rw [this]
theorem SwpR.step {d dk : Array α} {a b hi r : Nat} (h : SwpR d a b hi r dk) (hab : a + r < b) (hb : b + r < hi) (hh : hi ≤ d.size) : SwpR d a b hi (r + 1) (swp dk (a + r) (b + r)) := by
  have hs := h.size
  refine ⟨permIn_trans _ _ _ _ _ h.perm (swp_permIn dk a hi (a + r) (b + r) (by omega) (by omega) (by omega) hb (by omega)), fun x => ?_⟩
  by_cases e1 : x = b + r
  · subst e1
    rw [swp_right dk _ _ (by omega), h.get]
    have e2 : swR a b r (a + r) = a + r := by unfold swR; split <;> (try split) <;> omega
    have e3 : swR a b (r + 1) (b + r) = a + r := by unfold swR; split <;> (try split) <;> omega
    rw [e2, e3]
  · by_cases e4 : x = a + r
    · subst e4
      rw [swp_left dk _ _ (by omega) (by omega), h.get]
      have e2 : swR a b r (b + r) = b + r := by unfold swR; split <;> (try split) <;> omega
      have e3 : swR a b (r + 1) (a + r) = b + r := by unfold swR; split <;> (try split) <;> omega
      rw [e2, e3]
    · rw [swp_other dk _ _ _ e4 e1, h.get]
      have e3 : swR a b (r + 1) x = swR a b r x := by unfold swR; repeat' split
                                                      all_goals omega
      rw [e3]

/-! ### rotate -/
def rotI (m i j x : Nat) : Nat := if x < m - i then x else if x < m - i + j then x + i else if x < m + j then x - j else x
structure RotR (d : Array α) (a m b i j : Nat) (dk : Array α) : Prop where
  perm : PermIn a b d dk
  i0 : 1 ≤ i
  j0 : 1 ≤ j
  hi : a + i ≤ m
  hj : m + j ≤ b
  get : ∀ x, d[rotI m (m - a) (b - m) x]! = dk[rotI m i j x]!
structure Rotd (d : Array α) (a m b : Nat) (d' : Array α) : Prop where
  perm : PermIn a b d d'
  get : ∀ x, d'[x]! = d[rotI m (m - a) (b - m) x]!
theorem RotR.start (d : Array α) {a m b : Nat} (h1 : a < m) (h2 : m < b) : RotR d a m b (m - a) (b - m) d :=
  ⟨permIn_refl d a b, by omega, by omega, by omega, by omega, fun _ => rfl⟩
theorem RotR.gt {d dk dk' : Array α} {a m b i j : Nat} (h : RotR d a m b i j dk) (hij : j < i) (hb : b ≤ d.size) (s : SwpR dk (m - i) m (m + j) j dk') : RotR d a m b (i - j) j dk' := by
  have h1 := h.hi; have h2 := h.hj; have h3 := h.i0; have h4 := h.j0
  have hs : dk.size = d.size := h.perm.1
  refine ⟨permIn_trans _ _ _ _ _ h.perm (permIn_mono _ _ _ _ _ _ (by omega) h2 (by omega) s.perm), by omega, h4, by omega, h2, fun x => ?_⟩
  rw [h.get, s.get]
  have e : rotI m i j x = swR (m - i) m j (rotI m (i - j) j x) := by unfold swR rotI; repeat' split
                                                                     all_goals omega
  rw [e]
theorem RotR.less {d dk dk' : Array α} {a m b i j : Nat} (h : RotR d a m b i j dk) (hij : i < j) (hb : b ≤ d.size) (s : SwpR dk (m - i) (m + j - i) (m + j) i dk') : RotR d a m b i (j - i) dk' := by
  have h1 := h.hi; have h2 := h.hj; have h3 := h.i0; have h4 := h.j0
  have hs : dk.size = d.size := h.perm.1
  refine ⟨permIn_trans _ _ _ _ _ h.perm (permIn_mono _ _ _ _ _ _ (by omega) h2 (by omega) s.perm), h3, by omega, h1, by omega, fun x => ?_⟩
  rw [h.get, s.get]
  have e : rotI m i j x = swR (m - i) (m + j - i) i (rotI m i (j - i) x) := by unfold swR rotI; repeat' split
                                                                               all_goals omega
  rw [e]
theorem RotR.done {d dk dk' : Array α} {a m b i : Nat} (h : RotR d a m b i i dk) (hb : b ≤ d.size) (s : SwpR dk (m - i) m (m + i) i dk') : Rotd d a m b dk' := by
  have h1 := h.hi; have h2 := h.hj; have h3 := h.i0
  have hs : dk.size = d.size := h.perm.1
  refine ⟨permIn_trans _ _ _ _ _ h.perm (permIn_mono _ _ _ _ _ _ (by omega) h2 (by omega) s.perm), fun x => ?_⟩
  rw [h.get, s.get]
  have e : rotI m i i x = swR (m - i) m i x := by unfold swR rotI; repeat' split
                                                  all_goals omega
  rw [e]
theorem Rotd.none (d : Array α) {a m b : Nat} (h1 : a ≤ m) (h2 : m ≤ b) (h : a = m ∨ m = b) : Rotd d a m b d := by
  refine ⟨permIn_refl d a b, fun x => ?_⟩
  have e : rotI m (m - a) (b - m) x = x := by unfold rotI; repeat' split
                                              all_goals omega
  rw [e]

/-! ### One element into a sorted row. -/
theorem sorted_le (hO : SWO lt) {a b : Nat} {d : Array α} (h : SortedIn lt a b d) {i j : Nat} (hi : a ≤ i) (hij : i ≤ j) (hj : j < b) : lt d[j]! d[i]! = false := by
  rcases Nat.lt_or_ge i j with e | e
  · exact h i j hi e hj
  · obtain rfl : i = j := by omega
    exact hO.irrefl _
theorem sorted_congr {a b : Nat} {d d' : Array α} (hs : SortedIn lt a b d) (h : ∀ i, a ≤ i → i < b → d'[i]! = d[i]!) : SortedIn lt a b d' := fun i j hi hij hj => by
  rw [h i hi (by omega), h j (by omega) hj]
  exact hs i j hi hij hj
/-- The first element lies before place k. -/
structure ShU (d : Array α) (a hi k : Nat) (dk : Array α) : Prop where
  perm : PermIn a hi d dk
  get : ∀ x, dk[x]! = d[if a ≤ x ∧ x < k then x + 1 else if x = k then a else x]!
theorem ShU.start (d : Array α) (a hi : Nat) : ShU d a hi a d := by
  refine ⟨permIn_refl d a hi, fun x => ?_⟩
  have : (if a ≤ x ∧ x < a then x + 1 else if x = a then a else x) = x := by split <;> (try split) <;> omega
  rw [this]
theorem ShU.step {d dk : Array α} {a hi k : Nat} (h : ShU d a hi k dk) (hk : a ≤ k) (hb : k + 1 < hi) (hh : hi ≤ d.size) : ShU d a hi (k + 1) (swp dk k (k + 1)) := by
  have hs : dk.size = d.size := h.perm.1
  refine ⟨permIn_trans _ _ _ _ _ h.perm (swp_permIn dk a hi k (k + 1) (by omega) (by omega) (by omega) hb (by omega)), fun x => ?_⟩
  by_cases e1 : x = k + 1
  · subst e1
    rw [swp_right dk _ _ (by omega), h.get]
    congr 1
    split <;> split <;> (try split) <;> (try split) <;> omega
  · by_cases e4 : x = k
    · subst e4
      rw [swp_left dk _ _ (by omega) (by omega), h.get]
      congr 1
      split <;> split <;> (try split) <;> (try split) <;> omega
    · rw [swp_other dk _ _ _ e4 e1, h.get]
      congr 1
      split <;> split <;> (try split) <;> (try split) <;> omega
theorem ShU.sorted (hO : SWO lt) {d dk : Array α} {a b i : Nat} (h : ShU d a b (i - 1) dk) (h0 : SortedIn lt (a + 1) b d) (hi : a + 1 ≤ i) (hib : i ≤ b)
    (hl : ∀ x, a + 1 ≤ x → x < i → lt d[x]! d[a]! = true) (hr : ∀ x, i ≤ x → x < b → lt d[x]! d[a]! = false) : SortedIn lt a b dk := by
  have asym : ∀ x y, lt x y = true → lt y x = false := fun x y h1 => by
    cases h2 : lt y x with
    | false => rfl
    | true => have := hO.trans _ _ _ h1 h2; rw [hO.irrefl] at this; cases this
  intro x y hx hxy hy
  rw [h.get, h.get]
  by_cases c1 : y < i - 1
  · rw [if_pos ⟨by omega, c1⟩, if_pos ⟨hx, by omega⟩]
    exact h0 _ _ (by omega) (by omega) (by omega)
  · rw [if_neg (by omega)]
    by_cases c2 : y = i - 1
    · rw [if_pos c2, if_pos ⟨hx, by omega⟩]
      exact asym _ _ (hl _ (by omega) (by omega))
    · rw [if_neg c2]
      by_cases c3 : x < i - 1
      · rw [if_pos ⟨hx, c3⟩]
        exact h0 _ _ (by omega) (by omega) hy
      · rw [if_neg (by omega)]
        by_cases c4 : x = i - 1
        · rw [if_pos c4]
          exact hr _ (by omega) hy
        · rw [if_neg c4]
          exact h0 _ _ (by omega) hxy hy
/-- The last element (at m) lies at place k. -/
structure ShD (d : Array α) (a m k : Nat) (dk : Array α) : Prop where
  perm : PermIn a (m + 1) d dk
  get : ∀ x, dk[x]! = d[if k < x ∧ x ≤ m then x - 1 else if x = k then m else x]!
theorem ShD.start (d : Array α) (a m : Nat) : ShD d a m m d := by
  refine ⟨permIn_refl d a _, fun x => ?_⟩
  have : (if m < x ∧ x ≤ m then x - 1 else if x = m then m else x) = x := by split <;> (try split) <;> omega
  rw [this]
theorem ShD.step {d dk : Array α} {a m k : Nat} (h : ShD d a m (k + 1) dk) (hk : a ≤ k) (hm : k + 1 ≤ m) (hh : m < d.size) : ShD d a m k (swp dk (k + 1) k) := by
  have hs : dk.size = d.size := h.perm.1
  refine ⟨permIn_trans _ _ _ _ _ h.perm (swp_permIn dk a (m + 1) (k + 1) k (by omega) (by omega) (by omega) (by omega) (by omega)), fun x => ?_⟩
  by_cases e1 : x = k
  · subst e1
    rw [swp_right dk _ _ (by omega), h.get]
    congr 1
    split <;> split <;> (try split) <;> (try split) <;> omega
  · by_cases e4 : x = k + 1
    · subst e4
      rw [swp_left dk _ _ (by omega) (by omega), h.get]
      congr 1
      split <;> split <;> (try split) <;> (try split) <;> omega
    · rw [swp_other dk _ _ _ e4 e1, h.get]
      congr 1
      split <;> split <;> (try split) <;> (try split) <;> omega
theorem ShD.sorted (hO : SWO lt) {d dk : Array α} {a m i : Nat} (h : ShD d a m i dk) (h0 : SortedIn lt a m d) (hi : a ≤ i) (him : i ≤ m)
    (hl : ∀ x, a ≤ x → x < i → lt d[m]! d[x]! = false) (hr : ∀ x, i ≤ x → x < m → lt d[m]! d[x]! = true) : SortedIn lt a (m + 1) dk := by
  have asym : ∀ x y, lt x y = true → lt y x = false := fun x y h1 => by
    cases h2 : lt y x with
    | false => rfl
    | true => have := hO.trans _ _ _ h1 h2; rw [hO.irrefl] at this; cases this
  intro x y hx hxy hy
  rw [h.get, h.get]
  by_cases c1 : i < y
  · rw [if_pos ⟨c1, by omega⟩]
    by_cases c2 : i < x
    · rw [if_pos ⟨c2, by omega⟩]
      exact h0 _ _ (by omega) (by omega) (by omega)
    · rw [if_neg (by omega)]
      by_cases c3 : x = i
      · rw [if_pos c3]
        exact asym _ _ (hr _ (by omega) (by omega))
      · rw [if_neg c3]
        exact h0 _ _ hx (by omega) (by omega)
  · rw [if_neg (show ¬ (i < y ∧ y ≤ m) by omega), if_neg (show ¬ (i < x ∧ x ≤ m) by omega), if_neg (show ¬ x = i by omega)]
    by_cases c2 : y = i
    · rw [if_pos c2]
      exact hl _ hx (by omega)
    · rw [if_neg c2]
      exact h0 _ _ hx hxy (by omega)

/-! ### The searches. -/
theorem search_lt (hO : SWO lt) {d : Array α} {m b H : Nat} {v : α} (h : SortedIn lt m b d) (hH : H < b) (hl : lt d[H]! v = true) : ∀ x, m ≤ x → x ≤ H → lt d[x]! v = true := by
  intro x hx hxH
  cases hq : lt d[x]! v with
  | true => rfl
  | false => rw [hO.ntrans _ _ _ (sorted_le hO h hx hxH hH) hq] at hl; cases hl
theorem search_ge (hO : SWO lt) {d : Array α} {m b H : Nat} {v : α} (h : SortedIn lt m b d) (hH : m ≤ H) (hl : lt d[H]! v = false) : ∀ x, H ≤ x → x < b → lt d[x]! v = false :=
  fun _ hx hxb => hO.ntrans _ _ _ (sorted_le hO h hH hx hxb) hl
theorem search_le (hO : SWO lt) {d : Array α} {a m H : Nat} {v : α} (h : SortedIn lt a m d) (hH : H < m) (hl : lt v d[H]! = false) : ∀ x, a ≤ x → x ≤ H → lt v d[x]! = false :=
  fun _ hx hxH => hO.ntrans _ _ _ hl (sorted_le hO h hx hxH hH)
theorem search_gt (hO : SWO lt) {d : Array α} {a m H : Nat} {v : α} (h : SortedIn lt a m d) (hH : a ≤ H) (hl : lt v d[H]! = true) : ∀ x, H ≤ x → x < m → lt v d[x]! = true := by
  intro x hx hxm
  cases hq : lt v d[x]! with
  | true => rfl
  | false => rw [hO.ntrans _ _ _ hq (sorted_le hO h hH hx hxm)] at hl; cases hl

/-! ### symMerge -/
theorem rot_split (hO : SWO lt) {d d1 : Array α} {a m b s e mid : Nat} (R : Rotd d s m e d1) (S1 : SortedIn lt a m d) (S2 : SortedIn lt m b d) (h1 : a ≤ s) (h2 : s ≤ m) (h3 : m ≤ e) (h4 : e ≤ b) (hse : s + e = mid + m)
    (hL : a = s ∨ e = b ∨ lt d[e]! d[s - 1]! = false) (hR : s = m ∨ e = m ∨ lt d[e - 1]! d[s]! = true) :
    (∀ x y, a ≤ x → x < mid → mid ≤ y → y < b → lt d1[y]! d1[x]! = false) ∧ SortedIn lt a s d1 ∧ SortedIn lt s mid d1 ∧ SortedIn lt mid e d1 ∧ SortedIn lt e b d1 := by
  have g1 : ∀ x, x < s → d1[x]! = d[x]! := fun x hx => by
    rw [R.get]; congr 1; unfold rotI; repeat' split
    all_goals omega
  have g2 : ∀ x, s ≤ x → x < mid → d1[x]! = d[x + (m - s)]! := fun x hx hx2 => by
    rw [R.get]; congr 1; unfold rotI; repeat' split
    all_goals omega
  have g3 : ∀ x, mid ≤ x → x < e → d1[x]! = d[x - (e - m)]! := fun x hx hx2 => by
    rw [R.get]; congr 1; unfold rotI; repeat' split
    all_goals omega
  have g4 : ∀ x, e ≤ x → d1[x]! = d[x]! := fun x hx => by
    rw [R.get]; congr 1; unfold rotI; repeat' split
    all_goals omega
  refine ⟨fun x y hx hxm hy hyb => ?_, fun i j hi hij hj => ?_, fun i j hi hij hj => ?_, fun i j hi hij hj => ?_, fun i j hi hij hj => ?_⟩
  · by_cases c1 : x < s
    · rw [g1 x c1]
      by_cases c2 : y < e
      · rw [g3 y hy c2]
        exact S1 _ _ hx (by omega) (by omega)
      · rw [g4 y (by omega)]
        have hc : lt d[e]! d[s - 1]! = false := by
          rcases hL with h | h | h
          · omega
          · omega
          · exact h
        have l1 := sorted_le hO S2 (i := e) (j := y) h3 (by omega) hyb
        have l2 := sorted_le hO S1 (i := x) (j := s - 1) hx (by omega) (by omega)
        exact hO.ntrans _ _ _ l1 (hO.ntrans _ _ _ hc l2)
    · rw [g2 x (by omega) hxm]
      by_cases c2 : y < e
      · rw [g3 y hy c2]
        have hc : lt d[e - 1]! d[s]! = true := by
          rcases hR with h | h | h
          · omega
          · omega
          · exact h
        have l1 := sorted_le hO S2 (i := x + (m - s)) (j := e - 1) (by omega) (by omega) (by omega)
        have l2 := sorted_le hO S1 (i := s) (j := y - (e - m)) h1 (by omega) (by omega)
        cases hq : lt d[y - (e - m)]! d[x + (m - s)]! with
        | false => rfl
        | true =>
          cases hp : lt d[e - 1]! d[y - (e - m)]! with
          | false => rw [hO.ntrans _ _ _ hp l2] at hc; cases hc
          | true => rw [hO.trans _ _ _ hp hq] at l1; cases l1
      · rw [g4 y (by omega)]
        exact S2 _ _ (by omega) (by omega) hyb
  · rw [g1 i (by omega), g1 j hj]; exact S1 _ _ hi hij (by omega)
  · rw [g2 i hi (by omega), g2 j (by omega) hj]; exact S2 _ _ (by omega) (by omega) (by omega)
  · rw [g3 i hi (by omega), g3 j (by omega) hj]; exact S1 _ _ (by omega) (by omega) (by omega)
  · rw [g4 i hi, g4 j (by omega)]; exact S2 _ _ (by omega) hij hj

theorem merge_done {d d1 d2 d3 : Array α} {a m b s e mid : Nat} (hb : b ≤ d.size) (R : Rotd d s m e d1) (h1 : a ≤ s) (h4 : e ≤ b) (hm1 : a ≤ mid) (hm2 : mid ≤ b)
    (hx : ∀ x y, a ≤ x → x < mid → mid ≤ y → y < b → lt d1[y]! d1[x]! = false) (p2 : PermIn a mid d1 d2) (s2 : SortedIn lt a mid d2) (p3 : PermIn mid b d2 d3) (s3 : SortedIn lt mid b d3) :
    PermIn a b d d3 ∧ SortedIn lt a b d3 := by
  have e1 : d1.size = d.size := R.perm.1
  have e2 : d2.size = d1.size := p2.1
  refine ⟨permIn_trans _ _ _ _ _ (permIn_mono _ _ _ _ _ _ h1 h4 hb R.perm) (permIn_trans _ _ _ _ _ (permIn_mono _ _ _ _ _ _ (Nat.le_refl _) hm2 (by omega) p2) (permIn_mono _ _ _ _ _ _ hm1 (Nat.le_refl _) (by omega) p3)), ?_⟩
  have x2 : ∀ x, a ≤ x → x < mid → ∀ y, mid ≤ y → y < b → lt d2[y]! d2[x]! = false := by
    intro x ha hxm y hy hyb
    have := permIn_all d1 d2 a mid (fun v => ∀ y, mid ≤ y → y < b → lt d1[y]! v = false) (by omega) p2 (fun i hi hi2 y hy hyb => hx i y hi hi2 hy hyb) x ha hxm y hy hyb
    rw [p2.2.1 y (.inr hy)]
    exact this
  have x3 : ∀ y, mid ≤ y → y < b → ∀ x, a ≤ x → x < mid → lt d3[y]! d3[x]! = false := by
    intro y hy hyb x ha hxm
    have := permIn_all d2 d3 mid b (fun v => ∀ x, a ≤ x → x < mid → lt v d2[x]! = false) (by omega) p3 (fun i hi hi2 x ha hxm => x2 x ha hxm i hi hi2) y hy hyb x ha hxm
    rw [p3.2.1 x (.inl hxm)]
    exact this
  intro i j hi hij hj
  by_cases c1 : j < mid
  · rw [p3.2.1 i (.inl (by omega)), p3.2.1 j (.inl c1)]
    exact s2 i j hi hij c1
  · by_cases c2 : i < mid
    · exact x3 j (by omega) hj i hi c2
    · exact s3 i j (by omega) hij hj
theorem sorted_join {d : Array α} {a s b : Nat} (h1 : SortedIn lt a s d) (h2 : SortedIn lt s b d) (h : a = s ∨ s = b) : SortedIn lt a b d := by
  rcases h with rfl | rfl
  · exact h2
  · exact h1
end
end Go.Proofs.YthbnecdeebmlhaaGreat

namespace Go.Proofs.YthbnecdeebmlhaaGreat
open Go.RowKit Go.Lib Go.Sort

theorem compare_less : ∀ a b : List UInt8, decide (compareBytes a b < 0) = Go.Op.bytesLess a b
  | [], [] => rfl
  | [], _ :: _ => rfl
  | _ :: _, [] => rfl
  | x :: a, y :: b => by
    unfold compareBytes Go.Op.bytesLess
    by_cases h1 : x < y
    · simp [h1]
    · by_cases h2 : y < x
      · have h3 : (x == y) = false := by
          rw [beq_eq_false_iff_ne]
          rintro rfl
          exact h1 h2
        simp [h1, h2, h3]
      · have h3 : x = y := UInt8.le_antisymm (UInt8.not_lt.1 h2) (UInt8.not_lt.1 h1)
        subst h3
        simp [h1, compare_less a b]
set_option maxRecDepth 100000 in
theorem scompare_c (a b : ByteArray) (w : World) : Calls Tryz.prog 92 #[.string a, .string b] w fun e w' => e = .returned (.int .i64 (compareBytes a.data.toList b.data.toList)) ∧ w' = w := by
  have C : Calls Tryz.prog 120 #[.string a, .string b] w fun e w' => e = .returned (.int .i64 (compareBytes a.data.toList b.data.toList)) ∧ w' = w := by
    go_enter Tryz.func120, Tryz.ntmps120
    go_wp2
    rw [run_callFunc_extern Tryz.func138 (by kernel_rfl) (by kernel_rfl) (by kernel_rfl) (e := Extern.BytealgCompare.compare) (by kernel_rfl), Lib.run_compareString]
    simp only [Result.andThen]
    rw [Oper.upon_value]
    go_wp2
    go_ret
    exact ⟨rfl, rfl⟩
  have C := Go.Lib.hid C
  generalize compareBytes a.data.toList b.data.toList = r at *
  go_enter Tryz.func92, Tryz.ntmps92
  go_wp2_with fail
  refine C.out.mono ?_
  rintro e w1 ⟨rfl, rfl⟩
  go_wp2_with fail
  go_ret
  exact ⟨rfl, rfl⟩

/-- By their keys. -/
def cmpK (x y : RecT) : Int := compareBytes x.1.data.toList y.1.data.toList
def ltR (x y : RecT) : Bool := decide (cmpK x y < 0)
theorem ltK (x y : RecT) : ltR x y = Go.Op.bytesLess (keyR x) (keyR y) := by
  unfold ltR cmpK keyR
  rw [compare_less, ByteArray.toList_eq, ByteArray.toList_eq]
theorem swoK : SWO ltR where
  irrefl x := by rw [ltK]; exact less_irr _
  trans x y z h1 h2 := by rw [ltK] at *; exact less_trans _ _ _ h1 h2
  ntrans x y z h1 h2 := by
    rw [ltK] at *
    cases h3 : Go.Op.bytesLess (keyR x) (keyR z) with
    | false => rfl
    | true =>
      rcases less_tri (keyR x) (keyR y) with h | h | h
      · rw [h] at h1; cases h1
      · rw [h] at h3; rw [h3] at h2; cases h2
      · rw [less_trans _ _ _ h h3] at h2; cases h2
theorem rc5_len (x : RecT) : (rc5 x).length = 5 := rfl
set_option maxHeartbeats 1000000 in
theorem listfn_c (x y : RecT) (W : World) : Calls Tryz.prog 91 #[.agg (rc5 x).toArray, .agg (rc5 y).toArray] W fun e w' => e = .returned (.int .i64 (cmpK x y)) ∧ ∃ q os', w' = grow (W.drewN q) os' := by
  have C := Go.Lib.hid fun W => scompare_c x.1 y.1 W
  unfold cmpK
  generalize hr : compareBytes x.1.data.toList y.1.data.toList = r at C ⊢
  clear hr
  unfold rc5
  go_enter Tryz.func91, Tryz.ntmps91
  go_wp2_with fail
  refine (C.out _).mono ?_
  rintro e w1 ⟨rfl, rfl⟩
  go_wp2_with fail
  go_ret
  exact ⟨rfl, 0, _, by rw [alloc_eq_grow, alloc_eq_grow, grow_grow]; rfl⟩
end Go.Proofs.YthbnecdeebmlhaaGreat

namespace Go.Proofs.YthbnecdeebmlhaaGreat
open Go.RowKit

theorem row_kept {w w' : World} {b : Nat} {o : Obj} (h : w.heap[b]? = some o) (hb : Below w.heap.size w w') : w'.heap[b]? = some o := (hb.block _ (Array.getElem?_eq_some_iff.1 h).1).trans h
theorem row5 {w : World} {b : Nat} {a0 a1 a2 a3 a4 : Value} {t : TypeId} {fr : Nat × Nat} (h : w.heap[b]? = some (.cells #[a0, a1, a2, a3, a4] t fr)) :
    w.cell? ⟨b, 0, none⟩ = some a0 ∧ w.cell? ⟨b, 1, none⟩ = some a1 ∧ w.cell? ⟨b, 2, none⟩ = some a2 ∧ w.cell? ⟨b, 3, none⟩ = some a3 ∧ w.cell? ⟨b, 4, none⟩ = some a4 := by
  have c := fun j => cell_of_row w b j _ _ _ h
  exact ⟨c 0, c 1, c 2, c 3, c 4⟩
theorem row_lt {w : World} {b : Nat} {o : Obj} (h : w.heap[b]? = some o) : b < w.heap.size := (Array.getElem?_eq_some_iff.1 h).1
end Go.Proofs.YthbnecdeebmlhaaGreat

namespace Go.Proofs.YthbnecdeebmlhaaGreat
open Go.RowKit

theorem flat5_set (x : RecT) : ∀ (l : List RecT) (i : Nat), i < l.length →
    flat5 (l.set i x) = (((((flat5 l).set (i * 5) (.string x.1)).set (i * 5 + 1) (.bool x.2.1)).set (i * 5 + 1 + 1) (.int .i64 x.2.2.1)).set (i * 5 + 1 + 1 + 1) (.int .i64 x.2.2.2.1)).set (i * 5 + 1 + 1 + 1 + 1) (.string x.2.2.2.2)
  | [], i, h => absurd h (by simp)
  | y :: t, 0, h => rfl
  | y :: t, i + 1, h => by
    have ih := flat5_set x t i (by simpa using h)
    show rc5 y ++ flat5 (t.set i x) = _
    rw [ih]
    show _ = (((((rc5 y ++ flat5 t).set ((i + 1) * 5) _).set ((i + 1) * 5 + 1) _).set ((i + 1) * 5 + 1 + 1) _).set ((i + 1) * 5 + 1 + 1 + 1) _).set ((i + 1) * 5 + 1 + 1 + 1 + 1) _
    rw [show (i + 1) * 5 = i * 5 + 5 by omega]
    have e (l : List Value) (k : Nat) (v : Value) : (rc5 y ++ l).set (k + 5) v = rc5 y ++ l.set k v := by
      rw [List.set_append_right _ _ (by simp [rc5])]
      simp [rc5]
    rw [e, show i * 5 + 5 + 1 = (i * 5 + 1) + 5 by omega, e, show i * 5 + 1 + 5 + 1 = (i * 5 + 1 + 1) + 5 by omega, e, show i * 5 + 1 + 1 + 5 + 1 = (i * 5 + 1 + 1 + 1) + 5 by omega, e, show i * 5 + 1 + 1 + 1 + 5 + 1 = (i * 5 + 1 + 1 + 1 + 1) + 5 by omega, e]

theorem OwnRec.there {w : World} {B g n cap : Nat} {l : List RecT} (h : OwnRec w B (.slice (some ⟨g, 0, none⟩) n cap) l) (i : Nat) (hi : i < l.length) : w.there g (i * 5) 5 := by
  have hn : n = l.length := by
    rcases h.2 with ⟨h', _⟩ | ⟨g', cap', cur, h', _⟩
    · simp at h'
    · simp at h'; exact h'.2.1
  subst hn
  intro j hj
  refine ⟨?_, World.ownsRow.frozenAt h _⟩
  rw [World.ownsRow.cellAt h (i * 5 + j) (by omega), flat5_at l i j hi hj]
  match j, hj with
  | 0, _ => rfl
  | 1, _ => rfl
  | 2, _ => rfl
  | 3, _ => rfl
  | 4, _ => rfl
  | j + 5, hj => omega
/-- A record is stored. -/
theorem OwnRec.store {w : World} {B g n cap : Nat} {l : List RecT} (h : OwnRec w B (.slice (some ⟨g, 0, none⟩) n cap) l) (i : Nat) (hi : i < l.length) (x : RecT) :
    OwnRec (w.setCells g (i * 5) (rc5 x)) B (.slice (some ⟨g, 0, none⟩) n cap) (l.set i x) ∧ w.grownBy (w.setCells g (i * 5) (rc5 x)) (some g) := by
  have hn : n = l.length := by
    rcases h.2 with ⟨h', _⟩ | ⟨g', cap', cur, h', _⟩
    · simp at h'
    · simp at h'; exact h'.2.1
  subst hn
  obtain ⟨h1, g1⟩ := World.ownsRow.stored h (i * 5) (.string x.1)
  obtain ⟨h2, g2⟩ := World.ownsRow.stored h1 (i * 5 + 1) (.bool x.2.1)
  obtain ⟨h3, g3⟩ := World.ownsRow.stored h2 (i * 5 + 1 + 1) (.int .i64 x.2.2.1)
  obtain ⟨h4, g4⟩ := World.ownsRow.stored h3 (i * 5 + 1 + 1 + 1) (.int .i64 x.2.2.2.1)
  obtain ⟨h5, g5⟩ := World.ownsRow.stored h4 (i * 5 + 1 + 1 + 1 + 1) (.string x.2.2.2.2)
  rw [← flat5_set x l i hi] at h5
  refine ⟨?_, (((g1.trans g2).trans g3).trans g4).trans g5⟩
  unfold OwnRec
  rw [List.length_set]
  exact h5

end Go.Proofs.YthbnecdeebmlhaaGreat

namespace Go.Proofs.YthbnecdeebmlhaaGreat
open Go.RowKit Go.Sort

theorem grow_keeps (w : World) (n : Nat) (os : Array Obj) : Below w.heap.size w (grow (w.drewN n) os) := by
  refine ⟨rfl, rfl, rfl, by rw [size_grow]; exact Nat.le_add_right _ _, fun k hk => ?_⟩
  exact heap_grow_old (w.drewN n) os hk
theorem grow_none (W : World) : grow (W.drewN 1) #[] = W.drew := by unfold grow; simp; rfl
/-- A row of records that a sort has in hand: the array, and what changed. -/
structure RW (w0 : World) (B g c : Nat) (d : Array RecT) (W : World) : Prop where
  own : OwnRec W B (.slice (some ⟨g, 0, none⟩) d.size c) d.toList
  gr : w0.grownBy W (some g)
section
variable {w0 W : World} {B g c : Nat} {d : Array RecT}
theorem RW.grown (h : RW w0 B g c d W) (n : Nat) (os : Array Obj) : RW w0 B g c d (grow (W.drewN n) os) := by
  have hb := grow_keeps W n os
  exact ⟨h.own.below hb, h.gr.trans ⟨hb.os, hb.tape, hb.output, hb.size, fun k hk _ => hb.block k hk⟩⟩
theorem RW.cells (h : RW w0 B g c d W) (i : Nat) (hi : i < d.size) (n : Nat) (os : Array Obj) :
    (grow (W.drewN n) os).cell? ⟨g, i * 5, none⟩ = some (.string d[i]!.1) ∧ (grow (W.drewN n) os).cell? ⟨g, i * 5 + 1, none⟩ = some (.bool d[i]!.2.1) ∧ (grow (W.drewN n) os).cell? ⟨g, i * 5 + 2, none⟩ = some (.int .i64 d[i]!.2.2.1) ∧
      (grow (W.drewN n) os).cell? ⟨g, i * 5 + 3, none⟩ = some (.int .i64 d[i]!.2.2.2.1) ∧ (grow (W.drewN n) os).cell? ⟨g, i * 5 + 4, none⟩ = some (.string d[i]!.2.2.2.2) := by
  have hs := (h.grown n os).own.rs
  obtain ⟨b, o, e, -, -, c0, c1, c2, c3, c4⟩ := hs.at i (by simpa using hi)
  simp only [Option.some.injEq, Addr.mk.injEq] at e
  obtain ⟨rfl, rfl, -⟩ := e
  rw [Nat.zero_add] at c0 c1 c2 c3 c4
  rw [getElem!_pos d i hi]
  simp only [Array.getElem_toList] at c0 c1 c2 c3 c4
  exact ⟨c0, c1, c2, c3, c4⟩
theorem set_swp {i j : Nat} : ((d.toList.set i d[j]!).set j d[i]!) = (swp d i j).toList := by
  unfold swp
  simp
/-- Two records change their places, behind a draw. -/
theorem RW.swap (h : RW w0 B g c d W) (i j : Nat) (hi : i < d.size) (hj : j < d.size) : RW w0 B g c (swp d i j) ((W.drew.setCells g (i * 5) (rc5 d[j]!)).setCells g (j * 5) (rc5 d[i]!)) := by
  have h1 := h.grown 1 #[]
  have e : grow (W.drewN 1) #[] = W.drew := grow_none W
  rw [e] at h1
  obtain ⟨o2, g2⟩ := h1.own.store i (by simpa using hi) d[j]!
  obtain ⟨o3, g3⟩ := o2.store j (by simpa using hj) d[i]!
  rw [set_swp] at o3
  have hs := size_swp d i j
  refine ⟨?_, (h1.gr.trans g2).trans g3⟩
  rw [hs]
  exact o3
theorem RW.ld (h : RW w0 B g c d W) (i : Nat) (hi : i < d.size) (n : Nat) (os : Array Obj) : Sem.run Tryz.prog (loadCellsFrom ⟨g, i * 5, none⟩ 0 5 #[]) (grow (W.drewN n) os) = .ok (rc5 d[i]!).toArray (grow (W.drewN n) os) := by
  obtain ⟨c0, c1, c2, c3, c4⟩ := h.cells i hi n os
  refine run_loadCellsFrom_list Tryz.prog _ _ _ 5 rfl ?_
  intro k v hv
  rw [Addr.add_lit]
  match k, hv with
  | 0, hv => cases hv; exact c0
  | 1, hv => cases hv; exact c1
  | 2, hv => cases hv; exact c2
  | 3, hv => cases hv; exact c3
  | 4, hv => cases hv; exact c4
theorem RW.drew (h : RW w0 B g c d W) : RW w0 B g c d W.drew := by
  have := h.grown 1 #[]
  have e : grow (W.drewN 1) #[] = W.drew := grow_none W
  rwa [e] at this
theorem RW.ld1 (h : RW w0 B g c d W) (i : Nat) (hi : i < d.size) : Sem.run Tryz.prog (loadCellsFrom ⟨g, i * 5, none⟩ 0 5 #[]) W.drew = .ok (rc5 d[i]!).toArray W.drew := by
  have := h.ld i hi 1 #[]
  have e : grow (W.drewN 1) #[] = W.drew := grow_none W
  rwa [e] at this
theorem RW.st (h : RW w0 B g c d W) (i : Nat) (hi : i < d.size) (x : RecT) : Sem.run Tryz.prog (storeCells ⟨g, i * 5, none⟩ (rc5 x) 0) W = .ok () (W.setCells g (i * 5) (rc5 x)) := by
  have ht := h.own.there i (by simpa using hi)
  have := run_storeCells_cells (P := Tryz.prog) g (i * 5) (rc5 x) 0 W (fun j hj => by rw [Nat.add_zero]; exact (ht j hj).1) (fun j hj => by rw [Nat.add_zero]; exact (ht j hj).2) (rc5_one x)
  rwa [Nat.add_zero] at this
theorem RW.stored (h : RW w0 B g c d W) (i : Nat) (hi : i < d.size) (x : RecT) : RW w0 B g c (d.setIfInBounds i x) (W.setCells g (i * 5) (rc5 x)) := by
  obtain ⟨o2, g2⟩ := h.own.store i (by simpa using hi) x
  refine ⟨?_, h.gr.trans g2⟩
  rw [Array.size_setIfInBounds, Array.toList_setIfInBounds]
  exact o2
/-- All that an exchange asks, at letters. -/
theorem RW.swapf (h : RW w0 B g c d W) (i j : Nat) (hi : i < d.size) (hj : j < d.size) : ∃ (k : Nat) (cI cJ : List Value), (∀ w, (Go.sizeOf 28).run Tryz.prog w = .ok k w) ∧ cI.length = k ∧ cJ.length = k ∧
    Sem.run Tryz.prog (loadCellsFrom ⟨g, i * k, none⟩ 0 k #[]) W.drew = .ok cI.toArray W.drew ∧ Sem.run Tryz.prog (loadCellsFrom ⟨g, j * k, none⟩ 0 k #[]) W.drew = .ok cJ.toArray W.drew ∧
    Sem.run Tryz.prog (storeCells ⟨g, i * k, none⟩ cJ 0) W.drew = .ok () (W.drew.setCells g (i * k) cJ) ∧
    Sem.run Tryz.prog (storeCells ⟨g, j * k, none⟩ cI 0) (W.drew.setCells g (i * k) cJ) = .ok () ((W.drew.setCells g (i * k) cJ).setCells g (j * k) cI) ∧
    RW w0 B g c (swp d i j) ((W.drew.setCells g (i * k) cJ).setCells g (j * k) cI) :=
  ⟨5, rc5 d[i]!, rc5 d[j]!, Tryz.sizeOf28, rfl, rfl, h.ld1 i hi, h.ld1 j hj, h.drew.st i hi _, (h.drew.stored i hi _).st j (by rw [Array.size_setIfInBounds]; exact hj) _, h.swap i j hi hj⟩
end

set_option maxHeartbeats 4000000 in
set_option maxRecDepth 100000 in
theorem swaprange_c {w0 : World} {B g c : Nat} {d : Array RecT} (a b n : Nat) (W : World) (hn : a + n ≤ b) (hb : b + n ≤ d.size) (hsz : d.size ≤ 1000) (R : RW w0 B g c d W) :
    Calls Tryz.prog 174 #[.slice (some ⟨g, 0, none⟩) d.size c, .int .i64 (a : Int), .int .i64 (b : Int), .int .i64 (n : Int), .func (.func 91) #[] #[]] W fun e w' => e = .returned (.tuple #[]) ∧ ∃ d', SwpR d a b (b + n) n d' ∧ RW w0 B g c d' w' := by
  have HR := Go.Lib.hid R
  have HD := Go.Lib.hid (SwpR.start d a b (b + n))
  obtain ⟨m, hm⟩ : ∃ m, m = d.size := ⟨_, rfl⟩
  have HM := Go.Lib.hid hm
  rw [← hm] at hb hsz
  rw [← hm]
  have HH := Go.Lib.hid (And.intro hn hb)
  clear R hm
  go_enter Tryz.func174, Tryz.ntmps174
  go_wp2_with fail
  go_loopw [10] (fun vi wr => ∃ (r : Nat) (dk : Array RecT), vi = .int .i64 (r : Int) ∧ r ≤ n ∧ Hid (SwpR d a b (b + n) r dk) ∧ Hid (RW w0 B g c dk wr)) (fun vi _ => n - (intOf vi).toNat)
  case atStart => exact ⟨0, d, rfl, by omega, HD, HR⟩
  case round =>
    clear HR HD
    obtain ⟨r, dk, rfl, hr, HS, HR⟩ := hrel
    have hds : dk.size = m := by have := HS.out.size; have := HM.out; omega
    by_cases hlt : r < n
    · have hltI : (r : Int) < (n : Int) := by omega
      have hS2 := Go.Lib.hid (HS.out.step (by omega) (by omega) (by have := HM.out; omega))
      have ha1 : (a : Int) + (r : Int) < (m : Int) := by omega
      have hb1 : (b : Int) + (r : Int) < (m : Int) := by omega
      have ra : IntKind.i64.wrap ((a : Int) + (r : Int)) = ((a + r : Nat) : Int) := by rw [IntKind.wrap_i64]; omega
      have rb : IntKind.i64.wrap ((b : Int) + (r : Int)) = ((b + r : Nat) : Int) := by rw [IntKind.wrap_i64]; omega
      obtain ⟨k, cI, cJ, zE, n1, n2, l1, l2, s1, s2, S2⟩ := HR.out.swapf (a + r) (b + r) (by omega) (by omega)
      have S2 := Go.Lib.hid S2
      have mixed : Tryz.prog.follows .mixedOrders = true := by kernel_rfl
      have aE := Tryz.isAgg28
      have ea : ((a : Int) + (r : Int)).toNat = a + r := by omega
      have eb : ((b : Int) + (r : Int)).toNat = b + r := by omega
      have pa : (0 : Int) ≤ (a : Int) + (r : Int) := by omega
      have pb : (0 : Int) ≤ (b : Int) + (r : Int) := by omega
      clear HS HR ra rb
      have ra : IntKind.i64.wrap ((a : Int) + (r : Int)) = (a : Int) + (r : Int) := by rw [IntKind.wrap_i64]; omega
      have rb : IntKind.i64.wrap ((b : Int) + (r : Int)) = (b : Int) + (r : Int) := by rw [IntKind.wrap_i64]; omega
      go_wp2_with fail
      go_big_region_o
      clear l1 l2 s1 s2 zE n1 n2 aE ra rb
      generalize (wr.drew.setCells g ((a + r) * k) cJ).setCells g ((b + r) * k) cI = w2 at *
      go_wp2_with fail
      go_roundw
      case rel => exact ⟨r + 1, _, by go_num, by omega, hS2, S2⟩
      case measure => simp only [intOf]; omega
    · obtain rfl : r = n := by omega
      go_wp2_with fail
      go_end0
      exact ⟨rfl, dk, HS.out, HR.out⟩

set_option maxHeartbeats 4000000 in
set_option maxRecDepth 100000 in
theorem rotate_c {w0 : World} {B g c : Nat} {d : Array RecT} (a m b : Nat) (W : World) (h1 : a < m) (h2 : m < b) (hb : b ≤ d.size) (hsz : d.size ≤ 1000) (R : RW w0 B g c d W) :
    Calls Tryz.prog 156 #[.slice (some ⟨g, 0, none⟩) d.size c, .int .i64 (a : Int), .int .i64 (m : Int), .int .i64 (b : Int), .func (.func 91) #[] #[]] W fun e w' => e = .returned (.tuple #[]) ∧ ∃ d', Rotd d a m b d' ∧ RW w0 B g c d' w' := by
  have HR := Go.Lib.hid R
  have HD := Go.Lib.hid (RotR.start d h1 h2)
  have SC := Go.Lib.hid fun (dk : Array RecT) (hs : dk.size = d.size) x y n W h h' R => (swaprange_c (w0 := w0) (B := B) (g := g) (c := c) (d := dk) x y n W h h' (by omega) R)
  obtain ⟨N, hN⟩ : ∃ N, N = d.size := ⟨_, rfl⟩
  have HN := Go.Lib.hid hN
  rw [← hN] at hb hsz
  rw [← hN]
  clear R hN
  go_enter Tryz.func156, Tryz.ntmps156
  go_wp2_with fail
  go_loopw [10, 11] (fun vi vj wr => ∃ (i j : Nat) (dk : Array RecT), vi = .int .i64 (i : Int) ∧ vj = .int .i64 (j : Int) ∧ Hid (RotR d a m b i j dk) ∧ Hid (RW w0 B g c dk wr)) (fun vi vj _ => (intOf vi).toNat + (intOf vj).toNat)
  case atStart => exact ⟨m - a, b - m, d, by congr 1; omega, by congr 1; omega, HD, HR⟩
  case round =>
    clear HR HD
    obtain ⟨i, j, dk, rfl, rfl, HS, HR⟩ := hrel
    obtain ⟨i0, j0, hi, hj⟩ : 1 ≤ i ∧ 1 ≤ j ∧ a + i ≤ m ∧ m + j ≤ b := ⟨HS.out.i0, HS.out.j0, HS.out.hi, HS.out.hj⟩
    have hds := HS.out.perm.1
    have HDS := Go.Lib.hid hds
    by_cases hij : i = j
    · subst hij
      have hne : ((i : Int) != (i : Int)) = false := by simp
      have C := SC.out dk hds (m - i) m i wr (by omega) (by have := HN.out; omega) HR.out
      rw [hds, ← HN.out, show ((m - i : Nat) : Int) = (m : Int) - (i : Int) by omega] at C
      have C := Go.Lib.hid C
      clear SC hds
      go_wp2_with fail
      refine C.out.mono ?_
      rintro e w2 ⟨rfl, d2, hs2, hr2⟩
      have HF := Go.Lib.hid (And.intro (HS.out.done (by rw [← HN.out]; exact hb) hs2) hr2)
      clear hs2 hr2 C
      go_wp2_with fail
      go_end0
      exact ⟨rfl, d2, HF.out.1, HF.out.2⟩
    · have hne : ((i : Int) != (j : Int)) = true := by simp only [bne_iff_ne]; omega
      by_cases hgt : j < i
      · have hgtI : (j : Int) < (i : Int) := by omega
        have C := SC.out dk hds (m - i) m j wr (by omega) (by have := HN.out; omega) HR.out
        rw [hds, ← HN.out, show ((m - i : Nat) : Int) = (m : Int) - (i : Int) by omega] at C
        have C := Go.Lib.hid C
        clear hds hij
        go_wp2_with fail
        refine C.out.mono ?_
        rintro e w2 ⟨rfl, d2, hs2, hr2⟩
        have HF := Go.Lib.hid (And.intro (HS.out.gt hgt (by rw [← HN.out]; exact hb) hs2) hr2)
        clear hs2 hr2 C
        go_wp2_with fail
        go_roundw
        case rel => exact ⟨i - j, j, d2, by congr 1; omega, rfl, Go.Lib.hid HF.out.1, Go.Lib.hid HF.out.2⟩
        case measure => simp only [intOf]; omega
      · have hgtI : ¬ (j : Int) < (i : Int) := by omega
        have hlt : i < j := by omega
        have C := SC.out dk hds (m - i) (m + j - i) i wr (by omega) (by have := HN.out; omega) HR.out
        rw [hds, ← HN.out, show ((m - i : Nat) : Int) = (m : Int) - (i : Int) by omega, show ((m + j - i : Nat) : Int) = (m : Int) + (j : Int) - (i : Int) by omega, show m + j - i + i = m + j by omega] at C
        have C := Go.Lib.hid C
        clear hds hij hgt
        go_wp2_with fail
        refine C.out.mono ?_
        rintro e w2 ⟨rfl, d2, hs2, hr2⟩
        have HF := Go.Lib.hid (And.intro (HS.out.less hlt (by rw [← HN.out]; exact hb) hs2) hr2)
        clear hs2 hr2 C
        go_wp2_with fail
        go_roundw
        case rel => exact ⟨i, j - i, d2, rfl, by congr 1; omega, Go.Lib.hid HF.out.1, Go.Lib.hid HF.out.2⟩
        case measure => simp only [intOf]; omega
end Go.Proofs.YthbnecdeebmlhaaGreat

namespace Go.Proofs.YthbnecdeebmlhaaGreat
open Go.RowKit Go.Sort

section
variable {w0 W : World} {B g c : Nat} {d : Array RecT}
/-- A record's cells as a value. -/
abbrev rA (x : RecT) : Value := .agg #[.string x.1, .bool x.2.1, .int .i64 x.2.2.1, .int .i64 x.2.2.2.1, .string x.2.2.2.2]
theorem sym_cmp (W : World) (x y : RecT) (n : Nat) (os : Array Obj) :
    Calls Tryz.prog 91 #[rA x, rA y] (grow (W.drewN n) os) fun e w'' => e = .returned (.int .i64 (cmpK x y)) ∧ ∃ p : GrownBy, w'' = grow (W.drewN p.n) p.os := by
  refine Calls.grown_of ?_
  exact listfn_c x y _

/-- Two elements' cells, at letters, and what their comparison tells. -/
theorem sym_two {P : Value → Value → Nat → Array Obj → Prop} (S : RW w0 B g c d W) (i j : Nat) (hi : i < d.size) (hj : j < d.size) (hc : ∀ n os, P (rA d[i]!) (rA d[j]!) n os) :
    ∃ (x0 : ByteArray) (x1 : Bool) (x2 x3 : Int) (x4 : ByteArray) (y0 : ByteArray) (y1 : Bool) (y2 y3 : Int) (y4 : ByteArray),
      (∀ n os, (grow (W.drewN n) os).cell? ⟨g, i * 5, none⟩ = some (.string x0)) ∧ (∀ n os, (grow (W.drewN n) os).cell? ⟨g, i * 5 + 1, none⟩ = some (.bool x1)) ∧ (∀ n os, (grow (W.drewN n) os).cell? ⟨g, i * 5 + 2, none⟩ = some (.int .i64 x2)) ∧
      (∀ n os, (grow (W.drewN n) os).cell? ⟨g, i * 5 + 3, none⟩ = some (.int .i64 x3)) ∧ (∀ n os, (grow (W.drewN n) os).cell? ⟨g, i * 5 + 4, none⟩ = some (.string x4)) ∧
      (∀ n os, (grow (W.drewN n) os).cell? ⟨g, j * 5, none⟩ = some (.string y0)) ∧ (∀ n os, (grow (W.drewN n) os).cell? ⟨g, j * 5 + 1, none⟩ = some (.bool y1)) ∧ (∀ n os, (grow (W.drewN n) os).cell? ⟨g, j * 5 + 2, none⟩ = some (.int .i64 y2)) ∧
      (∀ n os, (grow (W.drewN n) os).cell? ⟨g, j * 5 + 3, none⟩ = some (.int .i64 y3)) ∧ (∀ n os, (grow (W.drewN n) os).cell? ⟨g, j * 5 + 4, none⟩ = some (.string y4)) ∧
      Hid (∀ n os, P (.agg #[.string x0, .bool x1, .int .i64 x2, .int .i64 x3, .string x4]) (.agg #[.string y0, .bool y1, .int .i64 y2, .int .i64 y3, .string y4]) n os) :=
  have h := fun n os => S.cells i hi n os
  have k := fun n os => S.cells j hj n os
  ⟨_, _, _, _, _, _, _, _, _, _, fun n os => (h n os).1, fun n os => (h n os).2.1, fun n os => (h n os).2.2.1, fun n os => (h n os).2.2.2.1, fun n os => (h n os).2.2.2.2, fun n os => (k n os).1, fun n os => (k n os).2.1, fun n os => (k n os).2.2.1, fun n os => (k n os).2.2.2.1, fun n os => (k n os).2.2.2.2, hc⟩

set_option maxHeartbeats 16000000 in
set_option maxRecDepth 100000 in
/-- One element against a sorted row that lies behind it. -/
theorem symmerge_one (a m b : Nat) (W : World) (hma : m = a + 1) (h2 : m < b) (hb : b ≤ d.size) (hsz : d.size ≤ 1000) (R : RW w0 B g c d W) (h0 : SortedIn ltR m b d) :
    Calls Tryz.prog 137 #[.slice (some ⟨g, 0, none⟩) d.size c, .int .i64 (a : Int), .int .i64 (m : Int), .int .i64 (b : Int), .func (.func 91) #[] #[]] W fun e w' => e = .returned (.tuple #[]) ∧ ∃ d', PermIn a b d d' ∧ SortedIn ltR a b d' ∧ RW w0 B g c d' w' := by
  have HR := Go.Lib.hid R
  have H0 := Go.Lib.hid h0
  obtain ⟨n, hn⟩ : ∃ n, n = d.size := ⟨_, rfl⟩
  rw [← hn] at hb hsz
  have HN := Go.Lib.hid hn
  have eg : ∀ args w, (callFunc 91 args).run Tryz.prog w = .ok (.enter 91 args) w := enters_of Tryz.func91 (by kernel_rfl) rfl
  have mixed : Tryz.prog.follows .mixedOrders = true := by kernel_rfl
  rw [← hn]
  have HH := Go.Lib.hid hma
  clear R h0 hn
  go_enter Tryz.func137, Tryz.ntmps137
  have haI : ((m : Int) - (a : Int) == 1) = true := by rw [beq_iff_eq]; omega
  have haN : a < n := by omega
  clear hma
  go_wp2_with fail
  go_loopw [10, 11] (fun vi vj wr => ∃ (i j : Nat), vi = .int .i64 (i : Int) ∧ vj = .int .i64 (j : Int) ∧ m ≤ i ∧ i ≤ j ∧ j ≤ b ∧ Hid (∀ x, m ≤ x → x < i → ltR d[x]! d[a]! = true) ∧ Hid (∀ x, j ≤ x → x < b → ltR d[x]! d[a]! = false) ∧ Hid (RW w0 B g c d wr)) (fun vi vj _ => (intOf vj - intOf vi).toNat)
  case atStart => exact ⟨m, b, rfl, rfl, Nat.le_refl _, by omega, Nat.le_refl _, Go.Lib.hid (fun x h1 h2 => absurd h2 (by omega)), Go.Lib.hid (fun x h1 h2 => absurd h2 (by omega)), HR⟩
  case round =>
    obtain ⟨i, j, rfl, rfl, hmi, hij, hjb, HL, HG, S⟩ := hrel
    by_cases hlt : i < j
    · obtain ⟨H, hH⟩ : ∃ H : Nat, H = (i + j) / 2 := ⟨_, rfl⟩
      have hHI : ((i : Int) + (j : Int)) / 2 = (H : Int) := by omega
      have hltI : (i : Int) < (j : Int) := by omega
      have hH1 : H < n := by omega
      have hH2 : H < j := by omega
      have hH3 : i ≤ H := by omega
      have hc := fun n' os' => sym_cmp wr d[H]! d[a]! n' os'
      have hS2 := Go.Lib.hid fun n' os' => S.out.grown n' os'
      have HLT := Go.Lib.hid (fun (h : ltR d[H]! d[a]! = true) => search_lt (v := d[a]!) swoK H0.out (by omega) h)
      have HGE := Go.Lib.hid (fun (h : ltR d[H]! d[a]! = false) => search_ge (v := d[a]!) swoK H0.out (by omega) h)
      have HZ := Go.Lib.hid (show ltR d[H]! d[a]! = decide (cmpK d[H]! d[a]! < 0) from rfl)
      generalize ltR d[H]! d[a]! = q at *
      generalize cmpK d[H]! d[a]! = z at *
      obtain ⟨xj0, xj1, xj2, xj3, xj4, xa0, xa1, xa2, xa3, xa4, j0, j1, j2, j3, j4, a0, a1, a2, a3, a4, hc⟩ := sym_two (P := fun X Y n' os' => Calls Tryz.prog 91 #[X, Y] (grow (wr.drewN n') os') fun e w'' => e = .returned (.int .i64 z) ∧ ∃ p : GrownBy, w'' = grow (wr.drewN p.n) p.os) S.out H a (by rw [← HN.out]; omega) (by rw [← HN.out]; omega) hc
      clear S hH
      have HQ := Go.Lib.hid (And.intro hmi (And.intro hij (And.intro hjb (And.intro hlt (And.intro hH2 (And.intro hH3 (And.intro h2 hb)))))))
      by_cases hz : z < 0
      · have HQ1 := Go.Lib.hid (HLT.out (by rw [HZ.out]; exact decide_eq_true hz))
        go_wp2_with fail
        clear hmi hij hjb hlt hH2 hH3 h2 hb
        go_quiet_grown (first | (go_at_fn 91; exact hc.out _ _))
        clear j0 j1 j2 j3 j4 a0 a1 a2 a3 a4 hc
        go_wp2_with fail
        obtain ⟨hmi, hij, hjb, hlt, hH2, hH3, h2, hb⟩ := HQ.out
        go_roundw
        case rel => exact ⟨H + 1, j, by go_num, rfl, by omega, by omega, hjb, Go.Lib.hid (fun x hx hx2 => HQ1.out x hx (by omega)), HG, hS2.out _ _⟩
        case measure => simp only [intOf]; omega
      · have HQ1 := Go.Lib.hid (HGE.out (by rw [HZ.out]; exact decide_eq_false hz))
        go_wp2_with fail
        clear hmi hij hjb hlt hH2 hH3 h2 hb
        go_quiet_grown (first | (go_at_fn 91; exact hc.out _ _))
        clear j0 j1 j2 j3 j4 a0 a1 a2 a3 a4 hc
        go_wp2_with fail
        obtain ⟨hmi, hij, hjb, hlt, hH2, hH3, h2, hb⟩ := HQ.out
        go_roundw
        case rel => exact ⟨i, H, rfl, rfl, hmi, hH3, by omega, HL, Go.Lib.hid (fun x hx hx2 => HQ1.out x hx (by omega)), hS2.out _ _⟩
        case measure => simp only [intOf]; omega
    · obtain rfl : i = j := by omega
      have hltI : ¬ (i : Int) < (i : Int) := by omega
      clear hlt hij
      go_wp2_with fail
      go_loopw [13] (fun vk wr2 => ∃ (k : Nat) (dk : Array RecT), vk = .int .i64 (k : Int) ∧ a ≤ k ∧ k ≤ i - 1 ∧ Hid (ShU d a b k dk) ∧ Hid (RW w0 B g c dk wr2)) (fun vk _ => n - (intOf vk).toNat)
      case atStart => exact ⟨a, d, rfl, Nat.le_refl _, by have := HH.out; omega, Go.Lib.hid (ShU.start d a b), S⟩
      case round =>
        clear S
        obtain ⟨k, dk, rfl, hak, hki, HS, S⟩ := hrel
        have hds : dk.size = n := by have := HS.out.perm.1; have := HN.out; omega
        by_cases hlt : k < i - 1
        · have hltI2 : (k : Int) < (i : Int) - 1 := by omega
          have hS2 := Go.Lib.hid (HS.out.step hak (by omega) (by rw [← HN.out]; exact hb))
          obtain ⟨kk, cI, cJ, zE, n1, n2, l1, l2, s1, s2, S2⟩ := S.out.swapf k (k + 1) (by omega) (by omega)
          have S2 := Go.Lib.hid S2
          have aE := Tryz.isAgg28
          have ea : ((k : Int) + 1).toNat = k + 1 := by omega
          have pa : (0 : Int) ≤ (k : Int) + 1 := by omega
          have ba : (k : Int) + 1 < (n : Int) := by omega
          have bb : (k : Int) < (n : Int) := by omega
          have eb : ((k : Int)).toNat = k := by omega
          have pb : (0 : Int) ≤ (k : Int) := by omega
          have rb : IntKind.i64.wrap ((k : Int)) = (k : Int) := by rw [IntKind.wrap_i64]; omega
          have ra : IntKind.i64.wrap ((k : Int) + 1) = (k : Int) + 1 := by rw [IntKind.wrap_i64]; omega
          have HQ := Go.Lib.hid (And.intro hak (And.intro hki (And.intro hlt hmi)))
          clear HS S
          go_wp2_with fail
          go_big_region_o
          clear l1 l2 s1 s2 zE n1 n2 aE
          generalize (wr.drew.setCells g (k * kk) cJ).setCells g ((k + 1) * kk) cI = w2 at *
          go_wp2_with fail
          obtain ⟨hak, hki, hlt, hmi⟩ := HQ.out
          go_roundw
          case rel => exact ⟨k + 1, _, by go_num, by omega, by omega, hS2, S2⟩
          case measure => simp only [intOf]; omega
        · have hltI2 : ¬ (k : Int) < (i : Int) - 1 := by omega
          obtain rfl : k = i - 1 := by have := HH.out; omega
          have HF := Go.Lib.hid (And.intro HS.out.perm (HS.out.sorted swoK (by have := H0.out; rwa [HH.out] at this) (by have := HH.out; omega) hjb (by have := HL.out; rwa [HH.out] at this) HG.out))
          clear HS hlt
          go_wp2_with fail
          refine bodyPost_ret (results_none rfl _ _ _) rfl ?_
          exact ⟨rfl, dk, HF.out.1, HF.out.2, S.out⟩
set_option maxHeartbeats 16000000 in
set_option maxRecDepth 100000 in
/-- One element against a sorted row that lies ahead of it. -/
theorem symmerge_last (a m b : Nat) (W : World) (h1 : a + 1 < m) (hmb : b = m + 1) (hb : b ≤ d.size) (hsz : d.size ≤ 1000) (R : RW w0 B g c d W) (h0 : SortedIn ltR a m d) :
    Calls Tryz.prog 137 #[.slice (some ⟨g, 0, none⟩) d.size c, .int .i64 (a : Int), .int .i64 (m : Int), .int .i64 (b : Int), .func (.func 91) #[] #[]] W fun e w' => e = .returned (.tuple #[]) ∧ ∃ d', PermIn a b d d' ∧ SortedIn ltR a b d' ∧ RW w0 B g c d' w' := by
  have HR := Go.Lib.hid R
  have H0 := Go.Lib.hid h0
  obtain ⟨n, hn⟩ : ∃ n, n = d.size := ⟨_, rfl⟩
  rw [← hn] at hb hsz
  have HN := Go.Lib.hid hn
  have eg : ∀ args w, (callFunc 91 args).run Tryz.prog w = .ok (.enter 91 args) w := enters_of Tryz.func91 (by kernel_rfl) rfl
  have mixed : Tryz.prog.follows .mixedOrders = true := by kernel_rfl
  rw [← hn]
  have HH := Go.Lib.hid hmb
  clear R h0 hn
  go_enter Tryz.func137, Tryz.ntmps137
  have haI : ((m : Int) - (a : Int) == 1) = false := by rw [beq_eq_false_iff_ne]; omega
  have hbI : ((b : Int) - (m : Int) == 1) = true := by rw [beq_iff_eq]; omega
  have hmN : m < n := by omega
  clear hmb
  go_wp2_with fail
  go_loopw [14, 15] (fun vi vj wr => ∃ (i j : Nat), vi = .int .i64 (i : Int) ∧ vj = .int .i64 (j : Int) ∧ a ≤ i ∧ i ≤ j ∧ j ≤ m ∧ Hid (∀ x, a ≤ x → x < i → ltR d[m]! d[x]! = false) ∧ Hid (∀ x, j ≤ x → x < m → ltR d[m]! d[x]! = true) ∧ Hid (RW w0 B g c d wr)) (fun vi vj _ => (intOf vj - intOf vi).toNat)
  case atStart => exact ⟨a, m, rfl, rfl, Nat.le_refl _, by omega, Nat.le_refl _, Go.Lib.hid (fun x h1 h2 => absurd h2 (by omega)), Go.Lib.hid (fun x h1 h2 => absurd h2 (by omega)), HR⟩
  case round =>
    obtain ⟨i, j, rfl, rfl, hmi, hij, hjb, HL, HG, S⟩ := hrel
    by_cases hlt : i < j
    · obtain ⟨H, hH⟩ : ∃ H : Nat, H = (i + j) / 2 := ⟨_, rfl⟩
      have hHI : ((i : Int) + (j : Int)) / 2 = (H : Int) := by omega
      have hltI : (i : Int) < (j : Int) := by omega
      have hH1 : H < n := by omega
      have hH2 : H < j := by omega
      have hH3 : i ≤ H := by omega
      have hc := fun n' os' => sym_cmp wr d[m]! d[H]! n' os'
      have hS2 := Go.Lib.hid fun n' os' => S.out.grown n' os'
      have HLT := Go.Lib.hid (fun (h : ltR d[m]! d[H]! = true) => search_gt (v := d[m]!) swoK H0.out (by omega) h)
      have HGE := Go.Lib.hid (fun (h : ltR d[m]! d[H]! = false) => search_le (v := d[m]!) swoK H0.out (by omega) h)
      have HZ := Go.Lib.hid (show ltR d[m]! d[H]! = decide (cmpK d[m]! d[H]! < 0) from rfl)
      generalize ltR d[m]! d[H]! = q at *
      generalize cmpK d[m]! d[H]! = z at *
      obtain ⟨xj0, xj1, xj2, xj3, xj4, xa0, xa1, xa2, xa3, xa4, j0, j1, j2, j3, j4, a0, a1, a2, a3, a4, hc⟩ := sym_two (P := fun X Y n' os' => Calls Tryz.prog 91 #[X, Y] (grow (wr.drewN n') os') fun e w'' => e = .returned (.int .i64 z) ∧ ∃ p : GrownBy, w'' = grow (wr.drewN p.n) p.os) S.out m H (by rw [← HN.out]; omega) (by rw [← HN.out]; omega) hc
      clear S hH
      have HQ := Go.Lib.hid (And.intro hmi (And.intro hij (And.intro hjb (And.intro hlt (And.intro hH2 (And.intro hH3 (And.intro h1 hb)))))))
      by_cases hz : z < 0
      · have HQ1 := Go.Lib.hid (HLT.out (by rw [HZ.out]; exact decide_eq_true hz))
        have hd : (!decide (z < 0)) = false := by rw [decide_eq_true hz]; rfl
        go_wp2_with fail
        clear hmi hij hjb hlt hH2 hH3 h1 hb
        go_quiet_grown (first | (go_at_fn 91; exact hc.out _ _))
        clear j0 j1 j2 j3 j4 a0 a1 a2 a3 a4 hc
        go_wp2_with fail
        obtain ⟨hmi, hij, hjb, hlt, hH2, hH3, h1, hb⟩ := HQ.out
        go_roundw
        case rel => exact ⟨i, H, rfl, rfl, hmi, hH3, by omega, HL, Go.Lib.hid (fun x hx hx2 => HQ1.out x hx (by omega)), hS2.out _ _⟩
        case measure => simp only [intOf]; omega
      · have HQ1 := Go.Lib.hid (HGE.out (by rw [HZ.out]; exact decide_eq_false hz))
        have hd : (!decide (z < 0)) = true := by rw [decide_eq_false hz]; rfl
        go_wp2_with fail
        clear hmi hij hjb hlt hH2 hH3 h1 hb
        go_quiet_grown (first | (go_at_fn 91; exact hc.out _ _))
        clear j0 j1 j2 j3 j4 a0 a1 a2 a3 a4 hc
        go_wp2_with fail
        obtain ⟨hmi, hij, hjb, hlt, hH2, hH3, h1, hb⟩ := HQ.out
        go_roundw
        case rel => exact ⟨H + 1, j, by go_num, rfl, by omega, by omega, hjb, Go.Lib.hid (fun x hx hx2 => HQ1.out x hx (by omega)), HG, hS2.out _ _⟩
        case measure => simp only [intOf]; omega
    · obtain rfl : i = j := by omega
      have hltI : ¬ (i : Int) < (i : Int) := by omega
      clear hlt hij
      go_wp2_with fail
      go_loopw [17] (fun vk wr2 => ∃ (k : Nat) (dk : Array RecT), vk = .int .i64 (k : Int) ∧ i ≤ k ∧ k ≤ m ∧ Hid (ShD d a m k dk) ∧ Hid (RW w0 B g c dk wr2)) (fun vk _ => (intOf vk).toNat)
      case atStart => exact ⟨m, d, rfl, hjb, Nat.le_refl _, Go.Lib.hid (ShD.start d a m), S⟩
      case round =>
        clear S
        obtain ⟨k, dk, rfl, hik, hkm, HS, S⟩ := hrel
        have hds : dk.size = n := by have := HS.out.perm.1; have := HN.out; omega
        by_cases hlt : i < k
        · obtain ⟨kp, rfl⟩ : ∃ kp, k = kp + 1 := ⟨k - 1, by omega⟩
          have hltI2 : (i : Int) < (kp : Int) + 1 := by omega
          have hS2 := Go.Lib.hid (HS.out.step (by omega) hkm (by rw [← HN.out]; exact hmN))
          obtain ⟨kk, cI, cJ, zE, n1, n2, l1, l2, s1, s2, S2⟩ := S.out.swapf (kp + 1) kp (by omega) (by omega)
          have S2 := Go.Lib.hid S2
          have aE := Tryz.isAgg28
          have ea : ((kp : Int) + 1).toNat = kp + 1 := by omega
          have pa : (0 : Int) ≤ (kp : Int) + 1 := by omega
          have ba : (kp : Int) + 1 < (n : Int) := by omega
          have bb : (kp : Int) < (n : Int) := by omega
          have eb : ((kp : Int)).toNat = kp := by omega
          have pb : (0 : Int) ≤ (kp : Int) := by omega
          have rb : IntKind.i64.wrap ((kp : Int)) = (kp : Int) := by rw [IntKind.wrap_i64]; omega
          clear HS S
          go_wp2_with fail
          go_big_region_o
          clear l1 l2 s1 s2 zE n1 n2 aE
          generalize (wr.drew.setCells g ((kp + 1) * kk) cJ).setCells g (kp * kk) cI = w2 at *
          go_wp2_with fail
          go_roundw
          case rel => exact ⟨kp, _, rfl, by omega, by omega, hS2, S2⟩
          case measure => simp only [intOf]; omega
        · have hltI2 : ¬ (i : Int) < (k : Int) := by omega
          obtain rfl : k = i := by omega
          have HF := Go.Lib.hid (And.intro HS.out.perm (HS.out.sorted swoK H0.out hmi hjb HL.out HG.out))
          rw [← HH.out] at HF
          clear HS hlt
          go_wp2_with fail
          refine bodyPost_ret (results_none rfl _ _ _) rfl ?_
          exact ⟨rfl, dk, HF.out.1, HF.out.2, S.out⟩
end
end Go.Proofs.YthbnecdeebmlhaaGreat
