/-
  Slices of records: what one reads as, what the call itself makes.
  Slices of records: contract of the reference's Set.
  Records: the newest ones, by rising keys (mathematics).
-/
import Derived.Test.YtibbligidncocaaM12
import Derived.Test.YtibbligidncocaaM06
import Derived.Test.YtibbligidncocaaM07
import Derived.Deep.QuietTactic
import Derived.BigQuiet
import Derived.Deep.DeepCutAuto
import Derived.LoopTactic
namespace Go.Proofs.Ytibbligidncocaa
open Go.RowKit

def rc5 (x : RecT) : List Value := [.string x.1, .bool x.2.1, .int .i64 x.2.2.1, .int .i64 x.2.2.2.1, .string x.2.2.2.2]
def flat5 (l : List RecT) : List Value := l.flatMap rc5
def recOf (x : RecT) : Value := recV x.1 x.2.1 x.2.2.1 x.2.2.2.1 x.2.2.2.2

theorem rc5_one (x : RecT) : ∀ v ∈ rc5 x, v.oneCell' = true := by
  intro v hv
  simp only [rc5, List.mem_cons, List.not_mem_nil, or_false] at hv
  rcases hv with rfl | rfl | rfl | rfl | rfl <;> rfl

/-- v, a slice of records, reads as l. -/
def RS (w : World) (v : Value) (l : List RecT) : Prop :=
  ∃ a cap, v = .slice a l.length cap ∧ l.length ≤ cap ∧ cap ≤ maxLen ∧ (a = none → cap = 0) ∧
    (l ≠ [] → ∃ b o, a = some ⟨b, o, none⟩ ∧ ∀ i (h : i < l.length), w.cell? ⟨b, o + i * 5, none⟩ = some (.string l[i].1) ∧ w.cell? ⟨b, o + i * 5 + 1, none⟩ = some (.bool l[i].2.1) ∧ w.cell? ⟨b, o + i * 5 + 2, none⟩ = some (.int .i64 l[i].2.2.1) ∧ w.cell? ⟨b, o + i * 5 + 3, none⟩ = some (.int .i64 l[i].2.2.2.1) ∧ w.cell? ⟨b, o + i * 5 + 4, none⟩ = some (.string l[i].2.2.2.2))
theorem RRec.rs {w : World} {v : Value} {l : List RecT} (h : RRec w v l) : RS w v l := by
  obtain ⟨a, cap, hv, h1, h2, h3, -, h5⟩ := h
  exact ⟨a, cap, hv, h1, h2, h3, h5⟩
theorem RRec.ok {w : World} {v : Value} {l : List RecT} (h : RRec w v l) : ∀ x ∈ l, RecOk x := by
  obtain ⟨a, cap, hv, h1, h2, h3, h4, h5⟩ := h
  exact h4
theorem RS.form {w : World} {v : Value} {l : List RecT} (h : RS w v l) : ∃ a cap, v = .slice a l.length cap ∧ l.length ≤ 9223372036854775807 := by
  obtain ⟨a, cap, hv, h1, h2, -⟩ := h
  exact ⟨a, cap, hv, by unfold maxLen at h2; omega⟩
theorem RS.at {w : World} {a : Option Addr} {n cap : Nat} {l : List RecT} (h : RS w (.slice a n cap) l) (i : Nat) (hi : i < l.length) :
    ∃ b o, a = some ⟨b, o, none⟩ ∧ n = l.length ∧ b < w.heap.size ∧ w.cell? ⟨b, o + i * 5, none⟩ = some (.string l[i].1) ∧ w.cell? ⟨b, o + i * 5 + 1, none⟩ = some (.bool l[i].2.1) ∧ w.cell? ⟨b, o + i * 5 + 2, none⟩ = some (.int .i64 l[i].2.2.1) ∧ w.cell? ⟨b, o + i * 5 + 3, none⟩ = some (.int .i64 l[i].2.2.2.1) ∧ w.cell? ⟨b, o + i * 5 + 4, none⟩ = some (.string l[i].2.2.2.2) := by
  obtain ⟨a', cap', hv, h1, h2, h3, h5⟩ := h
  simp only [Value.slice.injEq] at hv
  obtain ⟨rfl, rfl, rfl⟩ := hv
  obtain ⟨b, o, ha, hc⟩ := h5 (by intro e; subst e; simp at hi)
  obtain ⟨c0, c1, c2, c3, c4⟩ := hc i hi
  exact ⟨b, o, ha, rfl, World.block_lt_of_cell? w _ c0, c0, c1, c2, c3, c4⟩
theorem cell_kept {w w' : World} {p : Addr} {c : Value} (h : w.cell? p = some c) (hb : Below w.heap.size w w') : w'.cell? p = some c :=
  (hb.cell (World.block_lt_of_cell? w _ h)).trans h
theorem RS.below {w w' : World} {v : Value} {l : List RecT} (h : RS w v l) (hb : Below w.heap.size w w') : RS w' v l := by
  obtain ⟨a, cap, hv, h1, h2, h3, h5⟩ := h
  refine ⟨a, cap, hv, h1, h2, h3, fun hl => ?_⟩
  obtain ⟨b, o, ha, hc⟩ := h5 hl
  exact ⟨b, o, ha, fun i hi => ⟨cell_kept (hc i hi).1 hb, cell_kept (hc i hi).2.1 hb, cell_kept (hc i hi).2.2.1 hb, cell_kept (hc i hi).2.2.2.1 hb, cell_kept (hc i hi).2.2.2.2 hb⟩⟩
theorem RS.nil (w : World) : RS w (.slice none 0 0) [] := ⟨none, 0, rfl, Nat.le_refl _, by simp [maxLen], fun _ => rfl, fun h => absurd rfl h⟩

/-- v, a slice that was made from block B on, holds l. -/
def OwnRec (w : World) (B : Nat) (v : Value) (l : List RecT) : Prop := w.ownsRow B 39 5 v l.length (flat5 l)
theorem flat5_at : ∀ (l : List RecT) (i j : Nat) (hi : i < l.length), j < 5 → (flat5 l)[i * 5 + j]? = (rc5 l[i])[j]?
  | [], i, j, hi, _ => absurd hi (by simp)
  | x :: l, 0, j, hi, hj => by
    show (rc5 x ++ flat5 l)[0 * 5 + j]? = (rc5 x)[j]?
    rw [Nat.zero_mul, Nat.zero_add, List.getElem?_append_left (by simpa [rc5] using hj)]
  | x :: l, i + 1, j, hi, hj => by
    show (rc5 x ++ flat5 l)[(i + 1) * 5 + j]? = _
    rw [List.getElem?_append_right (by simp [rc5]; omega), show (i + 1) * 5 + j - (rc5 x).length = i * 5 + j from by simp [rc5]; omega]
    exact flat5_at l i j (by simpa using hi) hj
theorem OwnRec.nil (w : World) (B : Nat) : OwnRec w B (.slice none 0 0) [] := World.ownsRow_nil w B _ 5
theorem OwnRec.below {w w' : World} {B : Nat} {v : Value} {l : List RecT} (h : OwnRec w B v l) (hb : Below w.heap.size w w') : OwnRec w' B v l := by
  refine ⟨h.1, ?_⟩
  rcases h.2 with h' | ⟨g, cap, cur, h1, hB, h2, h3⟩
  · exact .inl h'
  · exact .inr ⟨g, cap, cur, h1, hB, (hb.block g (Array.getElem?_eq_some_iff.1 h2).1).trans h2, h3⟩
theorem OwnRec.mono {w : World} {B B' : Nat} {v : Value} {l : List RecT} (h : OwnRec w B v l) (hB : B' ≤ B) : OwnRec w B' v l := by
  refine ⟨h.1, ?_⟩
  rcases h.2 with h' | ⟨g, cap, cur, h1, hb, h2⟩
  · exact .inl h'
  · exact .inr ⟨g, cap, cur, h1, Nat.le_trans hB hb, h2⟩
theorem OwnRec.row {w : World} {B : Nat} {v : Value} {l : List RecT} (h : OwnRec w B v l) : ∀ k, v.ownBlock = some k → B ≤ k := fun k hk => (World.ownsRow.lt h k hk).1
theorem OwnRec.kept {w w' : World} {B : Nat} {v : Value} {l : List RecT} {row : Option Nat} (h : OwnRec w B v l) (hg : w.grownBy w' row) (hne : v.ownBlock = none ∨ v.ownBlock ≠ row) : OwnRec w' B v l := World.ownsRow.kept h hg hne
theorem OwnRec.rs {w : World} {B : Nat} {v : Value} {l : List RecT} (h : OwnRec w B v l) : RS w v l := by
  have c0 := fun (i j : Nat) (hi : i < l.length) (hj : j < 5) => flat5_at l i j hi hj
  rcases h.2 with ⟨h', hn⟩ | ⟨g, cap, cur, rfl, hB, h2, h3, h4, -⟩
  · obtain rfl : l = [] := List.eq_nil_of_length_eq_zero hn
    rw [h']
    exact RS.nil w
  · refine ⟨_, cap, rfl, h3, h4, (fun h => by cases h), fun hl => ⟨g, 0, rfl, fun i hi => ?_⟩⟩
    have c := fun j (hj : j < 5) => (World.ownsRow.cellAt h (i * 5 + j) (by omega)).trans (flat5_at l i j hi hj)
    simp only [Nat.zero_add]
    exact ⟨c 0 (by omega), c 1 (by omega), c 2 (by omega), c 3 (by omega), c 4 (by omega)⟩

theorem info5 : (Try.prog.info? 39).map (fun i => (i.zero, i.size, i.bytes)) = some (some (.agg #[.string ⟨#[]⟩, .bool false, .int .i64 0, .int .i64 0, .string ⟨#[]⟩]), 5, 56) := by kernel_rfl

/-- 'l[j]', in whatever world. -/
theorem run_idx5 (b o n cap j : Nat) (h : j < n) (W : World) : (Instr.indexAt 22 (.slice (some ⟨b, o, none⟩) n cap) (.int .i64 (j : Int))).run Try.prog W = .ok (.pointer (some ⟨b, o + j * 5, none⟩)) W := by
  obtain ⟨i, hi, -, hsize, -⟩ := info_parts info5
  have he : Try.prog.elem 22 = 39 := by kernel_rfl
  have hs : (sizeOf 39).run Try.prog W = .ok 5 W := by simp [sizeOf, typeInfo, hi, hsize]
  have hadd : (⟨b, o, none⟩ : Addr).add (j * 5) = ⟨b, o + j * 5, none⟩ := by unfold Addr.add; split <;> simp_all
  rw [run_indexAt_slice W _ _ _ _ _ _ (by rw [he]; exact Try.underlying22), if_pos ⟨by omega, by omega⟩, he, hs]
  simp [Result.andThen, hadd]

/-- 'append(s, l...)', s the call's own. -/
theorem wpList_append_recs {ops : Array Oper} {rest : List Oper} {o : Oper} {a : Act} {w : World} {Q : Exit → Act → World → Prop} (hgd : o.guard = none) (s x : Operand)
    (ho : o.op = .call { callee := .builtin .append, args := #[s, x], argTypes := #[22, 22] })
    (B : Nat) (v xv : Value) (l m : List RecT) (hs : a.eval s = v) (hx : a.eval x = xv) (hown : OwnRec w B v l) (hrb : RS w xv m) (hl : l.length + m.length ≤ 1000000) (hbase : B ≤ w.heap.size)
    (h : ∀ v' w', OwnRec w' B v' (l ++ m) → w.grownBy w' v.ownBlock → wpList Try.prog ops Q rest (a.put o.dst v') w') : wpList Try.prog ops Q (o :: rest) a w := by
  obtain ⟨i, hi, hz, hsize, hby⟩ := info_parts info5
  have hfl : ∀ l : List RecT, (flat5 l).length = l.length * 5 := by
    intro l
    induction l with
    | nil => rfl
    | cons x l ih =>
      show (rc5 x ++ flat5 l).length = _
      rw [List.length_append, ih, List.length_cons]
      simp [rc5]
      omega
  obtain ⟨ad, cap, rfl, h1, h2, h3, h4⟩ := hrb
  cases ad with
  | none =>
    obtain rfl := h3 rfl
    obtain rfl : m = [] := List.eq_nil_of_length_eq_zero (by omega)
    refine wpList_append_own_none hgd s x _ ho B 39 i 5 Try.underlying22 hi v l.length (flat5 l) hs hown hx ?_
    exact h v w (by simpa using hown) (World.grownBy.refl _ _)
  | some ad =>
    refine wpList_append_own w hgd s x _ ho B 39 i _ 5 56 Try.underlying22 hi hz hsize hby rfl (by decide) v l.length (flat5 l) hs hown ad m.length cap (flat5 m) hx (by rw [hfl]) ?_ ?_ (by unfold maxLen; omega) (by omega) hbase ?_
    · intro j u hj
      have hjm : j < m.length * 5 := by
        rw [← hfl]
        exact (List.getElem?_eq_some_iff.1 hj).1
      have hi5 : j / 5 < m.length := by omega
      obtain ⟨b, o', hao, hc⟩ := h4 (by intro hm; subst hm; simp at hi5)
      cases hao
      have hadd : (⟨b, o', none⟩ : Addr).add j = ⟨b, o' + j, none⟩ := by unfold Addr.add; split <;> simp_all
      rw [hadd]
      obtain ⟨c0, c1, c2, c3, c4⟩ := hc (j / 5) hi5
      have hr := flat5_at m (j / 5) (j % 5) hi5 (by omega)
      rw [show j / 5 * 5 + j % 5 = j from by omega, hj] at hr
      have h5 : j % 5 < 5 := by omega
      rw [show o' + j = o' + j / 5 * 5 + j % 5 from by omega]
      generalize j % 5 = r at *
      match r, h5 with
      | 0, _ => rw [Nat.add_zero, c0]; exact hr.symm
      | 1, _ => rw [c1]; exact hr.symm
      | 2, _ => rw [c2]; exact hr.symm
      | 3, _ => rw [c3]; exact hr.symm
      | 4, _ => rw [c4]; exact hr.symm
      | r + 5, h5 => omega
    · intro u hu
      obtain ⟨x, -, hx⟩ := List.mem_flatMap.1 hu
      simp only [rc5, List.mem_cons, List.not_mem_nil, or_false] at hx
      rcases hx with rfl | rfl | rfl | rfl | rfl <;> rfl
    · intro v' w' hown' hg _
      refine h v' w' ?_ hg
      unfold OwnRec
      rw [List.length_append]
      unfold flat5 at *
      rw [List.flatMap_append]
      exact hown'

/-- One record in a new block of its own. -/
theorem RS.one (w : World) (x : RecT) : RS (w.alloc (.cells #[.string x.1, .bool x.2.1, .int .i64 x.2.2.1, .int .i64 x.2.2.2.1, .string x.2.2.2.2] 39)) (.slice (some ⟨w.heap.size, 0, none⟩) 1 1) [x] := by
  refine ⟨some ⟨w.heap.size, 0, none⟩, 1, rfl, Nat.le_refl _, by simp [maxLen], (fun h => by cases h), fun _ => ⟨w.heap.size, 0, rfl, fun i hi => ?_⟩⟩
  obtain rfl : i = 0 := by simpa using hi
  have c := fun j => cell_of_row _ w.heap.size j _ _ _ (heap_alloc_new w (.cells #[.string x.1, .bool x.2.1, .int .i64 x.2.2.1, .int .i64 x.2.2.2.1, .string x.2.2.2.2] 39))
  exact ⟨c 0, c 1, c 2, c 3, c 4⟩

theorem eqRec_iff (x y : RecT) : eqRec x.1 x.2.1 x.2.2.1 x.2.2.2.1 x.2.2.2.2 y.1 y.2.1 y.2.2.1 y.2.2.2.1 y.2.2.2.2 = decide (x = y) := by
  obtain ⟨k1, g1, a1, b1, s1⟩ := x
  obtain ⟨k2, g2, a2, b2, s2⟩ := y
  rw [Bool.eq_iff_iff, decide_eq_true_eq]
  unfold eqRec
  rw [Bool.and_eq_true, Bool.and_eq_true, eqR_iff, beq_iff_eq, beq_iff_eq]
  constructor
  · rintro ⟨⟨h1, h2⟩, h3, h4, h5⟩
    have : k1 = k2 := by
      rw [ByteArray.toList_eq, ByteArray.toList_eq] at h1
      exact ByteArray.ext (Array.toList_inj.1 h1)
    simp only [] at h2 h3 h4 h5
    subst this h2 h3 h4 h5
    rfl
  · intro h
    cases h
    exact ⟨⟨rfl, rfl⟩, rfl, rfl, rfl⟩

end Go.Proofs.Ytibbligidncocaa

namespace Go.Proofs.Ytibbligidncocaa
open Go.RowKit Go.Op

def keyR (x : RecT) : List UInt8 := x.1.toList
abbrev setR (l : List RecT) (r : RecT) : List RecT := setGo keyR bytesLess r l false

theorem setGo_step (r : RecT) (l : List RecT) (k : Nat) (h : k < l.length) (d : Bool) (acc : List RecT) (p q d' : Bool) (hp : (!d && !(bytesLess (keyR l[k]) (keyR r))) = p) (hq : decide (keyR l[k] = keyR r) = q) (hd : (d || p) = d') (he : acc ++ setGo keyR bytesLess r (l.drop k) d = setR l r) :
    acc ++ (if p then [r] else []) ++ (if q then [] else [l[k]]) ++ setGo keyR bytesLess r (l.drop (k + 1)) d' = setR l r := by
  rw [← he, List.drop_eq_getElem_cons h, setGo, hp, hd]
  subst hq
  simp [List.append_assoc]

/-- The box of the record, in whatever world came later. -/
theorem box_later {w w' : World} {key : ByteArray} {gone : Bool} {k n : Int} {s : ByteArray} (hb : Below (w.alloc (recO key gone k n s)).heap.size (w.alloc (recO key gone k n s)) w') :
    w'.cell? ⟨w.heap.size, 0, none⟩ = some (.string key) ∧ w'.cell? ⟨w.heap.size, 1, none⟩ = some (.bool gone) ∧ w'.cell? ⟨w.heap.size, 2, none⟩ = some (.int .i64 k) ∧ w'.cell? ⟨w.heap.size, 3, none⟩ = some (.int .i64 n) ∧ w'.cell? ⟨w.heap.size, 4, none⟩ = some (.string s) := (rec_box key gone k n s hb).2
theorem setR_len (r : RecT) : ∀ (l : List RecT) (d : Bool), (setGo keyR bytesLess r l d).length ≤ l.length + 1 ∧ (d = true → (setGo keyR bytesLess r l d).length ≤ l.length) := by
  intro l
  induction l with
  | nil => intro d; cases d <;> simp [setGo]
  | cons x t ih =>
    intro d
    rw [setGo]
    simp only [List.length_append, List.length_cons]
    cases d with
    | true =>
      have := (ih true).2 rfl
      simp only [Bool.not_true, Bool.false_and, Bool.false_eq_true, if_false, Bool.true_or, List.length_nil]
      split <;> simp <;> omega
    | false =>
      cases hb : bytesLess (keyR x) (keyR r) with
      | true =>
        have := (ih false).1
        simp only [Bool.not_true, Bool.and_false, Bool.false_eq_true, if_false, Bool.or_false, List.length_nil]
        split <;> simp <;> omega
      | false =>
        have := (ih true).2 rfl
        simp only [Bool.not_false, Bool.and_true, if_true, Bool.or_true, List.length_cons, List.length_nil]
        split <;> simp <;> omega
/-- Nothing is longer than what it becomes. -/
theorem acc_len {acc m l : List RecT} {r : RecT} (h : acc ++ m = setR l r) (hl : l.length ≤ 1000) : acc.length ≤ 1001 := by
  have h1 := (setR_len r l false).1
  unfold setR at h
  rw [← h, List.length_append] at h1
  omega

end Go.Proofs.Ytibbligidncocaa

namespace Go.Proofs.Ytibbligidncocaa
open Go.RowKit Go.Op

abbrev newestR (l : List RecT) : List RecT := newestK keyR bytesLess l
theorem newestR_len (l : List RecT) : (newestR l).length ≤ l.length := by
  have : ∀ (l acc : List RecT), (l.foldl (fun a r => setGo keyR bytesLess r a false) acc).length ≤ acc.length + l.length := by
    intro l
    induction l with
    | nil => intro acc; simp
    | cons x t ih =>
      intro acc
      rw [List.foldl_cons]
      refine Nat.le_trans (ih _) ?_
      have := (setR_len x acc false).1
      simp only [List.length_cons]
      omega
  simpa [newestR, newestK] using this l []
theorem newestR_step (l : List RecT) (k : Nat) (h : k < l.length) : setR (newestR (l.take k)) l[k] = newestR (l.take (k + 1)) := by
  rw [List.take_succ_eq_append_getElem h]
  unfold newestR newestK
  rw [List.foldl_append]
  rfl

end Go.Proofs.Ytibbligidncocaa
