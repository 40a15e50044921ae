/-
  Slices of entries (a name, three numbers; an entry's cells lie flat: Name, Len, Span.At, Span.Len): as an argument, as one that is read, as one that the call makes.
-/
import Derived.Test.YteickihofbkbkaaBase
import Derived.Lib.SmallJoins
import Derived.Deep.Slices
import Derived.Deep.Fields
import Derived.ChangeSame
namespace Go.Proofs.Yteickihofbkbkaa
open Go.RowKit Go.Joins Go.ChangeShapes Go.WideShapes Go.Deep

/-- Name, Len, Span.At, Span.Len. -/
abbrev EntT := ByteArray × Int × Int × Int
def EntOk (x : EntT) : Prop := x.1.size ≤ maxLen ∧ (Lit.int .i64 x.2.1).wf = true ∧ (Lit.int .i64 x.2.2.1).wf = true ∧ (Lit.int .i64 x.2.2.2).wf = true
/-- An entry as the program holds it. -/
def entV (nm : ByteArray) (n a s : Int) : Value := .agg #[.string nm, .int .i64 n, .int .i64 a, .int .i64 s]
def entO (nm : ByteArray) (n a s : Int) : Obj := .cells #[.string nm, .int .i64 n, .int .i64 a, .int .i64 s] 32

set_option maxRecDepth 100000 in
/-- What four cells hold. -/
theorem ent_cells {H : Type} {enc : TypeId × Value → H} {W : World} {fuel : Nat} {c0 c1 c2 c3 : Value} {x : DataW H × List MemPlace} (h : DataW.trod enc Try.prog W 0 (fun _ => true) true fuel 32 [c0, c1, c2, c3] = some x) :
    ∃ nm n a s, c0 = .string nm ∧ c1 = .int .i64 n ∧ c2 = .int .i64 a ∧ c3 = .int .i64 s ∧ EntOk (nm, n, a, s) := by
  have g0 : Try.prog.cellsOf 3 = 1 := by kernel_rfl
  have g2 : Try.prog.cellsOf 9 = 1 := by kernel_rfl
  have g4 : Try.prog.cellsOf 30 = 2 := by kernel_rfl
  obtain ⟨y0, y1, y2, m, -, -, h0, h1, h2⟩ := trod_struct3 Try.underlying32 h
  simp only [g0, g2, g4, List.drop_zero, List.drop_succ_cons, List.take_succ_cons, List.take_zero] at h0 h1 h2
  obtain ⟨z0, z1, m', -, -, k0, k1⟩ := trod_struct2 Try.underlying30 h2
  simp only [g0, List.drop_zero, List.drop_succ_cons, List.take_succ_cons, List.take_zero] at k0 k1
  obtain ⟨nm, e0, -, w0⟩ := DataW.trod_string Try.underlying9 h0
  obtain ⟨n, e1, -, w1⟩ := DataW.trod_int Try.underlying3 h1
  obtain ⟨a, e2, -, w2⟩ := DataW.trod_int Try.underlying3 k0
  obtain ⟨s, e3, -, w3⟩ := DataW.trod_int Try.underlying3 k1
  simp only [List.cons.injEq, and_true] at e0 e1 e2 e3
  exact ⟨nm, n, a, s, e0, e1, e2, e3, w0, w1, w2, w3⟩

/-- v, a slice of entries, reads as l. -/
def RE (w : World) (v : Value) (l : List EntT) : Prop :=
  ∃ a cap, v = .slice a l.length cap ∧ l.length ≤ cap ∧ cap ≤ maxLen ∧ (a = none → cap = 0) ∧
    (l ≠ [] → ∃ b o, a = some ⟨b, o, none⟩ ∧ ∀ i (h : i < l.length), w.cell? ⟨b, o + i * 4, none⟩ = some (.string l[i].1) ∧ w.cell? ⟨b, o + i * 4 + 1, none⟩ = some (.int .i64 l[i].2.1) ∧ w.cell? ⟨b, o + i * 4 + 2, none⟩ = some (.int .i64 l[i].2.2.1) ∧ w.cell? ⟨b, o + i * 4 + 3, none⟩ = some (.int .i64 l[i].2.2.2))

theorem list_of_ent {α : Type} (n : Nat) (p : Nat → α → Prop) (h : ∀ i, i < n → ∃ x, p i x) : ∃ l : List α, l.length = n ∧ ∀ i (hi : i < l.length), p i l[i] := by
  induction n with
  | zero => exact ⟨[], rfl, fun i hi => absurd hi (by simp)⟩
  | succ n ih =>
    obtain ⟨l, hl, hp⟩ := ih fun i hi => h i (by omega)
    obtain ⟨x, hx⟩ := h n (by omega)
    refine ⟨l ++ [x], by simp [hl], fun i hi => ?_⟩
    by_cases hin : i < l.length
    · rw [List.getElem_append_left hin]; exact hp i hin
    · obtain rfl : i = n := by simp at hi; omega
      simpa [hl] using hx

/-- An argument. -/
def REnt (w : World) (v : Value) (l : List EntT) : Prop := RE w v l ∧ ∀ x ∈ l, EntOk x

set_option maxRecDepth 100000 in
theorem open_ents {H : Type} {enc : TypeId × Value → H} {W : World} {a : Option Addr} {len cap : Nat} {d : DataW H} {p : List MemPlace} (h : DataW.Trod enc Try.prog W 0 (fun _ => true) true 22 (.slice a len cap) d p) :
    ∃ l, REnt W (.slice a len cap) l := by
  obtain ⟨fuel, hf⟩ := h
  rcases open_slice Try.underlying22 hf with ⟨hcs, -⟩ | ⟨x, l, c, m, n, D, Pl, hcs, hb, hl, hm, hmm, -, hi⟩
  · simp [Value.cells] at hcs
    obtain ⟨rfl, rfl, rfl⟩ := hcs
    exact ⟨[], ⟨none, 0, rfl, Nat.le_refl _, by simp [maxLen], fun _ => rfl, fun h => absurd rfl h⟩, fun x hx => by cases hx⟩
  · simp [Value.cells] at hcs
    obtain ⟨rfl, rfl, rfl⟩ := hcs
    have hC : Try.prog.cellsOf 32 = 4 := by kernel_rfl
    simp only [if_true] at hmm
    subst hmm
    have key : ∀ i, i < len → ∃ y : EntT, EntOk y ∧ W.cell? (x.add (i * 4)) = some (.string y.1) ∧ W.cell? ((x.add (i * 4)).add 1) = some (.int .i64 y.2.1) ∧ W.cell? ((x.add (i * 4)).add 2) = some (.int .i64 y.2.2.1) ∧ W.cell? ((x.add (i * 4)).add 3) = some (.int .i64 y.2.2.2) := by
      intro i hil
      obtain ⟨cs', hc, ht⟩ := hi i (by omega)
      rw [hC] at hc
      obtain ⟨-, hcl, hat⟩ := World.cells?_some hc
      obtain ⟨c0, c1, c2, c3, rfl⟩ : ∃ c0 c1 c2 c3, cs' = [c0, c1, c2, c3] := by
        match cs', hcl with
        | [c0, c1, c2, c3], _ => exact ⟨c0, c1, c2, c3, rfl⟩
      obtain ⟨nm, n, a, s, rfl, rfl, rfl, rfl, ok⟩ := ent_cells ht
      have hz : (x.add (i * 4)).add 0 = x.add (i * 4) := by generalize x.add (i * 4) = y; unfold Addr.add; simp
      have t0 := hat 0 (by omega)
      rw [hz] at t0
      exact ⟨(nm, n, a, s), ok, t0, hat 1 (by omega), hat 2 (by omega), hat 3 (by omega)⟩
    obtain ⟨L, hL, hp⟩ := list_of_ent len _ key
    subst hL
    refine ⟨L, ⟨some x, _, rfl, hl, hm, (fun h => by cases h), ?_⟩, ?_⟩
    · intro hne
      obtain ⟨b, o, spot⟩ := x
      have h0 := (hp 0 (List.length_pos_iff.2 hne)).2.1
      have hspot : spot = none := by simpa [Addr.add] using World.cell?_spot h0
      subst hspot
      have hadd (j k : Nat) : (⟨b, j, none⟩ : Addr).add k = ⟨b, j + k, none⟩ := by unfold Addr.add; split <;> simp_all
      refine ⟨b, o, rfl, fun i hi' => ?_⟩
      have := (hp i hi').2
      rw [hadd, hadd, hadd, hadd] at this
      exact this
    · intro y hy
      obtain ⟨i, hi', rfl⟩ := List.mem_iff_getElem.1 hy
      exact (hp i hi').1

section
variable {w w' : World} {v : Value} {l : List EntT}
theorem RE.form (h : RE w v l) : ∃ a cap, v = .slice a l.length cap ∧ l.length ≤ 9223372036854775807 := by
  obtain ⟨a, cap, hv, h1, h2, -⟩ := h
  exact ⟨a, cap, hv, by unfold maxLen at h2; omega⟩
theorem RE.at {a : Option Addr} {n cap : Nat} (h : RE w (.slice a n cap) l) (i : Nat) (hi : i < l.length) :
    ∃ b o, a = some ⟨b, o, none⟩ ∧ n = l.length ∧ b < w.heap.size ∧ w.cell? ⟨b, o + i * 4, none⟩ = some (.string l[i].1) ∧ w.cell? ⟨b, o + i * 4 + 1, none⟩ = some (.int .i64 l[i].2.1) ∧ w.cell? ⟨b, o + i * 4 + 2, none⟩ = some (.int .i64 l[i].2.2.1) ∧ w.cell? ⟨b, o + i * 4 + 3, none⟩ = some (.int .i64 l[i].2.2.2) := by
  obtain ⟨a', cap', hv, h1, h2, h3, h5⟩ := h
  simp only [Value.slice.injEq] at hv
  obtain ⟨rfl, rfl, rfl⟩ := hv
  obtain ⟨b, o, ha, hc⟩ := h5 (by intro e; subst e; simp at hi)
  obtain ⟨c0, c1, c2, c3⟩ := hc i hi
  exact ⟨b, o, ha, rfl, World.block_lt_of_cell? w _ c0, c0, c1, c2, c3⟩
theorem keptC {p : Addr} {c : Value} (h : w.cell? p = some c) (hb : Below w.heap.size w w') : w'.cell? p = some c :=
  (hb.cell (World.block_lt_of_cell? w _ h)).trans h
theorem RE.below (h : RE w v l) (hb : Below w.heap.size w w') : RE w' v l := by
  obtain ⟨a, cap, hv, h1, h2, h3, h5⟩ := h
  refine ⟨a, cap, hv, h1, h2, h3, fun hl => ?_⟩
  obtain ⟨b, o, ha, hc⟩ := h5 hl
  exact ⟨b, o, ha, fun i hi => ⟨keptC (hc i hi).1 hb, keptC (hc i hi).2.1 hb, keptC (hc i hi).2.2.1 hb, keptC (hc i hi).2.2.2 hb⟩⟩
theorem RE.nil (w : World) : RE w (.slice none 0 0) [] := ⟨none, 0, rfl, Nat.le_refl _, by simp [maxLen], fun _ => rfl, fun h => absurd rfl h⟩
theorem REnt.below (h : REnt w v l) (hb : Below w.heap.size w w') : REnt w' v l := ⟨h.1.below hb, h.2⟩
end

def ec (x : EntT) : List Value := [.string x.1, .int .i64 x.2.1, .int .i64 x.2.2.1, .int .i64 x.2.2.2]
def flatE (l : List EntT) : List Value := l.flatMap ec
/-- v, a slice that was made from block B on, holds l. -/
def OwnE (w : World) (B : Nat) (v : Value) (l : List EntT) : Prop := w.ownsRow B 32 4 v l.length (flatE l)
theorem flatE_at : ∀ (l : List EntT) (i j : Nat) (hi : i < l.length), j < 4 → (flatE l)[i * 4 + j]? = (ec l[i])[j]?
  | [], i, j, hi, _ => absurd hi (by simp)
  | x :: l, 0, j, hi, hj => by
    show (ec x ++ flatE l)[0 * 4 + j]? = (ec x)[j]?
    rw [Nat.zero_mul, Nat.zero_add, List.getElem?_append_left (by simpa [ec] using hj)]
  | x :: l, i + 1, j, hi, hj => by
    show (ec x ++ flatE l)[(i + 1) * 4 + j]? = _
    rw [List.getElem?_append_right (by simp [ec]; omega), show (i + 1) * 4 + j - (ec x).length = i * 4 + j from by simp [ec]; omega]
    exact flatE_at l i j (by simpa using hi) hj
theorem flatE_len (l : List EntT) : (flatE l).length = l.length * 4 := by
  induction l with
  | nil => rfl
  | cons x l ih =>
    show (ec x ++ flatE l).length = _
    rw [List.length_append, ih, List.length_cons]
    simp [ec]
    omega
theorem OwnE.nil (w : World) (B : Nat) : OwnE w B (.slice none 0 0) [] := World.ownsRow_nil w B _ 4
section
variable {w w' : World} {B : Nat} {v : Value} {l : List EntT}
theorem OwnE.below (h : OwnE w B v l) (hb : Below w.heap.size w w') : OwnE w' B v l := by
  refine ⟨h.1, ?_⟩
  rcases h.2 with h' | ⟨g, cap, cur, h1, hB, h2, h3⟩
  · exact .inl h'
  · exact .inr ⟨g, cap, cur, h1, hB, (hb.block g (Array.getElem?_eq_some_iff.1 h2).1).trans h2, h3⟩
theorem OwnE.mono {B' : Nat} (h : OwnE w B v l) (hB : B' ≤ B) : OwnE w B' v l := by
  refine ⟨h.1, ?_⟩
  rcases h.2 with h' | ⟨g, cap, cur, h1, hb, h2⟩
  · exact .inl h'
  · exact .inr ⟨g, cap, cur, h1, Nat.le_trans hB hb, h2⟩
theorem OwnE.row (h : OwnE w B v l) : ∀ k, v.ownBlock = some k → B ≤ k := fun k hk => (World.ownsRow.lt h k hk).1
/-- Another block is written to. -/
theorem OwnE.same (h : OwnE w B v l) (hk : ∀ k cs fr, w.heap[k]? = some (.cells cs 32 fr) → B ≤ k → w'.heap[k]? = w.heap[k]?) : OwnE w' B v l := by
  refine ⟨h.1, ?_⟩
  rcases h.2 with h' | ⟨g, cap, cur, h1, hB, h2, h3⟩
  · exact .inl h'
  · exact .inr ⟨g, cap, cur, h1, hB, (hk g _ _ h2 hB).trans h2, h3⟩
theorem OwnE.re (h : OwnE w B v l) : RE w v l := by
  rcases h.2 with ⟨h', hn⟩ | ⟨g, cap, cur, rfl, hB, h2, h3, h4, -⟩
  · obtain rfl : l = [] := List.eq_nil_of_length_eq_zero hn
    rw [h']
    exact RE.nil w
  · refine ⟨_, cap, rfl, h3, h4, (fun h => by cases h), fun hl => ⟨g, 0, rfl, fun i hi => ?_⟩⟩
    have c := fun j (hj : j < 4) => (World.ownsRow.cellAt h (i * 4 + j) (by omega)).trans (flatE_at l i j hi hj)
    simp only [Nat.zero_add]
    exact ⟨c 0 (by omega), c 1 (by omega), c 2 (by omega), c 3 (by omega)⟩
end

theorem infoE : (Try.prog.info? 32).map (fun i => (i.zero, i.size, i.bytes)) = some (some (.agg #[.string ⟨#[]⟩, .int .i64 0, .int .i64 0, .int .i64 0]), 4, 40) := by kernel_rfl

/-- 'l[j]', in whatever world. -/
theorem run_idxE (b o n cap j : Nat) (h : j < n) (W : World) : (Instr.indexAt 22 (.slice (some ⟨b, o, none⟩) n cap) (.int .i64 (j : Int))).run Try.prog W = .ok (.pointer (some ⟨b, o + j * 4, none⟩)) W := by
  obtain ⟨i, hi, -, hsize, -⟩ := info_parts infoE
  have he : Try.prog.elem 22 = 32 := by kernel_rfl
  have hs : (sizeOf 32).run Try.prog W = .ok 4 W := by simp [sizeOf, typeInfo, hi, hsize]
  have hadd : (⟨b, o, none⟩ : Addr).add (j * 4) = ⟨b, o + j * 4, none⟩ := by unfold Addr.add; split <;> simp_all
  rw [run_indexAt_slice W _ _ _ _ _ _ (by rw [he]; exact Try.underlying22), if_pos ⟨by omega, by omega⟩, he, hs]
  simp [Result.andThen, hadd]

/-- 'append(s, l...)', s the call's own. -/
theorem wpList_append_ents {ops : Array Oper} {rest : List Oper} {o : Oper} {a : Act} {w : World} {Q : Exit → Act → World → Prop} (hgd : o.guard = none) (s x : Operand)
    (ho : o.op = .call { callee := .builtin .append, args := #[s, x], argTypes := #[22, 22] })
    (B : Nat) (v xv : Value) (l m : List EntT) (hs : a.eval s = v) (hx : a.eval x = xv) (hown : OwnE w B v l) (hrb : RE w xv m) (hl : l.length + m.length ≤ 1000000) (hbase : B ≤ w.heap.size)
    (h : ∀ v' w', OwnE w' B v' (l ++ m) → w.grownBy w' v.ownBlock → wpList Try.prog ops Q rest (a.put o.dst v') w') : wpList Try.prog ops Q (o :: rest) a w := by
  obtain ⟨i, hi, hz, hsize, hby⟩ := info_parts infoE
  obtain ⟨ad, cap, rfl, h1, h2, h3, h4⟩ := hrb
  cases ad with
  | none =>
    obtain rfl := h3 rfl
    obtain rfl : m = [] := List.eq_nil_of_length_eq_zero (by omega)
    refine wpList_append_own_none hgd s x _ ho B 32 i 4 Try.underlying22 hi v l.length (flatE l) hs hown hx ?_
    exact h v w (by simpa using hown) (World.grownBy.refl _ _)
  | some ad =>
    refine wpList_append_own w hgd s x _ ho B 32 i _ 4 40 Try.underlying22 hi hz hsize hby rfl (by decide) v l.length (flatE l) hs hown ad m.length cap (flatE m) hx (by rw [flatE_len]) ?_ ?_ (by unfold maxLen; omega) (by omega) hbase ?_
    · intro j u hj
      have hjm : j < m.length * 4 := by
        rw [← flatE_len]
        exact (List.getElem?_eq_some_iff.1 hj).1
      have hi4 : j / 4 < m.length := by omega
      obtain ⟨b, o', hao, hc⟩ := h4 (by intro hm; subst hm; simp at hi4)
      cases hao
      have hadd : (⟨b, o', none⟩ : Addr).add j = ⟨b, o' + j, none⟩ := by unfold Addr.add; split <;> simp_all
      rw [hadd]
      obtain ⟨c0, c1, c2, c3⟩ := hc (j / 4) hi4
      have hr := flatE_at m (j / 4) (j % 4) hi4 (by omega)
      rw [show j / 4 * 4 + j % 4 = j from by omega, hj] at hr
      have h5 : j % 4 < 4 := by omega
      rw [show o' + j = o' + j / 4 * 4 + j % 4 from by omega]
      generalize j % 4 = r at *
      match r, h5 with
      | 0, _ => rw [Nat.add_zero, c0]; exact hr.symm
      | 1, _ => rw [c1]; exact hr.symm
      | 2, _ => rw [c2]; exact hr.symm
      | 3, _ => rw [c3]; exact hr.symm
      | r + 4, h5 => omega
    · intro u hu
      obtain ⟨x, -, hx⟩ := List.mem_flatMap.1 hu
      simp only [ec, List.mem_cons, List.not_mem_nil, or_false] at hx
      rcases hx with rfl | rfl | rfl | rfl <;> rfl
    · intro v' w' hown' hg _
      refine h v' w' ?_ hg
      unfold OwnE
      rw [List.length_append]
      unfold flatE at *
      rw [List.flatMap_append]
      exact hown'

/-- 'make([]dir.Entry, 0, n)'. -/
theorem wpList_make_ents {ops : Array Oper} {rest : List Oper} {o : Oper} {a : Act} {w : World} {Q : Exit → Act → World → Prop} (hgd : o.guard = none) (lo co : Operand)
    (hop : o.op = Op.makeSlice 22 lo co) (kc : IntKind) (C : Int) (c : Nat) (hl : a.eval lo = .int .i64 0) (hc : a.eval co = .int kc C) (hC : C = (c : Int)) (hcm : c ≤ 1000)
    (h : ∀ v w', OwnE w' w.heap.size v [] → w.grownBy w' none → wpList Try.prog ops Q rest (a.put o.dst v) w') : wpList Try.prog ops Q (o :: rest) a w := by
  obtain ⟨i, hi, hz, hsize, hby⟩ := info_parts infoE
  subst hC
  have hr := run_make (P := Try.prog) w 22 32 i _ Try.underlying22 hi hz .i64 kc 0 c (by omega) (by omega) (by rw [hby]; omega) (by omega)
  simp only [Int.toNat_natCast, hsize] at hr
  refine wpList_gives hgd (.slice (some ⟨w.heap.size, 0, none⟩) 0 c) (w.alloc (.cells (madeCells (Value.agg #[.string ⟨#[]⟩, .int .i64 0, .int .i64 0, .int .i64 0]).cells (c * 4)) 32)) (by simp at hr; simp [execOp, hop, hl, hc, hr, Result.andThen]) (h _ _ ?_ (World.grownBy_alloc w _ none))
  refine ⟨rfl, .inr ⟨w.heap.size, c, _, rfl, Nat.le_refl _, heap_alloc_new w _, by simp, by unfold maxLen; omega, ?_, ?_⟩⟩
  · simp [size_madeCells, Value.cells]
  · simp [flatE]

/-- One entry in a new block of its own. -/
theorem RE.one (w : World) (nm : ByteArray) (n a s : Int) : RE (w.alloc (entO nm n a s)) (.slice (some ⟨w.heap.size, 0, none⟩) 1 1) [(nm, n, a, s)] := by
  refine ⟨some ⟨w.heap.size, 0, none⟩, 1, rfl, Nat.le_refl _, by simp [maxLen], (fun h => by cases h), fun _ => ⟨w.heap.size, 0, rfl, fun i hi => ?_⟩⟩
  obtain rfl : i = 0 := by simpa using hi
  have c := fun j => cell_of_row _ w.heap.size j _ _ _ (heap_alloc_new w (entO nm n a s))
  exact ⟨c 0, c 1, c 2, c 3⟩

theorem newB (w : World) (o : Obj) : Below w.heap.size w (w.alloc o) := (Below.refl _ w).alloc (Nat.le_refl _) o
theorem keptR {w w' : World} {b : Nat} {o : Obj} (h : w.heap[b]? = some o) (hb : Below w.heap.size w w') : w'.heap[b]? = some o := (hb.block _ (Array.getElem?_eq_some_iff.1 h).1).trans h
theorem row4 {w : World} {b : Nat} {a0 a1 a2 a3 : Value} {t : TypeId} {fr : Nat × Nat} (h : w.heap[b]? = some (.cells #[a0, a1, a2, a3] t fr)) :
    w.cell? ⟨b, 0, none⟩ = some a0 ∧ w.cell? ⟨b, 1, none⟩ = some a1 ∧ w.cell? ⟨b, 2, none⟩ = some a2 ∧ w.cell? ⟨b, 3, none⟩ = some a3 := by
  have c := fun j => cell_of_row w b j _ _ _ h
  exact ⟨c 0, c 1, c 2, c 3⟩
theorem ltR {w : World} {b : Nat} {o : Obj} (h : w.heap[b]? = some o) : b < w.heap.size := (Array.getElem?_eq_some_iff.1 h).1

end Go.Proofs.Yteickihofbkbkaa
