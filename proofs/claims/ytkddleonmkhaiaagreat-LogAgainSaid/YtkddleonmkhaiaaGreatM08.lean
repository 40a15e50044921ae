/-
  Mathematics of stage 10 (of no code): rows that rise by their keys, and what the last of each key is.
  Slices of records: what one reads as, what the call itself makes.
  Mathematics: the order of bytes is an order of keys (of no code).
-/
import Derived.Test.YtkddleonmkhaiaaGreatM01
import Derived.Test.YtkddleonmkhaiaaGreatM07
namespace Go.Proofs.YtkddleonmkhaiaaGreat

section
variable {R K : Type} [DecidableEq K] (key : R → K) (lt : K → K → Bool)

/-- The order of keys. -/
structure Ordered : Prop where
  irr : ∀ a, lt a a = false
  trans : ∀ a b c, lt a b = true → lt b c = true → lt a c = true
  tri : ∀ a b, lt a b = true ∨ a = b ∨ lt b a = true

def Rising (l : List R) : Prop := l.Pairwise fun a b => lt (key a) (key b) = true
def findK (l : List R) (k : K) : Option R := l.find? fun x => decide (key x = k)
/-- One record more: the walk of the reference. -/
def setGo (r : R) : List R → Bool → List R
  | [], done => if done then [] else [r]
  | x :: t, done => (if !done && !(lt (key x) (key r)) then [r] else []) ++ ((if key x = key r then [] else [x]) ++ setGo r t (done || (!done && !(lt (key x) (key r)))))
def newestK (l : List R) : List R := l.foldl (fun a r => setGo key lt r a false) []

variable {key lt}
theorem setGo_done (r : R) : ∀ l : List R, (∀ x ∈ l, key x ≠ key r) → setGo key lt r l true = l := by
  intro l
  induction l with
  | nil => intro _; rfl
  | cons x t ih =>
    intro h
    have hx := h x (List.mem_cons_self ..)
    simp [setGo, hx, ih fun y hy => h y (List.mem_cons_of_mem _ hy)]

/-- Of a row that rises: what lies below, the record, what lies above. -/
theorem setGo_mem (O : Ordered lt) (r : R) : ∀ l : List R, Rising key lt l → ∀ y, y ∈ setGo key lt r l false → y = r ∨ (y ∈ l ∧ key y ≠ key r) := by
  intro l
  induction l with
  | nil => intro _ y hy; simp [setGo] at hy; exact .inl hy
  | cons x t ih =>
    intro hl y hy
    have ht : Rising key lt t := (List.pairwise_cons.1 hl).2
    have hxt := (List.pairwise_cons.1 hl).1
    cases hb : lt (key x) (key r) with
    | true =>
      have hne : key x ≠ key r := fun e => by rw [e, O.irr] at hb; cases hb
      simp [setGo, hb, hne] at hy
      rcases hy with rfl | hy
      · exact .inr ⟨List.mem_cons_self .., hne⟩
      · rcases ih ht y hy with h | h
        · exact .inl h
        · exact .inr ⟨List.mem_cons_of_mem _ h.1, h.2⟩
    | false =>
      have hd : ∀ z ∈ t, key z ≠ key r := by
        intro z hz e
        have := hxt z hz
        rw [e, hb] at this
        cases this
      have e := setGo_done (lt := lt) r t hd
      by_cases hk : key x = key r
      · simp [setGo, hk, O.irr, e] at hy
        rcases hy with h | h
        · exact .inl h
        · exact .inr ⟨List.mem_cons_of_mem _ h, hd y h⟩
      · simp [setGo, hb, hk, e] at hy
        rcases hy with h | h | h
        · exact .inl h
        · subst h; exact .inr ⟨List.mem_cons_self .., hk⟩
        · exact .inr ⟨List.mem_cons_of_mem _ h, hd y h⟩

theorem setGo_rising (O : Ordered lt) (r : R) : ∀ l : List R, Rising key lt l → Rising key lt (setGo key lt r l false) := by
  intro l
  induction l with
  | nil => intro _; simp [setGo, Rising]
  | cons x t ih =>
    intro hl
    have ht : Rising key lt t := (List.pairwise_cons.1 hl).2
    have hxt := (List.pairwise_cons.1 hl).1
    cases hb : lt (key x) (key r) with
    | true =>
      have hne : key x ≠ key r := fun e => by rw [e, O.irr] at hb; cases hb
      have e : setGo key lt r (x :: t) false = x :: setGo key lt r t false := by simp [setGo, hb, hne]
      rw [e]
      refine List.pairwise_cons.2 ⟨fun y hy => ?_, ih ht⟩
      rcases setGo_mem O r t ht y hy with rfl | h
      · exact hb
      · exact hxt y h.1
    | false =>
      have hd : ∀ z ∈ t, key z ≠ key r := by
        intro z hz e
        have := hxt z hz
        rw [e, hb] at this
        cases this
      have e := setGo_done (lt := lt) r t hd
      by_cases hk : key x = key r
      · have e2 : setGo key lt r (x :: t) false = r :: t := by simp [setGo, hk, O.irr, e]
        rw [e2]
        exact List.pairwise_cons.2 ⟨fun y hy => by rw [← hk]; exact hxt y hy, ht⟩
      · have e2 : setGo key lt r (x :: t) false = r :: x :: t := by simp [setGo, hb, hk, e]
        rw [e2]
        have hrx : lt (key r) (key x) = true := by
          rcases O.tri (key x) (key r) with h | h | h
          · rw [h] at hb; cases hb
          · exact absurd h hk
          · exact h
        refine List.pairwise_cons.2 ⟨fun y hy => ?_, hl⟩
        rcases List.mem_cons.1 hy with rfl | h
        · exact hrx
        · exact O.trans _ _ _ hrx (hxt y h)

theorem setGo_find (O : Ordered lt) (r : R) (k : K) : ∀ l : List R, Rising key lt l → findK key (setGo key lt r l false) k = if key r = k then some r else findK key l k := by
  intro l
  induction l with
  | nil => intro _; by_cases h : key r = k <;> simp [setGo, findK, h]
  | cons x t ih =>
    intro hl
    have ht : Rising key lt t := (List.pairwise_cons.1 hl).2
    have hxt := (List.pairwise_cons.1 hl).1
    cases hb : lt (key x) (key r) with
    | true =>
      have hne : key x ≠ key r := fun e => by rw [e, O.irr] at hb; cases hb
      have e : setGo key lt r (x :: t) false = x :: setGo key lt r t false := by simp [setGo, hb, hne]
      rw [e]
      have := ih ht
      unfold findK at this ⊢
      rw [List.find?_cons, List.find?_cons]
      by_cases hx : key x = k
      · have hr : ¬ key r = k := fun h => hne (hx.trans h.symm)
        simp [hx, hr]
      · simp [hx, this]
    | false =>
      have hd : ∀ z ∈ t, key z ≠ key r := by
        intro z hz e
        have := hxt z hz
        rw [e, hb] at this
        cases this
      have e := setGo_done (lt := lt) r t hd
      by_cases hk : key x = key r
      · have e2 : setGo key lt r (x :: t) false = r :: t := by simp [setGo, hk, O.irr, e]
        rw [e2]
        unfold findK
        rw [List.find?_cons, List.find?_cons]
        by_cases hr : key r = k
        · simp [hr]
        · simp [hr, hk]
      · have e2 : setGo key lt r (x :: t) false = r :: x :: t := by simp [setGo, hb, hk, e]
        rw [e2]
        unfold findK
        rw [List.find?_cons]
        by_cases hr : key r = k <;> simp [hr]

theorem rising_ext (O : Ordered lt) : ∀ l m : List R, Rising key lt l → Rising key lt m → (∀ k, findK key l k = findK key m k) → l = m := by
  have hnone : ∀ l : List R, (∀ k, findK key l k = none) → l = [] := by
    intro l h
    cases l with
    | nil => rfl
    | cons x t => have := h (key x); simp [findK] at this
  have habove : ∀ (x : R) (t : List R) (k : K), (∀ a ∈ t, lt (key x) (key a) = true) → lt k (key x) = true ∨ k = key x → findK key t k = none := by
    intro x t k h hk
    unfold findK
    rw [List.find?_eq_none]
    intro a ha
    simp only [decide_eq_true_eq]
    intro e
    have h1 := h a ha
    rw [e] at h1
    rcases hk with h2 | h2
    · have := O.trans _ _ _ h2 h1
      rw [O.irr] at this; cases this
    · rw [h2, O.irr] at h1; cases h1
  intro l
  induction l with
  | nil => intro m _ _ h; exact (hnone m fun k => (h k).symm).symm
  | cons x t ih =>
    intro m hl hm h
    cases m with
    | nil => have := h (key x); simp [findK] at this
    | cons y u =>
      have hxt := (List.pairwise_cons.1 hl).1
      have hyu := (List.pairwise_cons.1 hm).1
      have hx := h (key x)
      have hy := h (key y)
      have hkk : key x = key y := by
        rcases O.tri (key x) (key y) with g | g | g
        · have hne : key y ≠ key x := fun e => by rw [e, O.irr] at g; cases g
          have := habove y u (key x) hyu (.inl g)
          unfold findK at hx this
          rw [List.find?_cons, List.find?_cons, this] at hx
          simp [hne] at hx
        · exact g
        · have hne : key x ≠ key y := fun e => by rw [e, O.irr] at g; cases g
          have := habove x t (key y) hxt (.inl g)
          unfold findK at hy this
          rw [List.find?_cons, List.find?_cons, this] at hy
          simp [hne] at hy
      have hxy : x = y := by
        unfold findK at hx
        rw [List.find?_cons, List.find?_cons] at hx
        simpa [hkk] using hx
      subst hxy
      refine congrArg (x :: ·) (ih u (List.pairwise_cons.1 hl).2 (List.pairwise_cons.1 hm).2 fun k => ?_)
      by_cases hk : key x = k
      · subst hk
        rw [habove x t _ hxt (.inr rfl), habove x u _ hyu (.inr rfl)]
      · have := h k
        unfold findK at this ⊢
        rw [List.find?_cons, List.find?_cons] at this
        simpa [hk] using this

theorem newestK_rising (O : Ordered lt) (l : List R) : Rising key lt (newestK key lt l) := by
  have : ∀ (l a : List R), Rising key lt a → Rising key lt (l.foldl (fun a r => setGo key lt r a false) a) := by
    intro l
    induction l with
    | nil => intro a h; exact h
    | cons r l ih => intro a h; exact ih _ (setGo_rising O r a h)
  exact this l [] List.Pairwise.nil
theorem newestK_find (O : Ordered lt) (l : List R) (k : K) : findK key (newestK key lt l) k = findK key l.reverse k := by
  have : ∀ (l a : List R), Rising key lt a → findK key (l.foldl (fun a r => setGo key lt r a false) a) k = findK key (l.reverse ++ a) k := by
    intro l
    induction l with
    | nil => intro a _; rfl
    | cons r l ih =>
      intro a h
      rw [List.foldl_cons, ih _ (setGo_rising O r a h), List.reverse_cons, List.append_assoc]
      have := setGo_find O r k a h
      unfold findK at this ⊢
      rw [List.find?_append, List.find?_append, this, List.singleton_append, List.find?_cons]
      by_cases hr : key r = k <;> simp [hr]
  have h := this l [] List.Pairwise.nil
  rw [List.append_nil] at h
  exact h
/-- What rises and has of each key the last one is the reference's answer. -/
theorem newestK_of (O : Ordered lt) (l n : List R) (hn : Rising key lt n) (h : ∀ k, findK key n k = findK key l.reverse k) : n = newestK key lt l :=
  rising_ext O n _ hn (newestK_rising O l) fun k => by rw [h, newestK_find O]
theorem rising_rev (O : Ordered lt) (l : List R) (hl : Rising key lt l) (k : K) : findK key l.reverse k = findK key l k := by
  induction l with
  | nil => rfl
  | cons x t ih =>
    have ht := ih (List.pairwise_cons.1 hl).2
    have hxt := (List.pairwise_cons.1 hl).1
    unfold findK at ht ⊢
    rw [List.reverse_cons, List.find?_append, ht, List.find?_cons]
    by_cases hx : key x = k
    · have : t.find? (fun x => decide (key x = k)) = none := by
        rw [List.find?_eq_none]
        intro a ha
        simp only [decide_eq_true_eq]
        intro e
        have := hxt a ha
        rw [e, hx, O.irr] at this
        cases this
      simp [this, hx]
    · simp [hx]
theorem newestK_twice (O : Ordered lt) (l : List R) : newestK key lt (newestK key lt l) = newestK key lt l :=
  (newestK_of O _ _ (newestK_rising O l) fun k => (rising_rev O _ (newestK_rising O l) k).symm).symm
end

end Go.Proofs.YtkddleonmkhaiaaGreat

namespace Go.Proofs.YtkddleonmkhaiaaGreat
open Go.RowKit

def rc5 (x : RecT) : List Value := [.string x.1, .bool x.2.1, .int .i64 x.2.2.1, .int .i64 x.2.2.2.1, .string x.2.2.2.2]
def flat5 (l : List RecT) : List Value := l.flatMap rc5
def recOf (x : RecT) : Value := recV x.1 x.2.1 x.2.2.1 x.2.2.2.1 x.2.2.2.2

theorem rc5_one (x : RecT) : ∀ v ∈ rc5 x, v.oneCell' = true := by
  intro v hv
  simp only [rc5, List.mem_cons, List.not_mem_nil, or_false] at hv
  rcases hv with rfl | rfl | rfl | rfl | rfl <;> rfl

/-- v, a slice of records, reads as l. -/
def RS (w : World) (v : Value) (l : List RecT) : Prop :=
  ∃ a cap, v = .slice a l.length cap ∧ l.length ≤ cap ∧ cap ≤ maxLen ∧ (a = none → cap = 0) ∧
    (l ≠ [] → ∃ b o, a = some ⟨b, o, none⟩ ∧ ∀ i (h : i < l.length), w.cell? ⟨b, o + i * 5, none⟩ = some (.string l[i].1) ∧ w.cell? ⟨b, o + i * 5 + 1, none⟩ = some (.bool l[i].2.1) ∧ w.cell? ⟨b, o + i * 5 + 2, none⟩ = some (.int .i64 l[i].2.2.1) ∧ w.cell? ⟨b, o + i * 5 + 3, none⟩ = some (.int .i64 l[i].2.2.2.1) ∧ w.cell? ⟨b, o + i * 5 + 4, none⟩ = some (.string l[i].2.2.2.2))
theorem RRec.rs {w : World} {v : Value} {l : List RecT} (h : RRec w v l) : RS w v l := by
  obtain ⟨a, cap, hv, h1, h2, h3, -, h5⟩ := h
  exact ⟨a, cap, hv, h1, h2, h3, h5⟩
theorem RRec.ok {w : World} {v : Value} {l : List RecT} (h : RRec w v l) : ∀ x ∈ l, RecOk x := by
  obtain ⟨a, cap, hv, h1, h2, h3, h4, h5⟩ := h
  exact h4
theorem RS.form {w : World} {v : Value} {l : List RecT} (h : RS w v l) : ∃ a cap, v = .slice a l.length cap ∧ l.length ≤ 9223372036854775807 := by
  obtain ⟨a, cap, hv, h1, h2, -⟩ := h
  exact ⟨a, cap, hv, by unfold maxLen at h2; omega⟩
theorem RS.at {w : World} {a : Option Addr} {n cap : Nat} {l : List RecT} (h : RS w (.slice a n cap) l) (i : Nat) (hi : i < l.length) :
    ∃ b o, a = some ⟨b, o, none⟩ ∧ n = l.length ∧ b < w.heap.size ∧ w.cell? ⟨b, o + i * 5, none⟩ = some (.string l[i].1) ∧ w.cell? ⟨b, o + i * 5 + 1, none⟩ = some (.bool l[i].2.1) ∧ w.cell? ⟨b, o + i * 5 + 2, none⟩ = some (.int .i64 l[i].2.2.1) ∧ w.cell? ⟨b, o + i * 5 + 3, none⟩ = some (.int .i64 l[i].2.2.2.1) ∧ w.cell? ⟨b, o + i * 5 + 4, none⟩ = some (.string l[i].2.2.2.2) := by
  obtain ⟨a', cap', hv, h1, h2, h3, h5⟩ := h
  simp only [Value.slice.injEq] at hv
  obtain ⟨rfl, rfl, rfl⟩ := hv
  obtain ⟨b, o, ha, hc⟩ := h5 (by intro e; subst e; simp at hi)
  obtain ⟨c0, c1, c2, c3, c4⟩ := hc i hi
  exact ⟨b, o, ha, rfl, World.block_lt_of_cell? w _ c0, c0, c1, c2, c3, c4⟩
theorem cell_kept {w w' : World} {p : Addr} {c : Value} (h : w.cell? p = some c) (hb : Below w.heap.size w w') : w'.cell? p = some c :=
  (hb.cell (World.block_lt_of_cell? w _ h)).trans h
theorem RS.below {w w' : World} {v : Value} {l : List RecT} (h : RS w v l) (hb : Below w.heap.size w w') : RS w' v l := by
  obtain ⟨a, cap, hv, h1, h2, h3, h5⟩ := h
  refine ⟨a, cap, hv, h1, h2, h3, fun hl => ?_⟩
  obtain ⟨b, o, ha, hc⟩ := h5 hl
  exact ⟨b, o, ha, fun i hi => ⟨cell_kept (hc i hi).1 hb, cell_kept (hc i hi).2.1 hb, cell_kept (hc i hi).2.2.1 hb, cell_kept (hc i hi).2.2.2.1 hb, cell_kept (hc i hi).2.2.2.2 hb⟩⟩
theorem RS.nil (w : World) : RS w (.slice none 0 0) [] := ⟨none, 0, rfl, Nat.le_refl _, by simp [maxLen], fun _ => rfl, fun h => absurd rfl h⟩

/-- v, a slice that was made from block B on, holds l. -/
def OwnRec (w : World) (B : Nat) (v : Value) (l : List RecT) : Prop := w.ownsRow B 33 5 v l.length (flat5 l)
theorem flat5_at : ∀ (l : List RecT) (i j : Nat) (hi : i < l.length), j < 5 → (flat5 l)[i * 5 + j]? = (rc5 l[i])[j]?
  | [], i, j, hi, _ => absurd hi (by simp)
  | x :: l, 0, j, hi, hj => by
    show (rc5 x ++ flat5 l)[0 * 5 + j]? = (rc5 x)[j]?
    rw [Nat.zero_mul, Nat.zero_add, List.getElem?_append_left (by simpa [rc5] using hj)]
  | x :: l, i + 1, j, hi, hj => by
    show (rc5 x ++ flat5 l)[(i + 1) * 5 + j]? = _
    rw [List.getElem?_append_right (by simp [rc5]; omega), show (i + 1) * 5 + j - (rc5 x).length = i * 5 + j from by simp [rc5]; omega]
    exact flat5_at l i j (by simpa using hi) hj
theorem OwnRec.nil (w : World) (B : Nat) : OwnRec w B (.slice none 0 0) [] := World.ownsRow_nil w B _ 5
theorem OwnRec.below {w w' : World} {B : Nat} {v : Value} {l : List RecT} (h : OwnRec w B v l) (hb : Below w.heap.size w w') : OwnRec w' B v l := by
  refine ⟨h.1, ?_⟩
  rcases h.2 with h' | ⟨g, cap, cur, h1, hB, h2, h3⟩
  · exact .inl h'
  · exact .inr ⟨g, cap, cur, h1, hB, (hb.block g (Array.getElem?_eq_some_iff.1 h2).1).trans h2, h3⟩
theorem OwnRec.mono {w : World} {B B' : Nat} {v : Value} {l : List RecT} (h : OwnRec w B v l) (hB : B' ≤ B) : OwnRec w B' v l := by
  refine ⟨h.1, ?_⟩
  rcases h.2 with h' | ⟨g, cap, cur, h1, hb, h2⟩
  · exact .inl h'
  · exact .inr ⟨g, cap, cur, h1, Nat.le_trans hB hb, h2⟩
theorem OwnRec.row {w : World} {B : Nat} {v : Value} {l : List RecT} (h : OwnRec w B v l) : ∀ k, v.ownBlock = some k → B ≤ k := fun k hk => (World.ownsRow.lt h k hk).1
theorem OwnRec.kept {w w' : World} {B : Nat} {v : Value} {l : List RecT} {row : Option Nat} (h : OwnRec w B v l) (hg : w.grownBy w' row) (hne : v.ownBlock = none ∨ v.ownBlock ≠ row) : OwnRec w' B v l := World.ownsRow.kept h hg hne
theorem OwnRec.rs {w : World} {B : Nat} {v : Value} {l : List RecT} (h : OwnRec w B v l) : RS w v l := by
  have c0 := fun (i j : Nat) (hi : i < l.length) (hj : j < 5) => flat5_at l i j hi hj
  rcases h.2 with ⟨h', hn⟩ | ⟨g, cap, cur, rfl, hB, h2, h3, h4, -⟩
  · obtain rfl : l = [] := List.eq_nil_of_length_eq_zero hn
    rw [h']
    exact RS.nil w
  · refine ⟨_, cap, rfl, h3, h4, (fun h => by cases h), fun hl => ⟨g, 0, rfl, fun i hi => ?_⟩⟩
    have c := fun j (hj : j < 5) => (World.ownsRow.cellAt h (i * 5 + j) (by omega)).trans (flat5_at l i j hi hj)
    simp only [Nat.zero_add]
    exact ⟨c 0 (by omega), c 1 (by omega), c 2 (by omega), c 3 (by omega), c 4 (by omega)⟩

theorem info5 : (Tryz.prog.info? 33).map (fun i => (i.zero, i.size, i.bytes)) = some (some (.agg #[.string ⟨#[]⟩, .bool false, .int .i64 0, .int .i64 0, .string ⟨#[]⟩]), 5, 56) := by kernel_rfl

/-- 'l[j]', in whatever world. -/
theorem run_idx5 (b o n cap j : Nat) (h : j < n) (W : World) : (Instr.indexAt 22 (.slice (some ⟨b, o, none⟩) n cap) (.int .i64 (j : Int))).run Tryz.prog W = .ok (.pointer (some ⟨b, o + j * 5, none⟩)) W := by
  obtain ⟨i, hi, -, hsize, -⟩ := info_parts info5
  have he : Tryz.prog.elem 22 = 33 := by kernel_rfl
  have hs : (sizeOf 33).run Tryz.prog W = .ok 5 W := by simp [sizeOf, typeInfo, hi, hsize]
  have hadd : (⟨b, o, none⟩ : Addr).add (j * 5) = ⟨b, o + j * 5, none⟩ := by unfold Addr.add; split <;> simp_all
  rw [run_indexAt_slice W _ _ _ _ _ _ (by rw [he]; exact Tryz.underlying22), if_pos ⟨by omega, by omega⟩, he, hs]
  simp [Result.andThen, hadd]

/-- 'append(s, l...)', s the call's own. -/
theorem wpList_append_recs {ops : Array Oper} {rest : List Oper} {o : Oper} {a : Act} {w : World} {Q : Exit → Act → World → Prop} (hgd : o.guard = none) (s x : Operand)
    (ho : o.op = .call { callee := .builtin .append, args := #[s, x], argTypes := #[22, 22] })
    (B : Nat) (v xv : Value) (l m : List RecT) (hs : a.eval s = v) (hx : a.eval x = xv) (hown : OwnRec w B v l) (hrb : RS w xv m) (hl : l.length + m.length ≤ 1000000) (hbase : B ≤ w.heap.size)
    (h : ∀ v' w', OwnRec w' B v' (l ++ m) → w.grownBy w' v.ownBlock → wpList Tryz.prog ops Q rest (a.put o.dst v') w') : wpList Tryz.prog ops Q (o :: rest) a w := by
  obtain ⟨i, hi, hz, hsize, hby⟩ := info_parts info5
  have hfl : ∀ l : List RecT, (flat5 l).length = l.length * 5 := by
    intro l
    induction l with
    | nil => rfl
    | cons x l ih =>
      show (rc5 x ++ flat5 l).length = _
      rw [List.length_append, ih, List.length_cons]
      simp [rc5]
      omega
  obtain ⟨ad, cap, rfl, h1, h2, h3, h4⟩ := hrb
  cases ad with
  | none =>
    obtain rfl := h3 rfl
    obtain rfl : m = [] := List.eq_nil_of_length_eq_zero (by omega)
    refine wpList_append_own_none hgd s x _ ho B 33 i 5 Tryz.underlying22 hi v l.length (flat5 l) hs hown hx ?_
    exact h v w (by simpa using hown) (World.grownBy.refl _ _)
  | some ad =>
    refine wpList_append_own w hgd s x _ ho B 33 i _ 5 56 Tryz.underlying22 hi hz hsize hby rfl (by decide) v l.length (flat5 l) hs hown ad m.length cap (flat5 m) hx (by rw [hfl]) ?_ ?_ (by unfold maxLen; omega) (by omega) hbase ?_
    · intro j u hj
      have hjm : j < m.length * 5 := by
        rw [← hfl]
        exact (List.getElem?_eq_some_iff.1 hj).1
      have hi5 : j / 5 < m.length := by omega
      obtain ⟨b, o', hao, hc⟩ := h4 (by intro hm; subst hm; simp at hi5)
      cases hao
      have hadd : (⟨b, o', none⟩ : Addr).add j = ⟨b, o' + j, none⟩ := by unfold Addr.add; split <;> simp_all
      rw [hadd]
      obtain ⟨c0, c1, c2, c3, c4⟩ := hc (j / 5) hi5
      have hr := flat5_at m (j / 5) (j % 5) hi5 (by omega)
      rw [show j / 5 * 5 + j % 5 = j from by omega, hj] at hr
      have h5 : j % 5 < 5 := by omega
      rw [show o' + j = o' + j / 5 * 5 + j % 5 from by omega]
      generalize j % 5 = r at *
      match r, h5 with
      | 0, _ => rw [Nat.add_zero, c0]; exact hr.symm
      | 1, _ => rw [c1]; exact hr.symm
      | 2, _ => rw [c2]; exact hr.symm
      | 3, _ => rw [c3]; exact hr.symm
      | 4, _ => rw [c4]; exact hr.symm
      | r + 5, h5 => omega
    · intro u hu
      obtain ⟨x, -, hx⟩ := List.mem_flatMap.1 hu
      simp only [rc5, List.mem_cons, List.not_mem_nil, or_false] at hx
      rcases hx with rfl | rfl | rfl | rfl | rfl <;> rfl
    · intro v' w' hown' hg _
      refine h v' w' ?_ hg
      unfold OwnRec
      rw [List.length_append]
      unfold flat5 at *
      rw [List.flatMap_append]
      exact hown'

/-- One record in a new block of its own. -/
theorem RS.one (w : World) (x : RecT) : RS (w.alloc (.cells #[.string x.1, .bool x.2.1, .int .i64 x.2.2.1, .int .i64 x.2.2.2.1, .string x.2.2.2.2] 33)) (.slice (some ⟨w.heap.size, 0, none⟩) 1 1) [x] := by
  refine ⟨some ⟨w.heap.size, 0, none⟩, 1, rfl, Nat.le_refl _, by simp [maxLen], (fun h => by cases h), fun _ => ⟨w.heap.size, 0, rfl, fun i hi => ?_⟩⟩
  obtain rfl : i = 0 := by simpa using hi
  have c := fun j => cell_of_row _ w.heap.size j _ _ _ (heap_alloc_new w (.cells #[.string x.1, .bool x.2.1, .int .i64 x.2.2.1, .int .i64 x.2.2.2.1, .string x.2.2.2.2] 33))
  exact ⟨c 0, c 1, c 2, c 3, c 4⟩

theorem eqRec_iff (x y : RecT) : eqRec x.1 x.2.1 x.2.2.1 x.2.2.2.1 x.2.2.2.2 y.1 y.2.1 y.2.2.1 y.2.2.2.1 y.2.2.2.2 = decide (x = y) := by
  obtain ⟨k1, g1, a1, b1, s1⟩ := x
  obtain ⟨k2, g2, a2, b2, s2⟩ := y
  rw [Bool.eq_iff_iff, decide_eq_true_eq]
  unfold eqRec
  rw [Bool.and_eq_true, Bool.and_eq_true, eqR_iff, beq_iff_eq, beq_iff_eq]
  constructor
  · rintro ⟨⟨h1, h2⟩, h3, h4, h5⟩
    have : k1 = k2 := by
      rw [ByteArray.toList_eq, ByteArray.toList_eq] at h1
      exact ByteArray.ext (Array.toList_inj.1 h1)
    simp only [] at h2 h3 h4 h5
    subst this h2 h3 h4 h5
    rfl
  · intro h
    cases h
    exact ⟨⟨rfl, rfl⟩, rfl, rfl, rfl⟩

end Go.Proofs.YtkddleonmkhaiaaGreat

namespace Go.Proofs.YtkddleonmkhaiaaGreat
open Go.Op

theorem less_irr : ∀ x, bytesLess x x = false
  | [] => rfl
  | a :: x => by simp [bytesLess, less_irr x]
theorem less_trans : ∀ x y z, bytesLess x y = true → bytesLess y z = true → bytesLess x z = true
  | [], [], _, h, _ => by cases h
  | [], _ :: _, [], _, h => by cases h
  | [], _ :: _, _ :: _, _, _ => rfl
  | _ :: _, [], _, h, _ => by cases h
  | _ :: _, _ :: _, [], _, h => by cases h
  | a :: x, b :: y, c :: z, h, g => by
    simp only [bytesLess, Bool.or_eq_true, decide_eq_true_eq, Bool.and_eq_true, beq_iff_eq] at h g ⊢
    rcases h with h | ⟨rfl, h⟩
    · rcases g with g | ⟨rfl, -⟩
      · exact .inl (UInt8.lt_trans h g)
      · exact .inl h
    · rcases g with g | ⟨rfl, g⟩
      · exact .inl g
      · exact .inr ⟨rfl, less_trans x y z h g⟩
theorem less_tri : ∀ x y, bytesLess x y = true ∨ x = y ∨ bytesLess y x = true
  | [], [] => .inr (.inl rfl)
  | [], _ :: _ => .inl rfl
  | _ :: _, [] => .inr (.inr rfl)
  | a :: x, b :: y => by
    simp only [bytesLess, Bool.or_eq_true, decide_eq_true_eq, Bool.and_eq_true, beq_iff_eq]
    rcases Nat.lt_trichotomy a.toNat b.toNat with h | h | h
    · exact .inl (.inl (UInt8.lt_iff_toNat_lt.2 h))
    · obtain rfl := UInt8.toNat_inj.1 h
      rcases less_tri x y with h | h | h
      · exact .inl (.inr ⟨rfl, h⟩)
      · exact .inr (.inl (by rw [h]))
      · exact .inr (.inr (.inr ⟨rfl, h⟩))
    · exact .inr (.inr (.inl (UInt8.lt_iff_toNat_lt.2 h)))
theorem ordR : Ordered bytesLess := ⟨less_irr, less_trans, less_tri⟩

end Go.Proofs.YtkddleonmkhaiaaGreat
