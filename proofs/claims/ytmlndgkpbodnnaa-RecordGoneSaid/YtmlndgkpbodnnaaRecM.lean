/-
  Mathematics of stage 10 (of no code): rows that rise by their keys, and what the last of each key is.
-/
import Derived.Test.YtmlndgkpbodnnaaBase
namespace Go.Proofs.Ytmlndgkpbodnnaa

section
variable {R K : Type} [DecidableEq K] (key : R → K) (lt : K → K → Bool)

/-- The order of keys. -/
structure Ordered : Prop where
  irr : ∀ a, lt a a = false
  trans : ∀ a b c, lt a b = true → lt b c = true → lt a c = true
  tri : ∀ a b, lt a b = true ∨ a = b ∨ lt b a = true

def Rising (l : List R) : Prop := l.Pairwise fun a b => lt (key a) (key b) = true
def findK (l : List R) (k : K) : Option R := l.find? fun x => decide (key x = k)
/-- One record more: the walk of the reference. -/
def setGo (r : R) : List R → Bool → List R
  | [], done => if done then [] else [r]
  | x :: t, done => (if !done && !(lt (key x) (key r)) then [r] else []) ++ ((if key x = key r then [] else [x]) ++ setGo r t (done || (!done && !(lt (key x) (key r)))))
def newestK (l : List R) : List R := l.foldl (fun a r => setGo key lt r a false) []

variable {key lt}
theorem setGo_done (r : R) : ∀ l : List R, (∀ x ∈ l, key x ≠ key r) → setGo key lt r l true = l := by
  intro l
  induction l with
  | nil => intro _; rfl
  | cons x t ih =>
    intro h
    have hx := h x (List.mem_cons_self ..)
    simp [setGo, hx, ih fun y hy => h y (List.mem_cons_of_mem _ hy)]

/-- Of a row that rises: what lies below, the record, what lies above. -/
theorem setGo_mem (O : Ordered lt) (r : R) : ∀ l : List R, Rising key lt l → ∀ y, y ∈ setGo key lt r l false → y = r ∨ (y ∈ l ∧ key y ≠ key r) := by
  intro l
  induction l with
  | nil => intro _ y hy; simp [setGo] at hy; exact .inl hy
  | cons x t ih =>
    intro hl y hy
    have ht : Rising key lt t := (List.pairwise_cons.1 hl).2
    have hxt := (List.pairwise_cons.1 hl).1
    cases hb : lt (key x) (key r) with
    | true =>
      have hne : key x ≠ key r := fun e => by rw [e, O.irr] at hb; cases hb
      simp [setGo, hb, hne] at hy
      rcases hy with rfl | hy
      · exact .inr ⟨List.mem_cons_self .., hne⟩
      · rcases ih ht y hy with h | h
        · exact .inl h
        · exact .inr ⟨List.mem_cons_of_mem _ h.1, h.2⟩
    | false =>
      have hd : ∀ z ∈ t, key z ≠ key r := by
        intro z hz e
        have := hxt z hz
        rw [e, hb] at this
        cases this
      have e := setGo_done (lt := lt) r t hd
      by_cases hk : key x = key r
      · simp [setGo, hk, O.irr, e] at hy
        rcases hy with h | h
        · exact .inl h
        · exact .inr ⟨List.mem_cons_of_mem _ h, hd y h⟩
      · simp [setGo, hb, hk, e] at hy
        rcases hy with h | h | h
        · exact .inl h
        · subst h; exact .inr ⟨List.mem_cons_self .., hk⟩
        · exact .inr ⟨List.mem_cons_of_mem _ h, hd y h⟩

theorem setGo_rising (O : Ordered lt) (r : R) : ∀ l : List R, Rising key lt l → Rising key lt (setGo key lt r l false) := by
  intro l
  induction l with
  | nil => intro _; simp [setGo, Rising]
  | cons x t ih =>
    intro hl
    have ht : Rising key lt t := (List.pairwise_cons.1 hl).2
    have hxt := (List.pairwise_cons.1 hl).1
    cases hb : lt (key x) (key r) with
    | true =>
      have hne : key x ≠ key r := fun e => by rw [e, O.irr] at hb; cases hb
      have e : setGo key lt r (x :: t) false = x :: setGo key lt r t false := by simp [setGo, hb, hne]
      rw [e]
      refine List.pairwise_cons.2 ⟨fun y hy => ?_, ih ht⟩
      rcases setGo_mem O r t ht y hy with rfl | h
      · exact hb
      · exact hxt y h.1
    | false =>
      have hd : ∀ z ∈ t, key z ≠ key r := by
        intro z hz e
        have := hxt z hz
        rw [e, hb] at this
        cases this
      have e := setGo_done (lt := lt) r t hd
      by_cases hk : key x = key r
      · have e2 : setGo key lt r (x :: t) false = r :: t := by simp [setGo, hk, O.irr, e]
        rw [e2]
        exact List.pairwise_cons.2 ⟨fun y hy => by rw [← hk]; exact hxt y hy, ht⟩
      · have e2 : setGo key lt r (x :: t) false = r :: x :: t := by simp [setGo, hb, hk, e]
        rw [e2]
        have hrx : lt (key r) (key x) = true := by
          rcases O.tri (key x) (key r) with h | h | h
          · rw [h] at hb; cases hb
          · exact absurd h hk
          · exact h
        refine List.pairwise_cons.2 ⟨fun y hy => ?_, hl⟩
        rcases List.mem_cons.1 hy with rfl | h
        · exact hrx
        · exact O.trans _ _ _ hrx (hxt y h)

theorem setGo_find (O : Ordered lt) (r : R) (k : K) : ∀ l : List R, Rising key lt l → findK key (setGo key lt r l false) k = if key r = k then some r else findK key l k := by
  intro l
  induction l with
  | nil => intro _; by_cases h : key r = k <;> simp [setGo, findK, h]
  | cons x t ih =>
    intro hl
    have ht : Rising key lt t := (List.pairwise_cons.1 hl).2
    have hxt := (List.pairwise_cons.1 hl).1
    cases hb : lt (key x) (key r) with
    | true =>
      have hne : key x ≠ key r := fun e => by rw [e, O.irr] at hb; cases hb
      have e : setGo key lt r (x :: t) false = x :: setGo key lt r t false := by simp [setGo, hb, hne]
      rw [e]
      have := ih ht
      unfold findK at this ⊢
      rw [List.find?_cons, List.find?_cons]
      by_cases hx : key x = k
      · have hr : ¬ key r = k := fun h => hne (hx.trans h.symm)
        simp [hx, hr]
      · simp [hx, this]
    | false =>
      have hd : ∀ z ∈ t, key z ≠ key r := by
        intro z hz e
        have := hxt z hz
        rw [e, hb] at this
        cases this
      have e := setGo_done (lt := lt) r t hd
      by_cases hk : key x = key r
      · have e2 : setGo key lt r (x :: t) false = r :: t := by simp [setGo, hk, O.irr, e]
        rw [e2]
        unfold findK
        rw [List.find?_cons, List.find?_cons]
        by_cases hr : key r = k
        · simp [hr]
        · simp [hr, hk]
      · have e2 : setGo key lt r (x :: t) false = r :: x :: t := by simp [setGo, hb, hk, e]
        rw [e2]
        unfold findK
        rw [List.find?_cons]
        by_cases hr : key r = k <;> simp [hr]

theorem rising_ext (O : Ordered lt) : ∀ l m : List R, Rising key lt l → Rising key lt m → (∀ k, findK key l k = findK key m k) → l = m := by
  have hnone : ∀ l : List R, (∀ k, findK key l k = none) → l = [] := by
    intro l h
    cases l with
    | nil => rfl
    | cons x t => have := h (key x); simp [findK] at this
  have habove : ∀ (x : R) (t : List R) (k : K), (∀ a ∈ t, lt (key x) (key a) = true) → lt k (key x) = true ∨ k = key x → findK key t k = none := by
    intro x t k h hk
    unfold findK
    rw [List.find?_eq_none]
    intro a ha
    simp only [decide_eq_true_eq]
    intro e
    have h1 := h a ha
    rw [e] at h1
    rcases hk with h2 | h2
    · have := O.trans _ _ _ h2 h1
      rw [O.irr] at this; cases this
    · rw [h2, O.irr] at h1; cases h1
  intro l
  induction l with
  | nil => intro m _ _ h; exact (hnone m fun k => (h k).symm).symm
  | cons x t ih =>
    intro m hl hm h
    cases m with
    | nil => have := h (key x); simp [findK] at this
    | cons y u =>
      have hxt := (List.pairwise_cons.1 hl).1
      have hyu := (List.pairwise_cons.1 hm).1
      have hx := h (key x)
      have hy := h (key y)
      have hkk : key x = key y := by
        rcases O.tri (key x) (key y) with g | g | g
        · have hne : key y ≠ key x := fun e => by rw [e, O.irr] at g; cases g
          have := habove y u (key x) hyu (.inl g)
          unfold findK at hx this
          rw [List.find?_cons, List.find?_cons, this] at hx
          simp [hne] at hx
        · exact g
        · have hne : key x ≠ key y := fun e => by rw [e, O.irr] at g; cases g
          have := habove x t (key y) hxt (.inl g)
          unfold findK at hy this
          rw [List.find?_cons, List.find?_cons, this] at hy
          simp [hne] at hy
      have hxy : x = y := by
        unfold findK at hx
        rw [List.find?_cons, List.find?_cons] at hx
        simpa [hkk] using hx
      subst hxy
      refine congrArg (x :: ·) (ih u (List.pairwise_cons.1 hl).2 (List.pairwise_cons.1 hm).2 fun k => ?_)
      by_cases hk : key x = k
      · subst hk
        rw [habove x t _ hxt (.inr rfl), habove x u _ hyu (.inr rfl)]
      · have := h k
        unfold findK at this ⊢
        rw [List.find?_cons, List.find?_cons] at this
        simpa [hk] using this

theorem newestK_rising (O : Ordered lt) (l : List R) : Rising key lt (newestK key lt l) := by
  have : ∀ (l a : List R), Rising key lt a → Rising key lt (l.foldl (fun a r => setGo key lt r a false) a) := by
    intro l
    induction l with
    | nil => intro a h; exact h
    | cons r l ih => intro a h; exact ih _ (setGo_rising O r a h)
  exact this l [] List.Pairwise.nil
theorem newestK_find (O : Ordered lt) (l : List R) (k : K) : findK key (newestK key lt l) k = findK key l.reverse k := by
  have : ∀ (l a : List R), Rising key lt a → findK key (l.foldl (fun a r => setGo key lt r a false) a) k = findK key (l.reverse ++ a) k := by
    intro l
    induction l with
    | nil => intro a _; rfl
    | cons r l ih =>
      intro a h
      rw [List.foldl_cons, ih _ (setGo_rising O r a h), List.reverse_cons, List.append_assoc]
      have := setGo_find O r k a h
      unfold findK at this ⊢
      rw [List.find?_append, List.find?_append, this, List.singleton_append, List.find?_cons]
      by_cases hr : key r = k <;> simp [hr]
  have h := this l [] List.Pairwise.nil
  rw [List.append_nil] at h
  exact h
/-- What rises and has of each key the last one is the reference's answer. -/
theorem newestK_of (O : Ordered lt) (l n : List R) (hn : Rising key lt n) (h : ∀ k, findK key n k = findK key l.reverse k) : n = newestK key lt l :=
  rising_ext O n _ hn (newestK_rising O l) fun k => by rw [h, newestK_find O]
theorem rising_rev (O : Ordered lt) (l : List R) (hl : Rising key lt l) (k : K) : findK key l.reverse k = findK key l k := by
  induction l with
  | nil => rfl
  | cons x t ih =>
    have ht := ih (List.pairwise_cons.1 hl).2
    have hxt := (List.pairwise_cons.1 hl).1
    unfold findK at ht ⊢
    rw [List.reverse_cons, List.find?_append, ht, List.find?_cons]
    by_cases hx : key x = k
    · have : t.find? (fun x => decide (key x = k)) = none := by
        rw [List.find?_eq_none]
        intro a ha
        simp only [decide_eq_true_eq]
        intro e
        have := hxt a ha
        rw [e, hx, O.irr] at this
        cases this
      simp [this, hx]
    · simp [hx]
theorem newestK_twice (O : Ordered lt) (l : List R) : newestK key lt (newestK key lt l) = newestK key lt l :=
  (newestK_of O _ _ (newestK_rising O l) fun k => (rising_rev O _ (newestK_rising O l) k).symm).symm
end

end Go.Proofs.Ytmlndgkpbodnnaa
