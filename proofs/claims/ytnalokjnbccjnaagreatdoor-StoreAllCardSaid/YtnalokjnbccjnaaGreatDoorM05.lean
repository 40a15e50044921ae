/-
  Mathematics of room: which sectors are free (a function), the free rows, the first one that has as many. Of no code.
  Which sectors of a store's device are free, as mathematics. Of no code.
  Bits, the highest first; bits as bytes: mathematics alone.
  Bits by pieces: a number's bits in two pieces, a piece behind the last bit of bytes, a piece out of one byte: mathematics alone.
  Slices of bools.
  Rows of bools as functions; an *extent.Room in memory. Plain facts.
  The contracts of slices.Index and slices.Contains of bools, of extent's run and set.
  The contract of extent's part.
-/
import Derived.Test.YtnalokjnbccjnaaGreatDoorM01
import Derived.Test.YtnalokjnbccjnaaGreatDoorM02
import Derived.Laws.BitsAllLaws
import Derived.LoopTactic
import Derived.Deep.DeepCutAuto
import Derived.Deep.QuietTactic
import Derived.BigQuiet
namespace Go.Proofs.YtnalokjnbccjnaaGreatDoor

/-- From o on m places are x. -/
def setF (f : Nat → Bool) (o m : Nat) (x : Bool) : Nat → Bool := fun i => if o ≤ i ∧ i < o + m then x else f i
theorem setF_in {f : Nat → Bool} {o m : Nat} {x : Bool} {i : Nat} (h1 : o ≤ i) (h2 : i < o + m) : setF f o m x i = x := if_pos ⟨h1, h2⟩
theorem setF_out {f : Nat → Bool} {o m : Nat} {x : Bool} {i : Nat} (h : i < o ∨ o + m ≤ i) : setF f o m x i = f i := if_neg (by omega)
theorem setF_zero (f : Nat → Bool) (o : Nat) (x : Bool) : setF f o 0 x = f := by
  funext i
  exact setF_out (by omega)
theorem setF_snoc (f : Nat → Bool) (o m : Nat) (x : Bool) : (fun i => if i = o + m then x else setF f o m x i) = setF f o (m + 1) x := by
  funext i
  unfold setF
  by_cases h : i = o + m
  · subst h; simp
  · by_cases h2 : o ≤ i ∧ i < o + m
    · rw [if_neg h, if_pos h2, if_pos (by omega)]
    · rw [if_neg h, if_neg h2, if_neg (by omega)]

/-- Where x stands first among f 0, .., f (m - 1); m: nowhere. -/
def firstF : Nat → (Nat → Bool) → Bool → Nat
  | 0, _, _ => 0
  | m + 1, f, x => if f 0 = x then 0 else firstF m (fun i => f (i + 1)) x + 1
theorem firstF_le (m : Nat) (f : Nat → Bool) (x : Bool) : firstF m f x ≤ m := by
  induction m generalizing f with
  | zero => exact Nat.le_refl _
  | succ m ih =>
    unfold firstF
    split
    · omega
    · have := ih (fun i => f (i + 1)); omega
theorem firstF_eq (m : Nat) (f : Nat → Bool) (x : Bool) (k : Nat) (hk : k ≤ m) (h1 : ∀ j, j < k → f j ≠ x) (h2 : k < m → f k = x) : firstF m f x = k := by
  induction m generalizing f k with
  | zero => unfold firstF; omega
  | succ m ih =>
    unfold firstF
    cases k with
    | zero => rw [if_pos (h2 (by omega))]
    | succ k =>
      rw [if_neg (h1 0 (by omega)), ih (fun i => f (i + 1)) k (by omega) (fun j hj => h1 (j + 1) (by omega)) (fun h => h2 (by omega))]
theorem firstF_spec (m : Nat) (f : Nat → Bool) (x : Bool) : (∀ j, j < firstF m f x → f j ≠ x) ∧ (firstF m f x < m → f (firstF m f x) = x) := by
  induction m generalizing f with
  | zero => unfold firstF; exact ⟨fun j h => by omega, fun h => by omega⟩
  | succ m ih =>
    unfold firstF
    by_cases h0 : f 0 = x
    · rw [if_pos h0]
      exact ⟨fun j h => by omega, fun _ => h0⟩
    · rw [if_neg h0]
      obtain ⟨a, b⟩ := ih (fun i => f (i + 1))
      refine ⟨fun j hj => ?_, fun h => b (by omega)⟩
      cases j with
      | zero => exact h0
      | succ j => exact a j (by omega)
theorem firstF_before {m : Nat} {f : Nat → Bool} {x : Bool} {j : Nat} (h : j < firstF m f x) : f j = !x := by
  have := (firstF_spec m f x).1 j h
  revert this
  cases f j <;> cases x <;> simp
theorem firstF_at {m : Nat} {f : Nat → Bool} {x : Bool} (h : firstF m f x < m) : f (firstF m f x) = x := (firstF_spec m f x).2 h
theorem firstF_full {m : Nat} {f : Nat → Bool} {x : Bool} : firstF m f x = m ↔ ∀ j, j < m → f j = !x := by
  constructor
  · intro h j hj
    exact firstF_before (m := m) (by omega)
  · intro h
    refine firstF_eq m f x m (Nat.le_refl _) (fun j hj => ?_) (fun h => by omega)
    rw [h j hj]
    cases x <;> simp

/-- How many of f 0, .., f (m - 1) are true. -/
def cntF (f : Nat → Bool) : Nat → Nat
  | 0 => 0
  | m + 1 => cntF f m + (if f m = true then 1 else 0)
theorem cntF_le (f : Nat → Bool) (m : Nat) : cntF f m ≤ m := by
  induction m with
  | zero => exact Nat.le_refl _
  | succ m ih => unfold cntF; split <;> omega
theorem cntF_none (f : Nat → Bool) (i n : Nat) (h : ∀ k, i ≤ k → k < i + n → f k = false) : cntF f (i + n) = cntF f i := by
  induction n with
  | zero => rfl
  | succ n ih =>
    show cntF f (i + n) + (if f (i + n) = true then 1 else 0) = _
    rw [h (i + n) (by omega) (by omega), ih (fun k h1 h2 => h k h1 (by omega))]
    rfl
theorem cntF_all (f : Nat → Bool) (i n : Nat) (h : ∀ k, i ≤ k → k < i + n → f k = true) : cntF f (i + n) = cntF f i + n := by
  induction n with
  | zero => rfl
  | succ n ih =>
    show cntF f (i + n) + (if f (i + n) = true then 1 else 0) = _
    rw [h (i + n) (by omega) (by omega), ih (fun k h1 h2 => h k h1 (by omega)), if_pos rfl]
    omega
theorem cntF_congr {f f' : Nat → Bool} {m : Nat} (h : ∀ k, k < m → f k = f' k) : cntF f m = cntF f' m := by
  induction m with
  | zero => rfl
  | succ m ih => unfold cntF; rw [ih (fun k hk => h k (by omega)), h m (by omega)]
theorem cntF_shift (f : Nat → Bool) (a n : Nat) : cntF f (a + n) = cntF f a + cntF (fun i => f (a + i)) n := by
  induction n with
  | zero => rfl
  | succ n ih =>
    show cntF f (a + n) + (if f (a + n) = true then 1 else 0) = cntF f a + (cntF (fun i => f (a + i)) n + (if f (a + n) = true then 1 else 0))
    rw [ih]
    omega

/-- The last row is one longer. -/
def bump (l : List (Nat × Nat)) : List (Nat × Nat) := match l.getLast? with
  | none => []
  | some x => l.dropLast ++ [(x.1, x.2 + 1)]
theorem bump_snoc (l : List (Nat × Nat)) (x : Nat × Nat) : bump (l ++ [x]) = l ++ [(x.1, x.2 + 1)] := by
  unfold bump
  rw [List.getLast?_append]
  simp
/-- The rows of places below m at which f is true. -/
def spS (f : Nat → Bool) : Nat → List (Nat × Nat)
  | 0 => []
  | m + 1 => if f m = true then (if 0 < m ∧ f (m - 1) = true then bump (spS f m) else spS f m ++ [(m, 1)]) else spS f m
theorem spS_off {f : Nat → Bool} {m : Nat} (h : f m = false) : spS f (m + 1) = spS f m := by
  unfold spS
  rw [h]
  rw [if_neg (by decide)]
  cases m <;> rfl
theorem spS_new {f : Nat → Bool} {m : Nat} (h : f m = true) (h2 : m = 0 ∨ f (m - 1) = false) : spS f (m + 1) = spS f m ++ [(m, 1)] := by
  show (if f m = true then (if 0 < m ∧ f (m - 1) = true then bump (spS f m) else spS f m ++ [(m, 1)]) else spS f m) = _
  rw [if_pos h, if_neg]
  rintro ⟨h3, h4⟩
  rcases h2 with h2 | h2
  · omega
  · rw [h4] at h2; cases h2
theorem spS_more {f : Nat → Bool} {m : Nat} (h : f m = true) (h0 : 0 < m) (h2 : f (m - 1) = true) : spS f (m + 1) = bump (spS f m) := by
  show (if f m = true then (if 0 < m ∧ f (m - 1) = true then bump (spS f m) else spS f m ++ [(m, 1)]) else spS f m) = _
  rw [if_pos h, if_pos ⟨h0, h2⟩]
theorem spS_none (f : Nat → Bool) (i n : Nat) (h : ∀ k, i ≤ k → k < i + n → f k = false) : spS f (i + n) = spS f i := by
  induction n with
  | zero => rfl
  | succ n ih =>
    show spS f (i + n + 1) = _
    rw [spS_off (h (i + n) (by omega) (by omega)), ih (fun k h1 h2 => h k h1 (by omega))]
theorem spS_run (f : Nat → Bool) (i n : Nat) (hn : 0 < n) (h : ∀ k, i ≤ k → k < i + n → f k = true) (h0 : i = 0 ∨ f (i - 1) = false) : spS f (i + n) = spS f i ++ [(i, n)] := by
  induction n with
  | zero => omega
  | succ n ih =>
    show spS f (i + n + 1) = _
    rcases Nat.eq_zero_or_pos n with rfl | hp
    · exact spS_new (h i (by omega) (by omega)) h0
    · rw [spS_more (h (i + n) (by omega) (by omega)) (by omega) (h (i + n - 1) (by omega) (by omega)), ih hp (fun k h1 h2 => h k h1 (by omega)), bump_snoc]
theorem spS_congr {f f' : Nat → Bool} {m : Nat} (h : ∀ k, k < m → f k = f' k) : spS f m = spS f' m := by
  induction m with
  | zero => rfl
  | succ m ih =>
    have e := ih (fun k hk => h k (by omega))
    have e1 := h m (by omega)
    show (if f m = true then (if 0 < m ∧ f (m - 1) = true then bump (spS f m) else spS f m ++ [(m, 1)]) else spS f m) = (if f' m = true then (if 0 < m ∧ f' (m - 1) = true then bump (spS f' m) else spS f' m ++ [(m, 1)]) else spS f' m)
    rw [e, e1]
    rcases Nat.eq_zero_or_pos m with rfl | hp
    · simp
    · rw [h (m - 1) (by omega)]

/-- What the rows of places below m are. -/
structure Rows3 (f : Nat → Bool) (m : Nat) (l : List (Nat × Nat)) : Prop where
  each : ∀ x ∈ l, 0 < x.2 ∧ x.1 + x.2 ≤ m ∧ (∀ k, x.1 ≤ k → k < x.1 + x.2 → f k = true) ∧ (x.1 + x.2 < m → f (x.1 + x.2) = false) ∧ (x.1 = 0 ∨ f (x.1 - 1) = false)
  all : ∀ k, k < m → f k = true → ∃ x ∈ l, x.1 ≤ k ∧ k < x.1 + x.2
  rise : l.Pairwise fun x y => x.1 + x.2 < y.1
  last : 0 < m → f (m - 1) = true → ∃ i a n, l = i ++ [(a, n)] ∧ a + n = m
theorem spS_rows (f : Nat → Bool) (m : Nat) : Rows3 f m (spS f m) := by
  induction m with
  | zero => exact ⟨fun x hx => by simp [spS] at hx, fun k hk => by omega, List.Pairwise.nil, fun h => by omega⟩
  | succ m ih =>
    cases hm : f m with
    | false =>
      rw [spS_off hm]
      refine ⟨fun x hx => ?_, fun k hk hf => ?_, ih.rise, fun _ h => ?_⟩
      · obtain ⟨a, b, c, d, e⟩ := ih.each x hx
        refine ⟨a, by omega, c, fun h => ?_, e⟩
        rcases Nat.lt_or_ge (x.1 + x.2) m with h2 | h2
        · exact d h2
        · rw [show x.1 + x.2 = m from by omega]; exact hm
      · rcases Nat.lt_or_ge k m with h2 | h2
        · exact ih.all k h2 hf
        · rw [show k = m from by omega, hm] at hf; cases hf
      · rw [Nat.add_sub_cancel, hm] at h; cases h
    | true =>
      by_cases h2 : m = 0 ∨ f (m - 1) = false
      · rw [spS_new hm h2]
        refine ⟨fun x hx => ?_, fun k hk hf => ?_, ?_, fun _ _ => ⟨_, _, _, rfl, rfl⟩⟩
        · rcases List.mem_append.1 hx with hx | hx
          · obtain ⟨a, b, c, d, e⟩ := ih.each x hx
            refine ⟨a, by omega, c, fun h => ?_, e⟩
            have h2' := h2
            rcases Nat.lt_or_ge (x.1 + x.2) m with h2 | h2
            · exact d h2
            · exfalso
              have := c (m - 1) (by omega) (by omega)
              rcases h2' with h3 | h3
              · omega
              · rw [h3] at this; cases this
          · simp only [List.mem_singleton] at hx
            subst hx
            refine ⟨by simp, by simp, fun k h1 h3 => ?_, fun h => by simp at h, h2⟩
            simp only at h1 h3
            rw [show k = m from by omega]; exact hm
        · rcases Nat.lt_or_ge k m with h3 | h3
          · obtain ⟨x, hx, h4⟩ := ih.all k h3 hf
            exact ⟨x, List.mem_append_left _ hx, h4⟩
          · exact ⟨(m, 1), by simp, by simp; omega⟩
        · rw [List.pairwise_append]
          refine ⟨ih.rise, List.pairwise_singleton _ _, fun x hx y hy => ?_⟩
          simp only [List.mem_singleton] at hy
          subst hy
          obtain ⟨a, b, c, d, e⟩ := ih.each x hx
          show x.1 + x.2 < m
          rcases Nat.lt_or_ge (x.1 + x.2) m with h3 | h3
          · exact h3
          · exfalso
            have := c (m - 1) (by omega) (by omega)
            rcases h2 with h2 | h2
            · omega
            · rw [h2] at this; cases this
      · have h3 : 0 < m := by omega
        have h4 : f (m - 1) = true := by
          cases h5 : f (m - 1)
          · exact absurd (.inr h5) h2
          · rfl
        obtain ⟨i, a, n, e1, e2⟩ := ih.last h3 h4
        rw [spS_more hm h3 h4, e1, bump_snoc]
        have hr := ih.rise
        have he := ih.each
        have ha := ih.all
        rw [e1] at hr he ha
        rw [List.pairwise_append] at hr
        obtain ⟨r1, -, r2⟩ := hr
        obtain ⟨p1, p2, p3, p4, p5⟩ := he (a, n) (by simp)
        simp only at p1 p2 p3 p4 p5
        refine ⟨fun x hx => ?_, fun k hk hf => ?_, ?_, fun _ _ => ⟨_, _, _, rfl, by omega⟩⟩
        · rcases List.mem_append.1 hx with hx | hx
          · obtain ⟨q1, q2, q3, q4, q5⟩ := he x (List.mem_append_left _ hx)
            have := r2 x hx (a, n) (by simp)
            simp only at this
            exact ⟨q1, by omega, q3, fun _ => q4 (by omega), q5⟩
          · simp only [List.mem_singleton] at hx
            subst hx
            refine ⟨by simp, by simp; omega, fun k k1 k2 => ?_, fun h => by simp at h; omega, p5⟩
            simp only at k1 k2
            rcases Nat.lt_or_ge k m with k3 | k3
            · exact p3 k k1 (by omega)
            · rw [show k = m from by omega]; exact hm
        · rcases Nat.lt_or_ge k m with k3 | k3
          · obtain ⟨x, hx, x1, x2⟩ := ha k k3 hf
            rcases List.mem_append.1 hx with hx | hx
            · exact ⟨x, List.mem_append_left _ hx, x1, x2⟩
            · simp only [List.mem_singleton] at hx
              subst hx
              exact ⟨(a, n + 1), by simp, x1, by simp at x2 ⊢; omega⟩
          · exact ⟨(a, n + 1), by simp, by simp; omega⟩
        · rw [List.pairwise_append]
          refine ⟨r1, List.pairwise_singleton _ _, fun x hx y hy => ?_⟩
          simp only [List.mem_singleton] at hy
          subst hy
          exact r2 x hx (a, n) (by simp)

/-- From a on n places are true. -/
def allF (f : Nat → Bool) (a n : Nat) : Prop := ∀ k, a ≤ k → k < a + n → f k = true
/-- The first row that has n. -/
def fitF (f : Nat → Bool) (m n : Nat) : Option (Nat × Nat) := (spS f m).find? fun x => decide (n ≤ x.2)
theorem fit_in {f : Nat → Bool} {m n a : Nat} (hn : 0 < n) (hout : ∀ k, m ≤ k → f k = false) (h : allF f a n) : ∃ x ∈ spS f m, x.1 ≤ a ∧ a + n ≤ x.1 + x.2 := by
  have hr := spS_rows f m
  have ham : a < m := by
    rcases Nat.lt_or_ge a m with h1 | h1
    · exact h1
    · have := h a (Nat.le_refl _) (by omega)
      rw [hout a h1] at this; cases this
  obtain ⟨x, hx, h1, h2⟩ := hr.all a ham (h a (Nat.le_refl _) (by omega))
  obtain ⟨p1, p2, p3, p4, p5⟩ := hr.each x hx
  refine ⟨x, hx, h1, ?_⟩
  rcases Nat.lt_or_ge (x.1 + x.2) (a + n) with h3 | h3
  · exfalso
    have h4 := h (x.1 + x.2) (by omega) h3
    rcases Nat.lt_or_ge (x.1 + x.2) m with h5 | h5
    · rw [p4 h5] at h4; cases h4
    · rw [hout _ h5] at h4; cases h4
  · exact h3
theorem fit_some {f : Nat → Bool} {m n : Nat} (hn : 0 < n) (hout : ∀ k, m ≤ k → f k = false) {x : Nat × Nat} (h : fitF f m n = some x) : allF f x.1 n ∧ n ≤ x.2 ∧ x.1 + x.2 ≤ m ∧ ∀ a, a < x.1 → ¬ allF f a n := by
  unfold fitF at h
  rw [List.find?_eq_some_iff_append] at h
  obtain ⟨h0, us, vs, e, h1⟩ := h
  simp only [decide_eq_true_eq] at h0
  have hr := spS_rows f m
  have hx : x ∈ spS f m := by rw [e]; simp
  obtain ⟨p1, p2, p3, p4, p5⟩ := hr.each x hx
  refine ⟨fun k k1 k2 => p3 k k1 (by omega), h0, p2, fun a ha hall => ?_⟩
  obtain ⟨y, hy, y1, y2⟩ := fit_in hn hout hall
  have hp := hr.rise
  rw [e] at hy hp
  rw [List.pairwise_append] at hp
  obtain ⟨-, hp2, hp3⟩ := hp
  rcases List.mem_append.1 hy with hy | hy
  · have := h1 y hy
    simp at this
    omega
  · rcases List.mem_cons.1 hy with rfl | hy
    · omega
    · have := (List.pairwise_cons.1 hp2).1 y hy
      omega
theorem fit_none {f : Nat → Bool} {m n : Nat} (hn : 0 < n) (hout : ∀ k, m ≤ k → f k = false) (h : fitF f m n = none) (a : Nat) : ¬ allF f a n := by
  intro hall
  obtain ⟨y, hy, y1, y2⟩ := fit_in hn hout hall
  unfold fitF at h
  rw [List.find?_eq_none] at h
  have := h y hy
  simp at this
  omega

/-- Just the places from a to b - 1. -/
def iv (a b : Nat) : Nat → Bool := fun k => decide (a ≤ k ∧ k < b)
theorem iv_in {a b k : Nat} (h1 : a ≤ k) (h2 : k < b) : iv a b k = true := by unfold iv; simp [h1, h2]
theorem iv_out {a b k : Nat} (h : k < a ∨ b ≤ k) : iv a b k = false := by unfold iv; simp; omega
theorem iv_spans {a b m : Nat} (h : a < b) (hm : b ≤ m) : spS (iv a b) m = [(a, b - a)] := by
  have h1 := spS_none (iv a b) 0 a (fun k _ h2 => iv_out (by omega))
  have h2 := spS_run (iv a b) a (b - a) (by omega) (fun k k1 k2 => iv_in k1 (by omega)) (by
    rcases Nat.eq_zero_or_pos a with h | h
    · exact .inl h
    · exact .inr (iv_out (by omega)))
  have h3 := spS_none (iv a b) b (m - b) (fun k k1 _ => iv_out (by omega))
  rw [show a + (b - a) = b from by omega] at h2
  rw [show b + (m - b) = m from by omega] at h3
  rw [Nat.zero_add] at h1
  rw [h3, h2, h1]
  rfl
theorem iv_none {a b m : Nat} (h : b ≤ a) : spS (iv a b) m = [] := by
  have := spS_none (iv a b) 0 m (fun k _ _ => iv_out (by omega))
  rw [Nat.zero_add] at this
  exact this
theorem iv_cnt {a b m : Nat} (h : a ≤ b) (hm : b ≤ m) : cntF (iv a b) m = b - a := by
  have h1 := cntF_none (iv a b) 0 a (fun k _ h2 => iv_out (by omega))
  have h2 := cntF_all (iv a b) a (b - a) (fun k k1 k2 => iv_in k1 (by omega))
  have h3 := cntF_none (iv a b) b (m - b) (fun k k1 _ => iv_out (by omega))
  rw [show a + (b - a) = b from by omega] at h2
  rw [show b + (m - b) = m from by omega] at h3
  rw [Nat.zero_add] at h1
  rw [h3, h2, h1]
  show 0 + _ = _
  omega
theorem iv_take {a b n : Nat} (_h : a + n ≤ b) : setF (iv a b) a n false = iv (a + n) b := by
  funext k
  by_cases h1 : a ≤ k ∧ k < a + n
  · rw [setF_in h1.1 h1.2, iv_out (by omega)]
  · rw [setF_out (by omega)]
    unfold iv
    congr 1
    apply propext
    omega
theorem iv_give {a b n : Nat} (h : a + n ≤ b) : setF (iv (a + n) b) a n true = iv a b := by
  funext k
  by_cases h1 : a ≤ k ∧ k < a + n
  · rw [setF_in h1.1 h1.2, iv_in h1.1 (by omega)]
  · rw [setF_out (by omega)]
    unfold iv
    congr 1
    apply propext
    omega
theorem iv_fit {a b m n : Nat} (hm : b ≤ m) (h : a + n ≤ b) (hn : 0 < n) : fitF (iv a b) m n = some (a, b - a) := by
  unfold fitF
  rw [iv_spans (by omega) hm]
  simp
  omega
theorem iv_fit_none {a b m n : Nat} (hm : b ≤ m) (h : b < a + n) (_hn : 0 < n) : fitF (iv a b) m n = none := by
  unfold fitF
  rcases Nat.lt_or_ge a b with h1 | h1
  · rw [iv_spans h1 hm]
    simp
    omega
  · rw [iv_none h1]
    rfl

end Go.Proofs.YtnalokjnbccjnaaGreatDoor

namespace Go.Proofs.YtnalokjnbccjnaaGreatDoor
open Go.RowKit

/-- The sectors of a file. -/
def spanE (x : EntT) : List Nat := rowL x.2.2.1.toNat x.2.2.2.toNat
/-- What files and list hold. -/
def usedL (es : List EntT) (ls : List Nat) : List Nat := es.flatMap spanE ++ ls
theorem usedL_snoc (es : List EntT) (x : EntT) : usedL (es ++ [x]) [] = usedL es [] ++ spanE x := by simp [usedL]
theorem usedL_list (es : List EntT) (ls : List Nat) (i : Nat) : usedL es (ls ++ [i]) = usedL es ls ++ [i] := by simp [usedL]
/-- Free among the files' sectors, among the list's. -/
def gF (n : Nat) (U : List Nat) : Nat → Bool := fun k => decide (2 ≤ k ∧ k < n - 12 ∧ k ∉ U)
def gL (n : Nat) (U : List Nat) : Nat → Bool := fun k => decide (n - 12 ≤ k ∧ k < n ∧ k ∉ U)
theorem gF_nil (n : Nat) (hn : 14 ≤ n) : gF n [] = iv 2 (2 + (n - 14)) := by
  funext k
  unfold gF iv
  have : 2 + (n - 14) = n - 12 := by omega
  rw [this]
  simp
theorem gL_nil (n : Nat) (hn : 14 ≤ n) : gL n [] = iv (n - 12) (n - 12 + 12) := by
  funext k
  unfold gL iv
  have : n - 12 + 12 = n := by omega
  rw [this]
  simp
theorem gF_use (n : Nat) (U : List Nat) (a m : Nat) : setF (gF n U) a m false = gF n (U ++ rowL a m) := by
  funext k
  unfold setF gF
  by_cases h : a ≤ k ∧ k < a + m
  · rw [if_pos h]
    have : k ∈ U ++ rowL a m := List.mem_append_right _ (mem_rowL.2 h)
    simp [this]
  · rw [if_neg h]
    have : k ∉ rowL a m := fun hm => h (mem_rowL.1 hm)
    simp [List.mem_append, this]
theorem gF_one (n : Nat) (U : List Nat) (i : Nat) : setF (gF n U) i 1 false = gF n (U ++ [i]) := by
  rw [gF_use]
  rfl
theorem gL_one (n : Nat) (U : List Nat) (i : Nat) : setF (gL n U) i 1 false = gL n (U ++ [i]) := by
  funext k
  unfold setF gL
  by_cases h : i ≤ k ∧ k < i + 1
  · rw [if_pos h]
    obtain rfl : k = i := by omega
    simp
  · rw [if_neg h]
    have : k ≠ i := by omega
    simp [List.mem_append, this]
theorem gF_far (n : Nat) (U V : List Nat) (h : ∀ i ∈ V, i < 2 ∨ n - 12 ≤ i) : gF n (U ++ V) = gF n U := by
  funext k
  unfold gF
  by_cases hk : 2 ≤ k ∧ k < n - 12
  · have : k ∉ V := fun hm => by have := h k hm; omega
    simp [List.mem_append, this]
  · have e1 : ¬ (2 ≤ k ∧ k < n - 12 ∧ k ∉ U ++ V) := fun h => hk ⟨h.1, h.2.1⟩
    have e2 : ¬ (2 ≤ k ∧ k < n - 12 ∧ k ∉ U) := fun h => hk ⟨h.1, h.2.1⟩
    rw [decide_eq_false e1, decide_eq_false e2]
theorem gL_far (n : Nat) (U V : List Nat) (h : ∀ i ∈ V, i < n - 12 ∨ n ≤ i) : gL n (U ++ V) = gL n U := by
  funext k
  unfold gL
  by_cases hk : n - 12 ≤ k ∧ k < n
  · have : k ∉ V := fun hm => by have := h k hm; omega
    simp [List.mem_append, this]
  · have e1 : ¬ (n - 12 ≤ k ∧ k < n ∧ k ∉ U ++ V) := fun h => hk ⟨h.1, h.2.1⟩
    have e2 : ¬ (n - 12 ≤ k ∧ k < n ∧ k ∉ U) := fun h => hk ⟨h.1, h.2.1⟩
    rw [decide_eq_false e1, decide_eq_false e2]
theorem gF_iff {n : Nat} {U : List Nat} {k : Nat} : gF n U k = true ↔ 2 ≤ k ∧ k < n - 12 ∧ k ∉ U := by unfold gF; simp
theorem gL_iff {n : Nat} {U : List Nat} {k : Nat} : gL n U k = true ↔ n - 12 ≤ k ∧ k < n ∧ k ∉ U := by unfold gL; simp
/-- m sectors from a on may become a file's. -/
def fitsF (n : Nat) (U : List Nat) (a m : Nat) : Prop := 2 ≤ a ∧ a + m ≤ n - 12 ∧ ∀ k ∈ rowL a m, k ∉ U
theorem fitsF_iff {n : Nat} {U : List Nat} {a m : Nat} (hm : 0 < m) : fitsF n U a m ↔ allF (gF n U) a m := by
  constructor
  · rintro ⟨h1, h2, h3⟩ k k1 k2
    exact gF_iff.2 ⟨by omega, by omega, h3 k (mem_rowL.2 ⟨k1, k2⟩)⟩
  · intro h
    have h1 := gF_iff.1 (h a (by omega) (by omega))
    have h2 := gF_iff.1 (h (a + m - 1) (by omega) (by omega))
    exact ⟨h1.1, by omega, fun k hk => by
      have hk' := mem_rowL.1 hk
      exact (gF_iff.1 (h k hk'.1 hk'.2)).2.2⟩

/-- What stands on the device may stand so. -/
structure UsedOk (n : Nat) (es : List EntT) (ls : List Nat) : Prop where
  nodup : (usedL es ls).Nodup
  files : ∀ x ∈ es, 0 < x.2.2.2 → 2 ≤ x.2.2.1 ∧ x.2.2.1 + x.2.2.2 ≤ ((n - 12 : Nat) : Int)
  list : ∀ i ∈ ls, 2 ≤ i ∧ i < n
theorem spanE_nil {x : EntT} (h : x.2.2.2 ≤ 0) : spanE x = [] := by
  unfold spanE rowL
  rw [show x.2.2.2.toNat = 0 from by omega]
  rfl
theorem UsedOk.entry {n : Nat} {es : List EntT} {ls : List Nat} (h : UsedOk n es ls) {k : Nat} (hk : k < es.length) (hs : 0 < es[k].2.2.2) : fitsF n (usedL (es.take k) []) es[k].2.2.1.toNat es[k].2.2.2.toNat := by
  have h1 := h.files es[k] (List.getElem_mem hk) hs
  refine ⟨by omega, by omega, fun j hj hm => ?_⟩
  have hn := h.nodup
  unfold usedL at hn hm
  rw [List.append_nil] at hm
  have e2 : es.take k ++ (es[k] :: es.drop (k + 1)) = es := by rw [← List.drop_eq_getElem_cons hk, List.take_append_drop]
  have he : es.flatMap spanE = (es.take k).flatMap spanE ++ (spanE es[k] ++ (es.drop (k + 1)).flatMap spanE) := by
    rw [← List.flatMap_cons, ← List.flatMap_append, e2]
  rw [he, List.append_assoc] at hn
  have := (List.nodup_append.1 hn).2.2 j hm j (List.mem_append_left _ (List.mem_append_left _ hj))
  exact this rfl
theorem UsedOk.sector {n : Nat} {es : List EntT} {ls : List Nat} (h : UsedOk n es ls) {k : Nat} (hk : k < ls.length) : ls[k] ∉ usedL es (ls.take k) := by
  have hn := h.nodup
  unfold usedL at hn ⊢
  have he : ls.take k ++ (ls[k] :: ls.drop (k + 1)) = ls := by rw [← List.drop_eq_getElem_cons hk, List.take_append_drop]
  have hn2 : (es.flatMap spanE ++ ls.take k ++ (ls[k] :: ls.drop (k + 1))).Nodup := by rw [List.append_assoc, he]; exact hn
  intro hm
  exact (List.nodup_append.1 hn2).2.2 _ hm _ (List.mem_cons_self ..) rfl

end Go.Proofs.YtnalokjnbccjnaaGreatDoor

namespace Go.Proofs.YtnalokjnbccjnaaGreatDoor

def bv (b : Bool) : Nat := if b then 1 else 0
/-- The number that bits are. -/
def val (l : List Bool) : Nat := l.foldl (fun x b => 2 * x + bv b) 0
/-- Bit n of x, from the lowest. -/
def bit (x n : Nat) : Bool := x / 2 ^ n % 2 == 1
/-- The lowest n bits of x. -/
def numB (x : Nat) : Nat → List Bool
  | 0 => []
  | n + 1 => bit x n :: numB x n

theorem bv_lt (b : Bool) : bv b < 2 := by cases b <;> decide
theorem bv_bit (x n : Nat) : bv (bit x n) = x / 2 ^ n % 2 := by
  unfold bv bit
  rcases Nat.mod_two_eq_zero_or_one (x / 2 ^ n) with h | h <;> simp [h]
theorem val_snoc (l : List Bool) (b : Bool) : val (l ++ [b]) = 2 * val l + bv b := by simp [val]
theorem val_foldl (l : List Bool) : ∀ x, l.foldl (fun x b => 2 * x + bv b) x = x * 2 ^ l.length + val l := by
  induction l with
  | nil => intro x; simp [val]
  | cons b l ih =>
    intro x
    unfold val
    rw [List.foldl_cons, List.foldl_cons, ih, ih, List.length_cons, Nat.pow_succ, Nat.add_mul, Nat.mul_zero, Nat.zero_add, Nat.add_assoc]
    congr 1
    rw [Nat.mul_comm 2 x, Nat.mul_assoc, Nat.mul_comm 2]
theorem val_append (a b : List Bool) : val (a ++ b) = val a * 2 ^ b.length + val b := by
  unfold val
  rw [List.foldl_append, val_foldl]
  rfl
theorem val_cons (b : Bool) (l : List Bool) : val (b :: l) = bv b * 2 ^ l.length + val l := by
  have := val_append [b] l
  simpa [val] using this
theorem val_lt (l : List Bool) : val l < 2 ^ l.length := by
  induction l with
  | nil => decide
  | cons b l ih =>
    rw [val_cons, List.length_cons, Nat.pow_succ]
    have := bv_lt b
    have : bv b * 2 ^ l.length ≤ 1 * 2 ^ l.length := Nat.mul_le_mul_right _ (by omega)
    omega
theorem numB_length (x : Nat) : ∀ n, (numB x n).length = n
  | 0 => rfl
  | n + 1 => by rw [numB, List.length_cons, numB_length x n]
theorem val_numB (x : Nat) : ∀ n, val (numB x n) = x % 2 ^ n
  | 0 => by rw [Nat.pow_zero, Nat.mod_one]; rfl
  | n + 1 => by
    rw [numB, val_cons, numB_length, val_numB x n, bv_bit, Nat.pow_succ, Nat.mod_mul]
    rw [Nat.mul_comm, Nat.add_comm]
theorem bit_mod (x n k : Nat) (h : k < n) : bit (x % 2 ^ n) k = bit x k := by
  unfold bit
  have e : 2 ^ n = 2 ^ k * 2 ^ (n - k) := by rw [← Nat.pow_add]; congr 1; omega
  rw [e, Nat.mod_mul_right_div_self]
  have e2 : 2 ^ (n - k) = 2 * 2 ^ (n - k - 1) := by rw [← Nat.pow_succ']; congr 1; omega
  rw [e2, Nat.mod_mul_right_mod]
theorem numB_mod (x n : Nat) : ∀ k, k ≤ n → numB (x % 2 ^ n) k = numB x k
  | 0, _ => rfl
  | k + 1, h => by rw [numB, numB, bit_mod x n k (by omega), numB_mod x n k (by omega)]
theorem numB_val (l : List Bool) : numB (val l) l.length = l := by
  induction l with
  | nil => rfl
  | cons b l ih =>
    have h1 := val_lt l
    have h2 : val (b :: l) % 2 ^ l.length = val l := by
      rw [val_cons, Nat.add_comm, Nat.add_mul_mod_self_right, Nat.mod_eq_of_lt h1]
    have h3 : bit (val (b :: l)) l.length = b := by
      unfold bit
      rw [val_cons, Nat.add_comm, Nat.add_mul_div_right _ _ (Nat.pow_pos (by omega)), Nat.div_eq_of_lt h1, Nat.zero_add]
      cases b <;> rfl
    rw [List.length_cons, numB, h3, ← numB_mod _ l.length l.length (Nat.le_refl _), h2, ih]
theorem val_inj {a b : List Bool} (hl : a.length = b.length) (h : val a = val b) : a = b := by
  rw [← numB_val a, ← numB_val b, h, hl]
theorem numB_at (x : Nat) : ∀ n k (h : k < n), (numB x n)[k]'(by rw [numB_length]; exact h) = bit x (n - 1 - k)
  | n + 1, 0, _ => by simp [numB]
  | n + 1, k + 1, h => by
    have := numB_at x n k (by omega)
    simp only [numB, List.getElem_cons_succ, this]
    congr 1
    omega
/-- Bit k of a number of bits. -/
theorem bit_val (l : List Bool) (k : Nat) (h : k < l.length) : bit (val l) (l.length - 1 - k) = l[k] := by
  have := numB_at (val l) l.length k h
  rw [← this]
  exact List.getElem_of_eq (numB_val l) _

/-- Eight bits from one on, noughts behind. -/
def eight (l : List Bool) (k : Nat) : List Bool := (List.range 8).map fun j => l.getD (8 * k + j) false
/-- Eight bits a byte, the first one highest, the last byte filled with noughts. -/
def pack (l : List Bool) : List UInt8 := (List.range ((l.length + 7) / 8)).map fun k => UInt8.ofNat (val (eight l k))
/-- Bit i of bytes. -/
def bitAt (p : List UInt8) (i : Nat) : Bool := bit (p.getD (i / 8) 0).toNat (7 - i % 8)
/-- All bits of bytes. -/
def unpack (p : List UInt8) : List Bool := (List.range (8 * p.length)).map fun i => bitAt p i

theorem eight_length (l : List Bool) (k : Nat) : (eight l k).length = 8 := by simp [eight]
theorem eight_lt (l : List Bool) (k : Nat) : val (eight l k) < 256 := by
  have := val_lt (eight l k)
  rw [eight_length] at this
  exact this
theorem ofNat_val (n : Nat) (h : n < 256) : (UInt8.ofNat n).toNat = n := by simp; omega
theorem pack_length (l : List Bool) : (pack l).length = (l.length + 7) / 8 := by simp [pack]
theorem pack_at (l : List Bool) (k : Nat) (h : k < (l.length + 7) / 8) : (pack l).getD k 0 = UInt8.ofNat (val (eight l k)) := by
  simp [pack, List.getD_eq_getElem?_getD, h]
theorem bitAt_pack (l : List Bool) (i : Nat) : bitAt (pack l) i = l.getD i false := by
  unfold bitAt
  rcases Nat.lt_or_ge (i / 8) ((l.length + 7) / 8) with h | h
  · rw [pack_at l _ h, ofNat_val _ (eight_lt l _)]
    have h7 : 7 - i % 8 = (eight l (i / 8)).length - 1 - i % 8 := by rw [eight_length]
    rw [h7, bit_val (eight l (i / 8)) (i % 8) (by rw [eight_length]; omega)]
    simp only [eight, List.getElem_map, List.getElem_range]
    rw [show 8 * (i / 8) + i % 8 = i from by omega]
  · have h1 : (pack l).getD (i / 8) 0 = 0 := by
      rw [List.getD_eq_getElem?_getD, List.getElem?_eq_none (by rw [pack_length]; exact h)]
      rfl
    rw [h1, List.getD_eq_getElem?_getD, List.getElem?_eq_none (by omega)]
    show bit 0 _ = false
    simp [bit]
/-- A byte is its eight bits. -/
theorem byte_eq8 {a b : UInt8} (h : ∀ j, j < 8 → bit a.toNat j = bit b.toNat j) : a = b := by
  have ha : a.toNat < 2 ^ 8 := a.toNat_lt
  have hb : b.toNat < 2 ^ 8 := b.toNat_lt
  have e : ∀ n, n ≤ 8 → numB a.toNat n = numB b.toNat n := by
    intro n
    induction n with
    | zero => intro _; rfl
    | succ n ih => intro hn; rw [numB, numB, h n (by omega), ih (by omega)]
  have h8 := congrArg val (e 8 (Nat.le_refl _))
  rw [val_numB, val_numB, Nat.mod_eq_of_lt ha, Nat.mod_eq_of_lt hb] at h8
  exact UInt8.toNat_inj.1 h8
theorem bytes_ext {p q : List UInt8} (hl : p.length = q.length) (h : ∀ i, i < 8 * p.length → bitAt p i = bitAt q i) : p = q := by
  refine List.ext_getElem hl fun k h1 h2 => byte_eq8 fun j hj => ?_
  have := h (8 * k + (7 - j)) (by omega)
  unfold bitAt at this
  rw [show (8 * k + (7 - j)) / 8 = k from by omega, show 7 - (8 * k + (7 - j)) % 8 = j from by omega] at this
  simpa [List.getD_eq_getElem?_getD, h1, h2] using this
/-- Bytes are the bytes of their first n bits just if they are as many, and noughts stand behind. -/
theorem pack_first (p : List UInt8) (n : Nat) : pack ((unpack p).take n) = p ↔ (n ≥ 8 * p.length ∨ (8 * p.length < n + 8 ∧ ∀ i, n ≤ i → i < 8 * p.length → bitAt p i = false)) := by
  have hu : (unpack p).length = 8 * p.length := by simp [unpack]
  have hut : ∀ i, ((unpack p).take n).getD i false = if i < n ∧ i < 8 * p.length then bitAt p i else false := by
    intro i
    rw [List.getD_eq_getElem?_getD, List.getElem?_take]
    by_cases h1 : i < n
    · by_cases h2 : i < 8 * p.length
      · simp [h1, h2, unpack]
      · simp [h1, h2, unpack]
    · simp [h1]
  have hlen : ((unpack p).take n).length = min n (8 * p.length) := by rw [List.length_take, hu]
  constructor
  · intro h
    rcases Nat.lt_or_ge n (8 * p.length) with hlt | hge
    · refine .inr ⟨?_, fun i h1 h2 => ?_⟩
      · have := congrArg List.length h
        rw [pack_length, hlen, Nat.min_eq_left (by omega)] at this
        omega
      · have := bitAt_pack ((unpack p).take n) i
        rw [h, hut, if_neg (by omega)] at this
        exact this
    · exact .inl hge
  · intro h
    refine bytes_ext ?_ fun i hi => ?_
    · rw [pack_length, hlen]
      rcases h with h | ⟨h, -⟩ <;> omega
    · rw [bitAt_pack, hut]
      rw [pack_length, hlen] at hi
      split
      · rfl
      · rename_i hn
        rcases h with h | ⟨h1, h2⟩
        · unfold bitAt
          rw [List.getD_eq_getElem?_getD, List.getElem?_eq_none (by omega)]
          show false = bit 0 _
          simp [bit]
        · rcases Nat.lt_or_ge i (8 * p.length) with hlt | hge
          · exact (h2 i (by omega) hlt).symm
          · unfold bitAt
            rw [List.getD_eq_getElem?_getD, List.getElem?_eq_none (by omega)]
            show false = bit 0 _
            simp [bit]
/-- One bit more. -/
theorem pack_snoc_new (l : List Bool) (b : Bool) (h : l.length % 8 = 0) : pack (l ++ [b]) = pack l ++ [UInt8.ofNat (128 * bv b)] := by
  refine bytes_ext (by rw [List.length_append, pack_length, pack_length, List.length_append, List.length_singleton, List.length_singleton]; omega) fun i hi => ?_
  rw [pack_length, List.length_append, List.length_singleton] at hi
  rw [bitAt_pack]
  unfold bitAt
  rcases Nat.lt_or_ge (i / 8) (pack l).length with h1 | h1
  · have e1 : (pack l ++ [UInt8.ofNat (128 * bv b)]).getD (i / 8) 0 = (pack l).getD (i / 8) 0 := by
      rw [List.getD_eq_getElem?_getD, List.getD_eq_getElem?_getD, List.getElem?_append_left h1]
    rw [e1]
    have := bitAt_pack l i
    unfold bitAt at this
    rw [this]
    rw [pack_length] at h1
    rw [List.getD_eq_getElem?_getD, List.getD_eq_getElem?_getD, List.getElem?_append_left (by omega)]
  · rw [pack_length] at h1
    have e1 : (pack l ++ [UInt8.ofNat (128 * bv b)]).getD (i / 8) 0 = UInt8.ofNat (128 * bv b) := by
      rw [List.getD_eq_getElem?_getD, List.getElem?_append_right (by rw [pack_length]; exact h1), pack_length, show i / 8 - (l.length + 7) / 8 = 0 from by omega]
      rfl
    rw [e1, ofNat_val _ (by have := bv_lt b; omega)]
    by_cases h0 : i = l.length
    · subst h0
      rw [List.getD_eq_getElem?_getD, List.getElem?_append_right (Nat.le_refl _), Nat.sub_self, h]
      cases b <;> rfl
    · rw [List.getD_eq_getElem?_getD, List.getElem?_eq_none (by rw [List.length_append, List.length_singleton]; omega)]
      have hj : i % 8 = 1 ∨ i % 8 = 2 ∨ i % 8 = 3 ∨ i % 8 = 4 ∨ i % 8 = 5 ∨ i % 8 = 6 ∨ i % 8 = 7 := by omega
      rcases hj with hj | hj | hj | hj | hj | hj | hj <;> rw [hj] <;> cases b <;> rfl
theorem val_set (a : List Bool) (j : Nat) (h : j < a.length) (h0 : a[j] = false) (b : Bool) : val (a.set j b) = val a + bv b * 2 ^ (a.length - 1 - j) := by
  have e1 : a.set j b = a.take j ++ b :: a.drop (j + 1) := by rw [List.set_eq_take_append_cons_drop, if_pos h]
  have e2 : a = a.take j ++ false :: a.drop (j + 1) := by
    rw [← h0, ← List.drop_eq_getElem_cons h, List.take_append_drop]
  have e3 : val a = val (a.take j ++ false :: a.drop (j + 1)) := by rw [← e2]
  rw [e1, e3, val_append, val_append, val_cons, val_cons, List.length_drop, List.length_cons, List.length_cons, List.length_drop, show a.length - (j + 1) = a.length - 1 - j from by omega]
  show _ + (_ + _) = _ + (0 * _ + _) + _
  omega
theorem eight_at (l : List Bool) (k j : Nat) (h : j < 8) : (eight l k)[j]'(by rw [eight_length]; exact h) = l.getD (8 * k + j) false := by simp [eight]
theorem pack_snoc_set (l : List Bool) (b : Bool) (h : l.length % 8 ≠ 0) :
    pack (l ++ [b]) = (pack l).set (l.length / 8) (UInt8.ofNat (((pack l).getD (l.length / 8) 0).toNat + bv b * 2 ^ (7 - l.length % 8))) := by
  have hk : l.length / 8 < (l.length + 7) / 8 := by omega
  have h8 : eight (l ++ [b]) (l.length / 8) = (eight l (l.length / 8)).set (l.length % 8) b := by
    refine List.ext_getElem (by rw [List.length_set, eight_length, eight_length]) fun j h1 h2 => ?_
    rw [eight_length] at h1
    rw [eight_at _ _ _ h1, List.getElem_set, eight_at _ _ _ h1]
    split
    · rename_i he
      subst he
      rw [show 8 * (l.length / 8) + l.length % 8 = l.length from by omega, List.getD_eq_getElem?_getD, List.getElem?_append_right (Nat.le_refl _), Nat.sub_self]
      rfl
    · rename_i he
      rw [List.getD_eq_getElem?_getD, List.getD_eq_getElem?_getD]
      rcases Nat.lt_or_ge (8 * (l.length / 8) + j) l.length with hlt | hge
      · rw [List.getElem?_append_left hlt]
      · rw [List.getElem?_eq_none (by rw [List.length_append, List.length_singleton]; omega), List.getElem?_eq_none hge]
  have h0 : (eight l (l.length / 8))[l.length % 8]'(by rw [eight_length]; omega) = false := by
    rw [eight_at _ _ _ (by omega), show 8 * (l.length / 8) + l.length % 8 = l.length from by omega, List.getD_eq_getElem?_getD, List.getElem?_eq_none (Nat.le_refl _)]
    rfl
  have hv := val_set (eight l (l.length / 8)) (l.length % 8) (by rw [eight_length]; omega) h0 b
  rw [eight_length, ← h8, show 8 - 1 - l.length % 8 = 7 - l.length % 8 from rfl] at hv
  refine List.ext_getElem (by rw [List.length_set, pack_length, pack_length, List.length_append, List.length_singleton]; omega) fun i h1 h2 => ?_
  rw [pack_length, List.length_append, List.length_singleton] at h1
  have g : ∀ (m : List Bool) (hi : i < (pack m).length), (pack m)[i] = UInt8.ofNat (val (eight m i)) := by
    intro m hi
    simp [pack]
  rw [g, List.getElem_set]
  split
  · rename_i he
    subst he
    rw [hv, pack_at l _ hk, ofNat_val _ (eight_lt l _)]
  · rename_i he
    rw [g]
    congr 2
    refine List.ext_getElem (by rw [eight_length, eight_length]) fun j h3 h4 => ?_
    rw [eight_length] at h3
    rw [eight_at _ _ _ h3, eight_at _ _ _ h3, List.getD_eq_getElem?_getD, List.getD_eq_getElem?_getD, List.getElem?_append_left (by omega)]

end Go.Proofs.YtnalokjnbccjnaaGreatDoor

namespace Go.Proofs.YtnalokjnbccjnaaGreatDoor

theorem bit_test (x n : Nat) : bit x n = x.testBit n := by
  unfold bit
  rw [Nat.testBit_eq_decide_div_mod_eq]
  by_cases h : x / 2 ^ n % 2 = 1 <;> simp [h]
theorem numB_split (x b : Nat) : ∀ a, numB x (a + b) = numB (x / 2 ^ b) a ++ numB x b
  | 0 => by rw [Nat.zero_add]; rfl
  | a + 1 => by
    rw [show a + 1 + b = (a + b) + 1 from by omega, numB, numB, List.cons_append, ← numB_split x b a]
    congr 1
    unfold bit
    rw [Nat.div_div_eq_div_mul, ← Nat.pow_add, Nat.add_comm b a]
theorem numB_take (x n t : Nat) (h : t ≤ n) : (numB x n) = numB (x / 2 ^ (n - t)) t ++ numB x (n - t) := by
  have := numB_split x (n - t) t
  rwa [show t + (n - t) = n from by omega] at this
theorem val_drop (m : List Bool) (p : Nat) : val (m.drop p) = val m % 2 ^ (m.length - p) := by
  have h1 := val_append (m.take p) (m.drop p)
  rw [List.take_append_drop, List.length_drop] at h1
  have h2 := val_lt (m.drop p)
  rw [List.length_drop] at h2
  rw [h1, Nat.add_comm, Nat.add_mul_mod_self_right, Nat.mod_eq_of_lt h2]
theorem val_take (m : List Bool) (t : Nat) : val (m.take t) = val m / 2 ^ (m.length - t) := by
  have h1 := val_append (m.take t) (m.drop t)
  rw [List.take_append_drop, List.length_drop] at h1
  have h2 := val_lt (m.drop t)
  rw [List.length_drop] at h2
  rw [h1, Nat.add_comm, Nat.add_mul_div_right _ _ (Nat.pow_pos (by omega)), Nat.div_eq_of_lt h2, Nat.zero_add]
/-- A piece out of eight bits. -/
theorem val_piece (m : List Bool) (p t : Nat) (h8 : m.length = 8) (h : p + t ≤ 8) : val ((m.drop p).take t) = val m * 2 ^ p % 256 / 2 ^ (8 - t) := by
  rw [val_take, val_drop, List.length_drop, h8]
  have e : 256 = 2 ^ (8 - p) * 2 ^ p := by rw [← Nat.pow_add, show 8 - p + p = 8 from by omega]
  rw [e, Nat.mul_mod_mul_right, show 8 - t = p + (8 - p - t) from by omega, Nat.pow_add, ← Nat.div_div_eq_div_mul, Nat.mul_div_cancel _ (Nat.pow_pos (by omega))]
theorem pack_getElem (l : List Bool) (k : Nat) (h : k < (pack l).length) : (pack l)[k] = UInt8.ofNat (val (eight l k)) := by simp [pack]
/-- t bits from one on, all in one byte. -/
theorem pack_piece (l : List Bool) (at_ t : Nat) (h : at_ % 8 + t ≤ 8) (h2 : at_ + t ≤ l.length) (ht : 0 < t) (hk : at_ / 8 < (pack l).length) :
    (pack l)[at_ / 8].toNat * 2 ^ (at_ % 8) % 256 / 2 ^ (8 - t) = val ((l.drop at_).take t) := by
  rw [pack_getElem, ofNat_val _ (eight_lt l _), ← val_piece _ _ _ (eight_length l _) h]
  congr 1
  refine List.ext_getElem (by simp only [List.length_take, List.length_drop, eight_length]; omega) fun j h3 h4 => ?_
  simp only [List.length_take, List.length_drop, eight_length] at h3 h4
  rw [List.getElem_take, List.getElem_take, List.getElem_drop, List.getElem_drop, eight_at _ _ _ (by omega), List.getD_eq_getElem?_getD, List.getElem?_eq_getElem (by omega)]
  simp only [Option.getD_some]
  congr 1
  omega
theorem take_more (l : List Bool) (i j t : Nat) : ((l.drop i).take j) ++ ((l.drop (i + j)).take t) = (l.drop i).take (j + t) := by
  rw [List.take_add, List.drop_drop]
/-- Put behind what has been gathered. -/
theorem or_val (x p t : Nat) (h : p < 2 ^ t) : x * 2 ^ t ||| p = x * 2 ^ t + p := by
  have := Nat.shiftLeft_add_eq_or_of_lt h x
  rw [Nat.shiftLeft_eq] at this
  exact this.symm

/-- Bytes with room for one bit more. -/
def room (l : List Bool) : List UInt8 := if l.length % 8 = 0 then pack l ++ [0] else pack l
theorem room_length (l : List Bool) : (room l).length = l.length / 8 + 1 := by
  unfold room
  split
  · rw [List.length_append, pack_length, List.length_singleton]; omega
  · rw [pack_length]; omega
theorem bitAt_room (l : List Bool) (i : Nat) : bitAt (room l) i = l.getD i false := by
  unfold room
  split
  · rename_i h
    rw [← bitAt_pack]
    unfold bitAt
    rcases Nat.lt_or_ge (i / 8) (pack l).length with h1 | h1
    · rw [List.getD_eq_getElem?_getD, List.getD_eq_getElem?_getD, List.getElem?_append_left h1]
    · rw [List.getD_eq_getElem?_getD, List.getD_eq_getElem?_getD, List.getElem?_append_right h1, List.getElem?_eq_none h1]
      rcases Nat.eq_zero_or_pos (i / 8 - (pack l).length) with h2 | h2
      · rw [h2]; rfl
      · rw [List.getElem?_eq_none (by simp only [List.length_singleton]; omega)]
  · exact bitAt_pack l i
/-- The byte that a piece is put into. -/
def putByte (o c t u : Nat) : Nat := o ||| c * 2 ^ (8 - t) / 2 ^ u
theorem putByte_lt (o c t u : Nat) (ho : o < 256) (hc : c < 2 ^ t) (ht : t ≤ 8) : putByte o c t u < 256 := by
  unfold putByte
  have h1 : c * 2 ^ (8 - t) < 2 ^ 8 := by
    have : 2 ^ 8 = 2 ^ t * 2 ^ (8 - t) := by rw [← Nat.pow_add]; congr 1; omega
    rw [this]
    exact Nat.mul_lt_mul_of_pos_right hc (Nat.pow_pos (by omega))
  have h2 := Nat.div_le_self (c * 2 ^ (8 - t)) (2 ^ u)
  exact Nat.or_lt_two_pow (n := 8) (by omega) (by omega)
/-- A piece behind the last bit. -/
theorem pack_more (l c : List Bool) (h : l.length % 8 + c.length ≤ 8) (hc : 0 < c.length) :
    pack (l ++ c) = (room l).set (l.length / 8) (UInt8.ofNat (putByte ((room l).getD (l.length / 8) 0).toNat (val c) c.length (l.length % 8))) := by
  have hv := val_lt c
  refine bytes_ext (by rw [List.length_set, room_length, pack_length, List.length_append]; omega) fun i hi => ?_
  rw [pack_length, List.length_append] at hi
  rw [bitAt_pack]
  by_cases hk : i / 8 = l.length / 8
  · have e1 : ((room l).set (l.length / 8) (UInt8.ofNat (putByte ((room l).getD (l.length / 8) 0).toNat (val c) c.length (l.length % 8)))).getD (i / 8) 0 = UInt8.ofNat (putByte ((room l).getD (l.length / 8) 0).toNat (val c) c.length (l.length % 8)) := by
      rw [hk, List.getD_eq_getElem?_getD, List.getElem?_set_self (by rw [room_length]; omega), Option.getD_some]
    have e2 := bitAt_room l i
    unfold bitAt at e2 ⊢
    rw [e1, ofNat_val _ (putByte_lt _ _ _ _ (UInt8.toNat_lt _) hv (by omega))]
    unfold putByte
    rw [bit_test, Nat.testBit_or, ← hk, ← bit_test, e2, Nat.testBit_div_two_pow, Nat.testBit_mul_two_pow]
    rcases Nat.lt_or_ge i l.length with hlt | hge
    · rw [List.getD_eq_getElem?_getD, List.getD_eq_getElem?_getD, List.getElem?_append_left hlt]
      have hz : (decide (8 - c.length ≤ 7 - i % 8 + l.length % 8) && (val c).testBit (7 - i % 8 + l.length % 8 - (8 - c.length))) = false := by
        have : val c < 2 ^ (7 - i % 8 + l.length % 8 - (8 - c.length)) := Nat.lt_of_lt_of_le hv (Nat.pow_le_pow_right (by omega) (by omega))
        rw [Nat.testBit_lt_two_pow this, Bool.and_false]
      rw [hz, Bool.or_false]
    · rw [List.getD_eq_getElem?_getD, List.getD_eq_getElem?_getD, List.getElem?_eq_none hge, List.getElem?_append_right hge, Option.getD_none, Bool.false_or]
      rcases Nat.lt_or_ge (i - l.length) c.length with h1 | h1
      · have hb := bit_val c (i - l.length) h1
        rw [List.getElem?_eq_getElem h1, Option.getD_some, ← hb, bit_test, show 7 - i % 8 + l.length % 8 - (8 - c.length) = c.length - 1 - (i - l.length) from by omega, decide_eq_true (by omega), Bool.true_and]
      · rw [List.getElem?_eq_none h1, Option.getD_none]
        have : ¬ (8 - c.length ≤ 7 - i % 8 + l.length % 8) := by omega
        rw [decide_eq_false this, Bool.false_and]
  · have e1 : ((room l).set (l.length / 8) (UInt8.ofNat (putByte ((room l).getD (l.length / 8) 0).toNat (val c) c.length (l.length % 8)))).getD (i / 8) 0 = (room l).getD (i / 8) 0 := by
      rw [List.getD_eq_getElem?_getD, List.getElem?_set_ne (by omega), ← List.getD_eq_getElem?_getD]
    have e2 := bitAt_room l i
    unfold bitAt at e2 ⊢
    rw [e1, e2, List.getD_eq_getElem?_getD, List.getD_eq_getElem?_getD, List.getElem?_append_left (by omega)]

end Go.Proofs.YtnalokjnbccjnaaGreatDoor

namespace Go.Proofs.YtnalokjnbccjnaaGreatDoor
open Go.RowKit

def zb (l : List Bool) : List Value := l.map Value.bool
theorem zb_length (l : List Bool) : (zb l).length = l.length := by simp [zb]
theorem zb_append (l m : List Bool) : zb (l ++ m) = zb l ++ zb m := by simp [zb]
theorem zb_at (l : List Bool) (i : Nat) (h : i < l.length) : (zb l)[i]'(by rw [zb_length]; exact h) = .bool l[i] := by simp [zb]
theorem zb_one (l : List Bool) : ∀ u ∈ zb l, u.oneCell' = true := by
  intro u hu
  obtain ⟨n, -, rfl⟩ := List.mem_map.1 hu
  rfl
/-- A bool of it. -/
theorem RV.zbAt {w : World} {a : Option Addr} {len cap : Nat} {l : List Bool} (h : RV w (.slice a len cap) (zb l)) (k : Nat) (hk : k < l.length) : ∃ b o, a = some ⟨b, o, none⟩ ∧ w.cell? ⟨b, o + k, none⟩ = some (.bool l[k]) ∧ b < w.heap.size := by
  obtain ⟨b, o, h1, h2, h3⟩ := h.at k (by rw [zb_length]; exact hk)
  rw [zb_at l k hk] at h2
  exact ⟨b, o, h1, h2, h3⟩
theorem RV.zbForm {w : World} {v : Value} {l : List Bool} (h : RV w v (zb l)) : ∃ a cap, v = .slice a l.length cap ∧ l.length ≤ 9223372036854775807 ∧ (a = none → l.length = 0) := by
  obtain ⟨a, cap, hv, h1, h2, h3, -⟩ := h
  rw [zb_length] at hv h1
  refine ⟨a, cap, hv, by unfold maxLen at h2; omega, fun ha => by have := h3 ha; omega⟩

theorem RV.zbCap {w : World} {a : Option Addr} {len cap : Nat} {l : List Bool} (h : RV w (.slice a len cap) (zb l)) : l.length ≤ cap := by
  obtain ⟨a', cap', hv, h1, -⟩ := h
  simp only [Value.slice.injEq] at hv
  obtain ⟨rfl, rfl, rfl⟩ := hv
  rw [zb_length] at h1
  exact h1
theorem RV.zbTake {w : World} {a : Option Addr} {len cap : Nat} {l : List Bool} (h : RV w (.slice a len cap) (zb l)) (n : Nat) (hn : n ≤ l.length) : RV w (.slice a n cap) (zb (l.take n)) := by
  obtain ⟨a', cap', hv, h1, h2, h3, h4⟩ := h
  simp only [Value.slice.injEq] at hv
  obtain ⟨rfl, rfl, rfl⟩ := hv
  rw [zb_length] at h1
  have hlen : (zb (l.take n)).length = n := by rw [zb_length, List.length_take]; omega
  refine ⟨a, cap, by rw [hlen], by rw [hlen]; omega, h2, h3, fun hne => ?_⟩
  obtain ⟨b, o, ha, hc⟩ := h4 (by intro e; rw [← List.length_eq_zero_iff, zb_length] at e; apply hne; rw [← List.length_eq_zero_iff, hlen]; omega)
  refine ⟨b, o, ha, fun i hi => ?_⟩
  rw [hlen] at hi
  have := hc i (by rw [zb_length]; omega)
  rw [zb_at l i (by omega)] at this
  rw [this, zb_at _ i (by rw [List.length_take]; omega)]
  simp
/-- 'append(s, x...)', s the call's own, x whatever reads as m: bools. -/
theorem wpList_append_zb {P : Program} {ops : Array Oper} {rest : List Oper} {o : Oper} {a : Act} {w : World} {Q : Exit → Act → World → Prop} (hgd : o.guard = none) (s x : Operand) (t : TypeId)
    (ho : o.op = .call { callee := .builtin .append, args := #[s, x], argTypes := #[t, t] })
    (B : Nat) (e : TypeId) (ht : P.underlying t = some (.slice e)) (hinfo : (P.info? e).map (fun i => (i.zero, i.size, i.bytes)) = some (some (.bool false), 1, 1))
    (v xv : Value) (l m : List Bool) (hs : a.eval s = v) (hx : a.eval x = xv) (hown : OwnV e w B v (zb l)) (hrb : RV w xv (zb m))
    (hlen : l.length + m.length ≤ 140737488355328) (hbase : B ≤ w.heap.size)
    (h : ∀ v' w', OwnV e w' B v' (zb (l ++ m)) → w.grownBy w' v.ownBlock → wpList P ops Q rest (a.put o.dst v') w') : wpList P ops Q (o :: rest) a w := by
  refine wpList_append_RV hgd s x t ho B e ht (.bool false) 1 rfl hinfo v xv (zb l) (zb m) hs hx hown hrb (zb_one m) (by rw [zb_length, zb_length]; omega) (by rw [zb_length, zb_length]; omega) hbase fun v' w' h1 h2 => h v' w' ?_ h2
  rw [zb_append]
  exact h1
/-- 'make([]bool, n)'. -/
theorem wpList_make_zb {P : Program} {ops : Array Oper} {rest : List Oper} {o : Oper} {a : Act} {w : World} {Q : Exit → Act → World → Prop} (hgd : o.guard = none) (lo co : Operand) (t : TypeId)
    (hop : o.op = Op.makeSlice t lo co) (e : TypeId) (ht : P.underlying t = some (.slice e)) (hinfo : (P.info? e).map (fun i => (i.zero, i.size, i.bytes)) = some (some (.bool false), 1, 1))
    (kl kc : IntKind) (L : Int) (n : Nat) (hl : a.eval lo = .int kl L) (hc : a.eval co = .int kc L) (hL : L = (n : Int)) (hcm : n ≤ 140737488355328)
    (h : ∀ v w', OwnV e w' w.heap.size v (zb (List.replicate n false)) → Below w.heap.size w w' → wpList P ops Q rest (a.put o.dst v) w') : wpList P ops Q (o :: rest) a w := by
  obtain ⟨i, hi, hz, hsize, hby⟩ := info_parts hinfo
  subst hL
  have hr := run_make (P := P) w t e i (.bool false) ht hi hz kl kc n n (by omega) (by omega) (by rw [hby]; omega) (by omega)
  simp only [Int.toNat_natCast, hsize, Nat.mul_one] at hr
  refine wpList_gives hgd (.slice (some ⟨w.heap.size, 0, none⟩) n n) (w.alloc (.cells (madeCells (Value.bool false).cells n) e)) (by simp [execOp, hop, hl, hc, hr, Result.andThen]) (h _ _ ?_ (grown_below (World.grownBy_alloc w _ none) (Nat.le_refl _) (by simp)))
  refine ⟨by simp, .inr ⟨w.heap.size, n, madeCells #[Value.bool false] n, (by simp [zb]), Nat.le_refl _, ?_, by simp [zb], by unfold maxLen; omega, by simp [size_madeCells], ?_⟩⟩
  · exact heap_alloc_new w _
  · rw [toList_madeCells_one, List.take_replicate]
    simp [zb]
theorem grown_new {w w' : World} (hg : w.grownBy w' (Value.slice none 0 0).ownBlock) : Below w.heap.size w w' := grown_below hg (Nat.le_refl _) (by simp [Value.ownBlock])
/-- Bools that are written out, in a new block of their own. -/
theorem RV.zbLits (w : World) (e : TypeId) (l : List Bool) (arr : Array Value) (n : Nat) (h : arr = (zb l).toArray) (hn : n = l.length) (hm : l.length ≤ 1000) : RV (w.alloc (.cells arr e)) (.slice (some ⟨w.heap.size, 0, none⟩) n n) (zb l) := by
  subst h hn
  refine ⟨some ⟨w.heap.size, 0, none⟩, l.length, by rw [zb_length], by rw [zb_length]; exact Nat.le_refl _, by unfold maxLen; omega, (fun h => by cases h), fun _ => ⟨w.heap.size, 0, rfl, fun i hi => ?_⟩⟩
  rw [cell_of_row _ w.heap.size (0 + i) (zb l).toArray e (0, 0) (heap_alloc_new w _)]
  simp [hi]
theorem RV.zbOne (w : World) (e : TypeId) (t : Bool) : RV (w.alloc (.cells #[.bool t] e)) (.slice (some ⟨w.heap.size, 0, none⟩) 1 1) (zb [t]) := RV.one w e (.bool t)
theorem infoB : (Tryz.prog.info? 4).map (fun i => (i.zero, i.size, i.bytes)) = some (some (.bool false), 1, 1) := by kernel_rfl

end Go.Proofs.YtnalokjnbccjnaaGreatDoor

namespace Go.Proofs.YtnalokjnbccjnaaGreatDoor
open Go.RowKit

def zf (n : Nat) (f : Nat → Bool) : List Value := zb ((List.range n).map f)
theorem zf_length (n : Nat) (f : Nat → Bool) : (zf n f).length = n := by simp [zf, zb]
theorem zf_at (n : Nat) (f : Nat → Bool) (i : Nat) (h : i < n) : (zf n f)[i]? = some (.bool (f i)) := by simp [zf, zb, h]
theorem zf_congr {n : Nat} {f f' : Nat → Bool} (h : ∀ i, i < n → f i = f' i) : zf n f = zf n f' := by
  unfold zf
  congr 1
  refine List.map_congr_left fun i hi => h i (by simpa using hi)
theorem zf_set (n : Nat) (f : Nat → Bool) (i : Nat) (x : Bool) : (zf n f).set i (.bool x) = zf n (fun j => if j = i then x else f j) := by
  refine List.ext_getElem? fun j => ?_
  rw [List.getElem?_set]
  by_cases hj : j < n
  · rw [zf_at n f j hj, zf_at n (fun j => if j = i then x else f j) j hj]
    by_cases e : i = j
    · subst e
      rw [if_pos rfl, if_pos (by rw [zf_length]; exact hj), if_pos rfl]
    · rw [if_neg e, if_neg (fun h : j = i => e h.symm)]
  · rw [List.getElem?_eq_none (l := zf n (fun j => if j = i then x else f j)) (by rw [zf_length]; omega), List.getElem?_eq_none (l := zf n f) (by rw [zf_length]; omega), zf_length]
    split
    · split
      · omega
      · rfl
    · rfl
theorem zf_rep (n : Nat) : zf n (fun _ => false) = zb (List.replicate n false) := by
  unfold zf
  rw [List.map_const', List.length_range]
theorem grow_trans {a w w' : World} {row : Option Nat} (h : a.grownBy w row) (k : w.grownBy w' row) : a.grownBy w' row :=
  ⟨k.os.trans h.os, k.tape.trans h.tape, k.output.trans h.output, Nat.le_trans h.size k.size, fun i hi hn => (k.block i (Nat.lt_of_lt_of_le hi h.size) hn).trans (h.block i hi hn)⟩
theorem grow_below {w w' : World} {row : Option Nat} (h : Below w.heap.size w w') : w.grownBy w' row := ⟨h.os, h.tape, h.output, h.size, fun k hk _ => h.block k hk⟩
theorem grow_setRow {w0 w : World} {row : Option Nat} (h : w0.grownBy w row) (g : Nat) (cs : Array Value) (hg : w0.heap.size ≤ g) : w0.grownBy (w.setRow g cs) row :=
  ⟨h.os, h.tape, h.output, by simpa using h.size, fun k hk hn => (setRow_other _ _ _ _ (by omega)).trans (h.block k hk hn)⟩
theorem grow_row (w : World) (g : Nat) (cs : Array Value) : w.grownBy (w.setRow g cs) (some g) :=
  ⟨rfl, rfl, rfl, by simp, fun k hk hn => setRow_other _ _ _ _ (by intro e; exact hn (by rw [e]))⟩
theorem below_alloc (w : World) (o : Obj) : Below w.heap.size w (w.alloc o) := (Below.refl _ _).alloc (Nat.le_refl _) o

section
variable {e : TypeId} {w w' : World} {B g n c : Nat} {f : Nat → Bool} {v : Value}
theorem OwnV.fcell (h : OwnV e w B (.slice (some ⟨g, 0, none⟩) n c) (zf n f)) (i : Nat) (hi : i < n) : w.cell? ⟨g, i, none⟩ = some (.bool (f i)) := by
  have := World.ownsRow.cells h (g := g) rfl i _ (zf_at n f i hi)
  have hadd : (⟨g, 0, none⟩ : Addr).add i = ⟨g, i, none⟩ := by unfold Addr.add; split <;> simp_all
  rw [hadd] at this
  exact this
theorem OwnV.fz (h : OwnV e w B (.slice (some ⟨g, 0, none⟩) n c) (zf n f)) (i : Nat) : w.frozen? ⟨g, i, none⟩ = false := by
  rcases h.2 with ⟨h', -⟩ | ⟨g', cap', cur, h', -, hg, -⟩
  · cases h'
  · simp only [Value.slice.injEq, Option.some.injEq, Addr.mk.injEq, and_true] at h'
    obtain ⟨rfl, -⟩ := h'
    exact frozen_of_row w g i cur e hg
theorem OwnV.lt (h : OwnV e w B (.slice (some ⟨g, 0, none⟩) n c) (zf n f)) : g < w.heap.size ∧ B ≤ g := by
  have := World.ownsRow.lt h g rfl
  exact ⟨this.2, this.1⟩
theorem OwnV.capOk (h : OwnV e w B (.slice (some ⟨g, 0, none⟩) n c) (zf n f)) : n ≤ c ∧ c ≤ maxLen := by
  rcases h.2 with ⟨h', -⟩ | ⟨g', cap', cur, h', -, hg, h1, h2, -⟩
  · cases h'
  · simp only [Value.slice.injEq, Option.some.injEq, Addr.mk.injEq, and_true] at h'
    obtain ⟨rfl, h3, rfl⟩ := h'
    rw [zf_length] at h1
    exact ⟨h1, h2⟩
theorem OwnV.fset (h : OwnV e w B (.slice (some ⟨g, 0, none⟩) n c) (zf n f)) (i : Nat) (x : Bool) : OwnV e (w.setCell ⟨g, i, none⟩ (.bool x)) B (.slice (some ⟨g, 0, none⟩) n c) (zf n (fun j => if j = i then x else f j)) ∧ w.grownBy (w.setCell ⟨g, i, none⟩ (.bool x)) (some g) := by
  unfold OwnV at h ⊢
  rw [zf_length] at h ⊢
  obtain ⟨h1, h2⟩ := World.ownsRow.stored h i (.bool x)
  rw [zf_set] at h1
  exact ⟨h1, h2⟩
theorem OwnV.fform (h : OwnV e w B v (zf n f)) (hn : 0 < n) : ∃ g c, v = .slice (some ⟨g, 0, none⟩) n c := by
  rcases h.2 with ⟨-, h0⟩ | ⟨g, cap, cur, hv, -⟩
  · rw [zf_length] at h0; omega
  · rw [zf_length] at hv
    exact ⟨g, cap, hv⟩
theorem OwnV.anyform (h : OwnV e w B v (zf n f)) : ∃ a c, v = .slice a n c := by
  obtain ⟨a, c, hv, -⟩ := h.rv.form
  rw [zf_length] at hv
  exact ⟨a, c, hv⟩
end

/-- r, a *extent.Room: n sectors from at on, those free at which G is true; it lies from block B on; v: its row. -/
structure RM (w : World) (B r at_ n : Nat) (v : Value) (G : Nat → Bool) : Prop where
  blk : w.heap[r]? = some (.cells #[.int .i64 (at_ : Int), v] 133)
  row : OwnV 4 w B v (zf n (fun i => G (at_ + i)))
  low : B ≤ r
  out : ∀ k, k < at_ ∨ at_ + n ≤ k → G k = false
  small : at_ + n ≤ 100000
section
variable {w w' : World} {B r at_ n : Nat} {v : Value} {G : Nat → Bool}
theorem RM.lt (h : RM w B r at_ n v G) : r < w.heap.size := (Array.getElem?_eq_some_iff.1 h.blk).1
theorem RM.c0 (h : RM w B r at_ n v G) : w.cell? ⟨r, 0, none⟩ = some (.int .i64 (at_ : Int)) := by rw [cell_of_row w r 0 _ _ _ h.blk]; rfl
theorem RM.c1 (h : RM w B r at_ n v G) : w.cell? ⟨r, 1, none⟩ = some v := by rw [cell_of_row w r 1 _ _ _ h.blk]; rfl
theorem RM.below (h : RM w B r at_ n v G) (hb : Below w.heap.size w w') : RM w' B r at_ n v G := ⟨(hb.block r h.lt).trans h.blk, h.row.below hb, h.low, h.out, h.small⟩
theorem RM.mono {B' : Nat} (h : RM w B r at_ n v G) (hB : B' ≤ B) : RM w B' r at_ n v G := ⟨h.blk, h.row.mono hB, Nat.le_trans hB h.low, h.out, h.small⟩
theorem RM.ne (h : RM w B r at_ n v G) : some r ≠ v.ownBlock := by
  intro e
  rcases h.row.2 with ⟨rfl, -⟩ | ⟨g, cap, cur, rfl, -, hg, -⟩
  · cases e
  · simp only [Value.ownBlock, Option.some.injEq] at e
    subst e
    have h2 := h.blk
    rw [hg] at h2
    simp only [Option.some.injEq, Obj.cells.injEq] at h2
    exact absurd h2.2.1 (by decide)
/-- The row is another one. -/
theorem RM.rowTo {G' : Nat → Bool} (h : RM w B r at_ n v G) (hg : w.grownBy w' v.ownBlock) (hr : OwnV 4 w' B v (zf n (fun i => G' (at_ + i)))) (ho : ∀ k, k < at_ ∨ at_ + n ≤ k → G' k = false) : RM w' B r at_ n v G' :=
  ⟨(hg.block r h.lt h.ne).trans h.blk, hr, h.low, ho, h.small⟩
theorem RM.belowOf (h : RM w B r at_ n v G) (hg : w.grownBy w' v.ownBlock) (hB : B ≤ w.heap.size) : Below B w w' := grown_below hg hB h.row.row
/-- It stays while another row grows. -/
theorem RM.kept {row : Option Nat} (h : RM w B r at_ n v G) (hg : w.grownBy w' row) (h1 : some r ≠ row) (h2 : v.ownBlock = none ∨ v.ownBlock ≠ row) : RM w' B r at_ n v G :=
  ⟨(hg.block r h.lt h1).trans h.blk, h.row.kept hg h2, h.low, h.out, h.small⟩
/-- It stays while a row of another type grows. -/
theorem RM.keptRow {e : TypeId} {B' : Nat} {u : Value} {xs : List Value} {s m : Nat} (h : RM w B r at_ n v G) (hu : w.ownsRow B' e s u m xs) (he1 : e ≠ 4) (he2 : e ≠ 133) (hg : w.grownBy w' u.ownBlock) : RM w' B r at_ n v G := by
  refine h.kept hg (fun e' => ?_) ?_
  · rcases hu.2 with ⟨rfl, -⟩ | ⟨g, cap, cur, rfl, -, hg2, -⟩
    · cases e'
    · simp only [Value.ownBlock, Option.some.injEq] at e'
      subst e'
      have h2 := h.blk
      rw [hg2] at h2
      simp only [Option.some.injEq, Obj.cells.injEq] at h2
      exact he2 h2.2.1
  · rcases h.row.2 with ⟨rfl, -⟩ | ⟨g, cap, cur, rfl, -, hg1, -⟩
    · exact .inl rfl
    · refine .inr fun e' => ?_
      rcases hu.2 with ⟨rfl, -⟩ | ⟨g2, cap2, cur2, rfl, -, hg2, -⟩
      · cases e'
      · simp only [Value.ownBlock, Option.some.injEq] at e'
        subst e'
        rw [hg1] at hg2
        simp only [Option.some.injEq, Obj.cells.injEq] at hg2
        exact he1 hg2.2.1.symm
theorem RM.notBlk {k : Nat} {cs : Array Value} {t : TypeId} {fr : Nat × Nat} (h : RM w B r at_ n v G) (hk : w.heap[k]? = some (.cells cs t fr)) (he1 : t ≠ 4) : some k ≠ v.ownBlock := by
  intro e'
  rcases h.row.2 with ⟨rfl, -⟩ | ⟨g, cap, cur, rfl, -, hg1, -⟩
  · cases e'
  · simp only [Value.ownBlock, Option.some.injEq] at e'
    subst e'
    rw [hg1] at hk
    simp only [Option.some.injEq, Obj.cells.injEq] at hk
    exact he1 hk.2.1.symm
/-- It stays while a block of another type is written. -/
theorem RM.keptBlk {k : Nat} {cs : Array Value} {t : TypeId} {fr : Nat × Nat} (h : RM w B r at_ n v G) (hk : w.heap[k]? = some (.cells cs t fr)) (he1 : t ≠ 4) (he2 : t ≠ 133) (hg : w.grownBy w' (some k)) : RM w' B r at_ n v G := by
  refine h.kept hg (fun e' => ?_) ?_
  · simp only [Option.some.injEq] at e'
    subst e'
    have h2 := h.blk
    rw [hk] at h2
    simp only [Option.some.injEq, Obj.cells.injEq] at h2
    exact he2 h2.2.1
  · rcases h.row.2 with ⟨rfl, -⟩ | ⟨g, cap, cur, rfl, -, hg1, -⟩
    · exact .inl rfl
    · refine .inr fun e' => ?_
      simp only [Value.ownBlock, Option.some.injEq] at e'
      subst e'
      rw [hg1] at hk
      simp only [Option.some.injEq, Obj.cells.injEq] at hk
      exact he1 hk.2.1.symm
theorem RM.form (h : RM w B r at_ n v G) : ∃ a c, v = .slice a n c := h.row.anyform
end

end Go.Proofs.YtnalokjnbccjnaaGreatDoor

namespace Go.Proofs.YtnalokjnbccjnaaGreatDoor
open Go.RowKit

/-- What Index answers. -/
def idxF (m : Nat) (f : Nat → Bool) (x : Bool) : Int := if firstF m f x < m then (firstF m f x : Int) else -1
theorem idxF_of {m : Nat} {f : Nat → Bool} {x : Bool} {k : Nat} (e : firstF m f x = k) (h : k < m) : idxF m f x = (k : Int) := by unfold idxF; rw [e, if_pos h]
theorem idxF_no {m : Nat} {f : Nat → Bool} {x : Bool} {k : Nat} (e : firstF m f x = k) (h : ¬ k < m) : idxF m f x = -1 := by unfold idxF; rw [e, if_neg h]
section
variable {w : World} {g o m cap : Nat} {f : Nat → Bool}
set_option maxRecDepth 100000 in
theorem index_c (h : ∀ i, i < m → w.cell? ⟨g, o + i, none⟩ = some (.bool (f i))) (hm : m ≤ 1000000) (x : Bool) : Calls Tryz.prog 133 #[.slice (some ⟨g, o, none⟩) m cap, .bool x] w fun e w' => e = .returned (.int .i64 (idxF m f x)) ∧ w = w' := by
  have H := Go.Lib.hid h; clear h
  go_enter Tryz.func133, Tryz.ntmps133
  go_wp2_with fail
  go_loopw [8] (fun c wr => ∃ k : Nat, k ≤ m ∧ c = .int .i64 (k : Int) ∧ Hid (∀ j, j < k → f j ≠ x) ∧ Hid (w = wr)) (fun c _ => m - (intOf c).toNat)
  case atStart => exact ⟨0, by omega, rfl, Go.Lib.hid (fun j hj => by omega), Go.Lib.hid rfl⟩
  case round =>
    obtain ⟨k, hk, rfl, hj, he⟩ := hrel
    by_cases hkm : k < m
    · have hc := H.out k hkm
      rw [he.out] at hc
      have hkI : (k : Int) < (m : Int) := by omega
      have HK := Go.Lib.hid hkm
      obtain ⟨t, ht⟩ : ∃ t, t = f k := ⟨_, rfl⟩
      rw [← ht] at hc
      have HT := Go.Lib.hid ht
      clear ht hkm
      by_cases hx : x = t
      · have hb : (x == t) = true := by simp [hx]
        have e1 : firstF m f x = k := firstF_eq m f x k hk hj.out (fun _ => by rw [← HT.out, hx])
        have HE := Go.Lib.hid e1
        clear e1 hx
        go_wp2_with fail
        go_ret
        exact ⟨by rw [idxF_of HE.out HK.out]; rfl, he.out⟩
      · have hb : (x == t) = false := by simp [hx]
        have hj2 : Hid (∀ j, j < k + 1 → f j ≠ x) := Go.Lib.hid (fun j h1 => by
          rcases Nat.lt_or_ge j k with h2 | h2
          · exact hj.out j h2
          · rw [show j = k from by omega, ← HT.out]; exact fun e => hx e.symm)
        clear hx hj
        go_wp2_with fail
        go_roundw
        case rel => exact ⟨k + 1, by omega, by go_num, hj2, he⟩
        case measure => simp only [intOf]; omega
    · have e1 : firstF m f x = k := firstF_eq m f x k hk hj.out (fun h => by omega)
      have HE := Go.Lib.hid e1
      have HK := Go.Lib.hid hkm
      have hkI : ¬ (k : Int) < (m : Int) := by omega
      clear e1 hj hkm
      go_wp2_with fail
      go_ret
      exact ⟨by rw [idxF_no HE.out HK.out]; rfl, he.out⟩

set_option maxRecDepth 100000 in
theorem contains_c (h : ∀ i, i < m → w.cell? ⟨g, o + i, none⟩ = some (.bool (f i))) (hm : m ≤ 1000000) (x : Bool) : Calls Tryz.prog 121 #[.slice (some ⟨g, o, none⟩) m cap, .bool x] w fun e w' => e = .returned (.bool (decide (firstF m f x < m))) ∧ w = w' := by
  have C := Go.Lib.hid (index_c (cap := cap) h hm x)
  clear h
  obtain ⟨k, hk⟩ : ∃ k, firstF m f x = k := ⟨_, rfl⟩
  rw [hk]
  by_cases hkm : k < m
  · rw [idxF_of hk hkm] at C
    clear hk
    go_enter Tryz.func121, Tryz.ntmps121
    go_wp2_with fail
    refine C.out.mono ?_
    rintro e w1 ⟨rfl, rfl⟩
    go_wp2_with fail
    go_ret
    exact ⟨by simp [hkm], rfl⟩
  · rw [idxF_no hk hkm] at C
    clear hk
    go_enter Tryz.func121, Tryz.ntmps121
    go_wp2_with fail
    refine C.out.mono ?_
    rintro e w1 ⟨rfl, rfl⟩
    go_wp2_with fail
    go_ret
    exact ⟨by simp [hkm], rfl⟩

set_option maxRecDepth 100000 in
theorem run_c (h : ∀ i, i < m → w.cell? ⟨g, o + i, none⟩ = some (.bool (f i))) (hm : m ≤ 1000000) : Calls Tryz.prog 124 #[.slice (some ⟨g, o, none⟩) m cap] w fun e w' => e = .returned (.int .i64 (firstF m f false : Int)) ∧ w = w' := by
  have C := Go.Lib.hid (index_c (cap := cap) h hm false)
  clear h
  have hle := firstF_le m f false
  obtain ⟨k, hk⟩ : ∃ k, firstF m f false = k := ⟨_, rfl⟩
  rw [hk] at hle ⊢
  by_cases hkm : k < m
  · rw [idxF_of hk hkm] at C
    clear hk
    go_enter Tryz.func124, Tryz.ntmps124
    go_wp2_with fail
    refine C.out.mono ?_
    rintro e w1 ⟨rfl, rfl⟩
    go_wp2_with fail
    go_ret
    exact ⟨rfl, rfl⟩
  · rw [idxF_no hk hkm] at C
    clear hk
    obtain rfl : k = m := by omega
    clear hkm hle
    go_enter Tryz.func124, Tryz.ntmps124
    go_wp2_with fail
    refine C.out.mono ?_
    rintro e w1 ⟨rfl, rfl⟩
    go_wp2_with fail
    go_ret
    exact ⟨rfl, rfl⟩
end

section
variable {w : World} {B g n c o m cap : Nat} {f : Nat → Bool}
set_option maxRecDepth 100000 in
theorem set_c (h : OwnV 4 w B (.slice (some ⟨g, 0, none⟩) n c) (zf n f)) (hm : o + m ≤ n) (hn : n ≤ 1000000) (x : Bool) : Calls Tryz.prog 94 #[.slice (some ⟨g, o, none⟩) m cap, .bool x] w fun e w' => e = .returned (.tuple #[]) ∧ OwnV 4 w' B (.slice (some ⟨g, 0, none⟩) n c) (zf n (setF f o m x)) ∧ w.grownBy w' (some g) := by
  have H := Go.Lib.hid h; clear h
  have HM := Go.Lib.hid hm
  have hm2 : m ≤ 1000000 := by omega
  clear hm hn
  go_enter Tryz.func94, Tryz.ntmps94
  go_wp2_with fail
  go_loopw [7] (fun c' wr => ∃ k : Nat, k ≤ m ∧ c' = .int .i64 (k : Int) ∧ OwnV 4 wr B (.slice (some ⟨g, 0, none⟩) n c) (zf n (setF f o k x)) ∧ w.grownBy wr (some g)) (fun c _ => m - (intOf c).toNat)
  case atStart => exact ⟨0, by omega, rfl, by rw [setF_zero]; exact H.out, World.grownBy.refl _ _⟩
  case round =>
    obtain ⟨k, hk, rfl, hr, hg⟩ := hrel
    by_cases hkm : k < m
    · have hc := hr.fcell (o + k) (by have := HM.out; omega)
      have hf := hr.fz (o + k)
      obtain ⟨t, ht⟩ : ∃ t, t = setF f o k x (o + k) := ⟨_, rfl⟩
      rw [← ht] at hc
      have hs := hr.fset (o + k) x
      rw [setF_snoc] at hs
      have HS := Go.Lib.hid hs
      have HG := Go.Lib.hid hg
      have hkI : (k : Int) < (m : Int) := by omega
      clear ht hs hr hg
      go_wp2_with fail
      go_roundw
      case rel => exact ⟨k + 1, by omega, by go_num, HS.out.1, grow_trans HG.out HS.out.2⟩
      case measure => simp only [intOf]; omega
    · obtain rfl : k = m := by omega
      have HR := Go.Lib.hid hr
      have HG := Go.Lib.hid hg
      clear hr hg
      go_wp2_with fail
      go_end0
      exact ⟨rfl, HR.out, HG.out⟩
/-- Of nothing. -/
theorem set_none {a : Option Addr} (w : World) (x : Bool) : Calls Tryz.prog 94 #[.slice a 0 cap, .bool x] w fun e w' => e = .returned (.tuple #[]) ∧ w = w' := by
  go_enter Tryz.func94, Tryz.ntmps94
  go_wp2_with fail
  go_loopw [7] (fun c' wr => c' = .int .i64 0 ∧ Hid (w = wr)) (fun _ _ => 0)
  case atStart => exact ⟨rfl, Go.Lib.hid rfl⟩
  case round =>
    obtain ⟨rfl, he⟩ := hrel
    go_wp2_with fail
    go_end0
    exact ⟨rfl, he.out⟩
end

end Go.Proofs.YtnalokjnbccjnaaGreatDoor

namespace Go.Proofs.YtnalokjnbccjnaaGreatDoor
open Go.RowKit

def spanV (a b : Int) : Value := .agg #[.int .i64 a, .int .i64 b]

theorem infoBl : (Tryz.prog.info? 4).map (fun i => (i.zero, i.size, i.bytes)) = some (some (.bool false), 1, 1) := by kernel_rfl
theorem run_sizeB (W : World) : (sizeOf (Tryz.prog.elem 32)).run Tryz.prog W = .ok 1 W := by
  obtain ⟨i, hi, hz, hsize, hby⟩ := info_parts infoBl
  have he : Tryz.prog.elem 32 = 4 := by kernel_rfl
  rw [he]
  simp [sizeOf, typeInfo, hi, hsize]
theorem cut_l (g n c o : Nat) (h : o ≤ n) (hc : o < c) (W : World) : (Instr.slice 32 (.slice (some ⟨g, 0, none⟩) n c) (some (.int .i64 (o : Int))) none none).run Tryz.prog W = .ok (.slice (some ⟨g, o, none⟩) (n - o) (c - o)) W := by
  have he : Tryz.prog.underlying 32 = some (.slice (Tryz.prog.elem 32)) := by
    rw [show Tryz.prog.elem 32 = 4 by kernel_rfl]; exact Tryz.underlying32
  have hr := run_slice_l (P := Tryz.prog) W 32 (some ⟨g, 0, none⟩) n c he .i64 (o : Int) (by omega) (by omega)
  rw [hr, run_sizeB]
  have hadd : (⟨g, 0, none⟩ : Addr).add (o * 1) = ⟨g, o, none⟩ := by unfold Addr.add; split <;> simp_all
  simp only [Result.andThen, sliced, Int.toNat_natCast]
  rw [if_neg (by omega), Option.map_some, hadd]
theorem cut_h (g n c o m : Nat) (hc : m ≤ c) (hp : 0 < c) (W : World) : (Instr.slice 32 (.slice (some ⟨g, o, none⟩) n c) none (some (.int .i64 (m : Int))) none).run Tryz.prog W = .ok (.slice (some ⟨g, o, none⟩) m c) W := by
  have he : Tryz.prog.underlying 32 = some (.slice (Tryz.prog.elem 32)) := by
    rw [show Tryz.prog.elem 32 = 4 by kernel_rfl]; exact Tryz.underlying32
  have hr := run_slice_h (P := Tryz.prog) W 32 (some ⟨g, o, none⟩) n c he .i64 (m : Int) (by omega) (by omega)
  rw [hr, run_sizeB]
  have hadd : (⟨g, o, none⟩ : Addr).add (0 * 1) = ⟨g, o, none⟩ := by unfold Addr.add; split <;> simp_all
  simp only [Result.andThen, sliced, Int.toNat_natCast]
  rw [if_neg (by omega), Option.map_some, hadd, Nat.sub_zero, Nat.sub_zero]

set_option maxRecDepth 100000
theorem part_nil (w : World) (a b : Int) : Calls Tryz.prog 120 #[.pointer none, spanV a b] w fun e w' => e = .returned (.slice none 0 0) ∧ Below w.heap.size w w' := by
  unfold spanV
  go_enter Tryz.func120, Tryz.ntmps120
  go_upto_region 1 with (fail)
  go_quiet (fail)
  go_wp2_with fail
  go_ret
  exact ⟨rfl, below_drewN (below_alloc _ _) _⟩

section
variable {w : World} {B r at_ n : Nat} {v : Value} {G : Nat → Bool}
theorem part_no (h : RM w B r at_ n v G) (a b : Int) (ha : -9223372036854775808 ≤ a ∧ a ≤ 9223372036854775807) (hb : -9223372036854775808 ≤ b ∧ b ≤ 9223372036854775807) (hno : b < 1 ∨ a < at_ ∨ (n : Int) - b < a - at_) : Calls Tryz.prog 120 #[.pointer (some ⟨r, 0, none⟩), spanV a b] w fun e w' => e = .returned (.slice none 0 0) ∧ Below w.heap.size w w' := by
  unfold spanV
  obtain ⟨fa, fc, rfl⟩ := h.form
  have c0 := (h.below (below_alloc w (.cells #[.int .i64 a, .int .i64 b] 96))).c0
  have c1 := (h.below (below_alloc w (.cells #[.int .i64 a, .int .i64 b] 96))).c1
  have hs := h.small
  clear h
  by_cases h1 : b < 1
  · clear ha hb hno hs
    go_enter Tryz.func120, Tryz.ntmps120
    go_upto_region 1 with (fail)
    go_quiet (fail)
    go_wp2_with fail
    go_ret
    exact ⟨rfl, below_drewN (below_alloc _ _) _⟩
  by_cases h2 : a < at_
  · clear ha hb hno hs
    go_enter Tryz.func120, Tryz.ntmps120
    go_upto_region 1 with (fail)
    go_quiet (fail)
    go_wp2_with fail
    go_ret
    exact ⟨rfl, below_drewN (below_alloc _ _) _⟩
  obtain ⟨x, hx⟩ : ∃ x, x = a - (at_ : Int) := ⟨_, rfl⟩
  obtain ⟨y, hy⟩ : ∃ y, y = (n : Int) - b := ⟨_, rfl⟩
  have k1 : IntKind.i64.wrap (a - (at_ : Int)) = x := by rw [hx, IntKind.wrap_i64]; omega
  have k2 : IntKind.i64.wrap ((n : Int) - b) = y := by rw [hy, IntKind.wrap_i64]; omega
  have h3 : y < x := by omega
  clear hx hy ha hb hno hs
  go_enter Tryz.func120, Tryz.ntmps120
  go_upto_region 1 with (fail)
  go_quiet (fail)
  go_wp2_with fail
  go_ret
  exact ⟨rfl, below_drewN (below_alloc _ _) _⟩
theorem part_in {g c : Nat} (h : RM w B r at_ n (.slice (some ⟨g, 0, none⟩) n c) G) (o m : Nat) (hm : 0 < m) (ho : o + m ≤ n) (a b : Int) (ha : a = (at_ : Int) + (o : Int)) (hb : b = (m : Int)) : Calls Tryz.prog 120 #[.pointer (some ⟨r, 0, none⟩), spanV a b] w fun e w' => e = .returned (.slice (some ⟨g, o, none⟩) m (c - o)) ∧ Below w.heap.size w w' := by
  unfold spanV
  subst hb
  have c0 := (h.below (below_alloc w (.cells #[.int .i64 a, .int .i64 (m : Int)] 96))).c0
  have c1 := (h.below (below_alloc w (.cells #[.int .i64 a, .int .i64 (m : Int)] 96))).c1
  have hs := h.small
  have hcap := h.row.capOk
  clear h
  have k1 : IntKind.i64.wrap (a - (at_ : Int)) = (o : Int) := by rw [IntKind.wrap_i64]; omega
  obtain ⟨y, hy⟩ : ∃ y, y = (n : Int) - (m : Int) := ⟨_, rfl⟩
  have k2 : IntKind.i64.wrap ((n : Int) - (m : Int)) = y := by rw [hy, IntKind.wrap_i64]; omega
  have h1 : ¬ (m : Int) < 1 := by omega
  have h2 : ¬ a < (at_ : Int) := by omega
  have h3 : ¬ y < (o : Int) := by omega
  have q1 := cut_l g n c o (by omega) (by omega)
  have q2 := cut_h g (n - o) (c - o) o m (by omega) (by omega)
  clear hy ha ho hs hm hcap
  go_enter Tryz.func120, Tryz.ntmps120
  go_upto_region 1 with (fail)
  go_quiet (fail)
  go_wp2_with fail
  go_quiet (fail)
  go_wp2_with fail
  go_ret
  exact ⟨rfl, below_drewN (below_drewN (below_alloc _ _) _) _⟩
end

end Go.Proofs.YtnalokjnbccjnaaGreatDoor
