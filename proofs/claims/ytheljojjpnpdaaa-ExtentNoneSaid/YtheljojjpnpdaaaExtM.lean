/-
  Mathematics of room: which sectors are free (a function), the free rows, the first one that has as many. Of no code.
-/
import Derived.Test.YtheljojjpnpdaaaBase
namespace Go.Proofs.Ytheljojjpnpdaaa

/-- From o on m places are x. -/
def setF (f : Nat → Bool) (o m : Nat) (x : Bool) : Nat → Bool := fun i => if o ≤ i ∧ i < o + m then x else f i
theorem setF_in {f : Nat → Bool} {o m : Nat} {x : Bool} {i : Nat} (h1 : o ≤ i) (h2 : i < o + m) : setF f o m x i = x := if_pos ⟨h1, h2⟩
theorem setF_out {f : Nat → Bool} {o m : Nat} {x : Bool} {i : Nat} (h : i < o ∨ o + m ≤ i) : setF f o m x i = f i := if_neg (by omega)
theorem setF_zero (f : Nat → Bool) (o : Nat) (x : Bool) : setF f o 0 x = f := by
  funext i
  exact setF_out (by omega)
theorem setF_snoc (f : Nat → Bool) (o m : Nat) (x : Bool) : (fun i => if i = o + m then x else setF f o m x i) = setF f o (m + 1) x := by
  funext i
  unfold setF
  by_cases h : i = o + m
  · subst h; simp
  · by_cases h2 : o ≤ i ∧ i < o + m
    · rw [if_neg h, if_pos h2, if_pos (by omega)]
    · rw [if_neg h, if_neg h2, if_neg (by omega)]

/-- Where x stands first among f 0, .., f (m - 1); m: nowhere. -/
def firstF : Nat → (Nat → Bool) → Bool → Nat
  | 0, _, _ => 0
  | m + 1, f, x => if f 0 = x then 0 else firstF m (fun i => f (i + 1)) x + 1
theorem firstF_le (m : Nat) (f : Nat → Bool) (x : Bool) : firstF m f x ≤ m := by
  induction m generalizing f with
  | zero => exact Nat.le_refl _
  | succ m ih =>
    unfold firstF
    split
    · omega
    · have := ih (fun i => f (i + 1)); omega
theorem firstF_eq (m : Nat) (f : Nat → Bool) (x : Bool) (k : Nat) (hk : k ≤ m) (h1 : ∀ j, j < k → f j ≠ x) (h2 : k < m → f k = x) : firstF m f x = k := by
  induction m generalizing f k with
  | zero => unfold firstF; omega
  | succ m ih =>
    unfold firstF
    cases k with
    | zero => rw [if_pos (h2 (by omega))]
    | succ k =>
      rw [if_neg (h1 0 (by omega)), ih (fun i => f (i + 1)) k (by omega) (fun j hj => h1 (j + 1) (by omega)) (fun h => h2 (by omega))]
theorem firstF_spec (m : Nat) (f : Nat → Bool) (x : Bool) : (∀ j, j < firstF m f x → f j ≠ x) ∧ (firstF m f x < m → f (firstF m f x) = x) := by
  induction m generalizing f with
  | zero => unfold firstF; exact ⟨fun j h => by omega, fun h => by omega⟩
  | succ m ih =>
    unfold firstF
    by_cases h0 : f 0 = x
    · rw [if_pos h0]
      exact ⟨fun j h => by omega, fun _ => h0⟩
    · rw [if_neg h0]
      obtain ⟨a, b⟩ := ih (fun i => f (i + 1))
      refine ⟨fun j hj => ?_, fun h => b (by omega)⟩
      cases j with
      | zero => exact h0
      | succ j => exact a j (by omega)
theorem firstF_before {m : Nat} {f : Nat → Bool} {x : Bool} {j : Nat} (h : j < firstF m f x) : f j = !x := by
  have := (firstF_spec m f x).1 j h
  revert this
  cases f j <;> cases x <;> simp
theorem firstF_at {m : Nat} {f : Nat → Bool} {x : Bool} (h : firstF m f x < m) : f (firstF m f x) = x := (firstF_spec m f x).2 h
theorem firstF_full {m : Nat} {f : Nat → Bool} {x : Bool} : firstF m f x = m ↔ ∀ j, j < m → f j = !x := by
  constructor
  · intro h j hj
    exact firstF_before (m := m) (by omega)
  · intro h
    refine firstF_eq m f x m (Nat.le_refl _) (fun j hj => ?_) (fun h => by omega)
    rw [h j hj]
    cases x <;> simp

/-- How many of f 0, .., f (m - 1) are true. -/
def cntF (f : Nat → Bool) : Nat → Nat
  | 0 => 0
  | m + 1 => cntF f m + (if f m = true then 1 else 0)
theorem cntF_le (f : Nat → Bool) (m : Nat) : cntF f m ≤ m := by
  induction m with
  | zero => exact Nat.le_refl _
  | succ m ih => unfold cntF; split <;> omega
theorem cntF_none (f : Nat → Bool) (i n : Nat) (h : ∀ k, i ≤ k → k < i + n → f k = false) : cntF f (i + n) = cntF f i := by
  induction n with
  | zero => rfl
  | succ n ih =>
    show cntF f (i + n) + (if f (i + n) = true then 1 else 0) = _
    rw [h (i + n) (by omega) (by omega), ih (fun k h1 h2 => h k h1 (by omega))]
    rfl
theorem cntF_all (f : Nat → Bool) (i n : Nat) (h : ∀ k, i ≤ k → k < i + n → f k = true) : cntF f (i + n) = cntF f i + n := by
  induction n with
  | zero => rfl
  | succ n ih =>
    show cntF f (i + n) + (if f (i + n) = true then 1 else 0) = _
    rw [h (i + n) (by omega) (by omega), ih (fun k h1 h2 => h k h1 (by omega)), if_pos rfl]
    omega
theorem cntF_congr {f f' : Nat → Bool} {m : Nat} (h : ∀ k, k < m → f k = f' k) : cntF f m = cntF f' m := by
  induction m with
  | zero => rfl
  | succ m ih => unfold cntF; rw [ih (fun k hk => h k (by omega)), h m (by omega)]
theorem cntF_shift (f : Nat → Bool) (a n : Nat) : cntF f (a + n) = cntF f a + cntF (fun i => f (a + i)) n := by
  induction n with
  | zero => rfl
  | succ n ih =>
    show cntF f (a + n) + (if f (a + n) = true then 1 else 0) = cntF f a + (cntF (fun i => f (a + i)) n + (if f (a + n) = true then 1 else 0))
    rw [ih]
    omega

/-- The last row is one longer. -/
def bump (l : List (Nat × Nat)) : List (Nat × Nat) := match l.getLast? with
  | none => []
  | some x => l.dropLast ++ [(x.1, x.2 + 1)]
theorem bump_snoc (l : List (Nat × Nat)) (x : Nat × Nat) : bump (l ++ [x]) = l ++ [(x.1, x.2 + 1)] := by
  unfold bump
  rw [List.getLast?_append]
  simp
/-- The rows of places below m at which f is true. -/
def spS (f : Nat → Bool) : Nat → List (Nat × Nat)
  | 0 => []
  | m + 1 => if f m = true then (if 0 < m ∧ f (m - 1) = true then bump (spS f m) else spS f m ++ [(m, 1)]) else spS f m
theorem spS_off {f : Nat → Bool} {m : Nat} (h : f m = false) : spS f (m + 1) = spS f m := by
  unfold spS
  rw [h]
  rw [if_neg (by decide)]
  cases m <;> rfl
theorem spS_new {f : Nat → Bool} {m : Nat} (h : f m = true) (h2 : m = 0 ∨ f (m - 1) = false) : spS f (m + 1) = spS f m ++ [(m, 1)] := by
  show (if f m = true then (if 0 < m ∧ f (m - 1) = true then bump (spS f m) else spS f m ++ [(m, 1)]) else spS f m) = _
  rw [if_pos h, if_neg]
  rintro ⟨h3, h4⟩
  rcases h2 with h2 | h2
  · omega
  · rw [h4] at h2; cases h2
theorem spS_more {f : Nat → Bool} {m : Nat} (h : f m = true) (h0 : 0 < m) (h2 : f (m - 1) = true) : spS f (m + 1) = bump (spS f m) := by
  show (if f m = true then (if 0 < m ∧ f (m - 1) = true then bump (spS f m) else spS f m ++ [(m, 1)]) else spS f m) = _
  rw [if_pos h, if_pos ⟨h0, h2⟩]
theorem spS_none (f : Nat → Bool) (i n : Nat) (h : ∀ k, i ≤ k → k < i + n → f k = false) : spS f (i + n) = spS f i := by
  induction n with
  | zero => rfl
  | succ n ih =>
    show spS f (i + n + 1) = _
    rw [spS_off (h (i + n) (by omega) (by omega)), ih (fun k h1 h2 => h k h1 (by omega))]
theorem spS_run (f : Nat → Bool) (i n : Nat) (hn : 0 < n) (h : ∀ k, i ≤ k → k < i + n → f k = true) (h0 : i = 0 ∨ f (i - 1) = false) : spS f (i + n) = spS f i ++ [(i, n)] := by
  induction n with
  | zero => omega
  | succ n ih =>
    show spS f (i + n + 1) = _
    rcases Nat.eq_zero_or_pos n with rfl | hp
    · exact spS_new (h i (by omega) (by omega)) h0
    · rw [spS_more (h (i + n) (by omega) (by omega)) (by omega) (h (i + n - 1) (by omega) (by omega)), ih hp (fun k h1 h2 => h k h1 (by omega)), bump_snoc]
theorem spS_congr {f f' : Nat → Bool} {m : Nat} (h : ∀ k, k < m → f k = f' k) : spS f m = spS f' m := by
  induction m with
  | zero => rfl
  | succ m ih =>
    have e := ih (fun k hk => h k (by omega))
    have e1 := h m (by omega)
    show (if f m = true then (if 0 < m ∧ f (m - 1) = true then bump (spS f m) else spS f m ++ [(m, 1)]) else spS f m) = (if f' m = true then (if 0 < m ∧ f' (m - 1) = true then bump (spS f' m) else spS f' m ++ [(m, 1)]) else spS f' m)
    rw [e, e1]
    rcases Nat.eq_zero_or_pos m with rfl | hp
    · simp
    · rw [h (m - 1) (by omega)]

/-- What the rows of places below m are. -/
structure Rows3 (f : Nat → Bool) (m : Nat) (l : List (Nat × Nat)) : Prop where
  each : ∀ x ∈ l, 0 < x.2 ∧ x.1 + x.2 ≤ m ∧ (∀ k, x.1 ≤ k → k < x.1 + x.2 → f k = true) ∧ (x.1 + x.2 < m → f (x.1 + x.2) = false) ∧ (x.1 = 0 ∨ f (x.1 - 1) = false)
  all : ∀ k, k < m → f k = true → ∃ x ∈ l, x.1 ≤ k ∧ k < x.1 + x.2
  rise : l.Pairwise fun x y => x.1 + x.2 < y.1
  last : 0 < m → f (m - 1) = true → ∃ i a n, l = i ++ [(a, n)] ∧ a + n = m
theorem spS_rows (f : Nat → Bool) (m : Nat) : Rows3 f m (spS f m) := by
  induction m with
  | zero => exact ⟨fun x hx => by simp [spS] at hx, fun k hk => by omega, List.Pairwise.nil, fun h => by omega⟩
  | succ m ih =>
    cases hm : f m with
    | false =>
      rw [spS_off hm]
      refine ⟨fun x hx => ?_, fun k hk hf => ?_, ih.rise, fun _ h => ?_⟩
      · obtain ⟨a, b, c, d, e⟩ := ih.each x hx
        refine ⟨a, by omega, c, fun h => ?_, e⟩
        rcases Nat.lt_or_ge (x.1 + x.2) m with h2 | h2
        · exact d h2
        · rw [show x.1 + x.2 = m from by omega]; exact hm
      · rcases Nat.lt_or_ge k m with h2 | h2
        · exact ih.all k h2 hf
        · rw [show k = m from by omega, hm] at hf; cases hf
      · rw [Nat.add_sub_cancel, hm] at h; cases h
    | true =>
      by_cases h2 : m = 0 ∨ f (m - 1) = false
      · rw [spS_new hm h2]
        refine ⟨fun x hx => ?_, fun k hk hf => ?_, ?_, fun _ _ => ⟨_, _, _, rfl, rfl⟩⟩
        · rcases List.mem_append.1 hx with hx | hx
          · obtain ⟨a, b, c, d, e⟩ := ih.each x hx
            refine ⟨a, by omega, c, fun h => ?_, e⟩
            have h2' := h2
            rcases Nat.lt_or_ge (x.1 + x.2) m with h2 | h2
            · exact d h2
            · exfalso
              have := c (m - 1) (by omega) (by omega)
              rcases h2' with h3 | h3
              · omega
              · rw [h3] at this; cases this
          · simp only [List.mem_singleton] at hx
            subst hx
            refine ⟨by simp, by simp, fun k h1 h3 => ?_, fun h => by simp at h, h2⟩
            simp only at h1 h3
            rw [show k = m from by omega]; exact hm
        · rcases Nat.lt_or_ge k m with h3 | h3
          · obtain ⟨x, hx, h4⟩ := ih.all k h3 hf
            exact ⟨x, List.mem_append_left _ hx, h4⟩
          · exact ⟨(m, 1), by simp, by simp; omega⟩
        · rw [List.pairwise_append]
          refine ⟨ih.rise, List.pairwise_singleton _ _, fun x hx y hy => ?_⟩
          simp only [List.mem_singleton] at hy
          subst hy
          obtain ⟨a, b, c, d, e⟩ := ih.each x hx
          show x.1 + x.2 < m
          rcases Nat.lt_or_ge (x.1 + x.2) m with h3 | h3
          · exact h3
          · exfalso
            have := c (m - 1) (by omega) (by omega)
            rcases h2 with h2 | h2
            · omega
            · rw [h2] at this; cases this
      · have h3 : 0 < m := by omega
        have h4 : f (m - 1) = true := by
          cases h5 : f (m - 1)
          · exact absurd (.inr h5) h2
          · rfl
        obtain ⟨i, a, n, e1, e2⟩ := ih.last h3 h4
        rw [spS_more hm h3 h4, e1, bump_snoc]
        have hr := ih.rise
        have he := ih.each
        have ha := ih.all
        rw [e1] at hr he ha
        rw [List.pairwise_append] at hr
        obtain ⟨r1, -, r2⟩ := hr
        obtain ⟨p1, p2, p3, p4, p5⟩ := he (a, n) (by simp)
        simp only at p1 p2 p3 p4 p5
        refine ⟨fun x hx => ?_, fun k hk hf => ?_, ?_, fun _ _ => ⟨_, _, _, rfl, by omega⟩⟩
        · rcases List.mem_append.1 hx with hx | hx
          · obtain ⟨q1, q2, q3, q4, q5⟩ := he x (List.mem_append_left _ hx)
            have := r2 x hx (a, n) (by simp)
            simp only at this
            exact ⟨q1, by omega, q3, fun _ => q4 (by omega), q5⟩
          · simp only [List.mem_singleton] at hx
            subst hx
            refine ⟨by simp, by simp; omega, fun k k1 k2 => ?_, fun h => by simp at h; omega, p5⟩
            simp only at k1 k2
            rcases Nat.lt_or_ge k m with k3 | k3
            · exact p3 k k1 (by omega)
            · rw [show k = m from by omega]; exact hm
        · rcases Nat.lt_or_ge k m with k3 | k3
          · obtain ⟨x, hx, x1, x2⟩ := ha k k3 hf
            rcases List.mem_append.1 hx with hx | hx
            · exact ⟨x, List.mem_append_left _ hx, x1, x2⟩
            · simp only [List.mem_singleton] at hx
              subst hx
              exact ⟨(a, n + 1), by simp, x1, by simp at x2 ⊢; omega⟩
          · exact ⟨(a, n + 1), by simp, by simp; omega⟩
        · rw [List.pairwise_append]
          refine ⟨r1, List.pairwise_singleton _ _, fun x hx y hy => ?_⟩
          simp only [List.mem_singleton] at hy
          subst hy
          exact r2 x hx (a, n) (by simp)

/-- From a on n places are true. -/
def allF (f : Nat → Bool) (a n : Nat) : Prop := ∀ k, a ≤ k → k < a + n → f k = true
/-- The first row that has n. -/
def fitF (f : Nat → Bool) (m n : Nat) : Option (Nat × Nat) := (spS f m).find? fun x => decide (n ≤ x.2)
theorem fit_in {f : Nat → Bool} {m n a : Nat} (hn : 0 < n) (hout : ∀ k, m ≤ k → f k = false) (h : allF f a n) : ∃ x ∈ spS f m, x.1 ≤ a ∧ a + n ≤ x.1 + x.2 := by
  have hr := spS_rows f m
  have ham : a < m := by
    rcases Nat.lt_or_ge a m with h1 | h1
    · exact h1
    · have := h a (Nat.le_refl _) (by omega)
      rw [hout a h1] at this; cases this
  obtain ⟨x, hx, h1, h2⟩ := hr.all a ham (h a (Nat.le_refl _) (by omega))
  obtain ⟨p1, p2, p3, p4, p5⟩ := hr.each x hx
  refine ⟨x, hx, h1, ?_⟩
  rcases Nat.lt_or_ge (x.1 + x.2) (a + n) with h3 | h3
  · exfalso
    have h4 := h (x.1 + x.2) (by omega) h3
    rcases Nat.lt_or_ge (x.1 + x.2) m with h5 | h5
    · rw [p4 h5] at h4; cases h4
    · rw [hout _ h5] at h4; cases h4
  · exact h3
theorem fit_some {f : Nat → Bool} {m n : Nat} (hn : 0 < n) (hout : ∀ k, m ≤ k → f k = false) {x : Nat × Nat} (h : fitF f m n = some x) : allF f x.1 n ∧ n ≤ x.2 ∧ x.1 + x.2 ≤ m ∧ ∀ a, a < x.1 → ¬ allF f a n := by
  unfold fitF at h
  rw [List.find?_eq_some_iff_append] at h
  obtain ⟨h0, us, vs, e, h1⟩ := h
  simp only [decide_eq_true_eq] at h0
  have hr := spS_rows f m
  have hx : x ∈ spS f m := by rw [e]; simp
  obtain ⟨p1, p2, p3, p4, p5⟩ := hr.each x hx
  refine ⟨fun k k1 k2 => p3 k k1 (by omega), h0, p2, fun a ha hall => ?_⟩
  obtain ⟨y, hy, y1, y2⟩ := fit_in hn hout hall
  have hp := hr.rise
  rw [e] at hy hp
  rw [List.pairwise_append] at hp
  obtain ⟨-, hp2, hp3⟩ := hp
  rcases List.mem_append.1 hy with hy | hy
  · have := h1 y hy
    simp at this
    omega
  · rcases List.mem_cons.1 hy with rfl | hy
    · omega
    · have := (List.pairwise_cons.1 hp2).1 y hy
      omega
theorem fit_none {f : Nat → Bool} {m n : Nat} (hn : 0 < n) (hout : ∀ k, m ≤ k → f k = false) (h : fitF f m n = none) (a : Nat) : ¬ allF f a n := by
  intro hall
  obtain ⟨y, hy, y1, y2⟩ := fit_in hn hout hall
  unfold fitF at h
  rw [List.find?_eq_none] at h
  have := h y hy
  simp at this
  omega

/-- Just the places from a to b - 1. -/
def iv (a b : Nat) : Nat → Bool := fun k => decide (a ≤ k ∧ k < b)
theorem iv_in {a b k : Nat} (h1 : a ≤ k) (h2 : k < b) : iv a b k = true := by unfold iv; simp [h1, h2]
theorem iv_out {a b k : Nat} (h : k < a ∨ b ≤ k) : iv a b k = false := by unfold iv; simp; omega
theorem iv_spans {a b m : Nat} (h : a < b) (hm : b ≤ m) : spS (iv a b) m = [(a, b - a)] := by
  have h1 := spS_none (iv a b) 0 a (fun k _ h2 => iv_out (by omega))
  have h2 := spS_run (iv a b) a (b - a) (by omega) (fun k k1 k2 => iv_in k1 (by omega)) (by
    rcases Nat.eq_zero_or_pos a with h | h
    · exact .inl h
    · exact .inr (iv_out (by omega)))
  have h3 := spS_none (iv a b) b (m - b) (fun k k1 _ => iv_out (by omega))
  rw [show a + (b - a) = b from by omega] at h2
  rw [show b + (m - b) = m from by omega] at h3
  rw [Nat.zero_add] at h1
  rw [h3, h2, h1]
  rfl
theorem iv_none {a b m : Nat} (h : b ≤ a) : spS (iv a b) m = [] := by
  have := spS_none (iv a b) 0 m (fun k _ _ => iv_out (by omega))
  rw [Nat.zero_add] at this
  exact this
theorem iv_cnt {a b m : Nat} (h : a ≤ b) (hm : b ≤ m) : cntF (iv a b) m = b - a := by
  have h1 := cntF_none (iv a b) 0 a (fun k _ h2 => iv_out (by omega))
  have h2 := cntF_all (iv a b) a (b - a) (fun k k1 k2 => iv_in k1 (by omega))
  have h3 := cntF_none (iv a b) b (m - b) (fun k k1 _ => iv_out (by omega))
  rw [show a + (b - a) = b from by omega] at h2
  rw [show b + (m - b) = m from by omega] at h3
  rw [Nat.zero_add] at h1
  rw [h3, h2, h1]
  show 0 + _ = _
  omega
theorem iv_take {a b n : Nat} (h : a + n ≤ b) : setF (iv a b) a n false = iv (a + n) b := by
  funext k
  by_cases h1 : a ≤ k ∧ k < a + n
  · rw [setF_in h1.1 h1.2, iv_out (by omega)]
  · rw [setF_out (by omega)]
    unfold iv
    congr 1
    apply propext
    omega
theorem iv_give {a b n : Nat} (h : a + n ≤ b) : setF (iv (a + n) b) a n true = iv a b := by
  funext k
  by_cases h1 : a ≤ k ∧ k < a + n
  · rw [setF_in h1.1 h1.2, iv_in h1.1 (by omega)]
  · rw [setF_out (by omega)]
    unfold iv
    congr 1
    apply propext
    omega
theorem iv_fit {a b m n : Nat} (hm : b ≤ m) (h : a + n ≤ b) (hn : 0 < n) : fitF (iv a b) m n = some (a, b - a) := by
  unfold fitF
  rw [iv_spans (by omega) hm]
  simp
  omega
theorem iv_fit_none {a b m n : Nat} (hm : b ≤ m) (h : b < a + n) (hn : 0 < n) : fitF (iv a b) m n = none := by
  unfold fitF
  rcases Nat.lt_or_ge a b with h1 | h1
  · rw [iv_spans h1 hm]
    simp
    omega
  · rw [iv_none h1]
    rfl

end Go.Proofs.Ytheljojjpnpdaaa
