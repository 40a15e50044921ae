/-
  The order of texts: by their bytes, by their runes: mathematics alone.
-/
import Derived.Test.YthknafjnmondeaaRunM
namespace Go.Proofs.Ythknafjnmondeaa
open Go.RowKit Go.Op

/-- One by one by their numbers, a shorter beginning ahead. -/
def cmpN : List Nat → List Nat → Int
  | [], [] => 0
  | [], _ :: _ => -1
  | _ :: _, [] => 1
  | a :: x, b :: y => if a < b then -1 else if b < a then 1 else cmpN x y

theorem cmpN_cons (a : Nat) (x : List Nat) (b : Nat) (y : List Nat) : cmpN (a :: x) (b :: y) = if a < b then -1 else if b < a then 1 else cmpN x y := rfl
theorem cmpN_self : ∀ x, cmpN x x = 0
  | [] => rfl
  | a :: x => by unfold cmpN; rw [if_neg (by omega), if_neg (by omega)]; exact cmpN_self x
theorem cmpN_swap : ∀ x y, cmpN x y = -cmpN y x
  | [], [] => rfl
  | [], _ :: _ => rfl
  | _ :: _, [] => rfl
  | a :: x, b :: y => by
    unfold cmpN
    rcases Nat.lt_trichotomy a b with h | h | h
    · rw [if_pos h, if_neg (by omega), if_pos h]
    · rw [if_neg (by omega), if_neg (by omega), if_neg (by omega), if_neg (by omega)]; exact cmpN_swap x y
    · rw [if_neg (by omega), if_pos h, if_pos h]; rfl
theorem cmpN_three : ∀ x y, cmpN x y = -1 ∨ cmpN x y = 0 ∨ cmpN x y = 1
  | [], [] => .inr (.inl rfl)
  | [], _ :: _ => .inl rfl
  | _ :: _, [] => .inr (.inr rfl)
  | a :: x, b :: y => by
    unfold cmpN
    split
    · exact .inl rfl
    · split
      · exact .inr (.inr rfl)
      · exact cmpN_three x y
theorem cmpN_zero : ∀ x y, cmpN x y = 0 → x = y
  | [], [], _ => rfl
  | [], _ :: _, h => by cases h
  | _ :: _, [], h => by cases h
  | a :: x, b :: y, h => by
    unfold cmpN at h
    split at h
    · cases h
    · split at h
      · cases h
      · rw [cmpN_zero x y h, show a = b from by omega]
theorem cmpN_trans : ∀ x y z, cmpN x y = -1 → cmpN y z = -1 → cmpN x z = -1
  | [], [], _, h, _ => by cases h
  | [], _ :: _, [], _, h => by cases h
  | [], _ :: _, _ :: _, _, _ => rfl
  | _ :: _, [], _, h, _ => by cases h
  | _ :: _, _ :: _, [], _, h => by cases h
  | a :: x, b :: y, c :: z, h1, h2 => by
    unfold cmpN at h1 h2 ⊢
    split at h1
    · split at h2
      · rw [if_pos (by omega)]
      · split at h2
        · cases h2
        · rw [if_pos (by omega)]
    · split at h1
      · cases h1
      · split at h2
        · rw [if_pos (by omega)]
        · split at h2
          · cases h2
          · rw [if_neg (by omega), if_neg (by omega)]; exact cmpN_trans x y z h1 h2
/-- The order of any three is one. -/
theorem cmpN_any (x y z : List Nat) : cmpN x y > 0 ∨ cmpN y z > 0 ∨ (cmpN x z ≤ 0 ∧ (cmpN x z < 0 ↔ cmpN x y < 0 ∨ cmpN y z < 0)) := by
  rcases cmpN_three x y with h1 | h1 | h1
  · rcases cmpN_three y z with h2 | h2 | h2
    · have := cmpN_trans x y z h1 h2
      omega
    · have := cmpN_zero y z h2
      subst this
      omega
    · omega
  · have := cmpN_zero x y h1
    subst this
    rcases cmpN_three x z with h2 | h2 | h2 <;> omega
  · omega

theorem cmpN_at (x y : List Nat) (k : Nat) (hx : k < x.length) (hy : k < y.length) : cmpN (x.drop k) (y.drop k) = if x[k] < y[k] then -1 else if y[k] < x[k] then 1 else cmpN (x.drop (k + 1)) (y.drop (k + 1)) := by
  rw [List.drop_eq_getElem_cons hx, List.drop_eq_getElem_cons hy, cmpN_cons]
theorem cmpN_end (x y : List Nat) (k : Nat) (hx : k ≤ x.length) (hy : k ≤ y.length) (h : k = x.length ∨ k = y.length) : cmpN (x.drop k) (y.drop k) = if x.length < y.length then -1 else if y.length < x.length then 1 else 0 := by
  rcases h with h | h
  · rw [List.drop_of_length_le (by omega : x.length ≤ k)]
    by_cases hlt : k < y.length
    · rw [List.drop_eq_getElem_cons hlt, if_pos (by omega)]
      rfl
    · rw [List.drop_of_length_le (by omega : y.length ≤ k), if_neg (by omega), if_neg (by omega)]
      rfl
  · rw [List.drop_of_length_le (by omega : y.length ≤ k)]
    by_cases hlt : k < x.length
    · rw [List.drop_eq_getElem_cons hlt, if_neg (by omega), if_pos (by omega)]
      rfl
    · rw [List.drop_of_length_le (by omega : x.length ≤ k), if_neg (by omega), if_neg (by omega)]
      rfl

theorem less_self : ∀ x, bytesLess x x = false
  | [] => rfl
  | a :: x => by simp [bytesLess, less_self x]
theorem less_anti : ∀ x y, bytesLess x y = true → bytesLess y x = false
  | [], [], h => by cases h
  | [], _ :: _, _ => rfl
  | _ :: _, [], h => by cases h
  | a :: x, b :: y, h => by
    simp only [bytesLess, Bool.or_eq_true, decide_eq_true_eq, Bool.and_eq_true, beq_iff_eq] at h
    rcases h with h | ⟨rfl, h⟩
    · have h1 : ¬ b < a := fun h' => UInt8.lt_irrefl a (UInt8.lt_trans h h')
      have h2 : ¬ b = a := fun e => by subst e; exact UInt8.lt_irrefl _ h
      simp [bytesLess, h1, h2]
    · simp [bytesLess, less_anti x y h]
theorem less_pre (c x y : List UInt8) : bytesLess (c ++ x) (c ++ y) = bytesLess x y := by
  induction c with
  | nil => rfl
  | cons a c ih => simp [bytesLess, ih]
theorem less_lt {m n : Nat} (h : m < n) (hn : n < 256) (x y : List UInt8) : bytesLess (UInt8.ofNat m :: x) (UInt8.ofNat n :: y) = true := by
  have : UInt8.ofNat m < UInt8.ofNat n := by rw [UInt8.lt_iff_toNat_lt, ofNat_toNat m (by omega), ofNat_toNat n hn]; exact h
  simp [bytesLess, this]
theorem less_eq (a : UInt8) (x y : List UInt8) : bytesLess (a :: x) (a :: y) = bytesLess x y := by simp [bytesLess]

/-- A smaller rune's bytes stand ahead, whatever follows. -/
theorem enc_less {r q : Nat} (hr : Utf8.valid (r : Int) = true) (hq : Utf8.valid (q : Int) = true) (h : r < q) (x y : List UInt8) : bytesLess (enc r ++ x) (enc q ++ y) = true := by
  have vr := (valid_iff r).1 hr
  have vq := (valid_iff q).1 hq
  rcases Nat.lt_or_ge q 128 with q1 | q1
  · rw [enc1 q1, enc1 (by omega)]
    exact less_lt h (by omega) _ _
  rcases Nat.lt_or_ge q 2048 with q2 | q2
  · rw [enc2 q1 q2]
    rcases Nat.lt_or_ge r 128 with r1 | r1
    · rw [enc1 r1]
      exact less_lt (by omega) (by omega) _ _
    rw [enc2 r1 (by omega)]
    rcases Nat.lt_or_ge (r / 64) (q / 64) with d | d
    · exact less_lt (by omega) (by omega) _ _
    rw [show r / 64 = q / 64 from by omega]
    simp only [List.cons_append, less_eq]
    exact less_lt (by omega) (by omega) _ _
  rcases Nat.lt_or_ge q 65536 with q3 | q3
  · rw [enc3 q2 q3 hq]
    rcases Nat.lt_or_ge r 128 with r1 | r1
    · rw [enc1 r1]
      exact less_lt (by omega) (by omega) _ _
    rcases Nat.lt_or_ge r 2048 with r2 | r2
    · rw [enc2 r1 r2]
      exact less_lt (by omega) (by omega) _ _
    rw [enc3 r2 (by omega) hr]
    rcases Nat.lt_or_ge (r / 4096) (q / 4096) with d | d
    · exact less_lt (by omega) (by omega) _ _
    rw [show r / 4096 = q / 4096 from by omega]
    simp only [List.cons_append, less_eq]
    rcases Nat.lt_or_ge (r / 64 % 64) (q / 64 % 64) with d2 | d2
    · exact less_lt (by omega) (by omega) _ _
    rw [show r / 64 % 64 = q / 64 % 64 from by omega]
    simp only [less_eq]
    exact less_lt (by omega) (by omega) _ _
  · rw [enc4 q3 hq]
    rcases Nat.lt_or_ge r 128 with r1 | r1
    · rw [enc1 r1]
      exact less_lt (by omega) (by omega) _ _
    rcases Nat.lt_or_ge r 2048 with r2 | r2
    · rw [enc2 r1 r2]
      exact less_lt (by omega) (by omega) _ _
    rcases Nat.lt_or_ge r 65536 with r3 | r3
    · rw [enc3 r2 r3 hr]
      exact less_lt (by omega) (by omega) _ _
    rw [enc4 r3 hr]
    rcases Nat.lt_or_ge (r / 262144) (q / 262144) with d | d
    · exact less_lt (by omega) (by omega) _ _
    rw [show r / 262144 = q / 262144 from by omega]
    simp only [List.cons_append, less_eq]
    rcases Nat.lt_or_ge (r / 4096 % 64) (q / 4096 % 64) with d2 | d2
    · exact less_lt (by omega) (by omega) _ _
    rw [show r / 4096 % 64 = q / 4096 % 64 from by omega]
    simp only [less_eq]
    rcases Nat.lt_or_ge (r / 64 % 64) (q / 64 % 64) with d3 | d3
    · exact less_lt (by omega) (by omega) _ _
    rw [show r / 64 % 64 = q / 64 % 64 from by omega]
    simp only [less_eq]
    exact less_lt (by omega) (by omega) _ _

theorem enc_ne (r : Nat) (hr : Utf8.valid (r : Int) = true) : ∃ a l, enc r = a :: l := by
  have := (enc_len r hr).1
  cases h : enc r with
  | nil => rw [h] at this; simp at this
  | cons a l => exact ⟨a, l, rfl⟩

/-- The order by bytes of two texts whose runes are written is the order by runes. -/
theorem less_runes : ∀ (x y : List Nat), (∀ r ∈ x, Utf8.valid (r : Int) = true) → (∀ r ∈ y, Utf8.valid (r : Int) = true) → bytesLess (x.flatMap enc) (y.flatMap enc) = decide (cmpN x y = -1)
  | [], [], _, _ => rfl
  | [], q :: y, _, hy => by
    obtain ⟨a, l, he⟩ := enc_ne q (hy q (by simp))
    simp [cmpN, he, bytesLess]
  | r :: x, [], hx, _ => by
    obtain ⟨a, l, he⟩ := enc_ne r (hx r (by simp))
    simp [cmpN, he, bytesLess]
  | r :: x, q :: y, hx, hy => by
    have hr := hx r (by simp)
    have hq := hy q (by simp)
    rw [List.flatMap_cons, List.flatMap_cons]
    rcases Nat.lt_trichotomy r q with h | h | h
    · rw [enc_less hr hq h]
      rw [cmpN_cons]
      rw [if_pos h]
      rfl
    · subst h
      rw [less_pre, less_runes x y (fun r hr => hx r (by simp [hr])) (fun r hr => hy r (by simp [hr]))]
      rw [cmpN_cons]
      rw [if_neg (by omega), if_neg (by omega)]
    · rw [less_anti _ _ (enc_less hq hr h (y.flatMap enc) (x.flatMap enc))]
      rw [cmpN_cons]
      rw [if_neg (by omega), if_pos h]
      rfl

theorem less_valid (a b : List UInt8) (ha : wellB (toks a) = true) (hb : wellB (toks b) = true) : bytesLess a b = decide (cmpN (runesOf (toks a)) (runesOf (toks b)) = -1) := by
  have h := less_runes (runesOf (toks a)) (runesOf (toks b)) (fun r hr => by obtain ⟨t, ht, rfl⟩ := List.mem_map.1 hr; exact (toks_good a t ht).1) (fun r hr => by obtain ⟨t, ht, rfl⟩ := List.mem_map.1 hr; exact (toks_good b t ht).1)
  rw [(written_iff a).2 ha, (written_iff b).2 hb] at h
  exact h

/-- A to Z as a to z. -/
def low (c : UInt8) : UInt8 := if 65 ≤ c.toNat ∧ c.toNat ≤ 90 then UInt8.ofNat (c.toNat + 32) else c
def foldL (l : List UInt8) : List UInt8 := l.map low
def great (c : UInt8) : Bool := decide (65 ≤ c.toNat) && decide (c.toNat ≤ 90)
theorem low_low (c : UInt8) : low (low c) = low c := by
  unfold low
  split
  · rename_i h
    rw [ofNat_toNat _ (by omega), if_neg (by omega)]
  · rfl
theorem fold_step (l : List UInt8) (k : Nat) (h : k < l.length) : (foldL (l.take k) ++ l.drop k).set k (low l[k]) = foldL (l.take (k + 1)) ++ l.drop (k + 1) := by
  have h1 : (foldL (l.take k)).length = k := by unfold foldL; rw [List.length_map, List.length_take]; omega
  rw [List.set_append_right _ _ (by omega), h1, Nat.sub_self, List.drop_eq_getElem_cons h, List.set_cons_zero, List.take_succ_eq_append_getElem h]
  unfold foldL
  rw [List.map_append, List.append_assoc]
  rfl
theorem fold_fold (l : List UInt8) : foldL (foldL l) = foldL l := by simp [foldL, low_low]
theorem fold_len (l : List UInt8) : (foldL l).length = l.length := by simp [foldL]
theorem low_same (c : UInt8) : low c = c ↔ great c = false := by
  unfold low great
  rw [Bool.and_eq_false_iff, decide_eq_false_iff_not, decide_eq_false_iff_not]
  split
  · rename_i h
    constructor
    · intro e
      have := congrArg UInt8.toNat e
      rw [ofNat_toNat _ (by omega)] at this
      omega
    · omega
  · rename_i h
    refine ⟨fun _ => by omega, fun _ => rfl⟩
theorem fold_same (l : List UInt8) : foldL l = l ↔ l.any great = false := by
  induction l with
  | nil => simp [foldL]
  | cons c l ih =>
    unfold foldL at *
    rw [List.map_cons, List.any_cons, Bool.or_eq_false_iff, List.cons.injEq, low_same, ih]

end Go.Proofs.Ythknafjnmondeaa
