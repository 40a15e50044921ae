/-
  Stage 21, mathematics: the tree of rising hashes in few bits; where it ends; which of them a hash leads to.
  Stage 22, mathematics: keys by their hashes, then by themselves; what is inserted in order; the first record of each key; the distinct hashes.
  Records as arguments: one by value, and a slice of them (a record's cells lie flat: Key, Gone, Kind, N, S).
-/
import Derived.Test.YtibbligidncocaaM07
import Derived.Test.YtibbligidncocaaM06
import Derived.Test.YtibbligidncocaaM01
import Derived.Lib.SmallJoins
import Derived.Deep.Slices
import Derived.Deep.Fields
import Derived.ChangeSame
namespace Go.Proofs.Ytibbligidncocaa

/-- The tree of l, k bits being left: bit k - 1 is looked at. -/
def treeL : Nat → List Nat → List Bool
  | 0, _ => []
  | k + 1, l => if l.length ≤ 1 then [] else gam ((l.countP fun x => !x.testBit k) + 1) ++ treeL k (l.take (l.countP fun x => !x.testBit k)) ++ treeL k (l.drop (l.countP fun x => !x.testBit k))
/-- Where a tree of n ends that begins at a place. -/
def skipB (b : List Bool) : Nat → Nat → Nat → Option Nat
  | 0, at', n => if n ≤ 1 then some at' else none
  | k + 1, at', n => if n ≤ 1 then some at' else
    match getG b at' with
    | none => none
    | some (x, e) => if n + 1 < x then none else
      match skipB b k e (x - 1) with
      | none => none
      | some e2 => skipB b k e2 (n - (x - 1))
/-- How many stand ahead of that which h leads to. -/
def rankB (b : List Bool) (h : Nat) : Nat → Nat → Nat → Nat → Option Nat
  | 0, _, n, r => if n = 1 then some r else none
  | k + 1, at', n, r => if n ≤ 1 then (if n = 1 then some r else none) else
    match getG b at' with
    | none => none
    | some (x, e) => if n + 1 < x then none else
      if h.testBit k then
        match skipB b k e (x - 1) with
        | none => none
        | some e2 => rankB b h k e2 (n - (x - 1)) (r + (x - 1))
      else rankB b h k e (x - 1) r
/-- Rising, and the same but for the last k bits. -/
structure RiseK (k : Nat) (l : List Nat) : Prop where
  rise : l.Pairwise (· < ·)
  same : ∀ x ∈ l, ∀ y ∈ l, x / 2 ^ k = y / 2 ^ k

theorem riseK_zero {l : List Nat} (h : RiseK 0 l) : l.length ≤ 1 := by
  match l, h with
  | [], _ => simp
  | [_], _ => simp
  | a :: b :: t, h =>
    have h1 := h.same a (by simp) b (by simp)
    have h2 := (List.pairwise_cons.1 h.rise).1 b (by simp)
    simp at h1
    omega
theorem bit_half {k x : Nat} : x / 2 ^ k = 2 * (x / 2 ^ (k + 1)) + (if x.testBit k then 1 else 0) := by
  have e : x / 2 ^ (k + 1) = x / 2 ^ k / 2 := by rw [Nat.pow_succ, Nat.div_div_eq_div_mul]
  have hb : x.testBit k = decide (x / 2 ^ k % 2 = 1) := Nat.testBit_eq_decide_div_mod_eq
  rw [e, hb]
  by_cases h : x / 2 ^ k % 2 = 1
  · rw [decide_eq_true h]; simp; omega
  · rw [decide_eq_false h]; simp; omega
/-- What has a nought there stands ahead of what has a one. -/
theorem bit_less {k x y c : Nat} (hx : x / 2 ^ (k + 1) = c) (hy : y / 2 ^ (k + 1) = c) (bx : x.testBit k = false) (b_y : y.testBit k = true) : x < y := by
  have h1 := @bit_half k x
  have h2 := @bit_half k y
  rw [bx] at h1
  rw [b_y] at h2
  simp at h1 h2
  rcases Nat.lt_or_ge x y with h | h
  · exact h
  · have := Nat.div_le_div_right (c := 2 ^ k) h
    omega
/-- A rising list with the same high bits parts at the count of noughts. -/
theorem rise_part {k : Nat} : ∀ {l : List Nat}, RiseK (k + 1) l → (∀ x ∈ l.take (l.countP fun x => !x.testBit k), x.testBit k = false) ∧ (∀ x ∈ l.drop (l.countP fun x => !x.testBit k), x.testBit k = true)
  | [], _ => ⟨by simp, by simp⟩
  | a :: t, h => by
    have ht : RiseK (k + 1) t := ⟨(List.pairwise_cons.1 h.rise).2, fun x hx y hy => h.same x (by simp [hx]) y (by simp [hy])⟩
    have ih := rise_part ht
    cases ha : a.testBit k with
    | false =>
      have e : (a :: t).countP (fun x => !x.testBit k) = t.countP (fun x => !x.testBit k) + 1 := by simp [ha]
      rw [e, List.take_succ_cons, List.drop_succ_cons]
      refine ⟨fun x hx => ?_, ih.2⟩
      rcases List.mem_cons.1 hx with rfl | hx
      · exact ha
      · exact ih.1 x hx
    | true =>
      have hall : ∀ x ∈ t, x.testBit k = true := fun x hx => by
        cases hb : x.testBit k with
        | true => rfl
        | false =>
          have h1 := bit_less (h.same x (by simp [hx]) a (by simp)) rfl hb ha
          have h2 := (List.pairwise_cons.1 h.rise).1 x hx
          omega
      have e : (a :: t).countP (fun x => !x.testBit k) = 0 := by
        rw [List.countP_eq_zero]
        intro x hx
        rcases List.mem_cons.1 hx with rfl | hx
        · simp [ha]
        · simp [hall x hx]
      rw [e]
      refine ⟨by simp, fun x hx => ?_⟩
      rcases List.mem_cons.1 (by simpa using hx) with rfl | hx
      · exact ha
      · exact hall x hx
theorem rise_take {k : Nat} {l : List Nat} (h : RiseK (k + 1) l) : RiseK k (l.take (l.countP fun x => !x.testBit k)) := by
  refine ⟨h.rise.sublist (List.take_sublist _ _), fun x hx y hy => ?_⟩
  have b1 := (rise_part h).1 x hx
  have b2 := (rise_part h).1 y hy
  have e := h.same x (List.mem_of_mem_take hx) y (List.mem_of_mem_take hy)
  rw [@bit_half k x, @bit_half k y, b1, b2, e]
theorem rise_drop {k : Nat} {l : List Nat} (h : RiseK (k + 1) l) : RiseK k (l.drop (l.countP fun x => !x.testBit k)) := by
  refine ⟨h.rise.sublist (List.drop_sublist _ _), fun x hx y hy => ?_⟩
  have b1 := (rise_part h).2 x hx
  have b2 := (rise_part h).2 y hy
  have e := h.same x (List.mem_of_mem_drop hx) y (List.mem_of_mem_drop hy)
  rw [@bit_half k x, @bit_half k y, b1, b2, e]
theorem treeL_short {l : List Nat} (h : l.length ≤ 1) : ∀ k, treeL k l = []
  | 0 => rfl
  | k + 1 => by rw [treeL, if_pos h]

/-- A tree ends where it ends, whatever stands about. -/
theorem skip_tree : ∀ (k : Nat) (l : List Nat) (a c : List Bool), RiseK k l → l.length < 18446744073709551615 → skipB (a ++ treeL k l ++ c) k a.length l.length = some (a.length + (treeL k l).length)
  | 0, l, a, c, h, _ => by
    have := riseK_zero h
    rw [skipB, if_pos this, treeL]
    rfl
  | k + 1, l, a, c, h, hl => by
    rw [skipB]
    by_cases hs : l.length ≤ 1
    · rw [if_pos hs, treeL_short hs]
      rfl
    · rw [if_neg hs]
      obtain ⟨n, hn⟩ : ∃ n, n = l.countP fun x => !x.testBit k := ⟨_, rfl⟩
      have hnl : n ≤ l.length := by rw [hn]; exact List.countP_le_length
      have e : treeL (k + 1) l = gam (n + 1) ++ treeL k (l.take n) ++ treeL k (l.drop n) := by rw [treeL, if_neg hs, ← hn]
      have e1 : a ++ treeL (k + 1) l ++ c = a ++ gam (n + 1) ++ (treeL k (l.take n) ++ treeL k (l.drop n) ++ c) := by rw [e]; simp
      have hg := getG_gam a (treeL k (l.take n) ++ treeL k (l.drop n) ++ c) (n + 1) (by omega) (by omega)
      rw [← e1] at hg
      rw [hg]
      simp only []
      rw [if_neg (by omega), Nat.add_sub_cancel]
      have h1 := rise_take h
      have h2 := rise_drop h
      rw [← hn] at h1 h2
      have s1 := skip_tree k (l.take n) (a ++ gam (n + 1)) (treeL k (l.drop n) ++ c) h1 (by rw [List.length_take]; omega)
      have e2 : a ++ gam (n + 1) ++ treeL k (l.take n) ++ (treeL k (l.drop n) ++ c) = a ++ treeL (k + 1) l ++ c := by rw [e]; simp
      rw [e2, List.length_append, List.length_take, Nat.min_eq_left hnl] at s1
      rw [s1]
      simp only []
      have s2 := skip_tree k (l.drop n) (a ++ gam (n + 1) ++ treeL k (l.take n)) c h2 (by rw [List.length_drop]; omega)
      have e3 : a ++ gam (n + 1) ++ treeL k (l.take n) ++ treeL k (l.drop n) ++ c = a ++ treeL (k + 1) l ++ c := by rw [e]; simp
      rw [e3, List.length_append, List.length_append, List.length_drop] at s2
      rw [s2, e]
      simp only [List.length_append]
      congr 1
      omega
/-- Of each of the list a tree tells its place. -/
theorem rank_tree : ∀ (k : Nat) (l : List Nat) (a c : List Bool) (r i : Nat) (hi : i < l.length), RiseK k l → l.length < 18446744073709551615 → rankB (a ++ treeL k l ++ c) l[i] k a.length l.length r = some (r + i)
  | 0, l, a, c, r, i, hi, h, _ => by
    have := riseK_zero h
    rw [rankB, if_pos (by omega), show i = 0 by omega]
    rfl
  | k + 1, l, a, c, r, i, hi, h, hl => by
    rw [rankB]
    by_cases hs : l.length ≤ 1
    · rw [if_pos hs, if_pos (by omega), show i = 0 by omega]
      rfl
    · rw [if_neg hs]
      obtain ⟨n, hn⟩ : ∃ n, n = l.countP fun x => !x.testBit k := ⟨_, rfl⟩
      have hnl : n ≤ l.length := by rw [hn]; exact List.countP_le_length
      have e : treeL (k + 1) l = gam (n + 1) ++ treeL k (l.take n) ++ treeL k (l.drop n) := by rw [treeL, if_neg hs, ← hn]
      have e1 : a ++ treeL (k + 1) l ++ c = a ++ gam (n + 1) ++ (treeL k (l.take n) ++ treeL k (l.drop n) ++ c) := by rw [e]; simp
      have hg := getG_gam a (treeL k (l.take n) ++ treeL k (l.drop n) ++ c) (n + 1) (by omega) (by omega)
      rw [← e1] at hg
      rw [hg]
      simp only []
      rw [if_neg (by omega), Nat.add_sub_cancel]
      have h1 := rise_take h
      have h2 := rise_drop h
      have hp := rise_part h
      rw [← hn] at h1 h2 hp
      have e2 : a ++ gam (n + 1) ++ treeL k (l.take n) ++ (treeL k (l.drop n) ++ c) = a ++ treeL (k + 1) l ++ c := by rw [e]; simp
      by_cases hin : i < n
      · have hb : l[i].testBit k = false := hp.1 _ (List.mem_take_iff_getElem.2 ⟨i, by omega, rfl⟩)
        rw [hb, if_neg (by decide)]
        have := rank_tree k (l.take n) (a ++ gam (n + 1)) (treeL k (l.drop n) ++ c) r i (by rw [List.length_take]; omega) h1 (by rw [List.length_take]; omega)
        have e5 : (l.take n).length = n := by rw [List.length_take]; omega
        rw [e2, List.length_append, List.getElem_take] at this
        rw [← this]
        congr 1
        exact e5.symm
      · have hb : l[i].testBit k = true := hp.2 _ (List.mem_drop_iff_getElem.2 ⟨i - n, by omega, by congr 1; omega⟩)
        rw [hb, if_pos rfl]
        have s1 := skip_tree k (l.take n) (a ++ gam (n + 1)) (treeL k (l.drop n) ++ c) h1 (by rw [List.length_take]; omega)
        rw [e2, List.length_append, List.length_take, Nat.min_eq_left hnl] at s1
        rw [s1]
        simp only []
        have s2 := rank_tree k (l.drop n) (a ++ gam (n + 1) ++ treeL k (l.take n)) c (r + n) (i - n) (by rw [List.length_drop]; omega) h2 (by rw [List.length_drop]; omega)
        have e3 : a ++ gam (n + 1) ++ treeL k (l.take n) ++ treeL k (l.drop n) ++ c = a ++ treeL (k + 1) l ++ c := by rw [e]; simp
        have e4 : (l.drop n)[i - n]'(by rw [List.length_drop]; omega) = l[i] := by rw [List.getElem_drop]; congr 1; omega
        rw [e3, e4, List.length_append, List.length_append, List.length_drop] at s2
        rw [s2]
        congr 1
        omega
/-- What a tree tells is a place of it. -/
theorem rank_lt (b : List Bool) (h : Nat) : ∀ (k at' n r p : Nat), rankB b h k at' n r = some p → r ≤ p ∧ p < r + n
  | 0, at', n, r, p, e => by
    rw [rankB] at e
    split at e
    · cases e; omega
    · cases e
  | k + 1, at', n, r, p, e => by
    rw [rankB] at e
    split at e
    · split at e
      · cases e; omega
      · cases e
    · split at e
      · cases e
      · rename_i x e' hg
        split at e
        · cases e
        · split at e
          · split at e
            · cases e
            · have := rank_lt b h k _ _ _ _ e
              omega
          · have := rank_lt b h k _ _ _ _ e
            omega
theorem testBit_high {k m x y : Nat} (hk : k ≤ m) (h : x / 2 ^ k = y / 2 ^ k) : x.testBit m = y.testBit m := by
  have := congrArg (fun z => z.testBit (m - k)) h
  simp only [Nat.testBit_div_two_pow] at this
  rwa [show m - k + k = m by omega] at this
theorem mod_succ2 (x k : Nat) : x % 2 ^ (k + 1) = x % 2 ^ k + 2 ^ k * (if x.testBit k then 1 else 0) := by
  have hb : x.testBit k = decide (x / 2 ^ k % 2 = 1) := Nat.testBit_eq_decide_div_mod_eq
  rw [Nat.pow_succ, Nat.mod_mul]
  congr 2
  rw [hb]
  rcases Nat.mod_two_eq_zero_or_one (x / 2 ^ k) with h | h <;> rw [h] <;> rfl
/-- A greater hash never has a lesser place: by the first bit in which they differ. -/
theorem rank_mono (b : List Bool) {x y : Nat} : ∀ (k at' n r p q : Nat), x % 2 ^ k ≤ y % 2 ^ k → rankB b x k at' n r = some p → rankB b y k at' n r = some q → p ≤ q
  | 0, at', n, r, p, q, _, h1, h2 => by
    rw [rankB] at h1 h2
    split at h1
    · rename_i hn
      rw [if_pos hn] at h2
      cases h1; cases h2; omega
    · cases h1
  | k + 1, at', n, r, p, q, hxy, h1, h2 => by
    rw [rankB] at h1 h2
    by_cases hs : n ≤ 1
    · rw [if_pos hs] at h1 h2
      split at h1
      · rename_i hn
        rw [if_pos hn] at h2
        cases h1; cases h2; omega
      · cases h1
    · rw [if_neg hs] at h1 h2
      cases hg : getG b at' with
      | none => rw [hg] at h1; cases h1
      | some pe =>
        obtain ⟨z, e⟩ := pe
        rw [hg] at h1 h2
        simp only [] at h1 h2
        split at h1
        · cases h1
        · rename_i hz
          rw [if_neg hz] at h2
          have hmx := mod_succ2 x k
          have hmy := mod_succ2 y k
          have lx := Nat.mod_lt x (Nat.pow_pos (n := k) (show 0 < 2 by omega))
          have ly := Nat.mod_lt y (Nat.pow_pos (n := k) (show 0 < 2 by omega))
          cases bx : x.testBit k with
          | false =>
            rw [bx, if_neg (by decide)] at h1
            cases b_y : y.testBit k with
            | false =>
              rw [b_y, if_neg (by decide)] at h2
              rw [bx] at hmx
              rw [b_y] at hmy
              simp at hmx hmy
              exact rank_mono b k _ _ _ _ _ (by omega) h1 h2
            | true =>
              rw [b_y, if_pos rfl] at h2
              have a1 := rank_lt b x k _ _ _ _ h1
              split at h2
              · cases h2
              · have a2 := rank_lt b y k _ _ _ _ h2
                omega
          | true =>
            rw [bx, if_pos rfl] at h1
            cases b_y : y.testBit k with
            | false =>
              rw [bx] at hmx
              rw [b_y] at hmy
              simp at hmx hmy
              omega
            | true =>
              rw [b_y, if_pos rfl] at h2
              rw [bx] at hmx
              rw [b_y] at hmy
              simp at hmx hmy
              split at h1
              · cases h1
              · rename_i e2 hsk
                rw [hsk] at h2
                simp only [] at h2
                exact rank_mono b k _ _ _ _ _ (by omega) h1 h2
end Go.Proofs.Ytibbligidncocaa

namespace Go.Proofs.Ytibbligidncocaa
open Go.Op

theorem snoc_ind {α : Type} {P : List α → Prop} (nil : P []) (snoc : ∀ l x, P l → P (l ++ [x])) (l : List α) : P l := by
  rw [← List.reverse_reverse l]
  induction l.reverse with
  | nil => exact nil
  | cons x t ih =>
    rw [List.reverse_cons]
    exact snoc _ _ ih
/-- By hash, then byte by byte. -/
def lessK (a b : ByteArray) : Bool := decide (hashS a < hashS b) || (decide (hashS a = hashS b) && bytesLess a.toList b.toList)
theorem toList_inj {a b : ByteArray} (h : a.toList = b.toList) : a = b := by
  rw [ByteArray.toList_eq, ByteArray.toList_eq] at h
  obtain ⟨x⟩ := a
  obtain ⟨y⟩ := b
  obtain ⟨x⟩ := x
  obtain ⟨y⟩ := y
  simp only [] at h
  rw [h]
theorem lessK_iff (a b : ByteArray) : lessK a b = true ↔ hashS a < hashS b ∨ (hashS a = hashS b ∧ bytesLess a.toList b.toList = true) := by
  unfold lessK
  rw [Bool.or_eq_true, Bool.and_eq_true, decide_eq_true_eq, decide_eq_true_eq]
theorem lessK_irr (a : ByteArray) : lessK a a = false := by
  cases h : lessK a a with
  | false => rfl
  | true =>
    rcases (lessK_iff a a).1 h with h | ⟨-, h⟩
    · omega
    · rw [less_irr] at h; cases h
theorem lessK_trans {a b c : ByteArray} (h1 : lessK a b = true) (h2 : lessK b c = true) : lessK a c = true := by
  rw [lessK_iff] at *
  rcases h1 with h1 | ⟨h1, k1⟩ <;> rcases h2 with h2 | ⟨h2, k2⟩
  · exact .inl (by omega)
  · exact .inl (by omega)
  · exact .inl (by omega)
  · exact .inr ⟨by omega, less_trans _ _ _ k1 k2⟩
theorem lessK_tri (a b : ByteArray) : lessK a b = true ∨ a = b ∨ lessK b a = true := by
  rw [lessK_iff, lessK_iff]
  rcases Nat.lt_trichotomy (hashS a) (hashS b) with h | h | h
  · exact .inl (.inl h)
  · rcases less_tri a.toList b.toList with k | k | k
    · exact .inl (.inr ⟨h, k⟩)
    · exact .inr (.inl (toList_inj k))
    · exact .inr (.inr (.inr ⟨h.symm, k⟩))
  · exact .inr (.inr (.inl h))
theorem lessK_asymm {a b : ByteArray} (h : lessK a b = true) : lessK b a = false := by
  cases h2 : lessK b a with
  | false => rfl
  | true => have := lessK_trans h h2; rw [lessK_irr] at this; cases this
theorem lessK_ne {a b : ByteArray} (h : lessK a b = true) : a ≠ b := by
  rintro rfl
  rw [lessK_irr] at h
  cases h
theorem lessK_hash {a b : ByteArray} (h : lessK a b = true) : hashS a ≤ hashS b := by
  rcases (lessK_iff a b).1 h with h | ⟨h, -⟩ <;> omega

section
variable {α : Type} (key : α → ByteArray)
/-- In order, each key once. -/
def SortK (l : List α) : Prop := l.Pairwise fun a b => lessK (key a) (key b) = true
/-- x behind the first t. -/
def insK (l : List α) (t : Nat) (x : α) : List α := l.take t ++ x :: l.drop t
theorem insK_of (S : List α) (t : Nat) (z x : α) (ht : t ≤ S.length) : (((S ++ [z]).take (t + 1) ++ ((S ++ [z]).drop t).take ((S ++ [z]).length - (t + 1))).set t x) = insK S t x := by
  unfold insK
  have e2 : ((S ++ [z]).drop t).take ((S ++ [z]).length - (t + 1)) = S.drop t := by
    rw [List.drop_append_of_le_length ht]
    rw [List.take_append_of_le_length (by simp only [List.length_append, List.length_cons, List.length_nil, List.length_drop]; omega)]
    rw [List.take_of_length_le (by simp only [List.length_append, List.length_cons, List.length_nil, List.length_drop]; omega)]
  rw [e2]
  have hlt : t < (S ++ [z]).length := by simp only [List.length_append, List.length_cons, List.length_nil]; omega
  have e1 : (S ++ [z]).take (t + 1) = S.take t ++ [(S ++ [z])[t]] := by
    rw [List.take_succ_eq_append_getElem hlt, List.take_append_of_le_length ht]
  rw [e1, List.append_assoc, List.set_append_right _ _ (by rw [List.length_take]; omega)]
  congr 1
  rw [List.length_take, Nat.min_eq_left ht, Nat.sub_self]
  rfl
theorem insK_length (l : List α) (t : Nat) (x : α) (ht : t ≤ l.length) : (insK l t x).length = l.length + 1 := by
  unfold insK
  simp only [List.length_append, List.length_take, List.length_cons, List.length_drop]
  omega
theorem insK_mem (l : List α) (t : Nat) (x y : α) : y ∈ insK l t x ↔ y = x ∨ y ∈ l := by
  unfold insK
  rw [List.mem_append, List.mem_cons]
  constructor
  · rintro (h | h | h)
    · exact .inr (List.mem_of_mem_take h)
    · exact .inl h
    · exact .inr (List.mem_of_mem_drop h)
  · rintro (h | h)
    · exact .inr (.inl h)
    · rw [← List.take_append_drop t l] at h
      rcases List.mem_append.1 h with h | h
      · exact .inl h
      · exact .inr (.inr h)
theorem insK_sort {l : List α} {t : Nat} {x : α} (hS : SortK key l) (_ht : t ≤ l.length) (hne : ∀ y ∈ l, key y ≠ key x) (h1 : ∀ j (h : j < l.length), t ≤ j → lessK (key x) (key l[j]) = true) (h2 : ∀ h : t - 1 < l.length, 0 < t → lessK (key x) (key l[t - 1]) = false) : SortK key (insK l t x) := by
  unfold SortK at *
  unfold insK
  rw [List.pairwise_append]
  refine ⟨hS.sublist (List.take_sublist _ _), ?_, ?_⟩
  · rw [List.pairwise_cons]
    refine ⟨fun y hy => ?_, hS.sublist (List.drop_sublist _ _)⟩
    obtain ⟨j, hj, rfl⟩ := List.mem_iff_getElem.1 hy
    rw [List.length_drop] at hj
    rw [List.getElem_drop]
    exact h1 (t + j) (by omega) (by omega)
  · intro y hy z hz
    obtain ⟨j, hj, rfl⟩ := List.mem_iff_getElem.1 hy
    rw [List.length_take] at hj
    rw [List.getElem_take]
    have hjx : lessK (key l[j]) (key x) = true := by
      have h3 := h2 (by omega) (by omega)
      have h4 : lessK (key (l[t - 1]'(by omega))) (key x) = true := by
        rcases lessK_tri (key (l[t - 1]'(by omega))) (key x) with h | h | h
        · exact h
        · exact absurd h (hne _ (List.getElem_mem _))
        · rw [h3] at h; cases h
      rcases Nat.lt_or_ge j (t - 1) with h | h
      · exact lessK_trans (List.pairwise_iff_getElem.1 hS j (t - 1) (by omega) (by omega) h) h4
      · obtain rfl : j = t - 1 := by omega
        exact h4
    rcases List.mem_cons.1 hz with rfl | hz
    · exact hjx
    · obtain ⟨q, hq, rfl⟩ := List.mem_iff_getElem.1 hz
      rw [List.length_drop] at hq
      rw [List.getElem_drop]
      exact lessK_trans hjx (h1 (t + q) (by omega) (by omega))
/-- Two lists in order of the same things are the same. -/
theorem sortK_ext {l m : List α} (hl : SortK key l) (hm : SortK key m) (h : ∀ x, x ∈ l ↔ x ∈ m) : l = m := by
  unfold SortK at *
  induction l generalizing m with
  | nil =>
    cases m with
    | nil => rfl
    | cons y m => exact absurd ((h y).2 (by simp)) (by simp)
  | cons x l ih =>
    cases m with
    | nil => exact absurd ((h x).1 (by simp)) (by simp)
    | cons y m =>
      rw [List.pairwise_cons] at hl hm
      have hxy : x = y := by
        rcases List.mem_cons.1 ((h x).1 (by simp)) with e | e
        · exact e
        · rcases List.mem_cons.1 ((h y).2 (by simp)) with e2 | e2
          · exact e2.symm
          · have a1 := hl.1 y e2
            have a2 := hm.1 x e
            rw [lessK_asymm a1] at a2
            cases a2
      subst hxy
      congr 1
      refine ih hl.2 hm.2 fun z => ?_
      constructor
      · intro hz
        rcases List.mem_cons.1 ((h z).1 (by simp [hz])) with e | e
        · subst e
          have := hl.1 z hz
          rw [lessK_irr] at this
          cases this
        · exact e
      · intro hz
        rcases List.mem_cons.1 ((h z).2 (by simp [hz])) with e | e
        · subst e
          have := hm.1 z hz
          rw [lessK_irr] at this
          cases this
        · exact e
/-- The distinct numbers of what is in order. -/
def hashStep (H : α → Nat) (out : List Nat) (x : α) : List Nat := if out.getLast? = some (H x) then out else out ++ [H x]
def hashesG (H : α → Nat) (l : List α) : List Nat := l.foldl (hashStep H) []
theorem hashesG_snoc (H : α → Nat) (l : List α) (x : α) : hashesG H (l ++ [x]) = hashStep H (hashesG H l) x := by
  unfold hashesG
  rw [List.foldl_append, List.foldl_cons, List.foldl_nil]
theorem hashesG_length (H : α → Nat) (l : List α) : (hashesG H l).length ≤ l.length := by
  induction l using snoc_ind with
  | nil => simp [hashesG]
  | snoc l x ih =>
    rw [hashesG_snoc]
    unfold hashStep
    split <;> simp only [List.length_append, List.length_cons, List.length_nil] <;> omega
/-- They rise; they are just those that there are; the last one is the last one's. -/
theorem hashesG_rise (H : α → Nat) (l : List α) (h : l.Pairwise fun a b => H a ≤ H b) : (hashesG H l).Pairwise (· < ·) ∧ (∀ n, n ∈ hashesG H l ↔ ∃ x ∈ l, H x = n) ∧ (hashesG H l).getLast? = l.getLast?.map H := by
  induction l using snoc_ind with
  | nil => simp [hashesG]
  | snoc l x ih =>
    have hl : l.Pairwise fun a b => H a ≤ H b := h.sublist (List.sublist_append_left _ _)
    obtain ⟨h1, h2, h3⟩ := ih hl
    have hle : ∀ y ∈ l, H y ≤ H x := fun y hy => (List.pairwise_append.1 h).2.2 y hy x (by simp)
    rw [hashesG_snoc]
    unfold hashStep
    by_cases he : (hashesG H l).getLast? = some (H x)
    · rw [if_pos he]
      refine ⟨h1, fun n => ?_, by rw [he]; simp⟩
      rw [h2]
      constructor
      · rintro ⟨y, hy, e⟩
        exact ⟨y, by simp [hy], e⟩
      · rintro ⟨y, hy, e⟩
        rcases List.mem_append.1 hy with hy | hy
        · exact ⟨y, hy, e⟩
        · rw [List.mem_singleton] at hy
          subst hy
          rw [← e, ← h2]
          exact List.mem_of_getLast? he
    · rw [if_neg he]
      refine ⟨?_, fun n => ?_, by simp⟩
      · rw [List.pairwise_append]
        refine ⟨h1, List.pairwise_singleton _ _, fun a ha b hb => ?_⟩
        rw [List.mem_singleton] at hb
        subst hb
        obtain ⟨y, hy, rfl⟩ := (h2 a).1 ha
        have := hle y hy
        rcases Nat.lt_or_ge (H y) (H x) with g | g
        · exact g
        · exfalso
          apply he
          rw [h3]
          have hne : l ≠ [] := by rintro rfl; cases hy
          rw [List.getLast?_eq_some_getLast hne, Option.map_some]
          congr 1
          have g1 := hle _ (List.getLast_mem hne)
          have g2 : H y ≤ H (l.getLast hne) := by
            obtain ⟨i, hi, rfl⟩ := List.mem_iff_getElem.1 hy
            rw [List.getLast_eq_getElem]
            rcases Nat.lt_or_ge i (l.length - 1) with g3 | g3
            · exact List.pairwise_iff_getElem.1 hl i (l.length - 1) hi (by omega) g3
            · have e3 : i = l.length - 1 := by omega
              subst e3
              exact Nat.le_refl _
          omega
      · rw [List.mem_append, h2]
        constructor
        · rintro (⟨y, hy, e⟩ | e)
          · exact ⟨y, by simp [hy], e⟩
          · exact ⟨x, by simp, (List.mem_singleton.1 e).symm⟩
        · rintro ⟨y, hy, e⟩
          rcases List.mem_append.1 hy with hy | hy
          · exact .inl ⟨y, hy, e⟩
          · rw [List.mem_singleton] at hy
            subst hy
            exact .inr (by simp [e])
theorem sortK_hash {l : List α} (h : SortK key l) : l.Pairwise fun a b => hashS (key a) ≤ hashS (key b) := h.imp fun {_ _} h => lessK_hash h
/-- Of each key the first one. -/
def firstStep (out : List α) (x : α) : List α := if out.any fun y => decide (key y = key x) then out else out ++ [x]
def firstsK (l : List α) : List α := l.foldl (firstStep key) []
theorem firstsK_snoc (l : List α) (x : α) : firstsK key (l ++ [x]) = firstStep key (firstsK key l) x := by
  unfold firstsK
  rw [List.foldl_append, List.foldl_cons, List.foldl_nil]
theorem firstsK_facts (l : List α) : (firstsK key l).Pairwise (fun a b => key a ≠ key b) ∧ (∀ x ∈ firstsK key l, x ∈ l) ∧ (∀ x ∈ l, ∃ y ∈ firstsK key l, key y = key x) ∧ (firstsK key l).length ≤ l.length := by
  induction l using snoc_ind with
  | nil => simp [firstsK]
  | snoc l x ih =>
    obtain ⟨h1, h2, h3, h4⟩ := ih
    rw [firstsK_snoc]
    unfold firstStep
    split
    · rename_i ha
      rw [List.any_eq_true] at ha
      obtain ⟨y, hy, e⟩ := ha
      refine ⟨h1, fun z hz => by simp [h2 z hz], fun z hz => ?_, by simp only [List.length_append, List.length_cons, List.length_nil]; omega⟩
      rcases List.mem_append.1 hz with hz | hz
      · exact h3 z hz
      · rw [List.mem_singleton] at hz
        subst hz
        exact ⟨y, hy, of_decide_eq_true e⟩
    · rename_i ha
      have ha : ∀ y ∈ firstsK key l, key y ≠ key x := fun y hy e => ha (List.any_eq_true.2 ⟨y, hy, decide_eq_true e⟩)
      refine ⟨?_, fun z hz => ?_, fun z hz => ?_, by simp only [List.length_append, List.length_cons, List.length_nil]; omega⟩
      · rw [List.pairwise_append]
        refine ⟨h1, List.pairwise_singleton _ _, fun a hA b hB => ?_⟩
        rw [List.mem_singleton] at hB
        subst hB
        exact ha a hA
      · rcases List.mem_append.1 hz with hz | hz
        · simp [h2 z hz]
        · simp [List.mem_singleton.1 hz]
      · rcases List.mem_append.1 hz with hz | hz
        · obtain ⟨y, hy, e⟩ := h3 z hz
          exact ⟨y, by simp [hy], e⟩
        · rw [List.mem_singleton] at hz
          subst hz
          exact ⟨z, by simp, rfl⟩
/-- What is first stays, whatever comes behind. -/
theorem firstsK_mem (l : List α) (x : α) (hx : x ∈ firstsK key l) : ∃ a b, l = a ++ x :: b ∧ ∀ y ∈ a, key y ≠ key x := by
  induction l using snoc_ind with
  | nil => simp [firstsK] at hx
  | snoc l z ih =>
    rw [firstsK_snoc] at hx
    unfold firstStep at hx
    split at hx
    · obtain ⟨a, b, e, h⟩ := ih hx
      exact ⟨a, b ++ [z], by rw [e]; simp, h⟩
    · rename_i ha
      rcases List.mem_append.1 hx with hx | hx
      · obtain ⟨a, b, e, h⟩ := ih hx
        exact ⟨a, b ++ [z], by rw [e]; simp, h⟩
      · rw [List.mem_singleton] at hx
        subst hx
        refine ⟨l, [], by simp, fun y hy e => ha ?_⟩
        obtain ⟨y', hy', e'⟩ := (firstsK_facts key l).2.2.1 y hy
        exact List.any_eq_true.2 ⟨y', hy', decide_eq_true (e'.trans e)⟩
theorem firstsK_of {a b : List α} {x : α} (h : ∀ y ∈ a, key y ≠ key x) : x ∈ firstsK key (a ++ x :: b) := by
  induction b using snoc_ind with
  | nil =>
    rw [firstsK_snoc]
    unfold firstStep
    split
    · rename_i ha
      rw [List.any_eq_true] at ha
      obtain ⟨y, hy, e⟩ := ha
      exact absurd (of_decide_eq_true e) (h y ((firstsK_facts key a).2.1 y hy))
    · simp
  | snoc b z ih =>
    rw [show a ++ x :: (b ++ [z]) = (a ++ x :: b) ++ [z] by simp, firstsK_snoc]
    unfold firstStep
    split
    · exact ih
    · simp [ih]
end

end Go.Proofs.Ytibbligidncocaa

namespace Go.Proofs.Ytibbligidncocaa
open Go.RowKit Go.Joins Go.ChangeShapes Go.WideShapes Go.Deep

/-- A record as the program holds it. -/
def recV (key : ByteArray) (gone : Bool) (k n : Int) (s : ByteArray) : Value := .agg #[.string key, .bool gone, .int .i64 k, .int .i64 n, .string s]
/-- Key, Gone, Kind, N, S. -/
abbrev RecT := ByteArray × Bool × Int × Int × ByteArray
def RecOk (x : RecT) : Prop := x.1.size ≤ maxLen ∧ (Lit.int .i64 x.2.2.1).wf = true ∧ (Lit.int .i64 x.2.2.2.1).wf = true ∧ x.2.2.2.2.size ≤ maxLen

theorem array5 {α : Type} {cs : Array α} (h : cs.size = 5) : ∃ a b c d e, cs = #[a, b, c, d, e] := by
  obtain ⟨l⟩ := cs
  match l, h with
  | [a, b, c, d, e], _ => exact ⟨a, b, c, d, e, rfl⟩

set_option maxRecDepth 100000 in
/-- What five cells hold. -/
theorem rec_cells {H : Type} {enc : TypeId × Value → H} {W : World} {fuel : Nat} {c0 c1 c2 c3 c4 : Value} {x : DataW H × List MemPlace} (h : DataW.trod enc Try.prog W 0 (fun _ => true) true fuel 39 [c0, c1, c2, c3, c4] = some x) :
    ∃ key gone k n s, c0 = .string key ∧ c1 = .bool gone ∧ c2 = .int .i64 k ∧ c3 = .int .i64 n ∧ c4 = .string s ∧ RecOk (key, gone, k, n, s) := by
  have g0 : Try.prog.cellsOf 3 = 1 := by kernel_rfl
  have g1 : Try.prog.cellsOf 2 = 1 := by kernel_rfl
  have g2 : Try.prog.cellsOf 9 = 1 := by kernel_rfl
  have g3 : Try.prog.cellsOf 4 = 1 := by kernel_rfl
  have g4 : Try.prog.cellsOf 37 = 3 := by kernel_rfl
  obtain ⟨y0, y1, y2, m, -, -, h0, h1, h2⟩ := trod_struct3 Try.underlying39 h
  simp only [g2, g3, g4, List.drop_zero, List.drop_succ_cons, List.take_succ_cons, List.take_zero] at h0 h1 h2
  obtain ⟨z0, z1, z2, m', -, -, k0, k1, k2⟩ := trod_struct3 Try.underlying37 h2
  simp only [g0, g1, g2, List.drop_zero, List.drop_succ_cons, List.take_succ_cons, List.take_zero] at k0 k1 k2
  obtain ⟨key, e0, -, w0⟩ := DataW.trod_string Try.underlying9 h0
  obtain ⟨gone, e1, -⟩ := DataW.trod_bool Try.underlying4 h1
  obtain ⟨a, e2, -, w2⟩ := DataW.trod_int Try.underlying3 k0
  obtain ⟨b, e3, -, w3⟩ := DataW.trod_int Try.underlying2 k1
  obtain ⟨s, e4, -, w4⟩ := DataW.trod_string Try.underlying9 k2
  simp only [List.cons.injEq, and_true] at e0 e1 e2 e3 e4
  exact ⟨key, gone, a, b, s, e0, e1, e2, e3, e4, w0, w2, w3, w4⟩

set_option maxRecDepth 100000 in
theorem open_rec {H : Type} {enc : TypeId × Value → H} {W : World} {base : Nat} {v : Value} {d : DataW H} {p : List MemPlace} (hok : Value.okWide Try.prog W .any base 39 v) (h : DataW.Trod enc Try.prog W 0 (fun _ => true) true 39 v d p) :
    ∃ key gone k n s, v = recV key gone k n s ∧ RecOk (key, gone, k, n, s) := by
  obtain ⟨cs, rfl, hsz⟩ := okWide_struct Try.underlying39 hok
  have hC : Try.prog.cellsOf 39 = 5 := by kernel_rfl
  obtain ⟨c0, c1, c2, c3, c4, rfl⟩ := array5 (hsz.trans hC)
  obtain ⟨fuel, hf⟩ := h
  obtain ⟨key, gone, k, n, s, rfl, rfl, rfl, rfl, rfl, ok⟩ := rec_cells (by simpa [Value.cells] using hf)
  exact ⟨key, gone, k, n, s, rfl, ok⟩

/-- v, a slice of records, reads as l. -/
def RRec (w : World) (v : Value) (l : List RecT) : Prop :=
  ∃ a cap, v = .slice a l.length cap ∧ l.length ≤ cap ∧ cap ≤ maxLen ∧ (a = none → cap = 0) ∧ (∀ x ∈ l, RecOk x) ∧
    (l ≠ [] → ∃ b o, a = some ⟨b, o, none⟩ ∧ ∀ i (h : i < l.length), w.cell? ⟨b, o + i * 5, none⟩ = some (.string l[i].1) ∧ w.cell? ⟨b, o + i * 5 + 1, none⟩ = some (.bool l[i].2.1) ∧ w.cell? ⟨b, o + i * 5 + 2, none⟩ = some (.int .i64 l[i].2.2.1) ∧ w.cell? ⟨b, o + i * 5 + 3, none⟩ = some (.int .i64 l[i].2.2.2.1) ∧ w.cell? ⟨b, o + i * 5 + 4, none⟩ = some (.string l[i].2.2.2.2))

theorem list_of_rec {α : Type} (n : Nat) (p : Nat → α → Prop) (h : ∀ i, i < n → ∃ x, p i x) : ∃ l : List α, l.length = n ∧ ∀ i (hi : i < l.length), p i l[i] := by
  induction n with
  | zero => exact ⟨[], rfl, fun i hi => absurd hi (by simp)⟩
  | succ n ih =>
    obtain ⟨l, hl, hp⟩ := ih fun i hi => h i (by omega)
    obtain ⟨x, hx⟩ := h n (by omega)
    refine ⟨l ++ [x], by simp [hl], fun i hi => ?_⟩
    by_cases hin : i < l.length
    · rw [List.getElem_append_left hin]; exact hp i hin
    · obtain rfl : i = n := by simp at hi; omega
      simpa [hl] using hx

set_option maxRecDepth 100000 in
theorem open_recs {H : Type} {enc : TypeId × Value → H} {W : World} {a : Option Addr} {len cap : Nat} {d : DataW H} {p : List MemPlace} (h : DataW.Trod enc Try.prog W 0 (fun _ => true) true 22 (.slice a len cap) d p) :
    ∃ l, RRec W (.slice a len cap) l := by
  obtain ⟨fuel, hf⟩ := h
  rcases open_slice Try.underlying22 hf with ⟨hcs, -⟩ | ⟨x, l, c, m, n, D, Pl, hcs, hb, hl, hm, hmm, -, hi⟩
  · simp [Value.cells] at hcs
    obtain ⟨rfl, rfl, rfl⟩ := hcs
    exact ⟨[], none, 0, rfl, Nat.le_refl _, by simp [maxLen], fun _ => rfl, (fun x hx => by cases hx), fun h => absurd rfl h⟩
  · simp [Value.cells] at hcs
    obtain ⟨rfl, rfl, rfl⟩ := hcs
    have hC : Try.prog.cellsOf 39 = 5 := by kernel_rfl
    simp only [if_true] at hmm
    subst hmm
    have key : ∀ i, i < len → ∃ y : RecT, RecOk y ∧ W.cell? (x.add (i * 5)) = some (.string y.1) ∧ W.cell? ((x.add (i * 5)).add 1) = some (.bool y.2.1) ∧ W.cell? ((x.add (i * 5)).add 2) = some (.int .i64 y.2.2.1) ∧ W.cell? ((x.add (i * 5)).add 3) = some (.int .i64 y.2.2.2.1) ∧ W.cell? ((x.add (i * 5)).add 4) = some (.string y.2.2.2.2) := by
      intro i hil
      obtain ⟨cs', hc, ht⟩ := hi i (by omega)
      rw [hC] at hc
      obtain ⟨-, hcl, hat⟩ := World.cells?_some hc
      obtain ⟨c0, c1, c2, c3, c4, rfl⟩ : ∃ c0 c1 c2 c3 c4, cs' = [c0, c1, c2, c3, c4] := by
        match cs', hcl with
        | [c0, c1, c2, c3, c4], _ => exact ⟨c0, c1, c2, c3, c4, rfl⟩
      obtain ⟨key, gone, k, n, s, rfl, rfl, rfl, rfl, rfl, ok⟩ := rec_cells ht
      have hz : (x.add (i * 5)).add 0 = x.add (i * 5) := by generalize x.add (i * 5) = y; unfold Addr.add; simp
      have t0 := hat 0 (by omega)
      rw [hz] at t0
      exact ⟨(key, gone, k, n, s), ok, t0, hat 1 (by omega), hat 2 (by omega), hat 3 (by omega), hat 4 (by omega)⟩
    obtain ⟨L, hL, hp⟩ := list_of_rec len _ key
    subst hL
    refine ⟨L, some x, _, rfl, hl, hm, (fun h => by cases h), ?_, ?_⟩
    · intro y hy
      obtain ⟨i, hi', rfl⟩ := List.mem_iff_getElem.1 hy
      exact (hp i hi').1
    · intro hne
      obtain ⟨b, o, spot⟩ := x
      have h0 := (hp 0 (List.length_pos_iff.2 hne)).2.1
      have hspot : spot = none := by simpa [Addr.add] using World.cell?_spot h0
      subst hspot
      have hadd (j k : Nat) : (⟨b, j, none⟩ : Addr).add k = ⟨b, j + k, none⟩ := by unfold Addr.add; split <;> simp_all
      refine ⟨b, o, rfl, fun i hi' => ?_⟩
      have := (hp i hi').2
      rw [hadd, hadd, hadd, hadd, hadd] at this
      exact this

end Go.Proofs.Ytibbligidncocaa
