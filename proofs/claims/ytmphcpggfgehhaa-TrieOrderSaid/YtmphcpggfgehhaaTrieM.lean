/-
  Stage 21, mathematics: the tree of rising hashes in few bits; where it ends; which of them a hash leads to.
-/
import Derived.Test.YtmphcpggfgehhaaGamM
namespace Go.Proofs.Ytmphcpggfgehhaa

/-- The tree of l, k bits being left: bit k - 1 is looked at. -/
def treeL : Nat → List Nat → List Bool
  | 0, _ => []
  | k + 1, l => if l.length ≤ 1 then [] else gam ((l.countP fun x => !x.testBit k) + 1) ++ treeL k (l.take (l.countP fun x => !x.testBit k)) ++ treeL k (l.drop (l.countP fun x => !x.testBit k))
/-- Where a tree of n ends that begins at a place. -/
def skipB (b : List Bool) : Nat → Nat → Nat → Option Nat
  | 0, at', n => if n ≤ 1 then some at' else none
  | k + 1, at', n => if n ≤ 1 then some at' else
    match getG b at' with
    | none => none
    | some (x, e) => if n + 1 < x then none else
      match skipB b k e (x - 1) with
      | none => none
      | some e2 => skipB b k e2 (n - (x - 1))
/-- How many stand ahead of that which h leads to. -/
def rankB (b : List Bool) (h : Nat) : Nat → Nat → Nat → Nat → Option Nat
  | 0, _, n, r => if n = 1 then some r else none
  | k + 1, at', n, r => if n ≤ 1 then (if n = 1 then some r else none) else
    match getG b at' with
    | none => none
    | some (x, e) => if n + 1 < x then none else
      if h.testBit k then
        match skipB b k e (x - 1) with
        | none => none
        | some e2 => rankB b h k e2 (n - (x - 1)) (r + (x - 1))
      else rankB b h k e (x - 1) r
/-- Rising, and the same but for the last k bits. -/
structure RiseK (k : Nat) (l : List Nat) : Prop where
  rise : l.Pairwise (· < ·)
  same : ∀ x ∈ l, ∀ y ∈ l, x / 2 ^ k = y / 2 ^ k

theorem riseK_zero {l : List Nat} (h : RiseK 0 l) : l.length ≤ 1 := by
  match l, h with
  | [], _ => simp
  | [_], _ => simp
  | a :: b :: t, h =>
    have h1 := h.same a (by simp) b (by simp)
    have h2 := (List.pairwise_cons.1 h.rise).1 b (by simp)
    simp at h1
    omega
theorem bit_half {k x : Nat} : x / 2 ^ k = 2 * (x / 2 ^ (k + 1)) + (if x.testBit k then 1 else 0) := by
  have e : x / 2 ^ (k + 1) = x / 2 ^ k / 2 := by rw [Nat.pow_succ, Nat.div_div_eq_div_mul]
  have hb : x.testBit k = decide (x / 2 ^ k % 2 = 1) := Nat.testBit_eq_decide_div_mod_eq
  rw [e, hb]
  by_cases h : x / 2 ^ k % 2 = 1
  · rw [decide_eq_true h]; simp; omega
  · rw [decide_eq_false h]; simp; omega
/-- What has a nought there stands ahead of what has a one. -/
theorem bit_less {k x y c : Nat} (hx : x / 2 ^ (k + 1) = c) (hy : y / 2 ^ (k + 1) = c) (bx : x.testBit k = false) (b_y : y.testBit k = true) : x < y := by
  have h1 := @bit_half k x
  have h2 := @bit_half k y
  rw [bx] at h1
  rw [b_y] at h2
  simp at h1 h2
  rcases Nat.lt_or_ge x y with h | h
  · exact h
  · have := Nat.div_le_div_right (c := 2 ^ k) h
    omega
/-- A rising list with the same high bits parts at the count of noughts. -/
theorem rise_part {k : Nat} : ∀ {l : List Nat}, RiseK (k + 1) l → (∀ x ∈ l.take (l.countP fun x => !x.testBit k), x.testBit k = false) ∧ (∀ x ∈ l.drop (l.countP fun x => !x.testBit k), x.testBit k = true)
  | [], _ => ⟨by simp, by simp⟩
  | a :: t, h => by
    have ht : RiseK (k + 1) t := ⟨(List.pairwise_cons.1 h.rise).2, fun x hx y hy => h.same x (by simp [hx]) y (by simp [hy])⟩
    have ih := rise_part ht
    cases ha : a.testBit k with
    | false =>
      have e : (a :: t).countP (fun x => !x.testBit k) = t.countP (fun x => !x.testBit k) + 1 := by simp [ha]
      rw [e, List.take_succ_cons, List.drop_succ_cons]
      refine ⟨fun x hx => ?_, ih.2⟩
      rcases List.mem_cons.1 hx with rfl | hx
      · exact ha
      · exact ih.1 x hx
    | true =>
      have hall : ∀ x ∈ t, x.testBit k = true := fun x hx => by
        cases hb : x.testBit k with
        | true => rfl
        | false =>
          have h1 := bit_less (h.same x (by simp [hx]) a (by simp)) rfl hb ha
          have h2 := (List.pairwise_cons.1 h.rise).1 x hx
          omega
      have e : (a :: t).countP (fun x => !x.testBit k) = 0 := by
        rw [List.countP_eq_zero]
        intro x hx
        rcases List.mem_cons.1 hx with rfl | hx
        · simp [ha]
        · simp [hall x hx]
      rw [e]
      refine ⟨by simp, fun x hx => ?_⟩
      rcases List.mem_cons.1 (by simpa using hx) with rfl | hx
      · exact ha
      · exact hall x hx
theorem rise_take {k : Nat} {l : List Nat} (h : RiseK (k + 1) l) : RiseK k (l.take (l.countP fun x => !x.testBit k)) := by
  refine ⟨h.rise.sublist (List.take_sublist _ _), fun x hx y hy => ?_⟩
  have b1 := (rise_part h).1 x hx
  have b2 := (rise_part h).1 y hy
  have e := h.same x (List.mem_of_mem_take hx) y (List.mem_of_mem_take hy)
  rw [@bit_half k x, @bit_half k y, b1, b2, e]
theorem rise_drop {k : Nat} {l : List Nat} (h : RiseK (k + 1) l) : RiseK k (l.drop (l.countP fun x => !x.testBit k)) := by
  refine ⟨h.rise.sublist (List.drop_sublist _ _), fun x hx y hy => ?_⟩
  have b1 := (rise_part h).2 x hx
  have b2 := (rise_part h).2 y hy
  have e := h.same x (List.mem_of_mem_drop hx) y (List.mem_of_mem_drop hy)
  rw [@bit_half k x, @bit_half k y, b1, b2, e]
theorem treeL_short {l : List Nat} (h : l.length ≤ 1) : ∀ k, treeL k l = []
  | 0 => rfl
  | k + 1 => by rw [treeL, if_pos h]

/-- A tree ends where it ends, whatever stands about. -/
theorem skip_tree : ∀ (k : Nat) (l : List Nat) (a c : List Bool), RiseK k l → l.length < 18446744073709551615 → skipB (a ++ treeL k l ++ c) k a.length l.length = some (a.length + (treeL k l).length)
  | 0, l, a, c, h, _ => by
    have := riseK_zero h
    rw [skipB, if_pos this, treeL]
    rfl
  | k + 1, l, a, c, h, hl => by
    rw [skipB]
    by_cases hs : l.length ≤ 1
    · rw [if_pos hs, treeL_short hs]
      rfl
    · rw [if_neg hs]
      obtain ⟨n, hn⟩ : ∃ n, n = l.countP fun x => !x.testBit k := ⟨_, rfl⟩
      have hnl : n ≤ l.length := by rw [hn]; exact List.countP_le_length
      have e : treeL (k + 1) l = gam (n + 1) ++ treeL k (l.take n) ++ treeL k (l.drop n) := by rw [treeL, if_neg hs, ← hn]
      have e1 : a ++ treeL (k + 1) l ++ c = a ++ gam (n + 1) ++ (treeL k (l.take n) ++ treeL k (l.drop n) ++ c) := by rw [e]; simp
      have hg := getG_gam a (treeL k (l.take n) ++ treeL k (l.drop n) ++ c) (n + 1) (by omega) (by omega)
      rw [← e1] at hg
      rw [hg]
      simp only []
      rw [if_neg (by omega), Nat.add_sub_cancel]
      have h1 := rise_take h
      have h2 := rise_drop h
      rw [← hn] at h1 h2
      have s1 := skip_tree k (l.take n) (a ++ gam (n + 1)) (treeL k (l.drop n) ++ c) h1 (by rw [List.length_take]; omega)
      have e2 : a ++ gam (n + 1) ++ treeL k (l.take n) ++ (treeL k (l.drop n) ++ c) = a ++ treeL (k + 1) l ++ c := by rw [e]; simp
      rw [e2, List.length_append, List.length_take, Nat.min_eq_left hnl] at s1
      rw [s1]
      simp only []
      have s2 := skip_tree k (l.drop n) (a ++ gam (n + 1) ++ treeL k (l.take n)) c h2 (by rw [List.length_drop]; omega)
      have e3 : a ++ gam (n + 1) ++ treeL k (l.take n) ++ treeL k (l.drop n) ++ c = a ++ treeL (k + 1) l ++ c := by rw [e]; simp
      rw [e3, List.length_append, List.length_append, List.length_drop] at s2
      rw [s2, e]
      simp only [List.length_append]
      congr 1
      omega
/-- Of each of the list a tree tells its place. -/
theorem rank_tree : ∀ (k : Nat) (l : List Nat) (a c : List Bool) (r i : Nat) (hi : i < l.length), RiseK k l → l.length < 18446744073709551615 → rankB (a ++ treeL k l ++ c) l[i] k a.length l.length r = some (r + i)
  | 0, l, a, c, r, i, hi, h, _ => by
    have := riseK_zero h
    rw [rankB, if_pos (by omega), show i = 0 by omega]
    rfl
  | k + 1, l, a, c, r, i, hi, h, hl => by
    rw [rankB]
    by_cases hs : l.length ≤ 1
    · rw [if_pos hs, if_pos (by omega), show i = 0 by omega]
      rfl
    · rw [if_neg hs]
      obtain ⟨n, hn⟩ : ∃ n, n = l.countP fun x => !x.testBit k := ⟨_, rfl⟩
      have hnl : n ≤ l.length := by rw [hn]; exact List.countP_le_length
      have e : treeL (k + 1) l = gam (n + 1) ++ treeL k (l.take n) ++ treeL k (l.drop n) := by rw [treeL, if_neg hs, ← hn]
      have e1 : a ++ treeL (k + 1) l ++ c = a ++ gam (n + 1) ++ (treeL k (l.take n) ++ treeL k (l.drop n) ++ c) := by rw [e]; simp
      have hg := getG_gam a (treeL k (l.take n) ++ treeL k (l.drop n) ++ c) (n + 1) (by omega) (by omega)
      rw [← e1] at hg
      rw [hg]
      simp only []
      rw [if_neg (by omega), Nat.add_sub_cancel]
      have h1 := rise_take h
      have h2 := rise_drop h
      have hp := rise_part h
      rw [← hn] at h1 h2 hp
      have e2 : a ++ gam (n + 1) ++ treeL k (l.take n) ++ (treeL k (l.drop n) ++ c) = a ++ treeL (k + 1) l ++ c := by rw [e]; simp
      by_cases hin : i < n
      · have hb : l[i].testBit k = false := hp.1 _ (List.mem_take_iff_getElem.2 ⟨i, by omega, rfl⟩)
        rw [hb, if_neg (by decide)]
        have := rank_tree k (l.take n) (a ++ gam (n + 1)) (treeL k (l.drop n) ++ c) r i (by rw [List.length_take]; omega) h1 (by rw [List.length_take]; omega)
        have e5 : (l.take n).length = n := by rw [List.length_take]; omega
        rw [e2, List.length_append, List.getElem_take] at this
        rw [← this]
        congr 1
        exact e5.symm
      · have hb : l[i].testBit k = true := hp.2 _ (List.mem_drop_iff_getElem.2 ⟨i - n, by omega, by congr 1; omega⟩)
        rw [hb, if_pos rfl]
        have s1 := skip_tree k (l.take n) (a ++ gam (n + 1)) (treeL k (l.drop n) ++ c) h1 (by rw [List.length_take]; omega)
        rw [e2, List.length_append, List.length_take, Nat.min_eq_left hnl] at s1
        rw [s1]
        simp only []
        have s2 := rank_tree k (l.drop n) (a ++ gam (n + 1) ++ treeL k (l.take n)) c (r + n) (i - n) (by rw [List.length_drop]; omega) h2 (by rw [List.length_drop]; omega)
        have e3 : a ++ gam (n + 1) ++ treeL k (l.take n) ++ treeL k (l.drop n) ++ c = a ++ treeL (k + 1) l ++ c := by rw [e]; simp
        have e4 : (l.drop n)[i - n]'(by rw [List.length_drop]; omega) = l[i] := by rw [List.getElem_drop]; congr 1; omega
        rw [e3, e4, List.length_append, List.length_append, List.length_drop] at s2
        rw [s2]
        congr 1
        omega
/-- What a tree tells is a place of it. -/
theorem rank_lt (b : List Bool) (h : Nat) : ∀ (k at' n r p : Nat), rankB b h k at' n r = some p → r ≤ p ∧ p < r + n
  | 0, at', n, r, p, e => by
    rw [rankB] at e
    split at e
    · cases e; omega
    · cases e
  | k + 1, at', n, r, p, e => by
    rw [rankB] at e
    split at e
    · split at e
      · cases e; omega
      · cases e
    · split at e
      · cases e
      · rename_i x e' hg
        split at e
        · cases e
        · split at e
          · split at e
            · cases e
            · have := rank_lt b h k _ _ _ _ e
              omega
          · have := rank_lt b h k _ _ _ _ e
            omega
theorem testBit_high {k m x y : Nat} (hk : k ≤ m) (h : x / 2 ^ k = y / 2 ^ k) : x.testBit m = y.testBit m := by
  have := congrArg (fun z => z.testBit (m - k)) h
  simp only [Nat.testBit_div_two_pow] at this
  rwa [show m - k + k = m by omega] at this
theorem mod_succ2 (x k : Nat) : x % 2 ^ (k + 1) = x % 2 ^ k + 2 ^ k * (if x.testBit k then 1 else 0) := by
  have hb : x.testBit k = decide (x / 2 ^ k % 2 = 1) := Nat.testBit_eq_decide_div_mod_eq
  rw [Nat.pow_succ, Nat.mod_mul]
  congr 2
  rw [hb]
  rcases Nat.mod_two_eq_zero_or_one (x / 2 ^ k) with h | h <;> rw [h] <;> rfl
/-- A greater hash never has a lesser place: by the first bit in which they differ. -/
theorem rank_mono (b : List Bool) {x y : Nat} : ∀ (k at' n r p q : Nat), x % 2 ^ k ≤ y % 2 ^ k → rankB b x k at' n r = some p → rankB b y k at' n r = some q → p ≤ q
  | 0, at', n, r, p, q, _, h1, h2 => by
    rw [rankB] at h1 h2
    split at h1
    · rename_i hn
      rw [if_pos hn] at h2
      cases h1; cases h2; omega
    · cases h1
  | k + 1, at', n, r, p, q, hxy, h1, h2 => by
    rw [rankB] at h1 h2
    by_cases hs : n ≤ 1
    · rw [if_pos hs] at h1 h2
      split at h1
      · rename_i hn
        rw [if_pos hn] at h2
        cases h1; cases h2; omega
      · cases h1
    · rw [if_neg hs] at h1 h2
      cases hg : getG b at' with
      | none => rw [hg] at h1; cases h1
      | some pe =>
        obtain ⟨z, e⟩ := pe
        rw [hg] at h1 h2
        simp only [] at h1 h2
        split at h1
        · cases h1
        · rename_i hz
          rw [if_neg hz] at h2
          have hmx := mod_succ2 x k
          have hmy := mod_succ2 y k
          have lx := Nat.mod_lt x (Nat.pow_pos (n := k) (show 0 < 2 by omega))
          have ly := Nat.mod_lt y (Nat.pow_pos (n := k) (show 0 < 2 by omega))
          cases bx : x.testBit k with
          | false =>
            rw [bx, if_neg (by decide)] at h1
            cases b_y : y.testBit k with
            | false =>
              rw [b_y, if_neg (by decide)] at h2
              rw [bx] at hmx
              rw [b_y] at hmy
              simp at hmx hmy
              exact rank_mono b k _ _ _ _ _ (by omega) h1 h2
            | true =>
              rw [b_y, if_pos rfl] at h2
              have a1 := rank_lt b x k _ _ _ _ h1
              split at h2
              · cases h2
              · have a2 := rank_lt b y k _ _ _ _ h2
                omega
          | true =>
            rw [bx, if_pos rfl] at h1
            cases b_y : y.testBit k with
            | false =>
              rw [bx] at hmx
              rw [b_y] at hmy
              simp at hmx hmy
              omega
            | true =>
              rw [b_y, if_pos rfl] at h2
              rw [bx] at hmx
              rw [b_y] at hmy
              simp at hmx hmy
              split at h1
              · cases h1
              · rename_i e2 hsk
                rw [hsk] at h2
                simp only [] at h2
                exact rank_mono b k _ _ _ _ _ (by omega) h1 h2
end Go.Proofs.Ytmphcpggfgehhaa
