/-
  What a device holds, as mathematics: its sectors, which of them are loose, what a crash leaves. Of no code.
-/
import Derived.Test.YtiejjiccncmeiaaDoorVals
namespace Go.Proofs.YtiejjiccncmeiaaDoor
open Go.RowKit

/-- The places below n that are loose, rising. -/
def looseL (f : Nat → Bool) (n : Nat) : List Nat := (List.range n).filter f
/-- How many are loose below j. -/
def rankD (f : Nat → Bool) (j : Nat) : Nat := (looseL f j).length

theorem looseL_zero (f : Nat → Bool) : looseL f 0 = [] := rfl
theorem looseL_succ (f : Nat → Bool) (n : Nat) : looseL f (n + 1) = looseL f n ++ (if f n = true then [n] else []) := by
  unfold looseL
  rw [List.range_succ, List.filter_append]
  by_cases h : f n = true <;> simp [h]
theorem looseL_yes (f : Nat → Bool) (n : Nat) (h : f n = true) : looseL f (n + 1) = looseL f n ++ [n] := by rw [looseL_succ, if_pos h]
theorem looseL_no (f : Nat → Bool) (n : Nat) (h : f n = false) : looseL f (n + 1) = looseL f n := by rw [looseL_succ, if_neg (by simp [h]), List.append_nil]
theorem looseL_length_le (f : Nat → Bool) (n : Nat) : (looseL f n).length ≤ n := by
  have := List.length_filter_le f (List.range n)
  rwa [List.length_range] at this
theorem looseL_congr {f g : Nat → Bool} {n : Nat} (h : ∀ j, j < n → f j = g j) : looseL f n = looseL g n := by
  unfold looseL
  exact List.filter_congr fun j hj => h j (List.mem_range.1 hj)
theorem looseL_none {f : Nat → Bool} {n : Nat} (h : ∀ j, j < n → f j = false) : looseL f n = [] := by
  unfold looseL
  rw [List.filter_eq_nil_iff]
  intro j hj
  rw [h j (List.mem_range.1 hj)]
  simp
theorem looseL_lt (f : Nat → Bool) (n : Nat) : ∀ j ∈ looseL f n, j < n := fun _ hj => List.mem_range.1 (List.mem_filter.1 hj).1
theorem mem_looseL {f : Nat → Bool} {n j : Nat} : j ∈ looseL f n ↔ j < n ∧ f j = true := by unfold looseL; rw [List.mem_filter, List.mem_range]

/-- The k-th of them. -/
theorem looseL_get (f : Nat → Bool) : ∀ (n k : Nat) (h : k < (looseL f n).length), (looseL f n)[k] < n ∧ f (looseL f n)[k] = true ∧ rankD f (looseL f n)[k] = k
  | 0, k, h => by simp [looseL_zero] at h
  | n + 1, k, h => by
    by_cases hf : f n = true
    · have e := looseL_yes f n hf
      rcases Nat.lt_or_ge k (looseL f n).length with hk | hk
      · have e1 : (looseL f (n + 1))[k] = (looseL f n)[k] := by simp only [e]; exact List.getElem_append_left hk
        rw [e1]
        obtain ⟨h1, h2, h3⟩ := looseL_get f n k hk
        exact ⟨by omega, h2, h3⟩
      · have hk2 : k = (looseL f n).length := by
          have := h
          rw [e, List.length_append, List.length_singleton] at this
          omega
        have e1 : (looseL f (n + 1))[k] = n := by
          simp only [e]
          rw [List.getElem_append_right (by omega)]
          simp
        rw [e1]
        exact ⟨by omega, hf, by unfold rankD; exact hk2.symm⟩
    · have e := looseL_no f n (by simpa using hf)
      have hk : k < (looseL f n).length := by rwa [e] at h
      have e1 : (looseL f (n + 1))[k] = (looseL f n)[k] := by simp only [e]
      rw [e1]
      obtain ⟨h1, h2, h3⟩ := looseL_get f n k hk
      exact ⟨by omega, h2, h3⟩

theorem rankD_succ (f : Nat → Bool) (j : Nat) : rankD f (j + 1) = rankD f j + if f j = true then 1 else 0 := by
  unfold rankD
  rw [looseL_succ, List.length_append]
  split <;> simp
theorem rankD_mono (f : Nat → Bool) {i j : Nat} (h : i ≤ j) : rankD f i ≤ rankD f j := by
  induction h with
  | refl => exact Nat.le_refl _
  | step h ih => rw [rankD_succ]; omega
theorem rankD_inj (f : Nat → Bool) {i j : Nat} (hi : f i = true) (hj : f j = true) (h : rankD f i = rankD f j) : i = j := by
  rcases Nat.lt_trichotomy i j with hlt | he | hlt
  · have h1 := rankD_mono f (show i + 1 ≤ j from hlt)
    rw [rankD_succ, if_pos hi] at h1
    omega
  · exact he
  · have h1 := rankD_mono f (show j + 1 ≤ i from hlt)
    rw [rankD_succ, if_pos hj] at h1
    omega
/-- Where a loose one stands among them. -/
theorem looseL_rank (f : Nat → Bool) : ∀ (n i : Nat), i < n → f i = true → (looseL f n)[rankD f i]? = some i
  | 0, i, h, _ => by omega
  | n + 1, i, h, hf => by
    rcases Nat.lt_or_ge i n with hi | hi
    · have h1 := looseL_rank f n i hi hf
      rw [looseL_succ]
      rw [List.getElem?_append_left (by have := (List.getElem?_eq_some_iff.1 h1).1; exact this)]
      exact h1
    · obtain rfl : i = n := by omega
      rw [looseL_yes f i hf]
      unfold rankD
      rw [List.getElem?_append_right (Nat.le_refl _)]
      simp
theorem rankD_lt (f : Nat → Bool) {n i : Nat} (h : i < n) (hf : f i = true) : rankD f i < (looseL f n).length := (List.getElem?_eq_some_iff.1 (looseL_rank f n i h hf)).1
theorem rankD_congr {f g : Nat → Bool} {n : Nat} (h : ∀ j, j < n → f j = g j) : rankD f n = rankD g n := by unfold rankD; rw [looseL_congr h]

/-- A sector: its bytes, what lasts of them, whether it was written since. -/
structure Sec where
  now : List UInt8
  kept : List UInt8
  loose : Bool

/-- No bytes but noughts. -/
def zeros : List UInt8 := List.replicate 64 0
theorem zeros_length : zeros.length = 64 := by simp [zeros]
/-- A device's sectors at the start. -/
def newS : Nat → Sec := fun _ => ⟨zeros, zeros, false⟩
/-- b lies at the beginning. -/
def over (l b : List UInt8) : List UInt8 := b ++ l.drop b.length
theorem over_length {l b : List UInt8} (h : b.length ≤ l.length) : (over l b).length = l.length := by simp [over]; omega
def upS (S : Nat → Sec) (i : Nat) (s : Sec) : Nat → Sec := fun j => if j = i then s else S j
def wrS (S : Nat → Sec) (i : Nat) (b : List UInt8) : Nat → Sec := upS S i ⟨over (S i).now b, (S i).kept, true⟩
def flSec (s : Sec) : Sec := ⟨s.now, s.now, false⟩
def flS (S : Nat → Sec) : Nat → Sec := fun j => if (S j).loose = true then flSec (S j) else S j
def lf (S : Nat → Sec) : Nat → Bool := fun j => (S j).loose
def keptS (S : Nat → Sec) (keep : List Bool) (j : Nat) : List UInt8 := if (S j).loose = true ∧ keep.getD (rankD (lf S) j) false = true then (S j).now else (S j).kept
def crS (S : Nat → Sec) (keep : List Bool) : Nat → Sec := fun j => ⟨keptS S keep j, keptS S keep j, false⟩
/-- Each sector has 64 bytes. -/
def Whole (S : Nat → Sec) (n : Nat) : Prop := ∀ i, i < n → (S i).now.length = 64 ∧ (S i).kept.length = 64
theorem Whole.new (n : Nat) : Whole newS n := fun _ _ => ⟨zeros_length, zeros_length⟩
theorem Whole.up {S : Nat → Sec} {n : Nat} (h : Whole S n) (i : Nat) (s : Sec) (h1 : s.now.length = 64) (h2 : s.kept.length = 64) : Whole (upS S i s) n := fun j hj => by
  unfold upS
  split
  · exact ⟨h1, h2⟩
  · exact h j hj
theorem Whole.wr {S : Nat → Sec} {n : Nat} (h : Whole S n) {i : Nat} (hi : i < n) {b : List UInt8} (hb : b.length ≤ 64) : Whole (wrS S i b) n := by
  obtain ⟨h1, h2⟩ := h i hi
  exact h.up i _ (by show (over _ _).length = 64; rw [over_length (by omega), h1]) h2
theorem Whole.fl {S : Nat → Sec} {n : Nat} (h : Whole S n) : Whole (flS S) n := fun j hj => by
  unfold flS
  split
  · exact ⟨(h j hj).1, (h j hj).1⟩
  · exact h j hj
theorem Whole.kept {S : Nat → Sec} {n : Nat} (h : Whole S n) (keep : List Bool) : ∀ j, j < n → (keptS S keep j).length = 64 := fun j hj => by
  unfold keptS
  split
  · exact (h j hj).1
  · exact (h j hj).2
theorem Whole.cr {S : Nat → Sec} {n : Nat} (h : Whole S n) (keep : List Bool) : Whole (crS S keep) n := fun j hj => ⟨h.kept keep j hj, h.kept keep j hj⟩

/-- How long it lives: the calls, whether it is fused, how many are left. -/
structure Life where
  calls : Int
  fused : Bool
  left : Int
  dead : Bool
structure Life.Ok (L : Life) : Prop where
  c0 : 0 ≤ L.calls
  c1 : L.calls ≤ 1000000
  l0 : -9223372036854775808 ≤ L.left
  l1 : L.left ≤ 9223372036854775807
  fuse : L.fused = true → 0 ≤ L.left
  dead : L.dead = (L.fused && decide (L.left = 0))
def born : Life := ⟨0, false, 0, false⟩
theorem born_ok : born.Ok := ⟨by decide, by decide, by decide, by decide, by decide, by decide⟩
def Life.tick (L : Life) : Life := ⟨L.calls + 1, L.fused, if L.fused = true then L.left - 1 else L.left, if L.fused = true then decide (L.left - 1 = 0) else L.dead⟩
def Life.fuseTo (L : Life) (n : Int) : Life := if L.dead = true then L else ⟨L.calls, decide (0 ≤ n), n, decide (n = 0)⟩
theorem Life.Ok.tick {L : Life} (h : L.Ok) (hd : L.dead = false) (hc : L.calls < 1000000) : L.tick.Ok := by
  obtain ⟨c, f, l, d⟩ := L
  obtain ⟨c0, c1, l0, l1, fu, de⟩ := h
  simp only at *
  cases f with
  | false => exact ⟨by simp [Life.tick]; omega, by simp [Life.tick]; omega, by simpa [Life.tick] using l0, by simpa [Life.tick] using l1, by simp [Life.tick], by simp [Life.tick, hd]⟩
  | true =>
    have hl : l ≠ 0 := by
      intro e
      subst e
      rw [hd] at de
      simp at de
    have := fu rfl
    exact ⟨by simp [Life.tick]; omega, by simp [Life.tick]; omega, by simp [Life.tick]; omega, by simp [Life.tick]; omega, by simp [Life.tick]; omega, by simp [Life.tick]⟩
theorem Life.Ok.fuseTo {L : Life} (h : L.Ok) (n : Int) (h0 : -9223372036854775808 ≤ n) (h1 : n ≤ 9223372036854775807) : (L.fuseTo n).Ok := by
  unfold Life.fuseTo
  split
  · exact h
  · refine ⟨h.c0, h.c1, h0, h1, by simp, ?_⟩
    simp only
    by_cases e : n = 0
    · subst e; simp
    · simp [e]
theorem Life.tick_calls (L : Life) : L.tick.calls = L.calls + 1 := rfl

/-- The loop of Crash: which are kept when k of the loose ones have been looked at. -/
def keptK (S : Nat → Sec) (keep : List Bool) (k j : Nat) : List UInt8 := if (S j).loose = true ∧ rankD (lf S) j < k ∧ keep.getD (rankD (lf S) j) false = true then (S j).now else (S j).kept
theorem keptK_zero (S : Nat → Sec) (keep : List Bool) (j : Nat) : keptK S keep 0 j = (S j).kept := by
  unfold keptK
  rw [if_neg (by omega)]
theorem keptK_all (S : Nat → Sec) (keep : List Bool) (n j : Nat) (hj : j < n) : keptK S keep (looseL (lf S) n).length j = keptS S keep j := by
  unfold keptK keptS
  by_cases hl : (S j).loose = true
  · have := rankD_lt (lf S) hj hl
    simp [hl, this]
  · simp [hl]
theorem keptK_step (S : Nat → Sec) (keep : List Bool) (n k : Nat) (hk : k < (looseL (lf S) n).length) (j : Nat) :
    keptK S keep (k + 1) j = if j = (looseL (lf S) n)[k] ∧ keep.getD k false = true then (S j).now else keptK S keep k j := by
  obtain ⟨h1, h2, h3⟩ := looseL_get (lf S) n k hk
  generalize (looseL (lf S) n)[k] = i at *
  unfold keptK
  by_cases hji : j = i
  · subst hji
    have h2' : (S j).loose = true := h2
    rw [h3]
    by_cases hkp : keep.getD k false = true
    · rw [if_pos ⟨h2', by omega, hkp⟩, if_pos ⟨rfl, hkp⟩]
    · rw [if_neg (fun h => hkp h.2.2), if_neg (fun h => hkp h.2), if_neg (fun h => hkp h.2.2)]
  · rw [if_neg (show ¬ (j = i ∧ _) from fun h => hji h.1)]
    by_cases hl : (S j).loose = true
    · have hne : rankD (lf S) j ≠ k := fun e => hji (rankD_inj (lf S) hl h2 (e.trans h3.symm))
      congr 1
      apply propext
      constructor
      · rintro ⟨a, b, c⟩; exact ⟨a, by omega, c⟩
      · rintro ⟨a, b, c⟩; exact ⟨a, by omega, c⟩
    · rw [if_neg (fun h => hl h.1), if_neg (fun h => hl h.1)]

/-- The loop of Flush: the first k of the loose ones are flushed. -/
def flK (S : Nat → Sec) (k : Nat) : Nat → Sec := fun j => if (S j).loose = true ∧ rankD (lf S) j < k then flSec (S j) else S j
theorem flK_zero (S : Nat → Sec) (j : Nat) : flK S 0 j = S j := by
  unfold flK
  rw [if_neg (by omega)]
theorem flK_all (S : Nat → Sec) (n j : Nat) (hj : j < n) : flK S (looseL (lf S) n).length j = flS S j := by
  unfold flK flS
  by_cases hl : (S j).loose = true
  · have := rankD_lt (lf S) hj hl
    simp [hl, this]
  · simp [hl]
theorem flK_step (S : Nat → Sec) (n k : Nat) (hk : k < (looseL (lf S) n).length) (j : Nat) :
    flK S (k + 1) j = upS (flK S k) (looseL (lf S) n)[k] (flSec (S (looseL (lf S) n)[k])) j := by
  obtain ⟨h1, h2, h3⟩ := looseL_get (lf S) n k hk
  generalize (looseL (lf S) n)[k] = i at *
  have h2' : (S i).loose = true := h2
  unfold upS flK
  by_cases hji : j = i
  · subst hji
    rw [if_pos rfl, if_pos ⟨h2', by omega⟩]
  · rw [if_neg hji]
    by_cases hl : (S j).loose = true
    · have hne : rankD (lf S) j ≠ k := fun e => hji (rankD_inj (lf S) hl h2 (e.trans h3.symm))
      congr 1
      apply propext
      constructor
      · rintro ⟨a, b⟩; exact ⟨a, by omega⟩
      · rintro ⟨a, b⟩; exact ⟨a, by omega⟩
    · rw [if_neg (fun h => hl h.1), if_neg (fun h => hl h.1)]
theorem flK_at (S : Nat → Sec) (n k : Nat) (hk : k < (looseL (lf S) n).length) : flK S k (looseL (lf S) n)[k] = S (looseL (lf S) n)[k] := by
  obtain ⟨h1, h2, h3⟩ := looseL_get (lf S) n k hk
  unfold flK
  rw [h3, if_neg (by omega)]
theorem Whole.flK {S : Nat → Sec} {n : Nat} (h : Whole S n) (k : Nat) : Whole (flK S k) n := fun j hj => by
  unfold Proofs.YtiejjiccncmeiaaDoor.flK
  split
  · exact ⟨(h j hj).1, (h j hj).1⟩
  · exact h j hj
theorem lf_flS (S : Nat → Sec) : lf (flS S) = fun _ => false := by
  funext j
  unfold lf flS
  by_cases h : (S j).loose = true
  · rw [if_pos h]; rfl
  · rw [if_neg h]; simpa using h

end Go.Proofs.YtiejjiccncmeiaaDoor
