/-
  The contract of the laws' 'Short(b, n)': the first n bytes.
-/
import Derived.Test.YtmlndgkpbodnnaaBase
namespace Go.Proofs.Ytmlndgkpbodnnaa
open Go.RowKit

set_option maxRecDepth 100000 in
theorem short_c (v : Value) (l : List UInt8) (n : Nat) (w : World) (hv : RB w v l) (hn : n ≤ 1000) :
    Calls Try.prog 10 #[v, .int .i64 n] w fun e w' => (∃ v', e = .returned v' ∧ RB w v' (l.take n)) ∧ w = w' := by
  obtain ⟨a, cap, rfl, h1, h2, h3, h4⟩ := hv
  have hs := h2
  unfold maxLen at hs
  by_cases h : n < l.length
  · cases a with
    | none => have := h3 rfl; omega
    | some a =>
      have hr : RB w (.slice (some a) n cap) (l.take n) := by
        refine ⟨some a, cap, by rw [List.length_take, Nat.min_eq_left (by omega)], by rw [List.length_take]; omega, h2, (fun h => by cases h), fun hl => ?_⟩
        obtain ⟨b, o, ha, hc⟩ := h4 (by intro e; subst e; simp at h)
        exact ⟨b, o, ha, fun i hi => by
          have := hc i (by rw [List.length_take] at hi; omega)
          simpa using this⟩
      have Hr := Go.Lib.hid hr; clear hr h3 h4
      go_enter Try.func10, Try.ntmps10
      go_wp2
      go_ret
      exact ⟨⟨_, rfl, Hr.out⟩, rfl⟩
  · have hr : RB w (.slice a l.length cap) (l.take n) := by
      rw [List.take_of_length_le (by omega)]
      exact ⟨a, cap, rfl, h1, h2, h3, h4⟩
    have Hr := Go.Lib.hid hr; clear hr h3 h4
    go_enter Try.func10, Try.ntmps10
    go_wp2
    go_ret
    exact ⟨⟨_, rfl, Hr.out⟩, rfl⟩

theorem rb_first {w : World} {a : Option Addr} {cap : Nat} {l : List UInt8} (h : RB w (.slice a l.length cap) l) (n : Nat) (hn : n ≤ l.length) : RB w (.slice a n cap) (l.take n) := by
  obtain ⟨a', cap', hv, h1, h2, h3, h4⟩ := h
  cases hv
  refine ⟨a, cap, by rw [List.length_take, Nat.min_eq_left hn], by rw [List.length_take]; omega, h2, h3, fun hl => ?_⟩
  have hne : l ≠ [] := by rintro rfl; simp at hl
  obtain ⟨b, o, ha, hc⟩ := h4 hne
  exact ⟨b, o, ha, fun i hi => by
    have := hc i (by rw [List.length_take] at hi; omega)
    simpa using this⟩
set_option maxRecDepth 100000 in
/-- .. wherever its argument reads so. -/
theorem short_w (v : Value) (l : List UInt8) (n : Nat) (w : World) (hv : RB w v l) (hn : n ≤ 1000) :
    Calls Try.prog 10 #[v, .int .i64 n] w fun e w' => (∃ v', e = .returned v' ∧ ∀ W, RB W v l → RB W v' (l.take n)) ∧ w = w' := by
  obtain ⟨a, cap, rfl, h1, h2, h3, h4⟩ := hv
  have hs := h2
  unfold maxLen at hs
  by_cases h : n < l.length
  · cases a with
    | none => have := h3 rfl; omega
    | some a =>
      have Hr := Go.Lib.hid (fun W (hW : RB W (.slice (some a) l.length cap) l) => rb_first hW n (by omega)); clear h3 h4
      go_enter Try.func10, Try.ntmps10
      go_wp2
      go_ret
      exact ⟨⟨_, rfl, Hr.out⟩, rfl⟩
  · have Hr := Go.Lib.hid (fun W (hW : RB W (.slice a l.length cap) l) => show RB W (.slice a l.length cap) (l.take n) from by rw [List.take_of_length_le (by omega)]; exact hW); clear h3 h4
    go_enter Try.func10, Try.ntmps10
    go_wp2
    go_ret
    exact ⟨⟨_, rfl, Hr.out⟩, rfl⟩

end Go.Proofs.Ytmlndgkpbodnnaa
