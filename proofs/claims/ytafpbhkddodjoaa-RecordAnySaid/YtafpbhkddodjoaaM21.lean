/-
  The contract of the laws' 'Short(b, n)', the value said.
-/
import Derived.Test.YtafpbhkddodjoaaM20
import Derived.Test.YtafpbhkddodjoaaM13
namespace Go.Proofs.Ytafpbhkddodjoaa
open Go.RowKit

set_option maxRecDepth 100000 in
/-- 'Short(b, n)', the value said. -/
theorem short_v (a : Option Addr) (len cap : Nat) (l : List UInt8) (n : Nat) (w : World) (hv : RB w (.slice a len cap) l) (hn : n ≤ 1000) :
    Calls Try.prog 10 #[.slice a len cap, .int .i64 n] w fun e w' => e = .returned (.slice a (min n len) cap) ∧ w = w' := by
  obtain ⟨h1, h2, h3⟩ := hv.len
  subst h1
  have hs := h3
  unfold maxLen at hs
  obtain ⟨a', cap', hv', -, -, hn0, -⟩ := hv
  simp only [Value.slice.injEq] at hv'
  obtain ⟨rfl, -, rfl⟩ := hv'
  by_cases h : n < l.length
  · cases a with
    | none => have := hn0 rfl; omega
    | some a =>
      have hr := Go.Lib.hid (Nat.min_eq_left (Nat.le_of_lt h))
      clear hn0 h3
      go_enter Try.func10, Try.ntmps10
      go_wp2
      go_ret
      exact ⟨ret_of (by rw [hr.out]; rfl), rfl⟩
  · have hr := Go.Lib.hid (Nat.min_eq_right (Nat.le_of_not_lt h))
    clear hn0 h3
    go_enter Try.func10, Try.ntmps10
    go_wp2
    go_ret
    exact ⟨ret_of (by rw [hr.out]; rfl), rfl⟩

end Go.Proofs.Ytafpbhkddodjoaa
