/-
  The contract of the laws' Cut of texts (loesslaw3).
-/
import Derived.Test.YtmlndgkpbodnnaaIter
namespace Go.Proofs.Ytmlndgkpbodnnaa
open Go.RowKit

set_option maxRecDepth 100000 in
/-- The laws' 'Cut(s, n)'. -/
theorem lcut_c (s : ByteArray) (n : Nat) (w : World) (h0 : s.size ≤ maxLen) (hn : n ≤ 1000) :
    Calls Try.prog 23 #[.string s, .int .i64 n] w fun e w' => e = .returned (.string (str ((bl s).take n))) ∧ w = w' := by
  have hs := h0
  unfold maxLen at hs
  by_cases h : n < s.size
  · have H1 := Go.Lib.hid (take_bl s n)
    go_enter Try.func23, Try.ntmps23
    go_wp2
    go_ret
    exact ⟨ret_of (congrArg Value.string H1.out), rfl⟩
  · have e1 : s = str ((bl s).take n) := by
      rw [List.take_of_length_le (by rw [← bl_size]; omega), str_bl]
    have H1 := Go.Lib.hid e1; clear e1
    go_enter Try.func23, Try.ntmps23
    go_wp2
    go_ret
    exact ⟨ret_of (congrArg Value.string H1.out), rfl⟩

end Go.Proofs.Ytmlndgkpbodnnaa
