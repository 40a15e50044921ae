/-
  The contract of strings.HasPrefix.
-/
import Derived.Test.YtmlndgkpbodnnaaRunM
namespace Go.Proofs.Ytmlndgkpbodnnaa
open Go.RowKit

/-- Does t begin with p? -/
theorem prefix_eq (s t : ByteArray) : ((s.extract 0 t.size).toList == t.toList) = (bl t).isPrefixOf (bl s) := by
  rw [Bool.eq_iff_iff, beq_iff_eq, List.isPrefixOf_iff_prefix, List.prefix_iff_eq_take, ByteArray.toList_eq, ByteArray.toList_eq, Go.Lib.extract_data]
  unfold bl
  rw [← Go.Lib.size_eq]
  simp
  exact eq_comm

set_option maxRecDepth 100000 in
theorem lprefix_c (s t : ByteArray) (w : World) (_hm : s.size ≤ maxLen) :
    Calls Try.prog 85 #[.string s, .string t] w fun e w' => e = .returned (.bool ((bl t).isPrefixOf (bl s))) ∧ w = w' := by
  have hm := _hm
  unfold maxLen at hm
  by_cases h : t.size ≤ s.size
  · have hp := Go.Lib.hid (prefix_eq s t)
    go_enter Try.func85, Try.ntmps85
    go_wp2
    go_ret
    exact ⟨ret_of (congrArg Value.bool hp.out), rfl⟩
  · have hp : (bl t).isPrefixOf (bl s) = false := by
      cases hx : (bl t).isPrefixOf (bl s) with
      | false => rfl
      | true =>
        rw [List.isPrefixOf_iff_prefix] at hx
        have := hx.length_le
        rw [← bl_size, ← bl_size] at this
        exact absurd this h
    have hp := Go.Lib.hid hp
    go_enter Try.func85, Try.ntmps85
    go_wp2
    go_ret
    exact ⟨ret_of (congrArg Value.bool hp.out.symm), rfl⟩

theorem prefix_c (s t : ByteArray) (w : World) (hm : s.size ≤ maxLen) :
    Calls Try.prog 78 #[.string s, .string t] w fun e w' => e = .returned (.bool ((bl t).isPrefixOf (bl s))) ∧ w = w' := by
  have C := Go.Lib.hid (lprefix_c s t w hm)
  go_enter Try.func78, Try.ntmps78
  go_wp2_with (refine C.out.mono ?_; rintro e w1 ⟨rfl, rfl⟩)
  go_ret
  exact ⟨rfl, rfl⟩

end Go.Proofs.Ytmlndgkpbodnnaa
