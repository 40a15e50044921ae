/-
  Package value: contract of textMay.
-/
import Derived.Test.YtmlndgkpbodnnaaValid
namespace Go.Proofs.Ytmlndgkpbodnnaa
open Go.RowKit

set_option maxRecDepth 100000 in
theorem textMay_c (s : ByteArray) (w : World) : Calls Try.prog 58 #[.string s] w fun e w' => e = .returned (.bool (decide (s.size ≤ 24) && wellB (toks (bl s)))) ∧ Below w.heap.size w w' := by
  by_cases h : s.size ≤ 24
  · have C := Go.Lib.hid fun W => valid_c s W (by omega)
    go_enter Try.func58, Try.ntmps58
    go_wp2_with fail
    refine (C.out _).mono ?_
    rintro e w1 ⟨rfl, hb1⟩
    go_wp2_with fail
    go_ret
    exact ⟨ret_of (congrArg Value.bool (by simp [h])), hb1⟩
  · go_enter Try.func58, Try.ntmps58
    go_wp2_with fail
    go_ret
    exact ⟨ret_of (congrArg Value.bool (by simp)), Below.refl _ _⟩

end Go.Proofs.Ytmlndgkpbodnnaa
