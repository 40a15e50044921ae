/-
  Package key: contract of May.
-/
import Derived.Test.YtmlndgkpbodnnaaMayK
namespace Go.Proofs.Ytmlndgkpbodnnaa
open Go.RowKit Go.Op

set_option maxRecDepth 100000 in
theorem kmayL_c (s : ByteArray) (w : World) (hm : s.size ≤ maxLen) : Calls Try.prog 27 #[.string s] w fun e w' => e = .returned (.bool (mayK s)) ∧ Below w.heap.size w w' := by
  unfold maxLen at hm
  have hb := Below.refl w.heap.size w
  by_cases h1 : 1 ≤ s.size
  · by_cases h2 : s.size ≤ 16
    · go_enter Try.func27, Try.ntmps27
      go_wp2
      go_ret
      exact ⟨ret_of (congrArg Value.bool (by unfold mayK; simp [h1, h2]; try omega)), hb⟩
    · go_enter Try.func27, Try.ntmps27
      go_wp2
      go_ret
      exact ⟨ret_of (congrArg Value.bool (by unfold mayK; simp [h2]; try omega)), hb⟩
  · go_enter Try.func27, Try.ntmps27
    go_wp2
    go_ret
    exact ⟨ret_of (congrArg Value.bool (by unfold mayK; simp [h1]; try omega)), hb⟩

theorem kmay_c (s : ByteArray) (w : World) (hm : s.size ≤ 1000000) : Calls Try.prog 27 #[.string s] w fun e w' => e = .returned (.bool (mayK s)) ∧ Below w.heap.size w w' :=
  kmayL_c s w (by unfold maxLen; omega)

end Go.Proofs.Ytmlndgkpbodnnaa
