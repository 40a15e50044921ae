/-
  Keys: contract of the reference's MayKey.
-/
import Derived.Test.YtmlndgkpbodnnaaBase
namespace Go.Proofs.Ytmlndgkpbodnnaa
open Go.RowKit Go.Op

def mayK (s : ByteArray) : Bool := decide (1 ≤ s.size) && decide (s.size ≤ 16)

set_option maxRecDepth 100000 in
theorem rmay_c (s : ByteArray) (w : World) (hm : s.size ≤ maxLen) : Calls Try.prog 25 #[.string s] w fun e w' => e = .returned (.bool (mayK s)) ∧ w = w' := by
  unfold maxLen at hm
  by_cases h1 : 1 ≤ s.size
  · by_cases h2 : s.size ≤ 16
    · go_enter Try.func25, Try.ntmps25
      go_wp2
      go_ret
      exact ⟨ret_of (congrArg Value.bool (by unfold mayK; simp [h1, h2]; try omega)), rfl⟩
    · go_enter Try.func25, Try.ntmps25
      go_wp2
      go_ret
      exact ⟨ret_of (congrArg Value.bool (by unfold mayK; simp [h2]; try omega)), rfl⟩
  · go_enter Try.func25, Try.ntmps25
    go_wp2
    go_ret
    exact ⟨ret_of (congrArg Value.bool (by unfold mayK; simp [h1]; try omega)), rfl⟩

end Go.Proofs.Ytmlndgkpbodnnaa
