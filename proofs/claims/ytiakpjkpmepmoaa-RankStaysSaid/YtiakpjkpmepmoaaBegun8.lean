/-
  The contract of the laws' begun.
-/
import Derived.Test.YtiakpjkpmepmoaaRank
import Derived.Test.YtiakpjkpmepmoaaBof
namespace Go.Proofs.Ytiakpjkpmepmoaa
open Go.RowKit

def R4 : List Bool := [true, false, true, true]
theorem R4_len : R4.length = 4 := rfl
theorem R4_o0 : onesI R4 0 = 0 := by decide +kernel
theorem R4_o3 : onesI R4 3 = 2 := by decide +kernel
theorem R4_o9 : onesI R4 9 = 3 := by decide +kernel
theorem R4_on : onesI R4 (-1) = 0 := by decide +kernel
theorem R4_p1 : placeI R4 1 = 2 := by decide +kernel
theorem R4_p3 : placeI R4 3 = -1 := by decide +kernel

set_option maxHeartbeats 2000000 in
set_option maxRecDepth 100000 in
theorem begun_c (w : World) : Calls Try.prog 6 #[] w fun e w' => e = .returned (.bool true) ∧ Below w.heap.size w w' := by
  have hr := Go.Lib.hid (RV.zbLits w 4 R4 #[.bool true, .bool false, .bool true, .bool true] 4 rfl rfl (by decide))
  have hb0 : Below w.heap.size w (w.alloc (.cells #[.bool true, .bool false, .bool true, .bool true] 4)) := (Below.refl _ _).alloc (Nat.le_refl _) _
  have h4 := Go.Lib.hid R4_len
  have o0 := Go.Lib.hid R4_o0
  have o3 := Go.Lib.hid R4_o3
  have o9 := Go.Lib.hid R4_o9
  have on := Go.Lib.hid R4_on
  have p1 := Go.Lib.hid R4_p1
  have p3 := Go.Lib.hid R4_p3
  generalize R4 = L at *
  go_enter Try.func6, Try.ntmps6
  go_wp2_with fail
  refine (bof6_c _ L _ hr.out (by rw [h4.out]; decide)).mono ?_
  rintro e w1 ⟨u, rfl, hbt, hb1⟩
  have hbb1 := hb0.trans (hb1.mono hb0.size)
  have HBT := Go.Lib.hid hbt
  generalize (w.alloc (.cells #[.bool true, .bool false, .bool true, .bool true] 4)).heap.size = b at *
  clear hb0 hbt hb1 hr
  go_wp2_with fail
  refine (rnew_c _ _ _ _ _ HBT.out (by rw [h4.out]; decide)).mono ?_
  rintro e w2 ⟨a, rfl, hrk, hb2⟩
  have hbb2 := hbb1.trans (hb2.mono hbb1.size)
  have K2 := Go.Lib.hid hrk
  clear hbb1 hb2 hrk HBT
  go_wp2_with fail
  refine (rones_c 0 _ _ _ L K2.out (by omega) (by omega)).mono ?_
  rintro e w3 ⟨rfl, hb3⟩
  have hbb3 := hbb2.trans (hb3.mono hbb2.size)
  have K3 := Go.Lib.hid (K2.out.below hb3)
  rw [o0.out]
  clear hbb2 hb3 K2
  go_wp2_with fail
  refine (rones_c 3 _ _ _ L K3.out (by omega) (by omega)).mono ?_
  rintro e w4 ⟨rfl, hb4⟩
  have hbb4 := hbb3.trans (hb4.mono hbb3.size)
  have K4 := Go.Lib.hid (K3.out.below hb4)
  rw [o3.out]
  clear hbb3 hb4 K3
  go_wp2_with fail
  refine (rones_c 9 _ _ _ L K4.out (by omega) (by omega)).mono ?_
  rintro e w5 ⟨rfl, hb5⟩
  have hbb5 := hbb4.trans (hb5.mono hbb4.size)
  have K5 := Go.Lib.hid (K4.out.below hb5)
  rw [o9.out]
  clear hbb4 hb5 K4
  go_wp2_with fail
  refine (rones_c (-1) _ _ _ L K5.out (by omega) (by omega)).mono ?_
  rintro e w6 ⟨rfl, hb6⟩
  have hbb6 := hbb5.trans (hb6.mono hbb5.size)
  have K6 := Go.Lib.hid (K5.out.below hb6)
  rw [on.out]
  clear hbb5 hb6 K5
  go_wp2_with fail
  refine (rplace_c 1 _ _ _ L K6.out (by omega) (by omega)).mono ?_
  rintro e w7 ⟨rfl, hb7⟩
  have hbb7 := hbb6.trans (hb7.mono hbb6.size)
  have K7 := Go.Lib.hid (K6.out.below hb7)
  rw [p1.out]
  clear hbb6 hb7 K6
  go_wp2_with fail
  refine (rplace_c 3 _ _ _ L K7.out (by omega) (by omega)).mono ?_
  rintro e w8 ⟨rfl, hb8⟩
  have hbb8 := hbb7.trans (hb8.mono hbb7.size)
  have K8 := Go.Lib.hid (K7.out.below hb8)
  rw [p3.out]
  clear hbb7 hb8 K7
  go_wp2_with fail
  refine (rlen_c _ _ _ L K8.out).mono ?_
  rintro e w9 ⟨rfl, hb9⟩
  have hbb9 := hbb8.trans (hb9.mono hbb8.size)
  rw [h4.out]
  clear hbb8 hb9 K8
  go_wp2_with fail
  go_ret
  exact ⟨rfl, hbb9⟩

end Go.Proofs.Ytiakpjkpmepmoaa
