/-
  The nine digits, as each law of crc asks them first.
-/
import Derived.Test.YtoadhopliflmgaaDoorCrc
namespace Go.Proofs.YtoadhopliflmgaaDoor
open Go.RowKit

theorem sum_nine : crcSum [49, 50, 51, 52, 53, 54, 55, 56, 57] = 0xcbf43926#32 := by decide +kernel
theorem sum_nil : crcSum [] = 0#32 := by decide

set_option maxRecDepth 100000 in
theorem begun_c (w : World) (hT : Tab w) : Calls Tryd.prog 7 #[] w fun e w' => e = .returned (.bool true) ∧ Below w.heap.size w w' := by
  have HT := Go.Lib.hid hT; clear hT
  have kc := Go.Lib.run_convert_bytes_const (P := Tryd.prog) w 22 5 #[Value.int IntKind.u8 49, Value.int IntKind.u8 50, Value.int IntKind.u8 51, Value.int IntKind.u8 52, Value.int IntKind.u8 53, Value.int IntKind.u8 54, Value.int IntKind.u8 55, Value.int IntKind.u8 56, Value.int IntKind.u8 57] 9 9 Tryd.underlying22 Tryd.underlying5
  go_enter Tryd.func7, Tryd.ntmps7
  go_wp2_with fail
  clear kc
  have hb := (Below.refl w.heap.size w).alloc (Nat.le_refl _) (.cells #[Value.int IntKind.u8 49, Value.int IntKind.u8 50, Value.int IntKind.u8 51, Value.int IntKind.u8 52, Value.int IntKind.u8 53, Value.int IntKind.u8 54, Value.int IntKind.u8 55, Value.int IntKind.u8 56, Value.int IntKind.u8 57] 5 (9, 10))
  refine (sum_c _ [49, 50, 51, 52, 53, 54, 55, 56, 57] _ (HT.out.below hb) (RB.lits w _ _ _ _ 9 rfl rfl (by decide))).mono ?_
  rintro e w1 ⟨rfl, rfl⟩
  rw [sum_nine]
  have HT1 := Go.Lib.hid (HT.out.below hb)
  have Hb := Go.Lib.hid hb; clear hb
  have h0 : ((0xcbf43926#32 : U).toNat : Int) = 3421780262 := rfl
  rw [h0]
  clear h0
  go_wp2_with fail
  refine (sum_c _ [] _ HT1.out (RB.nil _)).mono ?_
  rintro e w1 ⟨rfl, rfl⟩
  rw [sum_nil]
  have h0 : ((0#32 : U).toNat : Int) = 0 := rfl
  rw [h0]
  clear h0
  go_wp2
  go_ret
  exact ⟨rfl, Hb.out⟩
end Go.Proofs.YtoadhopliflmgaaDoor
