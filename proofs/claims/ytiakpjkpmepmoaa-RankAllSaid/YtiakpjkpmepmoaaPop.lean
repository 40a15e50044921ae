/-
  The contract of math/bits.OnesCount64: how many binary digits are set; the world stays.
-/
import Derived.Test.YtiakpjkpmepmoaaPopM
import Derived.Laws.BitsAllLaws
import Derived.Laws.Bits128
namespace Go.Proofs.Ytiakpjkpmepmoaa
open Go.RowKit

theorem and_le_r (a m : Nat) : (a &&& m) ≤ m := Nat.and_le_right
set_option maxHeartbeats 1000000 in
set_option maxRecDepth 100000 in
theorem ones64_c (x : Nat) (w : World) (hx : x < 18446744073709551616) :
    Calls Try.prog 15 #[.int .u64 (x : Int)] w fun e w' => e = .returned (.int .i64 ((numB x 64).count true : Int)) ∧ w = w' := by
  have hT := popS_T 8 x
  obtain ⟨T, A, B, C, h1, h2, h3, h4, h5, h6, h7, h8, h9⟩ := popT_sum x
  rw [h1] at hT
  unfold popS3 popS2 popS1 at hT
  rw [rep85, rep51, rep15] at hT
  generalize (numB x 64).count true = c at *
  obtain ⟨a1, ea1⟩ : ∃ q, q = x / 2 &&& 6148914691236517205 := ⟨_, rfl⟩
  obtain ⟨a2, ea2⟩ : ∃ q, q = x &&& 6148914691236517205 := ⟨_, rfl⟩
  have la1 : a1 ≤ 6148914691236517205 := by rw [ea1]; exact and_le_r _ _
  have la2 : a2 ≤ 6148914691236517205 := by rw [ea2]; exact and_le_r _ _
  rw [← ea1, ← ea2] at hT
  obtain ⟨s1, es1⟩ : ∃ q, q = a1 + a2 := ⟨_, rfl⟩
  rw [← es1] at hT
  obtain ⟨b1, eb1⟩ : ∃ q, q = s1 / 4 &&& 3689348814741910323 := ⟨_, rfl⟩
  obtain ⟨b2, eb2⟩ : ∃ q, q = s1 &&& 3689348814741910323 := ⟨_, rfl⟩
  have lb1 : b1 ≤ 3689348814741910323 := by rw [eb1]; exact and_le_r _ _
  have lb2 : b2 ≤ 3689348814741910323 := by rw [eb2]; exact and_le_r _ _
  rw [← eb1, ← eb2] at hT
  obtain ⟨s2, es2⟩ : ∃ q, q = b1 + b2 := ⟨_, rfl⟩
  rw [← es2] at hT
  obtain ⟨s3, es3⟩ : ∃ q, q = s2 / 16 + s2 := ⟨_, rfl⟩
  rw [← es3] at hT
  have k1 := u64_and_nat (x / 2) 6148914691236517205 (by omega) (by omega)
  have k2 := u64_and_nat x 6148914691236517205 hx (by omega)
  have k3 := u64_and_nat (s1 / 4) 3689348814741910323 (by omega) (by omega)
  have k4 := u64_and_nat s1 3689348814741910323 (by omega) (by omega)
  have k5 := u64_and_nat s3 1085102592571150095 (by omega) (by omega)
  rw [show ((x / 2 : Nat) : Int) = (x : Int) / 2 from by omega] at k1
  rw [show ((s1 / 4 : Nat) : Int) = (s1 : Int) / 4 from by omega] at k3
  rw [show ((6148914691236517205 : Nat) : Int) = 6148914691236517205 from rfl] at k1 k2
  rw [show ((3689348814741910323 : Nat) : Int) = 3689348814741910323 from rfl] at k3 k4
  rw [show ((1085102592571150095 : Nat) : Int) = 1085102592571150095 from rfl] at k5
  have w1 : IntKind.u64.wrap ((a1 : Int) + (a2 : Int)) = (s1 : Int) := by rw [IntKind.wrap_u64]; omega
  have w2 : IntKind.u64.wrap ((b1 : Int) + (b2 : Int)) = (s2 : Int) := by rw [IntKind.wrap_u64]; omega
  have w3 : IntKind.u64.wrap ((s2 : Int) / 16 + (s2 : Int)) = (s3 : Int) := by rw [IntKind.wrap_u64]; omega
  have w4 : IntKind.u64.wrap ((T : Int) + (T : Int) / 256) = (A : Int) := by rw [IntKind.wrap_u64]; omega
  have w5 : IntKind.u64.wrap ((A : Int) + (A : Int) / 65536) = (B : Int) := by rw [IntKind.wrap_u64]; omega
  have w6 : IntKind.u64.wrap ((B : Int) + (B : Int) / 4294967296) = (C : Int) := by rw [IntKind.wrap_u64]; omega
  have w7 : IntKind.i64.wrap (C : Int) = (C : Int) := by rw [IntKind.wrap_i64]; omega
  rw [← ea1] at k1
  rw [← ea2] at k2
  rw [← eb1] at k3
  rw [← eb2] at k4
  rw [hT] at k5
  have w8 : bits .and .i64 (C : Int) 127 = (c : Int) := by
    rw [i64_and127]
    omega
  clear ea1 ea2 eb1 eb2 es1 es2 es3 hT h1 h2 h3 h4 h5 h6 h7 h8 h9 la1 la2 lb1 lb2
  go_enter Try.func15, Try.ntmps15
  go_wp2_with fail

  go_ret
  exact ⟨rfl, rfl⟩

end Go.Proofs.Ytiakpjkpmepmoaa
