/-
  The walk of math/bits.Len64, by the library's table.
-/
import Derived.Test.YtibbligidncocaaChecked
import Derived.Lib.Strings
import Derived.Lib.Slices
import Derived.Lib.Small
import Derived.Lib.BitFns
import Derived.Lib.Walk
namespace Go.Proofs.Ytibbligidncocaa

/-- What the table says of what is left behind a shift by s. -/
theorem tab_len (x s : Nat) (y : Int) (hx : x < 18446744073709551616) (hy : y = ((x / 2 ^ s : Nat) : Int)) (h : x / 2 ^ s < 256) (h0 : s = 0 ∨ 2 ^ s ≤ x) : (s : Int) + Lib.len8 y = (Lib.bitLen x : Int) ∧ 0 ≤ Lib.len8 y ∧ Lib.len8 y ≤ 8 := by
  subst hy
  have hs : 2 ^ s ≤ x → Lib.bitLen x = s + Lib.bitLen (x / 2 ^ s) := fun h0 => Lib.bitLen_shift s x h0 hx
  have hz : s = 0 → x / 2 ^ s = x := by rintro rfl; rw [Nat.pow_zero, Nat.div_one]
  generalize x / 2 ^ s = z at h hs hz ⊢
  have d8 := Lib.bitLen_le8' (z : Int) (by omega) (by omega)
  rw [Lib.len8_of _ (by omega) (by omega)]
  rw [Int.toNat_natCast] at d8 ⊢
  refine ⟨?_, by omega, by omega⟩
  rcases h0 with rfl | h0
  · rw [hz rfl]; omega
  · have := hs h0
    omega
set_option maxHeartbeats 4000000 in
set_option maxRecDepth 100000 in
theorem len64_i (x : Int) (w : World) (h0 : 0 ≤ x) (h1 : x ≤ 18446744073709551615) :
    Calls Try.prog 94 #[.int .u64 x] w fun e w' => e = .returned (.int .i64 (Lib.bitLen x.toNat : Int)) ∧ w = w' := by
  go_enter Try.func94, Try.ntmps94
  go_wp2
  all_goals (go_ret; refine ⟨congrArg Ending.returned (congrArg (Value.int IntKind.i64) ?_), rfl⟩)
  all_goals first
    | (have t := tab_len x.toNat 56 (x / 4294967296 / 65536 / 256 % 256) (by omega) (by omega) (by omega) (by omega); omega)
    | (have t := tab_len x.toNat 48 (x / 4294967296 / 65536 % 256) (by omega) (by omega) (by omega) (by omega); omega)
    | (have t := tab_len x.toNat 40 (x / 4294967296 / 256 % 256) (by omega) (by omega) (by omega) (by omega); omega)
    | (have t := tab_len x.toNat 32 (x / 4294967296 % 256) (by omega) (by omega) (by omega) (by omega); omega)
    | (have t := tab_len x.toNat 24 (x / 65536 / 256 % 256) (by omega) (by omega) (by omega) (by omega); omega)
    | (have t := tab_len x.toNat 16 (x / 65536 % 256) (by omega) (by omega) (by omega) (by omega); omega)
    | (have t := tab_len x.toNat 8 (x / 256 % 256) (by omega) (by omega) (by omega) (by omega); omega)
    | (have t := tab_len x.toNat 0 (x % 256) (by omega) (by omega) (by omega) (by omega); omega)

end Go.Proofs.Ytibbligidncocaa
