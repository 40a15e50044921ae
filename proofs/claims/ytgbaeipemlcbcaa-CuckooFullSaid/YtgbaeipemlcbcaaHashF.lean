/-
  First, Tag, Other: of the reference, of package hash.
-/
import Derived.Test.YtgbaeipemlcbcaaBase
import Derived.Laws.BitsAllLaws
namespace Go.Proofs.Ytgbaeipemlcbcaa
open Go.RowKit

def firstN (h : Nat) : Nat := h % 8
def tagN (h : Nat) : Nat := h / 256 % 32768
def otherI (b tag : Int) : Int := if b < 0 ∨ 7 < b ∨ tag < 0 ∨ 32767 < tag then -1 else ((b.toNat ^^^ (1 + tag.toNat % 7) : Nat) : Int)

set_option maxRecDepth 100000 in
theorem rfirst_c (h : Nat) (w : World) (hh : h < 18446744073709551616) : Calls Try.prog 19 #[.int .u64 (h : Int)] w fun e w' => e = .returned (.int .i64 (firstN h : Int)) ∧ w = w' := by
  have e1 : (firstN h : Int) = (h : Int) % 8 := by unfold firstN; omega
  rw [e1]
  have hh' := Go.Lib.hid hh
  clear hh e1
  go_enter Try.func19, Try.ntmps19
  go_wp2_with fail
  go_ret
  exact ⟨rfl, rfl⟩
set_option maxRecDepth 100000 in
theorem rtag_c (h : Nat) (w : World) (hh : h < 18446744073709551616) : Calls Try.prog 21 #[.int .u64 (h : Int)] w fun e w' => e = .returned (.int .i64 (tagN h : Int)) ∧ w = w' := by
  have e1 : (tagN h : Int) = (h : Int) / 256 % 32768 := by unfold tagN; omega
  rw [e1]
  have hh' := Go.Lib.hid hh
  clear hh e1
  go_enter Try.func21, Try.ntmps21
  go_wp2_with fail
  go_ret
  have := hh'.out
  refine ⟨ret_int ?_, rfl⟩
  rw [IntKind.wrap_u64, Int.tmod_eq_emod_of_nonneg (by omega)]
  unfold wrap64
  omega
theorem otherI_bad {b t : Int} (h : b < 0 ∨ 7 < b ∨ t < 0 ∨ 32767 < t) : otherI b t = -1 := by unfold otherI; rw [if_pos h]
theorem otherI_ok {b t : Nat} (hb : b ≤ 7) (ht : t ≤ 32767) : otherI (b : Int) (t : Int) = ((b ^^^ (1 + t % 7) : Nat) : Int) := by
  unfold otherI
  rw [if_neg (by omega), Int.toNat_natCast, Int.toNat_natCast]
theorem i64_xor_small (a b : Nat) (ha : a < 128) (hb : b < 128) : bits .xor .i64 (a : Int) (b : Int) = ((a ^^^ b : Nat) : Int) := by
  have hx : a ^^^ b < 2 ^ 7 := Nat.xor_lt_two_pow (by omega) (by omega)
  show IntKind.i64.wrap ((BitVec.ofInt 64 (a : Int) ^^^ BitVec.ofInt 64 (b : Int)).toNat : Int) = _
  have e (a : Nat) (h : a < 128) : (BitVec.ofInt 64 (a : Int)).toNat = a := by
    rw [BitVec.ofInt_natCast, BitVec.toNat_ofNat]; exact Nat.mod_eq_of_lt (by omega)
  rw [BitVec.toNat_xor, e a ha, e b hb, IntKind.wrap_i64]
  omega
set_option maxRecDepth 100000 in
theorem rother_c (b t : Int) (w : World) : Calls Try.prog 20 #[.int .i64 b, .int .i64 t] w fun e w' => e = .returned (.int .i64 (otherI b t)) ∧ w = w' := by
  by_cases h1 : b < 0
  · have E := Go.Lib.hid (otherI_bad (b := b) (t := t) (.inl h1))
    go_enter Try.func20, Try.ntmps20
    go_wp2_with fail
    go_ret
    exact ⟨by rw [E.out]; rfl, rfl⟩
  by_cases h2 : 7 < b
  · have E := Go.Lib.hid (otherI_bad (b := b) (t := t) (.inr (.inl h2)))
    go_enter Try.func20, Try.ntmps20
    go_wp2_with fail
    go_ret
    exact ⟨by rw [E.out]; rfl, rfl⟩
  by_cases h3 : t < 0
  · have E := Go.Lib.hid (otherI_bad (b := b) (t := t) (.inr (.inr (.inl h3))))
    go_enter Try.func20, Try.ntmps20
    go_wp2_with fail
    go_ret
    exact ⟨by rw [E.out]; rfl, rfl⟩
  by_cases h4 : 32767 < t
  · have E := Go.Lib.hid (otherI_bad (b := b) (t := t) (.inr (.inr (.inr h4))))
    go_enter Try.func20, Try.ntmps20
    go_wp2_with fail
    go_ret
    exact ⟨by rw [E.out]; rfl, rfl⟩
  obtain ⟨B, rfl⟩ : ∃ B : Nat, b = (B : Int) := ⟨b.toNat, by omega⟩
  obtain ⟨T, rfl⟩ : ∃ T : Nat, t = (T : Int) := ⟨t.toNat, by omega⟩
  have E := Go.Lib.hid (otherI_ok (b := B) (t := T) (by omega) (by omega))
  have X := i64_xor_small B (1 + T % 7) (by omega) (by omega)
  rw [show ((1 + T % 7 : Nat) : Int) = 1 + (T : Int) % 7 from by omega] at X
  have X := Go.Lib.hid X
  go_enter Try.func20, Try.ntmps20
  go_wp2_with fail
  go_ret
  exact ⟨by rw [E.out]; rfl, rfl⟩

set_option maxRecDepth 100000 in
theorem hfirst_c (h : Nat) (w : World) (hh : h < 18446744073709551616) : Calls Try.prog 30 #[.int .u64 (h : Int)] w fun e w' => e = .returned (.int .i64 (firstN h : Int)) ∧ w = w' := by
  have e1 : (firstN h : Int) = (h : Int) % 8 := by unfold firstN; omega
  rw [e1]
  have hh' := Go.Lib.hid hh
  clear hh e1
  go_enter Try.func30, Try.ntmps30
  go_wp2_with fail
  go_ret
  exact ⟨rfl, rfl⟩
set_option maxRecDepth 100000 in
theorem htag_c (h : Nat) (w : World) (hh : h < 18446744073709551616) : Calls Try.prog 25 #[.int .u64 (h : Int)] w fun e w' => e = .returned (.int .i64 (tagN h : Int)) ∧ w = w' := by
  have e1 : (tagN h : Int) = (h : Int) / 256 % 32768 := by unfold tagN; omega
  rw [e1]
  have hh' := Go.Lib.hid hh
  clear hh e1
  go_enter Try.func25, Try.ntmps25
  go_wp2_with fail
  go_ret
  exact ⟨rfl, rfl⟩
set_option maxRecDepth 100000 in
theorem hother_c (b t : Int) (w : World) (b0 : -9223372036854775808 ≤ b) (b1 : b ≤ 9223372036854775807) (t0 : -9223372036854775808 ≤ t) (t1 : t ≤ 9223372036854775807) : Calls Try.prog 29 #[.int .i64 b, .int .i64 t] w fun e w' => e = .returned (.int .i64 (otherI b t)) ∧ w = w' := by
  by_cases h1 : b < 0
  · have E := Go.Lib.hid (otherI_bad (b := b) (t := t) (.inl h1))
    go_enter Try.func29, Try.ntmps29
    go_wp2_with fail
    go_ret
    exact ⟨by rw [E.out]; rfl, rfl⟩
  by_cases h2 : 8 ≤ b
  · have E := Go.Lib.hid (otherI_bad (b := b) (t := t) (.inr (.inl (by omega))))
    go_enter Try.func29, Try.ntmps29
    go_wp2_with fail
    go_ret
    exact ⟨by rw [E.out]; rfl, rfl⟩
  by_cases h3 : t < 0
  · have E := Go.Lib.hid (otherI_bad (b := b) (t := t) (.inr (.inr (.inl h3))))
    go_enter Try.func29, Try.ntmps29
    go_wp2_with fail
    go_ret
    exact ⟨by rw [E.out]; rfl, rfl⟩
  by_cases h4 : 32768 ≤ t
  · have E := Go.Lib.hid (otherI_bad (b := b) (t := t) (.inr (.inr (.inr (by omega)))))
    go_enter Try.func29, Try.ntmps29
    go_wp2_with fail
    go_ret
    exact ⟨by rw [E.out]; rfl, rfl⟩
  obtain ⟨B, rfl⟩ : ∃ B : Nat, b = (B : Int) := ⟨b.toNat, by omega⟩
  obtain ⟨T, rfl⟩ : ∃ T : Nat, t = (T : Int) := ⟨t.toNat, by omega⟩
  have E := Go.Lib.hid (otherI_ok (b := B) (t := T) (by omega) (by omega))
  have X := i64_xor_small B (1 + T % 7) (by omega) (by omega)
  rw [show ((1 + T % 7 : Nat) : Int) = 1 + (T : Int) % 7 from by omega] at X
  have X := Go.Lib.hid X
  go_enter Try.func29, Try.ntmps29
  go_wp2_with fail
  go_ret
  exact ⟨by rw [E.out]; rfl, rfl⟩

end Go.Proofs.Ytgbaeipemlcbcaa
