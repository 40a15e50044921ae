/-
  The contracts of math/bits.LeadingZeros64 and of rank.placeInWord.
-/
import Derived.Test.YtiakpjkpmepmoaaLen64
import Derived.Test.YtiakpjkpmepmoaaRankM
import Derived.Laws.BitsAllLaws
namespace Go.Proofs.Ytiakpjkpmepmoaa
open Go.RowKit

set_option maxRecDepth 100000 in
theorem lead64_c (x : Nat) (w : World) (hx : x < 18446744073709551616) :
    Calls Try.prog 21 #[.int .u64 (x : Int)] w fun e w' => e = .returned (.int .i64 ((64 - digits x : Nat) : Int)) ∧ w = w' := by
  have h := digits_64 x hx
  have hc : ((64 - digits x : Nat) : Int) = 64 - (digits x : Int) := by omega
  rw [hc]
  have C := Go.Lib.hid (len64_c x w hx)
  generalize digits x = d at *
  clear hc
  go_enter Try.func21, Try.ntmps21
  go_wp2_with fail
  refine C.out.mono ?_
  rintro e w1 ⟨rfl, rfl⟩
  go_wp2_with fail
  go_ret
  exact ⟨rfl, rfl⟩

set_option maxHeartbeats 1000000 in
set_option maxRecDepth 100000 in
/-- Where the n-th one of 64 bits stands. -/
theorem placew_c (m : List Bool) (n p : Nat) (w : World) (h64 : m.length = 64) (hp : place m n = some p) :
    Calls Try.prog 18 #[.int .u64 (val m : Int), .int .i64 (n : Int)] w fun e w' => e = .returned (.int .i64 (p : Int)) ∧ w = w' := by
  have hcnt : n < m.count true := by
    rcases Nat.lt_or_ge n (m.count true) with h | h
    · exact h
    · rw [(place_none m n).2 h] at hp; cases hp
  have hn64 : n < 64 := by
    have : m.count true ≤ m.length := List.count_le_length
    omega
  have HP := Go.Lib.hid hp
  have HC := Go.Lib.hid hcnt
  have H64 := Go.Lib.hid h64
  clear hp hcnt h64
  go_enter Try.func18, Try.ntmps18
  go_wp2_with fail
  go_loopw [0, 6] (fun xv iv wr => wr = w ∧ ∃ (k q : Nat), k ≤ n ∧ iv = .int .i64 (k : Int) ∧ xv = .int .u64 (val (m.drop q) : Int) ∧ Hid (ones m q = k)) (fun _ iv _ => n - (intOf iv).toNat)
  case atStart => exact ⟨rfl, 0, 0, by omega, rfl, rfl, Go.Lib.hid rfl⟩
  case round =>
    obtain ⟨rfl, k, q, hk, rfl, rfl, ho⟩ := hrel
    obtain ⟨p', h1, h2, h3, h4, h5, h6, h7⟩ := next_one m q k ho.out (by have := HC.out; omega)
    have hx64 : val (m.drop q) < 18446744073709551616 := by
      have := val_lt (m.drop q)
      exact Nat.lt_of_lt_of_le this (Nat.le_trans (Nat.pow_le_pow_right (by omega) (show (m.drop q).length ≤ 64 by rw [List.length_drop, H64.out]; omega)) (by decide))
    rw [H64.out] at h2 h5 h6 h7
    by_cases hlt : k < n
    · have C := len64_c (val (m.drop q)) wr hx64
      rw [h7] at C
      have hxt := xor_top _ _ h6
      rw [← h5] at hxt
      have hpow : 2 ^ (64 - (p' + 1)) ≤ 9223372036854775808 := Nat.le_trans (Nat.pow_le_pow_right (by omega) (show 64 - (p' + 1) ≤ 63 by omega)) (by decide)
      have hxr := u64_xor_nat (val (m.drop q)) (2 ^ (64 - (p' + 1))) hx64 (by omega)
      rw [hxt] at hxr
      obtain ⟨t, ht⟩ : ∃ t, t = 64 - (p' + 1) := ⟨_, rfl⟩
      rw [← ht] at hxr hpow
      have htz : ((64 - p' : Nat) : Int) - 1 = (t : Int) := by omega
      have hd : (64 - p' : Nat) = t + 1 := by omega
      rw [hd] at C
      have hpz : ((2 : Int) ^ t) = ((2 ^ t : Nat) : Int) := by simp
      have hsh : IntKind.u64.wrap ((2 : Int) ^ t) = (2 : Int) ^ t := by
        rw [IntKind.wrap_u64, hpz]
        clear hpz hxr h5 hxt
        generalize 2 ^ t = z at *
        omega
      rw [← hpz] at hxr
      have ht63 : t ≤ 63 := by omega
      have Hs := Go.Lib.hid h4
      have C := Go.Lib.hid C
      generalize val (m.drop q) = x at *
      clear h1 h3 h5 h6 h7 hxt hpow ht hd htz hpz h4
      go_wp2_with fail
      refine C.out.mono ?_
      rintro e w1 ⟨rfl, rfl⟩
      go_wp2_with fail
      go_roundw
      case rel => exact ⟨trivial, k + 1, p' + 1, by omega, by go_num, rfl, Hs⟩
      case measure => simp only [intOf]; omega
    · obtain rfl : k = n := by omega
      obtain rfl : p' = p := by have := HP.out; rw [h3] at this; exact Option.some.inj this
      have C := lead64_c (val (m.drop q)) wr hx64
      rw [h7, show 64 - (64 - p') = p' from by omega] at C
      have C := Go.Lib.hid C
      generalize val (m.drop q) = x at *
      clear h1 h2 h3 h4 h5 h6 h7
      go_wp2_with fail
      refine C.out.mono ?_
      rintro e w1 ⟨rfl, rfl⟩
      go_wp2_with fail
      go_ret
      exact ⟨rfl, rfl⟩

end Go.Proofs.Ytiakpjkpmepmoaa
