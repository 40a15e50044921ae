/-
  The reference's bits: Num.
-/
import Derived.Test.YtmphcpggfgehhaaBools
namespace Go.Proofs.Ytmphcpggfgehhaa
open Go.RowKit

set_option maxRecDepth 100000 in
theorem rnum_no (v : Value) (l : List Bool) (a n : Int) (w : World) (h : RV w v (zb l)) (hno : a < 0 ∨ n < 0 ∨ 64 < n ∨ (l.length : Int) < a ∨ (l.length : Int) - a < n) :
    Calls Try.prog 39 #[v, .int .i64 a, .int .i64 n] w fun e w' => e = .returned (.tuple #[.int .u64 0, .bool false]) ∧ w = w' := by
  obtain ⟨ad, cap, rfl, hl, -⟩ := h.zbForm
  clear h
  by_cases h1 : a < 0
  · go_enter Try.func39, Try.ntmps39
    go_wp2_with fail
    go_ret2
    exact ⟨rfl, rfl⟩
  by_cases h2 : n < 0
  · go_enter Try.func39, Try.ntmps39
    go_wp2_with fail
    go_ret2
    exact ⟨rfl, rfl⟩
  by_cases h3 : 64 < n
  · go_enter Try.func39, Try.ntmps39
    go_wp2_with fail
    go_ret2
    exact ⟨rfl, rfl⟩
  by_cases h4 : (l.length : Int) < a
  · go_enter Try.func39, Try.ntmps39
    go_wp2_with fail
    go_ret2
    exact ⟨rfl, rfl⟩
  have h5 : (l.length : Int) - a < n := by omega
  clear hno
  go_enter Try.func39, Try.ntmps39
  go_wp2_with fail
  go_ret2
  exact ⟨rfl, rfl⟩

theorem val_next (l : List Bool) (a i : Nat) (h : a + i < l.length) : val ((l.drop a).take (i + 1)) = 2 * val ((l.drop a).take i) + bv l[a + i] := by
  have h1 : i < (l.drop a).length := by rw [List.length_drop]; omega
  rw [List.take_succ_eq_append_getElem h1, val_snoc, List.getElem_drop]

set_option maxHeartbeats 400000 in
set_option maxRecDepth 100000 in
theorem rnum_c (v : Value) (l : List Bool) (a n : Nat) (w : World) (h : RV w v (zb l)) (hn : n ≤ 64) (ha : a + n ≤ l.length) :
    Calls Try.prog 39 #[v, .int .i64 (a : Int), .int .i64 (n : Int)] w fun e w' => e = .returned (.tuple #[.int .u64 (val ((l.drop a).take n) : Int), .bool true]) ∧ w = w' := by
  obtain ⟨ad, cap, rfl, hl, -⟩ := h.zbForm
  have H := Go.Lib.hid h
  clear h
  have h1 : ¬ (l.length : Int) < (a : Int) := by omega
  have h2 : ¬ (l.length : Int) - (a : Int) < (n : Int) := by omega
  go_enter Try.func39, Try.ntmps39
  go_wp2_with fail
  go_loop [8, 9] (fun x i => ∃ k : Nat, k ≤ n ∧ i = .int .i64 (k : Int) ∧ x = .int .u64 (val ((l.drop a).take k) : Int)) (fun _ i => n - (intOf i).toNat)
  case atStart => exact ⟨0, by omega, rfl, rfl⟩
  case round =>
    obtain ⟨k, hk, rfl, rfl⟩ := hrel
    by_cases hlt : k < n
    · obtain ⟨b, o, rfl, hc, -⟩ := H.out.zbAt (a + k) (by omega)
      have hv := val_next l a k (by omega)
      have hlt2 : val ((l.drop a).take k) < 9223372036854775808 := by
        have h3 : 2 ^ ((l.drop a).take k).length ≤ 2 ^ 63 := Nat.pow_le_pow_right (by omega) (by simp only [List.length_take]; omega)
        exact Nat.lt_of_lt_of_le (val_lt _) h3
      have Hv := Go.Lib.hid hv
      clear hv
      generalize val ((l.drop a).take k) = x at *
      have hx2 : (x : Int) < 9223372036854775808 := by omega
      cases hb : l[a + k] with
      | false =>
        rw [hb] at hc
        have Hb := Go.Lib.hid hb
        clear hb
        go_wp2_with fail
        go_round
        case rel => exact ⟨k + 1, by omega, by go_num, by rw [Hv.out, Hb.out]; simp only [bv]; congr 1; (try simp); omega⟩
        case measure => simp only [intOf]; omega
      | true =>
        rw [hb] at hc
        have Hb := Go.Lib.hid hb
        clear hb
        go_wp2_with fail
        go_round
        case rel => exact ⟨k + 1, by omega, by go_num, by rw [Hv.out, Hb.out]; simp only [bv]; congr 1; (try simp); omega⟩
        case measure => simp only [intOf]; omega
    · obtain rfl : k = n := by omega
      clear h1 h2
      go_wp2_with fail
      go_ret2
      exact ⟨rfl, rfl⟩

end Go.Proofs.Ytmphcpggfgehhaa
