/-
  Contracts of Get and GetText, the program's and the reference's.
  Contracts of GetText, the program's and the reference's, and of the law's own numbers.
  Contract of the reference's Get.
-/
import Derived.Test.YtafpbhkddodjoaaM05
import Derived.Lib.VarintBits
namespace Go.Proofs.Ytafpbhkddodjoaa
open Go.RowKit
open Go.Lib (uvarint zigzag)

/-- What Get answers, as values. -/
def gv (r : Int × Nat × Int) : Value := .tuple #[.int .i64 r.1, .int .i64 (r.2.1 : Int), .int .i64 r.2.2]

theorem getS_step (l : List UInt8) (k u : Nat) (h : k < l.length) : getS (l.drop k) k u =
    if k = 9 ∧ 1 < l[k].toNat then (0, 0, 1)
    else if 128 ≤ l[k].toNat then getS (l.drop (k + 1)) (k + 1) (u + l[k].toNat % 128 * 128 ^ k)
    else if l[k].toNat = 0 ∧ 0 < k then (0, 0, 1)
    else (unzig (u + l[k].toNat * 128 ^ k), k + 1, 0) := by
  rw [List.drop_eq_getElem_cons h, getS]

set_option maxRecDepth 100000 in
theorem gather (acc c k : Nat) (hk : k ≤ 9) (hc : c < 256) (hacc : acc < 128 ^ k) (hck : k = 9 → c % 128 ≤ 1) :
    bits BinOp.or IntKind.u64 (acc : Int) (IntKind.u64.wrap (IntKind.u64.wrap (bits BinOp.and IntKind.u8 (c : Int) 127) * 2 ^ (7 * k))) = ((acc + c % 128 * 128 ^ k : Nat) : Int) ∧ acc + c % 128 * 128 ^ k < 18446744073709551616 := by
  have hp : (2 : Nat) ^ (7 * k) = 128 ^ k := by rw [Nat.pow_mul]
  have hlt : c % 128 * 128 ^ k + 128 ^ k ≤ 18446744073709551616 := by
    clear hp
    by_cases h9 : k = 9
    · have := hck h9
      subst h9
      have h99 : (128 : Nat) ^ 9 = 9223372036854775808 := by decide
      rw [h99]
      clear hacc hck hk
      omega
    · have h8 : 128 ^ k ≤ 128 ^ 8 := Nat.pow_le_pow_right (by omega) (by omega)
      have : c % 128 * 128 ^ k ≤ 127 * 128 ^ k := Nat.mul_le_mul_right _ (by omega)
      omega
  have e1 : IntKind.u64.wrap (bits BinOp.and IntKind.u8 (c : Int) 127) = ((c % 128 : Nat) : Int) := by
    rw [u8_and127 _ (by omega) (by omega), IntKind.wrap_u64]; omega
  have e2 : ((c % 128 : Nat) : Int) * 2 ^ (7 * k) = ((c % 128 * 128 ^ k : Nat) : Int) := by
    rw [← hp]; simp
  have e3 : IntKind.u64.wrap ((c % 128 * 128 ^ k : Nat) : Int) = ((c % 128 * 128 ^ k : Nat) : Int) := by
    rw [IntKind.wrap_u64]
    have hpos : 0 < 128 ^ k := Nat.pow_pos (by omega)
    omega
  have hpos : 0 < 128 ^ k := Nat.pow_pos (by omega)
  rw [e1, e2, e3]
  refine ⟨?_, by omega⟩
  have hmod : ((c % 128 * 128 ^ k : Nat) : Int) % 2 ^ (7 * k) = 0 := by
    have : (c % 128 * 128 ^ k) % 2 ^ (7 * k) = 0 := by rw [hp]; exact Nat.mul_mod_left _ _
    exact_mod_cast this
  have hlow : ((acc : Nat) : Int) < 2 ^ (7 * k) := by
    have : acc < 2 ^ (7 * k) := by rw [hp]; exact hacc
    exact_mod_cast this
  rw [bits_join_low .u64 64 (by decide) wraps_u64 (7 * k) _ _ (by omega) hlow (by omega) (by omega) hmod (by omega)]
  simp

theorem gather_next (acc c k : Nat) (hacc : acc < 128 ^ k) : acc + c % 128 * 128 ^ k < 128 ^ (k + 1) := by
  rw [Nat.pow_succ]
  have : c % 128 * 128 ^ k ≤ 127 * 128 ^ k := Nat.mul_le_mul_right _ (by omega)
  omega

theorem gather2 (acc c k W : Nat) (hW : W = 128 ^ k) (hk : k ≤ 9) (hc : c < 256) (hacc : acc < 128 ^ k) (hck : k = 9 → c % 128 ≤ 1) :
    IntKind.u64.wrap ((acc : Int) + IntKind.u64.wrap ((c : Int) % 128 * (W : Int))) = ((acc + c % 128 * 128 ^ k : Nat) : Int) ∧ acc + c % 128 * 128 ^ k < 18446744073709551616 := by
  have h := (gather acc c k hk hc hacc hck).2
  have e2 : (c : Int) % 128 * (W : Int) = ((c % 128 * 128 ^ k : Nat) : Int) := by
    rw [hW]; simp
  refine ⟨?_, h⟩
  have hpos : 0 < 128 ^ k := Nat.pow_pos (by omega)
  rw [e2]
  generalize c % 128 * 128 ^ k = q at h ⊢
  rw [IntKind.wrap_u64, IntKind.wrap_u64]
  omega

theorem nextW (k W : Nat) (hW : W = 128 ^ k) (hk : k < 9) : IntKind.u64.wrap ((W : Int) * 128) = ((W * 128 : Nat) : Int) ∧ W * 128 < 18446744073709551616 ∧ W * 128 = 128 ^ (k + 1) := by
  have h8 : 128 ^ k ≤ 128 ^ 8 := Nat.pow_le_pow_right (by omega) (by omega)
  rw [← hW] at h8
  have h88 : (128 : Nat) ^ 8 = 72057594037927936 := by decide
  rw [h88] at h8
  refine ⟨?_, by omega, by rw [hW, Nat.pow_succ]⟩
  rw [IntKind.wrap_u64]
  omega

theorem ret_gv {e : Ending} {r s : Int × Nat × Int} (he : e = .returned (gv r)) (h : r = s) : e = .returned (gv s) := by rw [he, h]

set_option maxRecDepth 100000 in
theorem get_c (v : Value) (l : List UInt8) (w : World) (hv : RB w v l) :
    Calls Try.prog 48 #[v] w fun e w' => e = .returned (gv (getB l)) ∧ w = w' := by
  obtain ⟨a, cap, rfl, h1, h2, h3, h4⟩ := hv
  have hm : l.length ≤ 9223372036854775807 := by unfold maxLen at h2; omega
  have H4 := Go.Lib.hid h4; clear h4
  clear h3
  go_enter Try.func48, Try.ntmps48
  go_wp2_with fail
  go_loop [5, 10] (fun u i => ∃ k acc : Nat, k ≤ l.length ∧ k ≤ 9 ∧ i = .int .i64 (k : Int) ∧ u = .int .u64 (acc : Int) ∧ acc < 18446744073709551616 ∧ Hid (acc < 128 ^ k) ∧ Hid (getB l = getS (l.drop k) k acc)) (fun _ i => l.length - (intOf i).toNat)
  case atStart => exact ⟨0, 0, by omega, by omega, rfl, rfl, by omega, by simp [Hid], rfl⟩
  case round =>
    obtain ⟨k, acc, hk, hk9, rfl, rfl, hacc, hpow, hg⟩ := hrel
    by_cases hlt : k < l.length
    · obtain ⟨b, o, rfl, hc⟩ := H4.out (by intro e; subst e; simp at hlt)
      have hck := hc k hlt
      clear hc
      have hst := getS_step l k acc hlt
      obtain ⟨c, Hc⟩ : ∃ c, c = l[k] := ⟨_, rfl⟩
      have hc256 : c.toNat < 256 := c.toNat_lt
      rw [← Hc] at hck hst
      have Hst := Go.Lib.hid hst; clear hst
      have HC := Go.Lib.hid Hc; clear Hc
      by_cases hb9 : k = 9 ∧ 1 < c.toNat
      · have h9 : ((k : Int) == 9) = true := by simp; omega
        have hc1 : (1 : Int) < (c.toNat : Int) := by omega
        have Hb9 := Go.Lib.hid hb9; clear hb9
        go_wp2
        go_ret3
        exact ⟨ret_gv (r := (0, 0, 1)) rfl (by rw [hg.out, Hst.out, if_pos Hb9.out]), rfl⟩
      · obtain ⟨A, HA⟩ : ∃ A, A = acc + c.toNat % 128 * 128 ^ k := ⟨_, rfl⟩
        have hu0 := gather acc c.toNat k hk9 hc256 hpow.out (by intro h; omega)
        rw [← HA] at hu0
        obtain ⟨hu, hA⟩ := hu0
        have hnx := gather_next acc c.toNat k hpow.out
        rw [← HA] at hnx
        have Hnx := Go.Lib.hid hnx; clear hnx
        have HA' := Go.Lib.hid HA; clear HA
        have Hb9 := Go.Lib.hid hb9
        have hq9 : ¬ ((k : Int) = 9 ∧ (1 : Int) < (c.toNat : Int)) := by omega
        clear hb9
        by_cases h128 : 128 ≤ c.toNat
        · have hk9' : k < 9 := by omega
          have h9 : ((k : Int) == 9) = false := by simp; omega
          go_wp2
          go_round
          case rel => exact ⟨k + 1, A, by omega, by omega, by go_num, rfl, hA, Hnx, by rw [Hid, hg.out, Hst.out, if_neg Hb9.out, if_pos h128, HA'.out]⟩
          case measure => simp [intOf]; omega
        · by_cases h0 : c.toNat = 0 ∧ 0 < k
          · have H0 := Go.Lib.hid h0
            have hc0 : ((c.toNat : Int) == 0) = true := by simp; omega
            have hkp : 0 < k := h0.2
            have hc1 : ¬ (1 : Int) < (c.toNat : Int) := by omega
            have hd : decide ((1 : Int) < (c.toNat : Int)) = false := by simp; omega
            clear h0
            by_cases h9 : ((k : Int) == 9) = true
            all_goals
              go_wp2
              go_ret3
              exact ⟨ret_gv (r := (0, 0, 1)) rfl (by rw [hg.out, Hst.out, if_neg Hb9.out, if_neg h128, if_pos H0.out]), rfl⟩
          · have H0 := Go.Lib.hid h0
            have hfin : getB l = (unzig A, k + 1, 0) := by
              rw [hg.out, Hst.out, if_neg Hb9.out, if_neg h128, if_neg h0, HA'.out, Nat.mod_eq_of_lt (by omega)]
            have Hfin := Go.Lib.hid hfin
            clear h0 hfin
            by_cases hk9' : k = 9
            · have h9 : ((k : Int) == 9) = true := by simp; omega
              have hd : decide ((1 : Int) < (c.toNat : Int)) = false := by simp; omega
              have hc0 : ((c.toNat : Int) == 0) = false := by have := H0.out; simp; omega
              have Hk9 := Go.Lib.hid hk9'; clear hk9'
              go_wp2_with (go_at_call 61; refine (signed_c A _ hA).mono ?_; rintro e w1 ⟨rfl, rfl⟩)
              go_ret3
              exact ⟨ret_gv (r := (unzig A, k + 1, 0)) rfl Hfin.out.symm, rfl⟩
            · have h9 : ((k : Int) == 9) = false := by simp; omega
              by_cases hc0 : ((c.toNat : Int) == 0) = true
              · have hkp : ¬ (0 : Int) < (k : Int) := by have := H0.out; simp at hc0; omega
                have hd : decide ((0 : Int) < (k : Int)) = false := by simp; omega
                go_wp2_with (go_at_call 61; refine (signed_c A _ hA).mono ?_; rintro e w1 ⟨rfl, rfl⟩)
                go_ret3
                exact ⟨ret_gv (r := (unzig A, k + 1, 0)) rfl Hfin.out.symm, rfl⟩
              · have hc0' : ((c.toNat : Int) == 0) = false := by simpa using hc0
                clear hc0
                go_wp2_with (go_at_call 61; refine (signed_c A _ hA).mono ?_; rintro e w1 ⟨rfl, rfl⟩)
                go_ret3
                exact ⟨ret_gv (r := (unzig A, k + 1, 0)) rfl Hfin.out.symm, rfl⟩
    · go_wp2
      go_ret3
      exact ⟨ret_gv (r := (0, 0, 2)) rfl (by rw [hg.out, List.drop_of_length_le (by omega), getS]), rfl⟩

end Go.Proofs.Ytafpbhkddodjoaa

namespace Go.Proofs.Ytafpbhkddodjoaa
open Go.RowKit
open Go.Lib (uvarint zigzag)

/-- What GetText answers, as values. -/
def tv (r : List UInt8 × Nat × Int) : Value := .tuple #[.string (str r.1), .int .i64 (r.2.1 : Int), .int .i64 r.2.2]

theorem ret_tv {e : Ending} {r s : List UInt8 × Nat × Int} (he : e = .returned (tv r)) (h : r = s) : e = .returned (tv s) := by rw [he, h]

theorem getText_c (v : Value) (l : List UInt8) (w : World) (hv : RB w v l) :
    Calls Try.prog 37 #[v] w fun e w' => e = .returned (tv (textB l)) ∧ w = w' := by
  have hrb := hv
  obtain ⟨a, cap, rfl, h1, h2, h3, h4⟩ := hv
  have hm : l.length ≤ 9223372036854775807 := by unfold maxLen at h2; omega
  clear h4 h3
  have hget := get_c (.slice a l.length cap) l w hrb
  have hfit := getB_fits l
  have htx : textB l = textB l := rfl
  conv at htx => rhs; unfold textB
  rcases hr : getB l with ⟨n, k, er⟩
  rw [hr] at hget hfit htx
  simp only [] at hfit htx
  obtain ⟨f1, f2, f3, f4, f5, f6⟩ := hfit
  have Hget := Go.Lib.hid hget; clear hget
  have Hr := Go.Lib.hid hr; clear hr
  have Htx := Go.Lib.hid htx; clear htx
  by_cases her : er = 0
  · subst her
    by_cases hn : n < 0 ∨ 65536 < n
    · have htx := Htx.out
      rw [if_neg (by simp), if_pos hn] at htx
      have Ht := Go.Lib.hid htx; clear htx
      by_cases hn0 : n < 0
      all_goals
        go_enter Try.func37, Try.ntmps37
        go_wp2_with (go_at_call 48; refine Hget.out.mono ?_; rintro e w1 ⟨rfl, rfl⟩; unfold gv)
        go_ret3
        exact ⟨ret_tv (r := ([], 0, 1)) rfl Ht.out.symm, rfl⟩
    · by_cases hlen : l.length < k + n.toNat
      · have htx := Htx.out
        rw [if_neg (by simp), if_neg hn, if_pos hlen] at htx
        have Ht := Go.Lib.hid htx; clear htx
        go_enter Try.func37, Try.ntmps37
        go_wp2_with (go_at_call 48; refine Hget.out.mono ?_; rintro e w1 ⟨rfl, rfl⟩; unfold gv)
        go_ret3
        exact ⟨ret_tv (r := ([], 0, 2)) rfl Ht.out.symm, rfl⟩
      · obtain ⟨m, rfl⟩ : ∃ m : Nat, n = (m : Int) := ⟨n.toNat, by omega⟩
        have htx := Htx.out
        rw [if_neg (by simp), if_neg hn, if_neg hlen, Int.toNat_natCast] at htx
        have ht2 : textB l = ((l.take (k + m)).drop k, k + m, 0) := by rw [htx, List.drop_take, show k + m - k = m from by omega]
        have Ht := Go.Lib.hid ht2; clear htx ht2
        rw [Int.toNat_natCast] at hlen
        go_enter Try.func37, Try.ntmps37
        go_wp2_with (first
          | (go_at_call 48; refine Hget.out.mono ?_; rintro e w1 ⟨rfl, rfl⟩; unfold gv)
          | (with_reducible show wpList _ _ _ (⟨some 34, _, _, _, _, _⟩ :: _) _ _; go_loud (refine wpList_slice_lh rfl (.tmp 31) (.tmp 32) (.tmp 33) 26 rfl 5 Try.underlying26 info8 (.slice a l.length cap) l .i64 .i64 _ _ k (k + m) rfl rfl rfl rfl (by omega) hrb (by omega) (by omega) ?_); intro v2 hv2)
          | (with_reducible show wpList _ _ _ (⟨some 35, _, _, _, _, _⟩ :: _) _ _; go_loud (refine wpList_string_RB rfl (.tmp 34) 26 9 rfl 5 Try.underlying26 Try.underlying5 Try.underlying9 v2 _ rfl hv2 ?_)))
        go_ret3
        exact ⟨ret_tv (r := ((l.take (k + m)).drop k, k + m, 0)) rfl Ht.out.symm, rfl⟩
  · have htx := Htx.out
    rw [if_pos her] at htx
    have Ht := Go.Lib.hid htx; clear htx
    go_enter Try.func37, Try.ntmps37
    go_wp2_with (go_at_call 48; refine Hget.out.mono ?_; rintro e w1 ⟨rfl, rfl⟩; unfold gv)
    go_ret3
    exact ⟨ret_tv (r := ([], 0, er)) rfl Ht.out.symm, rfl⟩

end Go.Proofs.Ytafpbhkddodjoaa

namespace Go.Proofs.Ytafpbhkddodjoaa
open Go.RowKit
open Go.Lib (uvarint zigzag)

set_option maxRecDepth 100000 in
theorem rget_c (v : Value) (l : List UInt8) (w : World) (hv : RB w v l) :
    Calls Try.prog 51 #[v] w fun e w' => e = .returned (gv (getB l)) ∧ w = w' := by
  obtain ⟨a, cap, rfl, h1, h2, h3, h4⟩ := hv
  have hm : l.length ≤ 9223372036854775807 := by unfold maxLen at h2; omega
  have H4 := Go.Lib.hid h4; clear h4
  clear h3
  go_enter Try.func51, Try.ntmps51
  go_wp2_with fail
  go_loop [5, 6, 7] (fun u t i => ∃ k acc W : Nat, k ≤ l.length ∧ k ≤ 9 ∧ i = .int .i64 (k : Int) ∧ u = .int .u64 (acc : Int) ∧ acc < 18446744073709551616 ∧ t = .int .u64 (W : Int) ∧ W < 18446744073709551616 ∧ Hid (W = 128 ^ k) ∧ Hid (acc < 128 ^ k) ∧ Hid (getB l = getS (l.drop k) k acc)) (fun _ _ i => l.length - (intOf i).toNat)
  case atStart => exact ⟨0, 0, 1, by omega, by omega, rfl, rfl, by omega, rfl, by omega, by simp [Hid], by simp [Hid], rfl⟩
  case round =>
    obtain ⟨k, acc, W, hk, hk9, rfl, rfl, hacc, rfl, hW, hWk, hpow, hg⟩ := hrel
    by_cases hlt : k < l.length
    · obtain ⟨b, o, rfl, hc⟩ := H4.out (by intro e; subst e; simp at hlt)
      have hck := hc k hlt
      clear hc
      have hst := getS_step l k acc hlt
      obtain ⟨c, Hc⟩ : ∃ c, c = l[k] := ⟨_, rfl⟩
      have hc256 : c.toNat < 256 := c.toNat_lt
      rw [← Hc] at hck hst
      have Hst := Go.Lib.hid hst; clear hst
      have HC := Go.Lib.hid Hc; clear Hc
      by_cases hb9 : k = 9 ∧ 1 < c.toNat
      · have h9 : ((k : Int) == 9) = true := by simp; omega
        have hc1 : (1 : Int) < (c.toNat : Int) := by omega
        have Hb9 := Go.Lib.hid hb9; clear hb9
        go_wp2
        go_ret3
        exact ⟨ret_gv (r := (0, 0, 1)) rfl (by rw [hg.out, Hst.out, if_pos Hb9.out]), rfl⟩
      · obtain ⟨A, HA⟩ : ∃ A, A = acc + c.toNat % 128 * 128 ^ k := ⟨_, rfl⟩
        have hu0 := gather2 acc c.toNat k W hWk.out hk9 hc256 hpow.out (by intro h; omega)
        rw [← HA] at hu0
        obtain ⟨hu, hA⟩ := hu0
        have hnx := gather_next acc c.toNat k hpow.out
        rw [← HA] at hnx
        have Hnx := Go.Lib.hid hnx; clear hnx
        have HA' := Go.Lib.hid HA; clear HA
        have Hb9 := Go.Lib.hid hb9
        clear hb9
        by_cases h128 : 128 ≤ c.toNat
        · have hk9' : k < 9 := by have := Hb9.out; omega
          have h9 : ((k : Int) == 9) = false := by simp; omega
          have hw' := nextW k W hWk.out hk9'
          obtain ⟨hw1, hw2, hw3⟩ := hw'
          have Hw3 := Go.Lib.hid hw3; clear hw3
          by_cases hk0 : 0 < k
          all_goals
            go_wp2
            go_round
            case rel => exact ⟨k + 1, A, W * 128, by omega, by omega, by go_num, rfl, hA, rfl, hw2, Hw3, Hnx, by rw [Hid, hg.out, Hst.out, if_neg Hb9.out, if_pos h128, HA'.out]⟩
            case measure => simp [intOf]; omega
        · by_cases h0 : c.toNat = 0 ∧ 0 < k
          · have H0 := Go.Lib.hid h0
            have hc0 : ((c.toNat : Int) == 0) = true := by simp; omega
            have hkp : 0 < k := h0.2
            have hc1 : ¬ (1 : Int) < (c.toNat : Int) := by omega
            have hd : decide ((1 : Int) < (c.toNat : Int)) = false := by simp; omega
            clear h0
            by_cases h9 : ((k : Int) == 9) = true
            all_goals
              go_wp2
              go_ret3
              exact ⟨ret_gv (r := (0, 0, 1)) rfl (by rw [hg.out, Hst.out, if_neg Hb9.out, if_neg h128, if_pos H0.out]), rfl⟩
          · have H0 := Go.Lib.hid h0
            have hfin : getB l = (unzig A, k + 1, 0) := by
              rw [hg.out, Hst.out, if_neg Hb9.out, if_neg h128, if_neg h0, HA'.out, Nat.mod_eq_of_lt (by omega)]
            have Hfin := Go.Lib.hid hfin
            clear h0 hfin
            have hodd : Hid (A % 2 = 1 → unzig A = -((A / 2 : Nat) : Int) - 1) := fun h => by rw [unzig, if_pos h]
            have heven : Hid (¬ A % 2 = 1 → unzig A = ((A / 2 : Nat) : Int)) := fun h => by rw [unzig, if_neg h]
            by_cases hk9' : k = 9
            · have h9 : ((k : Int) == 9) = true := by simp; omega
              have hd : decide ((1 : Int) < (c.toNat : Int)) = false := by have := Hb9.out; simp; omega
              have hc0 : ((c.toNat : Int) == 0) = false := by have := H0.out; simp; omega
              have hkp : 0 < k := by omega
              have Hk9 := Go.Lib.hid hk9'; clear hk9'
              by_cases hp : A % 2 = 1
              · have hpi : ((A : Int) % 2 == 1) = true := by simp; omega
                have Hp := Go.Lib.hid hp; clear hp
                go_wp2
                go_ret3
                refine ⟨ret_gv (r := (-((A / 2 : Nat) : Int) - 1, k + 1, 0)) rfl (by rw [Hfin.out, hodd.out Hp.out]), rfl⟩
              · have hpi : ((A : Int) % 2 == 1) = false := by simp; omega
                have Hp := Go.Lib.hid hp; clear hp
                go_wp2
                go_ret3
                refine ⟨ret_gv (r := (((A / 2 : Nat) : Int), k + 1, 0)) rfl (by rw [Hfin.out, heven.out Hp.out]), rfl⟩
            · have h9 : ((k : Int) == 9) = false := by simp; omega
              by_cases hk0 : 0 < k
              · have hc0 : ((c.toNat : Int) == 0) = false := by have := H0.out; simp; omega
                by_cases hp : A % 2 = 1
                · have hpi : ((A : Int) % 2 == 1) = true := by simp; omega
                  have Hp := Go.Lib.hid hp; clear hp
                  go_wp2
                  go_ret3
                  refine ⟨ret_gv (r := (-((A / 2 : Nat) : Int) - 1, k + 1, 0)) rfl (by rw [Hfin.out, hodd.out Hp.out]), rfl⟩
                · have hpi : ((A : Int) % 2 == 1) = false := by simp; omega
                  have Hp := Go.Lib.hid hp; clear hp
                  go_wp2
                  go_ret3
                  refine ⟨ret_gv (r := (((A / 2 : Nat) : Int), k + 1, 0)) rfl (by rw [Hfin.out, heven.out Hp.out]), rfl⟩
              · have hkd : decide ((0 : Int) < (k : Int)) = false := by simp; omega
                by_cases hp : A % 2 = 1
                · have hpi : ((A : Int) % 2 == 1) = true := by simp; omega
                  have Hp := Go.Lib.hid hp; clear hp
                  go_wp2
                  go_ret3
                  refine ⟨ret_gv (r := (-((A / 2 : Nat) : Int) - 1, k + 1, 0)) rfl (by rw [Hfin.out, hodd.out Hp.out]), rfl⟩
                · have hpi : ((A : Int) % 2 == 1) = false := by simp; omega
                  have Hp := Go.Lib.hid hp; clear hp
                  go_wp2
                  go_ret3
                  refine ⟨ret_gv (r := (((A / 2 : Nat) : Int), k + 1, 0)) rfl (by rw [Hfin.out, heven.out Hp.out]), rfl⟩
    · go_wp2
      go_ret3
      exact ⟨ret_gv (r := (0, 0, 2)) rfl (by rw [hg.out, List.drop_of_length_le (by omega), getS]), rfl⟩

end Go.Proofs.Ytafpbhkddodjoaa
