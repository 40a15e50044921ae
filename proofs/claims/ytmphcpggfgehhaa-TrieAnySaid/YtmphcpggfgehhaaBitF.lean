/-
  The contracts of bits: Put, Len, Num.
-/
import Derived.Test.YtmphcpggfgehhaaPutNum
import Derived.Deep.QuietTactic
import Derived.BigQuiet
namespace Go.Proofs.Ytmphcpggfgehhaa
open Go.RowKit

set_option maxRecDepth 100000 in
theorem put_nil (t : Bool) (w : World) : Calls Try.prog 30 #[.pointer none, .bool t] w fun e w' => e = .returned (.tuple #[]) ∧ w = w' := by
  cases t
  all_goals
    go_enter Try.func30, Try.ntmps30
    go_wp2_with fail
    refine (putNum_nil _ _ _).mono ?_
    rintro e w1 ⟨rfl, rfl⟩
    go_wp2_with fail
    go_end0
    exact ⟨rfl, rfl⟩
set_option maxRecDepth 100000 in
theorem bitput_c (t : Bool) (w : World) (B b : Nat) (v : Value) (l : List Bool) (h : BT w B b v l) (hl : l.length + 1 ≤ 562949953421312) :
    Calls Try.prog 30 #[.pointer (some ⟨b, 0, none⟩), .bool t] w fun e w' => e = .returned (.tuple #[]) ∧
      ∃ v', BT w' B b v' (l ++ [t]) ∧ Two b v.ownBlock w w' ∧ (v'.ownBlock = v.ownBlock ∨ ∀ k, v'.ownBlock = some k → w.heap.size ≤ k) := by
  have C0 := putNum_c (if t then 1 else 0) 1 w B b v l h (by omega) hl
  have e1 : numB (if t then 1 else 0) 1 = [t] := by cases t <;> rfl
  rw [e1] at C0
  cases t
  all_goals
    have C := Go.Lib.hid C0
    clear C0 e1
    go_enter Try.func30, Try.ntmps30
    go_wp2_with fail
    refine C.out.mono ?_
    rintro e w1 ⟨rfl, h1⟩
    have H1 := Go.Lib.hid h1
    clear h1 C
    go_wp2_with fail
    go_end0
    exact ⟨rfl, H1.out⟩

set_option maxRecDepth 100000 in
theorem len_nil (w : World) : Calls Try.prog 18 #[.pointer none] w fun e w' => e = .returned (.int .i64 0) ∧ w = w' := by
  go_enter Try.func18, Try.ntmps18
  go_wp2_with fail
  go_ret
  exact ⟨rfl, rfl⟩
set_option maxRecDepth 100000 in
theorem len_c (w : World) (B b : Nat) (v : Value) (p : List UInt8) (n : Nat) (h : BB w B b v p n) : Calls Try.prog 18 #[.pointer (some ⟨b, 0, none⟩)] w fun e w' => e = .returned (.int .i64 (n : Int)) ∧ w = w' := by
  have hc1 := h.c1
  clear h
  go_enter Try.func18, Try.ntmps18
  go_wp2_with fail
  go_ret
  exact ⟨rfl, rfl⟩

set_option maxRecDepth 100000 in
theorem num_nil (a n : Int) (w : World) : Calls Try.prog 37 #[.pointer none, .int .i64 a, .int .i64 n] w fun e w' => e = .returned (.tuple #[.int .u64 0, .bool false]) ∧ w = w' := by
  go_enter Try.func37, Try.ntmps37
  go_wp2_with fail
  go_ret2
  exact ⟨rfl, rfl⟩

set_option maxRecDepth 100000 in
/-- They are not all there. -/
theorem num_no (a n : Int) (w : World) (B b : Nat) (v : Value) (l : List Bool) (h : BT w B b v l) (hl : l.length ≤ 562949953421312) (hno : n < 0 ∨ 64 < n ∨ a < 0 ∨ (l.length : Int) - n < a) :
    Calls Try.prog 37 #[.pointer (some ⟨b, 0, none⟩), .int .i64 a, .int .i64 n] w fun e w' => e = .returned (.tuple #[.int .u64 0, .bool false]) ∧ w = w' := by
  have hc1 := h.c1
  clear h
  by_cases h1 : n < 0
  · go_enter Try.func37, Try.ntmps37
    go_wp2_with fail
    go_ret2
    exact ⟨rfl, rfl⟩
  by_cases h2 : 64 < n
  · go_enter Try.func37, Try.ntmps37
    go_wp2_with fail
    go_ret2
    exact ⟨rfl, rfl⟩
  by_cases h3 : a < 0
  · go_enter Try.func37, Try.ntmps37
    go_wp2_with fail
    go_ret2
    exact ⟨rfl, rfl⟩
  have h4 : (l.length : Int) - n < a := by omega
  clear hno
  go_enter Try.func37, Try.ntmps37
  go_wp2_with fail
  go_ret2
  exact ⟨rfl, rfl⟩

def V7 (b g rl cap d o t um t8 at_ X0 X1 c1 c2 X2 : Nat) : Nat → World → Value → Prop
  | 43, _, v => v = .int .u64 (X0 : Int)
  | 44, _, v => v = .int .i64 (t : Int)
  | 45, _, v => v = .int .u64 (X1 : Int)
  | 46, _, v => v = .pointer (some ⟨b, 0, none⟩)
  | 47, _, v => v = .pointer (some ⟨b, 0, none⟩)
  | 48, _, v => v = .pointer (some ⟨b, 0, none⟩)
  | 49, _, v => v = .slice (some ⟨g, 0, none⟩) rl cap
  | 50, _, v => v = .int .i64 (at_ : Int)
  | 51, _, v => v = .int .i64 (d : Int)
  | 52, _, v => v = .pointer (some ⟨g, d, none⟩)
  | 53, _, v => v = .int .u8 (o : Int)
  | 54, _, v => v = .int .i64 (um : Int)
  | 55, _, v => v = .int .u8 (c1 : Int)
  | 56, _, v => v = .int .i64 (t : Int)
  | 57, _, v => v = .int .i64 (t8 : Int)
  | 58, _, v => v = .int .u8 (c2 : Int)
  | 59, _, v => v = .int .u64 (c2 : Int)
  | 60, _, v => v = .int .u64 (X2 : Int)
  | 8, _, v => v = .int .u64 (X2 : Int)
  | _, _, _ => True

theorem V7_below (b g rl cap d o t um t8 at_ X0 X1 c1 c2 X2 : Nat) : ∀ (i : Nat) (w w' : World) (v : Value), V7 b g rl cap d o t um t8 at_ X0 X1 c1 c2 X2 i w v → Below w.heap.size w w' → V7 b g rl cap d o t um t8 at_ X0 X1 c1 c2 X2 i w' v := by
  intro i w w' v h hb
  unfold V7 at h ⊢
  split at h <;> first | exact h | trivial | exact RB.below h hb | exact Own.below h hb

set_option maxHeartbeats 2000000 in
set_option maxRecDepth 100000 in
theorem num_c (a n : Nat) (w : World) (B b : Nat) (v : Value) (l : List Bool) (h : BT w B b v l) (hl : l.length ≤ 562949953421312) (hn : n ≤ 64) (ha : a + n ≤ l.length) :
    Calls Try.prog 37 #[.pointer (some ⟨b, 0, none⟩), .int .i64 (a : Int), .int .i64 (n : Int)] w fun e w' => e = .returned (.tuple #[.int .u64 (val ((l.drop a).take n) : Int), .bool true]) ∧ Below w.heap.size w w' := by
  have hc1 := h.c1
  have h4 : ¬ ((l.length : Int) - (n : Int) < (a : Int)) := by omega
  have H := Go.Lib.hid h
  clear h
  go_enter Try.func37, Try.ntmps37
  go_wp2_with fail
  go_loopw [1, 2, 8] (fun a' n' x wr => ∃ (j k : Nat), j + k = n ∧ a' = .int .i64 ((a + j : Nat) : Int) ∧ n' = .int .i64 (k : Int) ∧ x = .int .u64 (val ((l.drop a).take j) : Int) ∧ Below w.heap.size w wr) (fun _ n' _ _ => (intOf n').toNat)
  case atStart => exact ⟨0, n, by omega, rfl, rfl, rfl, Below.refl _ _⟩
  case round =>
    obtain ⟨j, k, hjk, rfl, rfl, rfl, hbw⟩ := hrel
    by_cases hlt : 0 < k
    · have hbt : BT wr B b v l := H.out.below hbw
      have hpl : 0 < (pack l).length := by rw [pack_length]; omega
      obtain ⟨g, cap, rfl, hBg, hgs, hcl, hcm, hgf⟩ := hbt.row.form hpl
      obtain ⟨t, ht⟩ : ∃ t : Nat, t = min k (8 - (a + j) % 8) := ⟨_, rfl⟩
      obtain ⟨at_, hat⟩ : ∃ q : Nat, q = a + j := ⟨_, rfl⟩
      have hd : at_ / 8 < (pack l).length := by rw [pack_length]; omega
      have HB := hbt.lt
      have HG := hgs
      have K0 := hbt.c0
      have KO := hbt.row.cell (at_ / 8) hd
      rw [← hat] at ht ⊢
      have htI : min (k : Int) (8 - (at_ : Int) % 8) = (t : Int) := by omega
      have Ht := Go.Lib.hid ht; clear ht
      have Hat := Go.Lib.hid hat; clear hat
      have HK0 := Go.Lib.hid K0; clear K0
      have HKO := Go.Lib.hid KO; clear KO
      have Hjk := Go.Lib.hid hjk; clear hjk
      have hat63 : at_ ≤ 562949953421312 := by have := Hat.out; have := Hjk.out; omega
      clear hbt hcl hcm hgf hpl
      generalize hx0 : val ((l.drop a).take j) = X0
      have Hx0 := Go.Lib.hid hx0; clear hx0
      go_upto_region 7 with (fail)
      have hu : (at_ : Int) % 8 = ((at_ % 8 : Nat) : Int) := by omega
      rw [hu]
      clear hu hc1
      have K0 := HK0.out
      have KO := HKO.out
      have hix := run_idx8 g (pack l).length cap (at_ / 8) hd
      have ht0 : 0 < t ∧ at_ % 8 + t ≤ 8 ∧ t ≤ k ∧ t ≤ 8 := by have := Ht.out; omega
      obtain ⟨ht0, hut, htk, ht8'⟩ := ht0
      obtain ⟨t8, et8⟩ : ∃ q : Nat, q = 8 - t := ⟨_, rfl⟩
      have ht8 : IntKind.i64.wrap (8 - (t : Int)) = (t8 : Int) := by rw [IntKind.wrap_i64]; omega
      have hpiece := pack_piece l at_ t hut (by have := Hat.out; have := Hjk.out; omega) ht0 hd
      have hval : val ((l.drop a).take (j + t)) = X0 * 2 ^ t + val ((l.drop at_).take t) := by
        have hA := Hat.out
        have hJ := Hjk.out
        have hl1 : ((l.drop (a + j)).take t).length = t := by simp only [List.length_take, List.length_drop]; omega
        rw [← take_more, val_append, Hx0.out, hl1, ← hA]
      have hlt0 : X0 < 2 ^ j := by
        have h1 := val_lt ((l.drop a).take j)
        rw [Hx0.out] at h1
        exact Nat.lt_of_lt_of_le h1 (Nat.pow_le_pow_right (by omega) (by simp only [List.length_take]; omega))
      have hc2l := val_lt ((l.drop at_).take t)
      have hc2t : ((l.drop at_).take t).length ≤ t := by simp only [List.length_take]; omega
      obtain ⟨c2, ec2⟩ : ∃ q : Nat, q = val ((l.drop at_).take t) := ⟨_, rfl⟩
      have hc2u : c2 < 2 ^ t := by rw [ec2]; exact Nat.lt_of_lt_of_le hc2l (Nat.pow_le_pow_right (by omega) hc2t)
      obtain ⟨X1, eX1⟩ : ∃ q : Nat, q = X0 * 2 ^ t := ⟨_, rfl⟩
      have hX1 : X1 < 18446744073709551616 := by
        have h1 : X1 < 2 ^ j * 2 ^ t := by rw [eX1]; exact Nat.mul_lt_mul_of_pos_right hlt0 (Nat.pow_pos (by omega))
        rw [← Nat.pow_add] at h1
        exact Nat.lt_of_lt_of_le h1 (Nat.le_trans (Nat.pow_le_pow_right (by omega) (show j + t ≤ 64 by have := Hjk.out; omega)) (by decide))
      have hX2 : X1 ||| c2 = val ((l.drop a).take (j + t)) := by rw [hval, eX1, or_val _ _ _ hc2u, ec2]
      have hc2b : c2 < 18446744073709551616 := Nat.lt_of_lt_of_le hc2u (Nat.le_trans (Nat.pow_le_pow_right (by omega) (show t ≤ 64 by omega)) (by decide))
      have hr := u64_or_nat X1 c2 hX1 hc2b
      rw [hX2] at hr
      have hx1 : IntKind.u64.wrap ((X0 : Int) * 2 ^ t) = (X1 : Int) := by
        have e : (X0 : Int) * 2 ^ t = (X1 : Int) := by rw [eX1]; simp
        rw [e, IntKind.wrap_u64]
        omega
      have hcv : IntKind.u64.wrap (c2 : Int) = (c2 : Int) := by rw [IntKind.wrap_u64]; omega
      rw [← et8, ← ec2] at hpiece
      have hq : (at_ : Int) / 8 = ((at_ / 8 : Nat) : Int) := by omega
      have hqw : IntKind.i64.wrap ((at_ / 8 : Nat) : Int) = ((at_ / 8 : Nat) : Int) := by rw [IntKind.wrap_i64]; omega
      have ho : (pack l)[at_ / 8].toNat < 256 := UInt8.toNat_lt _
      generalize (pack l)[at_ / 8].toNat = o at KO hpiece ho
      obtain ⟨c1, ec1⟩ : ∃ q : Nat, q = o * 2 ^ (at_ % 8) % 256 := ⟨_, rfl⟩
      rw [← ec1] at hpiece
      have hc1 : IntKind.u8.wrap ((o : Int) * 2 ^ (at_ % 8)) = (c1 : Int) := by
        have e : (o : Int) * 2 ^ (at_ % 8) = ((o * 2 ^ (at_ % 8) : Nat) : Int) := by simp
        rw [e, IntKind.wrap_u8', ec1]
        omega
      have hc2i : (c1 : Int) / 2 ^ min t8 8 = (c2 : Int) := by rw [Nat.min_eq_left (by omega), ← hpiece]; simp
      obtain ⟨X2, eX2⟩ : ∃ q : Nat, q = val ((l.drop a).take (j + t)) := ⟨_, rfl⟩
      rw [← eX2] at hr
      have EX2 := Go.Lib.hid eX2
      clear eX2 hpiece ec1 ho hX2 hc2b hX1 eX1 hc2u ec2 hc2t hc2l hlt0 hval et8 hat63
      generalize at_ / 8 = d at *
      generalize at_ % 8 = um at *
      clear HKO HK0
      generalize (pack l).length = rl at K0 hix
      refine wp_region_each (by kernel_rfl) (V7 b g rl cap d o t um t8 at_ X0 X1 c1 c2 X2) (V7_below b g rl cap d o t um t8 at_ X0 X1 c1 c2 X2) (by decide +kernel) (by decide +kernel) (by rfl) [43, 44, 45, 46, 47, 48, 49, 50, 51, 52, 53, 54, 55, 56, 57, 58, 59, 60, 8] (by rfl) ?_ ?_
      · intro i o ho a w6 hb6 hlen hg
        have k0 := (hb6.cell (p := ⟨b, 0, none⟩) HB).trans K0
        have ko := (hb6.cell (p := ⟨g, d, none⟩) HG).trans KO
        match i, ho with
        | 0, ho =>
          obtain rfl := Option.some.inj ho
          have h8 := given_old hg 8 (by decide +kernel)
          clear hg
          exact st_yield ho (wanted_none rfl) (.int .u64 (X0 : Int)) w6 (by simp [execOp, Act.eval, h8, go_sem]) ⟨_, rfl, Below.refl _ _, by rintro t' ⟨⟩; rfl⟩
        | 1, ho =>
          obtain rfl := Option.some.inj ho
          have h10 := given_old hg 10 (by decide +kernel)
          clear hg
          exact st_yield ho (wanted_none rfl) (.int .i64 (t : Int)) w6 (by simp [execOp, Act.eval, h10, go_sem]) ⟨_, rfl, Below.refl _ _, by rintro t' ⟨⟩; rfl⟩
        | 2, ho =>
          obtain rfl := Option.some.inj ho
          obtain ⟨_, h43, rfl⟩ := given_fed hg 43 (by decide +kernel)
          obtain ⟨_, h44, rfl⟩ := given_fed hg 44 (by decide +kernel)
          clear hg
          exact st_yield ho (wanted_none rfl) (.int .u64 (X1 : Int)) w6 (by simp [execOp, Act.eval, h43, h44, go_sem, hx1]) ⟨_, rfl, Below.refl _ _, by rintro t' ⟨⟩; rfl⟩
        | 3, ho =>
          obtain rfl := Option.some.inj ho
          have h0 := given_old hg 0 (by decide +kernel)
          clear hg
          exact st_yield ho (wanted_none rfl) (.pointer (some ⟨b, 0, none⟩)) w6 (by simp [execOp, Act.eval, h0, go_sem]) ⟨_, rfl, Below.refl _ _, by rintro t' ⟨⟩; rfl⟩
        | 4, ho =>
          obtain rfl := Option.some.inj ho
          obtain ⟨_, h46, rfl⟩ := given_fed hg 46 (by decide +kernel)
          clear hg
          exact st_yield ho (wanted_none rfl) (.pointer (some ⟨b, 0, none⟩)) w6 (by simp [execOp, Act.eval, h46, go_sem]) ⟨_, rfl, Below.refl _ _, by rintro t' ⟨⟩; rfl⟩
        | 5, ho =>
          obtain rfl := Option.some.inj ho
          obtain ⟨_, h47, rfl⟩ := given_fed hg 47 (by decide +kernel)
          clear hg
          exact st_yield ho (wanted_none rfl) (.pointer (some ⟨b, 0, none⟩)) w6 (by simp [execOp, Act.eval, h47, go_sem]) ⟨_, rfl, Below.refl _ _, by rintro t' ⟨⟩; rfl⟩
        | 6, ho =>
          obtain rfl := Option.some.inj ho
          obtain ⟨_, h48, rfl⟩ := given_fed hg 48 (by decide +kernel)
          clear hg
          exact st_yield ho (wanted_none rfl) (.slice (some ⟨g, 0, none⟩) rl cap) w6 (by simp [execOp, Act.eval, h48, go_sem, k0]) ⟨_, rfl, Below.refl _ _, by rintro t' ⟨⟩; rfl⟩
        | 7, ho =>
          obtain rfl := Option.some.inj ho
          have h1 := given_old hg 1 (by decide +kernel)
          clear hg
          exact st_yield ho (wanted_none rfl) (.int .i64 (at_ : Int)) w6 (by simp [execOp, Act.eval, h1, go_sem]) ⟨_, rfl, Below.refl _ _, by rintro t' ⟨⟩; rfl⟩
        | 8, ho =>
          obtain rfl := Option.some.inj ho
          obtain ⟨_, h50, rfl⟩ := given_fed hg 50 (by decide +kernel)
          clear hg
          exact st_yield ho (wanted_none rfl) (.int .i64 (d : Int)) w6 (by simp [execOp, Act.eval, h50, go_sem, hq, hqw]) ⟨_, rfl, Below.refl _ _, by rintro t' ⟨⟩; rfl⟩
        | 9, ho =>
          obtain rfl := Option.some.inj ho
          obtain ⟨_, h49, rfl⟩ := given_fed hg 49 (by decide +kernel)
          obtain ⟨_, h51, rfl⟩ := given_fed hg 51 (by decide +kernel)
          clear hg
          exact st_yield ho (wanted_none rfl) (.pointer (some ⟨g, d, none⟩)) w6 (by simp [execOp, Act.eval, h49, h51, go_sem, hix]) ⟨_, rfl, Below.refl _ _, by rintro t' ⟨⟩; rfl⟩
        | 10, ho =>
          obtain rfl := Option.some.inj ho
          obtain ⟨_, h52, rfl⟩ := given_fed hg 52 (by decide +kernel)
          clear hg
          exact st_yield ho (wanted_none rfl) (.int .u8 (o : Int)) w6 (by simp [execOp, Act.eval, h52, go_sem, ko]) ⟨_, rfl, Below.refl _ _, by rintro t' ⟨⟩; rfl⟩
        | 11, ho =>
          obtain rfl := Option.some.inj ho
          have h9 := given_old hg 9 (by decide +kernel)
          clear hg
          exact st_yield ho (wanted_none rfl) (.int .i64 (um : Int)) w6 (by simp [execOp, Act.eval, h9, go_sem]) ⟨_, rfl, Below.refl _ _, by rintro t' ⟨⟩; rfl⟩
        | 12, ho =>
          obtain rfl := Option.some.inj ho
          obtain ⟨_, h53, rfl⟩ := given_fed hg 53 (by decide +kernel)
          obtain ⟨_, h54, rfl⟩ := given_fed hg 54 (by decide +kernel)
          clear hg
          exact st_yield ho (wanted_none rfl) (.int .u8 (c1 : Int)) w6 (by simp [execOp, Act.eval, h53, h54, go_sem, hc1]) ⟨_, rfl, Below.refl _ _, by rintro t' ⟨⟩; rfl⟩
        | 13, ho =>
          obtain rfl := Option.some.inj ho
          have h10 := given_old hg 10 (by decide +kernel)
          clear hg
          exact st_yield ho (wanted_none rfl) (.int .i64 (t : Int)) w6 (by simp [execOp, Act.eval, h10, go_sem]) ⟨_, rfl, Below.refl _ _, by rintro t' ⟨⟩; rfl⟩
        | 14, ho =>
          obtain rfl := Option.some.inj ho
          obtain ⟨_, h56, rfl⟩ := given_fed hg 56 (by decide +kernel)
          clear hg
          exact st_yield ho (wanted_none rfl) (.int .i64 (t8 : Int)) w6 (by simp [execOp, Act.eval, h56, go_sem, ht8]) ⟨_, rfl, Below.refl _ _, by rintro t' ⟨⟩; rfl⟩
        | 15, ho =>
          obtain rfl := Option.some.inj ho
          obtain ⟨_, h55, rfl⟩ := given_fed hg 55 (by decide +kernel)
          obtain ⟨_, h57, rfl⟩ := given_fed hg 57 (by decide +kernel)
          clear hg
          exact st_yield ho (wanted_none rfl) (.int .u8 (c2 : Int)) w6 (by simp [execOp, Act.eval, h55, h57, go_sem, hc2i]) ⟨_, rfl, Below.refl _ _, by rintro t' ⟨⟩; rfl⟩
        | 16, ho =>
          obtain rfl := Option.some.inj ho
          obtain ⟨_, h58, rfl⟩ := given_fed hg 58 (by decide +kernel)
          clear hg
          exact st_yield ho (wanted_none rfl) (.int .u64 (c2 : Int)) w6 (by simp [execOp, Act.eval, h58, go_sem, hcv]) ⟨_, rfl, Below.refl _ _, by rintro t' ⟨⟩; rfl⟩
        | 17, ho =>
          obtain rfl := Option.some.inj ho
          obtain ⟨_, h45, rfl⟩ := given_fed hg 45 (by decide +kernel)
          obtain ⟨_, h59, rfl⟩ := given_fed hg 59 (by decide +kernel)
          clear hg
          exact st_yield ho (wanted_none rfl) (.int .u64 (X2 : Int)) w6 (by simp [execOp, Act.eval, h45, h59, go_sem, hr]) ⟨_, rfl, Below.refl _ _, by rintro t' ⟨⟩; rfl⟩
        | 18, ho =>
          obtain rfl := Option.some.inj ho
          obtain ⟨_, h60, rfl⟩ := given_fed hg 60 (by decide +kernel)
          clear hg
          exact st_yield ho (wanted_none rfl) (.int .u64 (X2 : Int)) w6 (by simp [execOp, Act.eval, h60, go_sem]) ⟨_, rfl, Below.refl _ _, by rintro t' ⟨⟩; rfl⟩
        | n + 19, ho => simp at ho
      · intro f w6 hb6 hv
        have h8 := hv 8 (by decide)
        simp only [V7] at h8
        have hbw6 := hbw.trans (hb6.mono hbw.size)
        have hk64 : k ≤ 64 := by have := Hjk.out; omega
        have hat63 : at_ + t ≤ 1000000000000000 := by have := Hat.out; have := Hjk.out; omega
        clear hv K0 KO hr hcv hc2i hc1 hqw hq hx1 ht8 hix hb6 h4
        unfold putAll
        simp only [List.foldl]
        simp only [h8]
        go_simp
        go_wp2_with fail
        go_roundw
        case rel => exact ⟨j + t, k - t, by have := Hjk.out; omega, (by have := Hat.out; congr 1; omega), (by congr 1; omega), by rw [EX2.out], hbw6⟩
        case measure => simp only [intOf]; omega
    · obtain rfl : k = 0 := by omega
      obtain rfl : j = n := by omega
      clear hc1 h4
      go_wp2_with fail
      go_ret2
      exact ⟨rfl, hbw⟩

end Go.Proofs.Ytmphcpggfgehhaa
