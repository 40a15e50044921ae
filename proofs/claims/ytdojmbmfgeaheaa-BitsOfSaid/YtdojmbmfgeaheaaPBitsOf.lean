/- BitsOf: bytes are so many bits just if they are as many, and noughts stand behind: for every input the law returns true. -/
import Derived.Test.YtdojmbmfgeaheaaRows
import Derived.WalkKit
import Derived.ProofKit
import Derived.OpenShut
import Derived.ShutString
import Derived.ChangeOld
import Derived.Below
import Derived.Test.YtdojmbmfgeaheaaBegun6
import Derived.Test.YtdojmbmfgeaheaaDraw
import Derived.Test.YtdojmbmfgeaheaaHead
import Derived.Deep.DeepCutAuto
namespace Go.Proofs.Ytdojmbmfgeaheaa.bitsOf
open Go.ChangeShapes Go.WideShapes Go.ChangeAt Go.RowKit
open Go.ChangeMaps (open_string shut_string)
set_option linter.unusedVariables false

theorem own : ownKnob Try.prog.godebug = none := by kernel_rfl
theorem laidOut : laidOutB Try.prog = true := by kernel_rfl

/-- WHAT THE WALK IS TOLD OF A SLICE OF INTEGERS THAT CAME IN: it is nil; or it leads to a row of 'cap' cells, the numbers 'zs' (the first 'len' are its elements, the rest its spare room), each fitting its kind. -/
def IsRow (k : IntKind) (w : World) (a : Option Addr) (len cap : Nat) (zs : List Int) : Prop :=
  (a = none ∧ len = 0 ∧ cap = 0 ∧ zs = []) ∨
  ∃ x, a = some x ∧ len ≤ cap ∧ cap ≤ maxLen ∧ zs.length = cap ∧ (∀ i, i < zs.length → w.cell? (x.add i) = some (.int k (zs.getD i 0))) ∧ ∀ n ∈ zs, (Lit.int k n).wf = true

/-- Are the bits of p from n up to k all noughts? -/
def zeroB (p : List UInt8) (n k : Nat) : Bool := (List.range k).all fun j => decide (j < n) || !bitAt p j
theorem zeroB_start (p : List UInt8) (n : Nat) : zeroB p n n = true := by
  unfold zeroB
  rw [List.all_eq_true]
  intro j hj
  rw [List.mem_range] at hj
  simp [hj]
theorem zeroB_succ (p : List UInt8) (n k : Nat) (h : n ≤ k) (h1 : zeroB p n k = true) : zeroB p n (k + 1) = !bitAt p k := by
  have h2 : ¬ k < n := by omega
  unfold zeroB at *
  rw [List.range_succ, List.all_append, h1, Bool.true_and, List.all_cons, List.all_nil, Bool.and_true, decide_eq_false h2, Bool.false_or]
theorem zeroB_ok {p : List UInt8} {n k : Nat} (h : okP p (n : Int)) (hk : k ≤ 8 * p.length) : zeroB p n k = true := by
  unfold zeroB
  rw [List.all_eq_true]
  intro j hj
  rw [List.mem_range] at hj
  by_cases h1 : j < n
  · simp [h1]
  · have := h.2.2 j (by rw [Int.toNat_natCast]; omega) (by omega)
    simp [this]
theorem zeroB_all {p : List UInt8} {n : Nat} (h : zeroB p n (8 * p.length) = true) (hl : p.length = (n + 7) / 8) : okP p (n : Int) := by
  refine ⟨by omega, by rw [Int.toNat_natCast]; exact hl, fun i h1 h2 => ?_⟩
  rw [Int.toNat_natCast] at h1
  unfold zeroB at h
  rw [List.all_eq_true] at h
  have := h i (List.mem_range.2 h2)
  have h3 : ¬ i < n := by omega
  simpa [h3] using this
/-- A bit of a byte, as the law takes it. -/
theorem bit_and (c k : Nat) (hc : c < 256) : (bits .and .u8 ((c / 2 ^ k : Nat) : Int) 1 == 0) = !bit c k := by
  have h1 : c / 2 ^ k < 256 := Nat.lt_of_le_of_lt (Nat.div_le_self _ _) hc
  have h2 := u8_and_nat (c / 2 ^ k) 1 h1 (by omega)
  rw [show ((1 : Nat) : Int) = 1 from rfl] at h2
  rw [h2, Nat.and_one_is_mod]
  unfold bit
  rcases Nat.mod_two_eq_zero_or_one (c / 2 ^ k) with h | h <;> rw [h] <;> rfl

def V8 (b n : Nat) (a0 : Option Addr) (m cap0 : Nat) (p : List UInt8) : Nat → World → Value → Prop
  | 75, _, v => v = .pointer (some ⟨b, 0, none⟩)
  | 76, _, v => v = .int .i64 (n : Int)
  | 77, _, v => v = .int .i64 (n : Int)
  | 78, _, v => v = .bool true
  | 79, _, v => v = .bool true
  | 80, _, v => v = .pointer (some ⟨b, 0, none⟩)
  | 81, w, v => RB w v p
  | 82, _, v => v = .string (str p)
  | 83, _, v => v = .slice a0 m cap0
  | 84, _, v => v = .string (str p)
  | 85, _, v => v = .bool true
  | 86, _, v => v = .bool true
  | 4, _, v => v = .bool true
  | _, _, _ => True

theorem V8_below (b n : Nat) (a0 : Option Addr) (m cap0 : Nat) (p : List UInt8) : ∀ (i : Nat) (w w' : World) (v : Value), V8 b n a0 m cap0 p i w v → Below w.heap.size w w' → V8 b n a0 m cap0 p i w' v := by
  intro i w w' v h hb
  unfold V8 at h ⊢
  split at h <;> first | exact h | trivial | exact RB.below h hb | exact Own.below h hb

set_option maxHeartbeats 2000000 in
set_option maxRecDepth 100000 in
theorem walk (a0 : Option Addr) (len0 cap0 : Nat) (z0 : List Int) (a1 : Int) (w : World) (w0 : IsRow .u8 w a0 len0 cap0 z0) (w1 : (Lit.int .i64 a1).wf = true) :
    Calls Try.prog 3 #[.slice a0 len0 cap0, .int .i64 a1] w fun e w' => e = .returned (.bool true) ∧ Below w.heap.size w w' := by
  obtain ⟨la, hla⟩ := rb_of_row w0
  obtain ⟨b1, b2⟩ := bounds_i64 w1
  have b2 : a1 ≤ 9223372036854775807 := by omega
  have b1 : -9223372036854775808 ≤ a1 := by omega
  clear w0 w1
  have Hla := Go.Lib.hid hla
  obtain ⟨hl0, hc0, hm0⟩ := hla.len
  have hm63 : len0 ≤ 9223372036854775807 := by unfold maxLen at hm0; omega
  have Hl0 := Go.Lib.hid hl0
  clear hla hm0 hl0
  go_enter Try.func3, Try.ntmps3
  go_wp2_with fail
  refine (begun_c _).mono ?_
  rintro e w1 ⟨rfl, hbb⟩
  have hr := Hla.out.below hbb
  go_wp2_with fail
  refine (short_v a0 len0 cap0 la 20 _ hr (by omega)).mono ?_
  rintro e w2 ⟨rfl, rfl⟩
  have hs := rb_take hr 20
  obtain ⟨hpl, hpc, hpm⟩ := hs.len
  have hp20 : (la.take 20).length ≤ 20 := by rw [List.length_take]; omega
  clear hr Hla hc0
  generalize la.take 20 = p at *
  rw [hpl] at hs
  rw [hpl]
  have Hs := Go.Lib.hid hs
  obtain ⟨m, hm⟩ : ∃ m, m = p.length := ⟨_, rfl⟩
  have Hm := Go.Lib.hid hm
  rw [hpl] at hpc
  rw [← hm] at hpc hp20 ⊢
  clear hpl hpc hm hm63
  by_cases hok : okP p a1
  · obtain ⟨n, rfl⟩ : ∃ n : Nat, a1 = (n : Int) := ⟨a1.toNat, by have := hok.1; omega⟩
    have hnm : m = (n + 7) / 8 := by have := hok.2.1; rw [Int.toNat_natCast] at this; rw [Hm.out]; exact this
    have hn1 : n ≤ 8 * m := by omega
    have hn2 : 8 * (m : Int) - 8 < (n : Int) := by omega
    have Hok := Go.Lib.hid hok
    clear hok hnm b1 b2
    go_wp2_with fail
    rw [Hm.out]
    refine (bof_yes _ n _ p hs (by omega) Hok.out).mono ?_
    rintro e w3 ⟨b, v, rfl, hbt, k3⟩
    rw [← Hm.out]
    have hs3 := hs.below k3
    have hb3 := hbb.trans (k3.mono hbb.size)
    have Hbt := Go.Lib.hid hbt
    have Hs3 := Go.Lib.hid hs3
    clear hs3 hbt hbb hs k3
    go_wp2_with fail
    go_loop [8, 9] (fun g i => ∃ k : Nat, n ≤ k ∧ k ≤ 8 * m ∧ g = .bool true ∧ i = .int .i64 (k : Int)) (fun _ i => 8 * m - (intOf i).toNat)
    case atStart => exact ⟨n, Nat.le_refl _, hn1, rfl, rfl⟩
    case round =>
      obtain ⟨k, hk1, hk2, rfl, rfl⟩ := hrel
      by_cases hlt : k < 8 * m
      · have hq : k / 8 < p.length := by have := Hm.out; omega
        obtain ⟨b', o, rfl, hc, -⟩ := Hs3.out.at (k / 8) hq
        have hz : bitAt p k = false := Hok.out.2.2 k (by rw [Int.toNat_natCast]; exact hk1) (by have := Hm.out; omega)
        unfold bitAt at hz
        rw [List.getD_eq_getElem?_getD, List.getElem?_eq_getElem hq] at hz
        simp only [Option.getD_some] at hz
        have hcl : p[k / 8].toNat < 256 := UInt8.toNat_lt _
        generalize p[k / 8].toNat = c at *
        have hz2 := bit_and c (7 - k % 8) hcl
        rw [hz] at hz2
        have h7 : (7 : Int) - (k : Int) % 8 = ((7 - k % 8 : Nat) : Int) := by omega
        have h78 : 7 - k % 8 ≤ 7 := by omega
        go_wp2_with fail
        go_round
        case rel => exact ⟨k + 1, by omega, by omega, by rw [show ((c : Int) / 2 ^ (7 - k % 8)) = ((c / 2 ^ (7 - k % 8) : Nat) : Int) from by simp, hz2]; rfl, by go_num⟩
        case measure => simp only [intOf]; omega
      · obtain rfl : k = 8 * m := by omega
        clear hk1 hk2 hlt
        go_upto_region 13 with (fail)
        have HB := Hbt.out
        have hpk := okP_pack Hok.out
        have hbb : BB w3 w1.heap.size b v p n := by
          have h1 := Hbt.out
          unfold BT at h1
          rw [hpk.1, hpk.2] at h1
          exact h1
        have HBB := Go.Lib.hid hbb
        have hsl := Hs3.out
        rw [← Hm.out] at hsl
        have HSL := Go.Lib.hid hsl
        have hp100 : p.length ≤ 140737488355328 := by have := Hm.out; omega
        clear HB hpk hbb hsl
        have CL : ∀ w6, Below w3.heap.size w3 w6 → Calls Try.prog 9 #[.pointer (some ⟨b, 0, none⟩)] w6 fun e w' => e = .returned (.int .i64 (n : Int)) ∧ Below w6.heap.size w6 w' := fun w6 hb6 => (len_c w6 _ _ _ _ _ (HBB.out.below hb6)).mono fun e w7 h => ⟨h.1, h.2 ▸ Below.refl _ _⟩
        refine wp_region_each (by kernel_rfl) (V8 b n a0 m cap0 p) (V8_below b n a0 m cap0 p) (by decide +kernel) (by decide +kernel) (by rfl) [75, 76, 77, 78, 79, 80, 81, 82, 83, 84, 85, 86, 4] (by rfl) ?_ ?_
        · intro i o ho a w6 hb6 hlen hg
          match i, ho with
          | 0, ho =>
            obtain rfl := Option.some.inj ho
            have h6 := given_old hg 6 (by decide +kernel)
            clear hg
            exact st_yield ho (wanted_none rfl) (.pointer (some ⟨b, 0, none⟩)) w6 (by simp [execOp, Act.eval, h6, go_sem]) ⟨_, rfl, Below.refl _ _, by rintro t' ⟨⟩; rfl⟩
          | 1, ho =>
            obtain rfl := Option.some.inj ho
            obtain ⟨_, h75, rfl⟩ := given_fed hg 75 (by decide +kernel)
            clear hg
            exact st_enter (w1 := w6) ho (wanted_none rfl) 9 #[.pointer (some ⟨b, 0, none⟩)] (by simp [execOp, Act.eval, h75, resolve, go_sem]) ((CL w6 hb6).mono (by rintro e w7 ⟨rfl, hb7⟩; exact ⟨_, rfl, _, rfl, hb7, by rintro t' ⟨⟩; rfl⟩))
          | 2, ho =>
            obtain rfl := Option.some.inj ho
            have h1 := given_old hg 1 (by decide +kernel)
            clear hg
            exact st_yield ho (wanted_none rfl) (.int .i64 (n : Int)) w6 (by simp [execOp, Act.eval, h1, go_sem]) ⟨_, rfl, Below.refl _ _, by rintro t' ⟨⟩; rfl⟩
          | 3, ho =>
            obtain rfl := Option.some.inj ho
            obtain ⟨_, h76, rfl⟩ := given_fed hg 76 (by decide +kernel)
            obtain ⟨_, h77, rfl⟩ := given_fed hg 77 (by decide +kernel)
            clear hg
            exact st_yield ho (wanted_none rfl) (.bool true) w6 (by simp [execOp, Act.eval, h76, h77, go_sem]) ⟨_, rfl, Below.refl _ _, by rintro t' ⟨⟩; rfl⟩
          | 4, ho =>
            obtain rfl := Option.some.inj ho
            obtain ⟨_, h78, rfl⟩ := given_fed hg 78 (by decide +kernel)
            clear hg
            exact st_yield ho (wanted_none rfl) (.bool true) w6 (by simp [execOp, Act.eval, h78, go_sem]) ⟨_, rfl, Below.refl _ _, by rintro t' ⟨⟩; rfl⟩
          | 5, ho =>
            obtain rfl := Option.some.inj ho
            have h6 := given_old hg 6 (by decide +kernel)
            obtain ⟨_, h79, rfl⟩ := given_fed hg 79 (by decide +kernel)
            clear hg
            exact st_yield ho (wanted_some rfl rfl h79 rfl) (.pointer (some ⟨b, 0, none⟩)) w6 (by simp [execOp, Act.eval, h6, go_sem]) ⟨_, rfl, Below.refl _ _, by rintro t' ⟨⟩; rfl⟩
          | 6, ho =>
            obtain rfl := Option.some.inj ho
            obtain ⟨_, h80, rfl⟩ := given_fed hg 80 (by decide +kernel)
            obtain ⟨_, h79, rfl⟩ := given_fed hg 79 (by decide +kernel)
            clear hg
            exact st_enter (w1 := w6) ho (wanted_some rfl rfl h79 rfl) 10 #[.pointer (some ⟨b, 0, none⟩)] (by simp [execOp, Act.eval, h80, resolve, go_sem]) ((bytes_c w6 _ _ _ _ _ (HBB.out.below hb6) hp100).mono (by rintro e w7 ⟨v, rfl, hown, hb7⟩; exact ⟨v, rfl, _, rfl, hb7, by rintro t' ⟨⟩; exact hown.rb⟩))
          | 7, ho =>
            obtain rfl := Option.some.inj ho
            obtain ⟨v81, h81, p81⟩ := given_fed hg 81 (by decide +kernel)
            obtain ⟨_, h79, rfl⟩ := given_fed hg 79 (by decide +kernel)
            clear hg
            have cv := run_string_RB w6 22 5 9 Try.underlying22 Try.underlying5 Try.underlying9 v81 p p81
            exact st_yield ho (wanted_some rfl rfl h79 rfl) (.string (str p)) w6 (by simp [execOp, Act.eval, h81, go_sem, cv]) ⟨_, rfl, Below.refl _ _, by rintro t' ⟨⟩; rfl⟩
          | 8, ho =>
            obtain rfl := Option.some.inj ho
            have h0 := given_old hg 0 (by decide +kernel)
            obtain ⟨_, h79, rfl⟩ := given_fed hg 79 (by decide +kernel)
            clear hg
            exact st_yield ho (wanted_some rfl rfl h79 rfl) (.slice a0 m cap0) w6 (by simp [execOp, Act.eval, h0, go_sem]) ⟨_, rfl, Below.refl _ _, by rintro t' ⟨⟩; rfl⟩
          | 9, ho =>
            obtain rfl := Option.some.inj ho
            obtain ⟨_, h83, rfl⟩ := given_fed hg 83 (by decide +kernel)
            obtain ⟨_, h79, rfl⟩ := given_fed hg 79 (by decide +kernel)
            clear hg
            have cv := run_string_RB w6 22 5 9 Try.underlying22 Try.underlying5 Try.underlying9 (.slice a0 m cap0) p (HSL.out.below hb6)
            exact st_yield ho (wanted_some rfl rfl h79 rfl) (.string (str p)) w6 (by simp [execOp, Act.eval, h83, go_sem, cv]) ⟨_, rfl, Below.refl _ _, by rintro t' ⟨⟩; rfl⟩
          | 10, ho =>
            obtain rfl := Option.some.inj ho
            obtain ⟨_, h82, rfl⟩ := given_fed hg 82 (by decide +kernel)
            obtain ⟨_, h84, rfl⟩ := given_fed hg 84 (by decide +kernel)
            obtain ⟨_, h79, rfl⟩ := given_fed hg 79 (by decide +kernel)
            clear hg
            exact st_yield ho (wanted_some rfl rfl h79 rfl) (.bool true) w6 (by simp [execOp, Act.eval, h82, h84, go_sem]) ⟨_, rfl, Below.refl _ _, by rintro t' ⟨⟩; rfl⟩
          | 11, ho =>
            obtain rfl := Option.some.inj ho
            obtain ⟨_, h79, rfl⟩ := given_fed hg 79 (by decide +kernel)
            obtain ⟨_, h85, rfl⟩ := given_fed hg 85 (by decide +kernel)
            clear hg
            exact st_yield ho (wanted_none rfl) (.bool true) w6 (by simp [execOp, Act.eval, h79, h85, go_sem]) ⟨_, rfl, Below.refl _ _, by rintro t' ⟨⟩; rfl⟩
          | 12, ho =>
            obtain rfl := Option.some.inj ho
            obtain ⟨_, h86, rfl⟩ := given_fed hg 86 (by decide +kernel)
            clear hg
            exact st_yield ho (wanted_none rfl) (.bool true) w6 (by simp [execOp, Act.eval, h86, go_sem]) ⟨_, rfl, Below.refl _ _, by rintro t' ⟨⟩; rfl⟩
          | n + 13, ho => simp at ho
        · intro f w6 hb6 hv
          have h4 := hv 4 (by decide)
          simp only [V8] at h4
          have hb9 := hb3.trans (hb6.mono hb3.size)
          clear hv
          unfold putAll
          simp only [List.foldl]
          simp only [h4]
          go_simp
          go_wp2_with fail
          go_ret
          exact ⟨rfl, hb9⟩
  · have hno := Go.Lib.hid hok
    clear hok
    have hmI : (m : Int) ≤ 20 := by omega
    by_cases h1 : a1 < 0
    · go_wp2_with fail
      rw [Hm.out]
      refine (bof_no _ _ _ p hs b2 hno.out).mono ?_
      rintro e w3 ⟨rfl, rfl⟩
      rw [← Hm.out]
      clear hs
      go_wp2_with fail
      go_loop [8] (fun g => g = .bool false) (fun _ => 0)
      case atStart => rfl
      case round =>
        subst hrel
        go_wp2_with fail
        go_ret
        exact ⟨rfl, hbb⟩
    by_cases h2 : 8 * (m : Int) < a1
    · go_wp2_with fail
      rw [Hm.out]
      refine (bof_no _ _ _ p hs b2 hno.out).mono ?_
      rintro e w3 ⟨rfl, rfl⟩
      rw [← Hm.out]
      clear hs
      go_wp2_with fail
      go_loop [8] (fun g => g = .bool false) (fun _ => 0)
      case atStart => rfl
      case round =>
        subst hrel
        go_wp2_with fail
        go_ret
        exact ⟨rfl, hbb⟩
    by_cases h3 : a1 ≤ 8 * (m : Int) - 8
    · have hd : decide (8 * (m : Int) - 8 < a1) = false := by simp; omega
      go_wp2_with fail
      rw [Hm.out]
      refine (bof_no _ _ _ p hs b2 hno.out).mono ?_
      rintro e w3 ⟨rfl, rfl⟩
      rw [← Hm.out]
      clear hs
      go_wp2_with fail
      go_loop [8] (fun g => g = .bool false) (fun _ => 0)
      case atStart => rfl
      case round =>
        subst hrel
        go_wp2_with fail
        go_ret
        exact ⟨rfl, hbb⟩
    obtain ⟨n, rfl⟩ : ∃ n : Nat, a1 = (n : Int) := ⟨a1.toNat, by omega⟩
    have hn1 : n ≤ 8 * m := by omega
    have hn2 : 8 * (m : Int) - 8 < (n : Int) := by omega
    have hlen := Go.Lib.hid (show p.length = (n + 7) / 8 from by have := Hm.out; omega)
    clear h1 h2 h3
    go_wp2_with fail
    rw [Hm.out]
    refine (bof_no _ _ _ p hs b2 hno.out).mono ?_
    rintro e w3 ⟨rfl, rfl⟩
    rw [← Hm.out]
    have Hs3 := Go.Lib.hid hs
    clear hs
    go_wp2_with fail
    go_loop [8, 9] (fun g i => ∃ k : Nat, n ≤ k ∧ k ≤ 8 * m ∧ g = .bool (zeroB p n k) ∧ i = .int .i64 (k : Int)) (fun _ i => 8 * m - (intOf i).toNat)
    case atStart => exact ⟨n, Nat.le_refl _, hn1, by rw [zeroB_start], rfl⟩
    case round =>
      obtain ⟨k, hk1, hk2, rfl, rfl⟩ := hrel
      cases hg : zeroB p n k with
      | false =>
        clear hg
        go_wp2_with fail
        go_ret
        exact ⟨rfl, hbb⟩
      | true =>
      have Hg := Go.Lib.hid hg
      clear hg
      by_cases hlt : k < 8 * m
      · have hq : k / 8 < p.length := by have := Hm.out; omega
        obtain ⟨b', o, rfl, hc, -⟩ := Hs3.out.at (k / 8) hq
        have hz : zeroB p n (k + 1) = !bitAt p k := zeroB_succ p n k hk1 Hg.out
        unfold bitAt at hz
        rw [List.getD_eq_getElem?_getD, List.getElem?_eq_getElem hq] at hz
        simp only [Option.getD_some] at hz
        have hcl : p[k / 8].toNat < 256 := UInt8.toNat_lt _
        generalize p[k / 8].toNat = c at *
        have hz2 := bit_and c (7 - k % 8) hcl
        have Hz := Go.Lib.hid (hz2.trans hz.symm)
        have h78 : 7 - k % 8 ≤ 7 := by omega
        clear hz hz2
        go_wp2_with fail
        go_round
        case rel => exact ⟨k + 1, by omega, by omega, by rw [show ((c : Int) / 2 ^ (7 - k % 8)) = ((c / 2 ^ (7 - k % 8) : Nat) : Int) from by simp, Hz.out], by go_num⟩
        case measure => simp only [intOf]; omega
      · obtain rfl : k = 8 * m := by omega
        exfalso
        have hz := Hg.out
        rw [Hm.out] at hz
        exact hno.out (zeroB_all hz hlen.out)

/-! ### THE ROW's STEP: WRITTEN OUT: LEAVE IT -/
set_option maxRecDepth 100000 in
theorem lifted (os : Os) (started : os.Started) (H : Type) (enc : TypeId × Value → H) :
    ReturnsInHanded {} Try.checked os 3 .any (Rows.bitsOfSpec.pre6 enc Try.prog Try.f3 Rows.bitsOfRow.domain false) (Rows.bitsOfSpec.post enc Try.prog Try.f3 false true false false) := by
  refine returnsInHanded_of_change (C := Try.checked) own started (by kernel_rfl) Try.func3
    (ChangeSpec.witness6 (enc := enc) (C := Try.checked) false ⟨#[], #[.slice none 0 0, .int .i64 0], []⟩ 8 (by kernel_rfl) (by kernel_rfl) (by kernel_rfl) (by kernel_rfl)) ?_
  intro W base args ds gs before hval0 hW hcnd _
  have hval : ∀ (j : Nat) t v, Try.f3.params[j]? = some t → args[j]? = some v → Value.okWide Try.prog W .any base t v := hval0
  have hW' := hW
  obtain ⟨p, q, hA0, hV, rfl, hfz, hnd⟩ := hW
  have hA : DataW.TrodAll enc Try.prog W 0 (fun _ => true) true Try.f3.params.toList args.toList ds p := hA0
  rw [Try.params3] at hA hval
  obtain ⟨v0, vs0, d0, ds0, p0, q0, hargs, rfl, rfl, h0, r0⟩ := trodAll_cons hA
  obtain ⟨v1, vs1, d1, ds1, p1, q1, rfl, rfl, rfl, h1, r1⟩ := trodAll_cons r0
  obtain ⟨rfl, rfl, rfl⟩ := trodAll_nil r1
  obtain rfl : args = #[v0, v1] := by cases args; simp_all
  obtain ⟨rfl, rfl⟩ := trodVars_none hV
  obtain ⟨a0, len0, cap0, rfl⟩ := okWide_slice Try.underlying22 (hval 0 22 v0 rfl rfl)
  have k0 := h0
  have lt0 : ∀ x ∈ p0, x.block < W.heap.size := by obtain ⟨m, hm⟩ := k0; exact DataW.trod_lt m _ _ _ hm
  obtain ⟨z0, w0⟩ : ∃ zs, IsRow .u8 W a0 len0 cap0 zs := by
    obtain ⟨fuel, hf⟩ := h0
    rcases open_ints Try.underlying22 Try.underlying5 (by kernel_rfl) hf with ⟨hcs, _⟩ | ⟨x, l, c, zs, hcs, _, hl, hm, hz, _, hcell, hwz⟩
    · simp [Value.cells] at hcs
      obtain ⟨rfl, rfl, rfl⟩ := hcs
      exact ⟨[], .inl ⟨rfl, rfl, rfl, rfl⟩⟩
    · simp [Value.cells] at hcs
      obtain ⟨rfl, rfl, rfl⟩ := hcs
      exact ⟨zs, .inr ⟨_, rfl, hl, hm, by simpa using hz, hcell, hwz⟩⟩
  obtain ⟨a1, rfl, rfl, rfl, w1⟩ := open_int Try.underlying3 (hval 1 3 v1 rfl rfl) h1
  clear hA0 hval0
  refine (walk a0 len0 cap0 z0 a1 W w0 w1).mono fun e W' ⟨he, bel⟩ => ?_
  subst he
  exact ⟨_, rfl, _, _, _, [], _, [], hW', trodAll_mk1 (shut_bool Try.underlying4 _), (trodAll_cons_mk (Below.trod laidOut (by kernel_rfl) (of_decide_eq_true (by kernel_rfl)) k0 bel lt0) (trodAll_cons_mk (shut_int Try.underlying3 w1) trodAll_mk0)), rfl, bel.frame _, fun h => by cases h⟩

theorem over : Rows.bitsOfRow.holds Try.pinned (OpenSpec.ofChange Rows.bitsOfSpec) :=
  OpenClaim.holds_of_wide 3 Try.f3 rfl rfl rfl rfl rfl rfl rfl ⟨rfl, rfl, rfl, rfl, rfl⟩ rfl rfl rfl rfl rfl (by kernel_rfl) Try.func3 (by kernel_rfl)
    (of_decide_eq_true (by kernel_rfl)) (by unfold Func.isWrapper; first | (rw [if_pos (by decide +kernel)]; kernel_rfl) | (rw [if_neg (by decide +kernel)]; exact ⟨rfl, rfl⟩))
    (fun os started H enc _ => lifted os started H enc)

/-- ████ THE STATEMENT ████ -/
theorem proved : Rows.BitsOfSaid := over
#print axioms proved
end Go.Proofs.Ytdojmbmfgeaheaa.bitsOf
