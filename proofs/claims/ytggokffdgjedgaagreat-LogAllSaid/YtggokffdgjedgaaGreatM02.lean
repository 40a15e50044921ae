/-
  The reference's own decoding: what it looks at, and that it is what a range tells.
  What Decode and At answer.
  The contract of the reference's Decode.
  The contract of the reference's Valid.
  Values: contracts of the reference's EqVal, MayVal, of the laws' Cut.
  Package num: what each function answers, as plain functions on numbers and bytes, and the contracts of the Go functions that say so.
  Contracts of package num's functions and of the reference's.
  Contracts of Get and GetText, the program's and the reference's.
-/
import Derived.Test.YtggokffdgjedgaaGreatM01
import Derived.Laws.DeepNot64
import Derived.Lib.VarintBits
namespace Go.Proofs.YtggokffdgjedgaaGreat
open Go.RowKit

def atB (l : List UInt8) (k : Nat) : Nat := (l.getD k 0).toNat
theorem atB_lt (l : List UInt8) (k : Nat) : atB l k < 256 := (l.getD k 0).toNat_lt

/-- How many bytes a first byte asks for, the least rune, and what it brings itself. -/
def Lead (c n low r0 : Nat) : Prop := (192 ≤ c ∧ c < 224 ∧ n = 2 ∧ low = 128 ∧ r0 = c - 192) ∨ (224 ≤ c ∧ c < 240 ∧ n = 3 ∧ low = 2048 ∧ r0 = c - 224) ∨ (240 ≤ c ∧ c < 248 ∧ n = 4 ∧ low = 65536 ∧ r0 = c - 240)
/-- What k further bytes make. -/
def acc (l : List UInt8) (r0 : Nat) : Nat → Nat
  | 0 => r0
  | k + 1 => acc l r0 k * 64 + atB l (k + 1) % 64
def Conts (l : List UInt8) (n : Nat) : Prop := ∀ j, 1 ≤ j → j < n → 128 ≤ atB l j ∧ atB l j ≤ 191
/-- A rune of n bytes stands there. -/
def Good (l : List UInt8) (n low r0 : Nat) : Prop := n ≤ l.length ∧ Conts l n ∧ low ≤ acc l r0 (n - 1) ∧ acc l r0 (n - 1) ≤ 1114111 ∧ ¬ (55296 ≤ acc l r0 (n - 1) ∧ acc l r0 (n - 1) < 57344)

theorem dr_eq (l : List UInt8) {a b : Nat} (h : Utf8.decode (str l) 0 = (a, b)) : dr l = a ∧ dw l = b := by
  unfold dr dw
  rw [h]
  exact ⟨rfl, rfl⟩

theorem d_ascii (l : List UInt8) (hl : l ≠ []) (h : atB l 0 < 128) : dr l = atB l 0 ∧ dw l = 1 ∧ okB l = true := by
  have key : Utf8.decode (str l) 0 = (atB l 0, 1) := by
    unfold atB at h
    unfold Utf8.decode
    simp only [get_str, str_size, if_pos h]
    rfl
  obtain ⟨h1, h2⟩ := dr_eq l key
  refine ⟨h1, h2, ?_⟩
  cases ho : okB l with
  | true => rfl
  | false =>
    have := (okB_false ho hl).1
    omega

theorem d_bad (l : List UInt8) (hl : l ≠ []) (h : 128 ≤ atB l 0) (hd : Utf8.decode (str l) 0 = (65533, 1)) : dr l = 65533 ∧ dw l = 1 ∧ okB l = false := by
  obtain ⟨h1, h2⟩ := dr_eq l hd
  exact ⟨h1, h2, (okB_bad hl h2 h).1⟩

theorem d_good (l : List UInt8) (hl : l ≠ []) {r n : Nat} (hn : 2 ≤ n) (hd : Utf8.decode (str l) 0 = (r, n)) : dr l = r ∧ dw l = n ∧ okB l = true := by
  obtain ⟨h1, h2⟩ := dr_eq l hd
  refine ⟨h1, h2, ?_⟩
  cases ho : okB l with
  | true => rfl
  | false =>
    have := (okB_false ho hl).2
    omega

theorem cont_iff (l : List UInt8) (k : Nat) : (decide (0 + k < l.length) && (l.getD k 0).toNat / 64 == 2) = true ↔ k < l.length ∧ 128 ≤ atB l k ∧ atB l k ≤ 191 := by
  rw [Bool.and_eq_true, decide_eq_true_eq, beq_iff_eq]
  unfold atB
  omega

theorem d_none (l : List UInt8) (hl : l ≠ []) (h : 128 ≤ atB l 0) (h2 : atB l 0 < 192 ∨ 248 ≤ atB l 0) : dr l = 65533 ∧ dw l = 1 ∧ okB l = false := by
  refine d_bad l hl h ?_
  unfold atB at h h2
  unfold Utf8.decode
  simp only [get_str, str_size]
  rw [if_neg (by omega), if_neg (by rw [Bool.and_eq_true, beq_iff_eq]; omega), if_neg (by rw [Bool.and_eq_true, Bool.and_eq_true, beq_iff_eq]; omega), if_neg (by rw [Bool.and_eq_true, Bool.and_eq_true, Bool.and_eq_true, beq_iff_eq]; omega)]
  rfl

theorem good_of (l : List UInt8) (n low r0 A : Nat) (h : acc l r0 (n - 1) = A) (h1 : n ≤ l.length) (h2 : Conts l n) (h3 : low ≤ A) (h4 : A < 55296 ∨ (57344 ≤ A ∧ A ≤ 1114111)) : Good l n low r0 := by
  subst h
  exact ⟨h1, h2, h3, by omega, by omega⟩

set_option maxRecDepth 100000 in
theorem d_lead (l : List UInt8) (hl : l ≠ []) (n low r0 : Nat) (h : Lead (atB l 0) n low r0) :
    (Good l n low r0 → dr l = acc l r0 (n - 1) ∧ dw l = n ∧ okB l = true) ∧ (¬ Good l n low r0 → dr l = 65533 ∧ dw l = 1 ∧ okB l = false) := by
  have hc := atB_lt l 0
  rcases h with ⟨c0, c1, rfl, rfl, rfl⟩ | ⟨c0, c1, rfl, rfl, rfl⟩ | ⟨c0, c1, rfl, rfl, rfl⟩
  · have hC : Conts l 2 ↔ 128 ≤ atB l 1 ∧ atB l 1 ≤ 191 := ⟨fun H => H 1 (by omega) (by omega), fun H j j1 j2 => (by omega : 1 = j) ▸ H⟩
    have hA : acc l (atB l 0 - 192) 1 = (atB l 0 - 192) * 64 + atB l 1 % 64 := rfl
    have hE : (l.getD 0 0).toNat % 32 * 64 + (l.getD 1 0).toNat % 64 = acc l (atB l 0 - 192) 1 := by rw [hA]; unfold atB at *; omega
    constructor
    · intro g
      obtain ⟨g1, g2, g3, g4, g5⟩ := g
      rw [hC] at g2
      simp only [Nat.reduceSub] at g3 g4 g5
      refine d_good l hl (by omega) ?_
      unfold Utf8.decode
      simp only [get_str, str_size]
      rw [if_neg (by unfold atB at c0; omega), if_pos (by rw [Bool.and_eq_true, cont_iff, beq_iff_eq]; unfold atB at *; omega), hE, if_pos g3]
    · intro g
      refine d_bad l hl (by omega) ?_
      unfold Utf8.decode
      simp only [get_str, str_size]
      rw [if_neg (by unfold atB at c0; omega)]
      by_cases hk : 1 < l.length ∧ 128 ≤ atB l 1 ∧ atB l 1 ≤ 191
      · rw [if_pos (by rw [Bool.and_eq_true, cont_iff, beq_iff_eq]; unfold atB at *; omega), hE, if_neg (fun hx => g ⟨hk.1, hC.2 hk.2, hx, by show acc l (atB l 0 - 192) 1 ≤ _; omega, by show ¬ (_ ≤ acc l (atB l 0 - 192) 1 ∧ acc l (atB l 0 - 192) 1 < _); omega⟩)]
        rfl
      · rw [if_neg (by rw [Bool.and_eq_true, cont_iff]; exact fun hx => hk hx.2), if_neg (by rw [Bool.and_eq_true, Bool.and_eq_true, beq_iff_eq]; unfold atB at *; omega), if_neg (by rw [Bool.and_eq_true, Bool.and_eq_true, Bool.and_eq_true, beq_iff_eq]; unfold atB at *; omega)]
        rfl
  · have hC : Conts l 3 ↔ (128 ≤ atB l 1 ∧ atB l 1 ≤ 191) ∧ (128 ≤ atB l 2 ∧ atB l 2 ≤ 191) := ⟨fun H => ⟨H 1 (by omega) (by omega), H 2 (by omega) (by omega)⟩, fun H j j1 j2 => by
      rcases (by omega : j = 1 ∨ j = 2) with rfl | rfl
      · exact H.1
      · exact H.2⟩
    have hA : acc l (atB l 0 - 224) 2 = ((atB l 0 - 224) * 64 + atB l 1 % 64) * 64 + atB l 2 % 64 := rfl
    have hE : (l.getD 0 0).toNat % 16 * 4096 + (l.getD 1 0).toNat % 64 * 64 + (l.getD 2 0).toNat % 64 = acc l (atB l 0 - 224) 2 := by rw [hA]; unfold atB at *; omega
    have hvv := valid_iff (acc l (atB l 0 - 224) 2)
    constructor
    · intro g
      obtain ⟨g1, g2, g3, g4, g5⟩ := g
      rw [hC] at g2
      simp only [Nat.reduceSub] at g3 g4 g5
      refine d_good l hl (by omega) ?_
      unfold Utf8.decode
      simp only [get_str, str_size]
      rw [if_neg (by unfold atB at c0; omega), if_neg (by rw [Bool.and_eq_true, beq_iff_eq]; unfold atB at *; omega), if_pos (by rw [Bool.and_eq_true, Bool.and_eq_true, cont_iff, cont_iff, beq_iff_eq]; unfold atB at *; omega), hE, if_pos (by rw [Bool.and_eq_true, decide_eq_true_eq]; exact ⟨g3, hvv.2 (by omega)⟩)]
    · intro g
      refine d_bad l hl (by omega) ?_
      unfold Utf8.decode
      simp only [get_str, str_size]
      rw [if_neg (by unfold atB at c0; omega), if_neg (by rw [Bool.and_eq_true, beq_iff_eq]; unfold atB at *; omega)]
      by_cases hk : (1 < l.length ∧ 128 ≤ atB l 1 ∧ atB l 1 ≤ 191) ∧ (2 < l.length ∧ 128 ≤ atB l 2 ∧ atB l 2 ≤ 191)
      · rw [if_pos (by rw [Bool.and_eq_true, Bool.and_eq_true, cont_iff, cont_iff, beq_iff_eq]; unfold atB at *; omega), hE, if_neg (fun hx => by
          rw [Bool.and_eq_true, decide_eq_true_eq, hvv] at hx
          exact g (good_of l 3 2048 _ _ rfl hk.2.1 (hC.2 ⟨hk.1.2, hk.2.2⟩) hx.1 hx.2))]
        rfl
      · rw [if_neg (by rw [Bool.and_eq_true, Bool.and_eq_true, cont_iff, cont_iff]; exact fun hx => hk ⟨hx.1.2, hx.2⟩), if_neg (by rw [Bool.and_eq_true, Bool.and_eq_true, Bool.and_eq_true, beq_iff_eq]; unfold atB at *; omega)]
        rfl
  · have hC : Conts l 4 ↔ (128 ≤ atB l 1 ∧ atB l 1 ≤ 191) ∧ (128 ≤ atB l 2 ∧ atB l 2 ≤ 191) ∧ (128 ≤ atB l 3 ∧ atB l 3 ≤ 191) := ⟨fun H => ⟨H 1 (by omega) (by omega), H 2 (by omega) (by omega), H 3 (by omega) (by omega)⟩, fun H j j1 j2 => by
      rcases (by omega : j = 1 ∨ j = 2 ∨ j = 3) with rfl | rfl | rfl
      · exact H.1
      · exact H.2.1
      · exact H.2.2⟩
    have hA : acc l (atB l 0 - 240) 3 = (((atB l 0 - 240) * 64 + atB l 1 % 64) * 64 + atB l 2 % 64) * 64 + atB l 3 % 64 := rfl
    have hE : (l.getD 0 0).toNat % 8 * 262144 + (l.getD 1 0).toNat % 64 * 4096 + (l.getD 2 0).toNat % 64 * 64 + (l.getD 3 0).toNat % 64 = acc l (atB l 0 - 240) 3 := by rw [hA]; unfold atB at *; omega
    have hvv := valid_iff (acc l (atB l 0 - 240) 3)
    constructor
    · intro g
      obtain ⟨g1, g2, g3, g4, g5⟩ := g
      rw [hC] at g2
      simp only [Nat.reduceSub] at g3 g4 g5
      refine d_good l hl (by omega) ?_
      unfold Utf8.decode
      simp only [get_str, str_size]
      rw [if_neg (by unfold atB at c0; omega), if_neg (by rw [Bool.and_eq_true, beq_iff_eq]; unfold atB at *; omega), if_neg (by rw [Bool.and_eq_true, Bool.and_eq_true, beq_iff_eq]; unfold atB at *; omega), if_pos (by rw [Bool.and_eq_true, Bool.and_eq_true, Bool.and_eq_true, cont_iff, cont_iff, cont_iff, beq_iff_eq]; unfold atB at *; omega), hE, if_pos (by rw [Bool.and_eq_true, decide_eq_true_eq]; exact ⟨g3, hvv.2 (by omega)⟩)]
    · intro g
      refine d_bad l hl (by omega) ?_
      unfold Utf8.decode
      simp only [get_str, str_size]
      rw [if_neg (by unfold atB at c0; omega), if_neg (by rw [Bool.and_eq_true, beq_iff_eq]; unfold atB at *; omega), if_neg (by rw [Bool.and_eq_true, Bool.and_eq_true, beq_iff_eq]; unfold atB at *; omega)]
      by_cases hk : (1 < l.length ∧ 128 ≤ atB l 1 ∧ atB l 1 ≤ 191) ∧ (2 < l.length ∧ 128 ≤ atB l 2 ∧ atB l 2 ≤ 191) ∧ (3 < l.length ∧ 128 ≤ atB l 3 ∧ atB l 3 ≤ 191)
      · rw [if_pos (by rw [Bool.and_eq_true, Bool.and_eq_true, Bool.and_eq_true, cont_iff, cont_iff, cont_iff, beq_iff_eq]; unfold atB at *; omega), hE, if_neg (fun hx => by
          rw [Bool.and_eq_true, decide_eq_true_eq, hvv] at hx
          exact g (good_of l 4 65536 _ _ rfl hk.2.2.1 (hC.2 ⟨hk.1.2, hk.2.1.2, hk.2.2.2⟩) hx.1 hx.2))]
        rfl
      · rw [if_neg (by rw [Bool.and_eq_true, Bool.and_eq_true, Bool.and_eq_true, cont_iff, cont_iff, cont_iff]; exact fun hx => hk ⟨hx.1.1.2, hx.1.2, hx.2⟩)]
        rfl

end Go.Proofs.YtggokffdgjedgaaGreat

namespace Go.Proofs.YtggokffdgjedgaaGreat
open Go.RowKit

def dv (r n : Nat) (ok : Bool) : Value := .tuple #[.int .i32 (r : Int), .int .i64 (n : Int), .bool ok]

end Go.Proofs.YtggokffdgjedgaaGreat

namespace Go.Proofs.YtggokffdgjedgaaGreat
open Go.RowKit

theorem at_get (s : ByteArray) (j : Nat) (h : j < s.size) : (s[j]'h).toNat = atB (bl s) j := by
  have h' : j < (bl s).length := by rw [← bl_size]; exact h
  unfold atB
  rw [List.getD_eq_getElem?_getD, List.getElem?_eq_getElem h', Option.getD_some]
  rfl

theorem ret_dv {r r' n n' : Nat} {ok ok' : Bool} (h : r' = r ∧ n' = n ∧ ok' = ok) : Ending.returned (.tuple #[.int .i32 (r : Int), .int .i64 (n : Int), .bool ok]) = .returned (dv r' n' ok') := by
  obtain ⟨rfl, rfl, rfl⟩ := h
  rfl

theorem conts_more {l : List UInt8} {k : Nat} (h : Conts l k) (hk : 128 ≤ atB l k ∧ atB l k ≤ 191) : Conts l (k + 1) := by
  intro j h1 h2
  rcases Nat.lt_or_ge j k with h3 | h3
  · exact h j h1 h3
  · obtain rfl : j = k := by omega
    exact hk

theorem acc_more (l : List UInt8) (r0 k : Nat) (hk : 1 ≤ k) : acc l r0 k = acc l r0 (k - 1) * 64 + atB l k % 64 := by
  obtain ⟨m, rfl⟩ : ∃ m, k = m + 1 := ⟨k - 1, by omega⟩
  rfl

/-- How great it is by now. -/
def Small (A k : Nat) : Prop := (A < 32 ∧ k = 1) ∨ (A < 2048 ∧ k = 2) ∨ (A < 131072 ∧ k = 3) ∨ (A < 8388608 ∧ k = 4)

theorem ne_of_size {s : ByteArray} (h : bl s ≠ []) : 0 < s.size := by rw [bl_size]; exact List.length_pos_iff.2 h

set_option maxHeartbeats 2000000 in
set_option maxRecDepth 100000 in
theorem decode_2 (s : ByteArray) (w : World) (h0 : bl s ≠ []) (hm : s.size ≤ maxLen) (c3 : 192 ≤ atB (bl s) 0) (c4 : atB (bl s) 0 < 224) :
    Calls Tryz.prog 61 #[.string s] w fun e w' => e = .returned (dv (dr (bl s)) (dw (bl s)) (okB (bl s))) ∧ w = w' := by
    have hp := ne_of_size h0
    have hc0 := at_get s 0 hp
    have hlt := atB_lt (bl s) 0
    have hsz := bl_size s
    unfold maxLen at hm
    have H0 := Go.Lib.hid h0; clear h0
    have hlead := Go.Lib.hid (d_lead (bl s) H0.out 2 128 (atB (bl s) 0 - 192) (by unfold Lead; omega))
    have g2 : (192 : Int) ≤ (atB (bl s) 0 : Int) := by omega
    have g3 : (atB (bl s) 0 : Int) < 224 := by omega
    rcases Nat.lt_or_ge s.size 2 with hn | hn
    · go_enter Tryz.func61, Tryz.ntmps61
      go_wp2_with fail
      go_ret3
      exact ⟨ret_dv (hlead.out.2 fun g => by have := g.1; omega), rfl⟩
    · obtain ⟨r0, hr0⟩ : ∃ r0, r0 = atB (bl s) 0 - 192 := ⟨_, rfl⟩
      have hr1 : (atB (bl s) 0 : Int) - 192 = (r0 : Int) := by omega
      rw [← hr0] at hlead
      have hr2 : r0 < 32 := by omega
      clear hr0 hlt c3 c4
      go_enter Tryz.func61, Tryz.ntmps61
      go_wp2_with fail
      clear hr1 g2 g3
      go_loop [8, 9] (fun r i => ∃ k A : Nat, 1 ≤ k ∧ k ≤ 2 ∧ i = .int .i64 (k : Int) ∧ r = .int .i32 (A : Int) ∧ Hid (A = acc (bl s) r0 (k - 1) ∧ Small A k ∧ Conts (bl s) k)) (fun _ i => 2 - (intOf i).toNat)
      case atStart => exact ⟨1, r0, by omega, by omega, rfl, rfl, rfl, by unfold Small; omega, fun j h1 h2 => by omega⟩
      case round =>
        obtain ⟨k, A, hk1, hk2, rfl, rfl, hA⟩ := hrel
        by_cases hkn : k < 2
        · have hks : k < s.size := by omega
          have hck := at_get s k hks
          have hclt := atB_lt (bl s) k
          have hAs : A < 131072 := by
            have := hA.out.2.1
            unfold Small at this
            omega
          by_cases hco : 128 ≤ atB (bl s) k ∧ atB (bl s) k ≤ 191
          · have k1 : (128 : Int) ≤ (atB (bl s) k : Int) := by omega
            have k2 : (atB (bl s) k : Int) ≤ 191 := by omega
            have hnext : Hid ((A * 64 + atB (bl s) k - 128 : Nat) = acc (bl s) r0 (k + 1 - 1) ∧ Small (A * 64 + atB (bl s) k - 128) (k + 1) ∧ Conts (bl s) (k + 1)) := by
              obtain ⟨a1, a2, a3⟩ := hA.out
              refine ⟨?_, ?_, conts_more a3 hco⟩
              · rw [Nat.add_sub_cancel, acc_more _ _ _ hk1, ← a1]; omega
              · unfold Small at a2 ⊢; omega
            obtain ⟨A', hA'⟩ : ∃ A', A' = A * 64 + atB (bl s) k - 128 := ⟨_, rfl⟩
            rw [← hA'] at hnext
            have hA1 : (A : Int) * 64 + (atB (bl s) k : Int) - 128 = (A' : Int) := by omega
            clear hA hA' hco
            go_wp2
            go_round
            case rel => exact ⟨k + 1, A', by omega, by omega, by go_num, (by first | rfl | rw [hA1]), hnext⟩
            case measure => simp [intOf]; omega
          · have hbad : Hid (¬ Good (bl s) 2 128 r0) := fun g => hco (g.2.1 k hk1 hkn)
            clear hA
            by_cases k1 : atB (bl s) k < 128
            · have k2 : (atB (bl s) k : Int) < 128 := by omega
              go_wp2
              go_ret3
              exact ⟨ret_dv (hlead.out.2 hbad), rfl⟩
            · have k2 : (191 : Int) < (atB (bl s) k : Int) := by omega
              have k3 : (128 : Int) ≤ (atB (bl s) k : Int) := by omega
              go_wp2
              go_ret3
              exact ⟨ret_dv (hlead.out.2 hbad), rfl⟩
        · obtain rfl : k = 2 := by omega
          have hgood : Hid (Good (bl s) 2 128 r0 ↔ (128 ≤ A ∧ A ≤ 1114111 ∧ ¬ (55296 ≤ A ∧ A < 57344))) := by
            obtain ⟨a1, a2, a3⟩ := hA.out
            unfold Good Hid
            rw [← a1]
            exact ⟨fun g => g.2.2, fun g => ⟨by omega, a3, g⟩⟩
          have hA2 : Hid (A = acc (bl s) r0 (2 - 1)) := hA.out.1
          clear hA
          by_cases e1 : A < 128
          · have hd := Go.Lib.hid (hlead.out.2 fun g => by have := (hgood.out).1 g; omega)
            clear hgood
            go_wp2
            go_ret3
            exact ⟨ret_dv hd.out, rfl⟩
          by_cases e2 : 1114111 < A
          · have hd := Go.Lib.hid (hlead.out.2 fun g => by have := (hgood.out).1 g; omega)
            clear hgood
            go_wp2
            go_ret3
            exact ⟨ret_dv hd.out, rfl⟩
          by_cases e3 : 55296 ≤ A
          · by_cases e4 : A < 57344
            · have hd := Go.Lib.hid (hlead.out.2 fun g => by have := (hgood.out).1 g; omega)
              clear hgood
              go_wp2 <;> (go_ret3; exact ⟨ret_dv hd.out, rfl⟩)
            · have hd := Go.Lib.hid (hlead.out.1 ((hgood.out).2 (by omega)))
              clear hgood
              go_wp2 <;> (go_ret3; exact ⟨ret_dv (by rw [hA2.out]; exact hd.out), rfl⟩)
          · have hd := Go.Lib.hid (hlead.out.1 ((hgood.out).2 (by omega)))
            clear hgood
            go_wp2 <;> (go_ret3; exact ⟨ret_dv (by rw [hA2.out]; exact hd.out), rfl⟩)

set_option maxHeartbeats 2000000 in
set_option maxRecDepth 100000 in
theorem decode_3 (s : ByteArray) (w : World) (h0 : bl s ≠ []) (hm : s.size ≤ maxLen) (c3 : 224 ≤ atB (bl s) 0) (c4 : atB (bl s) 0 < 240) :
    Calls Tryz.prog 61 #[.string s] w fun e w' => e = .returned (dv (dr (bl s)) (dw (bl s)) (okB (bl s))) ∧ w = w' := by
    have hp := ne_of_size h0
    have hc0 := at_get s 0 hp
    have hlt := atB_lt (bl s) 0
    have hsz := bl_size s
    unfold maxLen at hm
    have H0 := Go.Lib.hid h0; clear h0
    have hlead := Go.Lib.hid (d_lead (bl s) H0.out 3 2048 (atB (bl s) 0 - 224) (by unfold Lead; omega))
    have g2 : (224 : Int) ≤ (atB (bl s) 0 : Int) := by omega
    have g3 : (atB (bl s) 0 : Int) < 240 := by omega
    rcases Nat.lt_or_ge s.size 3 with hn | hn
    · go_enter Tryz.func61, Tryz.ntmps61
      go_wp2_with fail
      go_ret3
      exact ⟨ret_dv (hlead.out.2 fun g => by have := g.1; omega), rfl⟩
    · obtain ⟨r0, hr0⟩ : ∃ r0, r0 = atB (bl s) 0 - 224 := ⟨_, rfl⟩
      have hr1 : (atB (bl s) 0 : Int) - 224 = (r0 : Int) := by omega
      rw [← hr0] at hlead
      have hr2 : r0 < 32 := by omega
      clear hr0 hlt c3 c4
      go_enter Tryz.func61, Tryz.ntmps61
      go_wp2_with fail
      clear hr1 g2 g3
      go_loop [8, 9] (fun r i => ∃ k A : Nat, 1 ≤ k ∧ k ≤ 3 ∧ i = .int .i64 (k : Int) ∧ r = .int .i32 (A : Int) ∧ Hid (A = acc (bl s) r0 (k - 1) ∧ Small A k ∧ Conts (bl s) k)) (fun _ i => 3 - (intOf i).toNat)
      case atStart => exact ⟨1, r0, by omega, by omega, rfl, rfl, rfl, by unfold Small; omega, fun j h1 h2 => by omega⟩
      case round =>
        obtain ⟨k, A, hk1, hk2, rfl, rfl, hA⟩ := hrel
        by_cases hkn : k < 3
        · have hks : k < s.size := by omega
          have hck := at_get s k hks
          have hclt := atB_lt (bl s) k
          have hAs : A < 131072 := by
            have := hA.out.2.1
            unfold Small at this
            omega
          by_cases hco : 128 ≤ atB (bl s) k ∧ atB (bl s) k ≤ 191
          · have k1 : (128 : Int) ≤ (atB (bl s) k : Int) := by omega
            have k2 : (atB (bl s) k : Int) ≤ 191 := by omega
            have hnext : Hid ((A * 64 + atB (bl s) k - 128 : Nat) = acc (bl s) r0 (k + 1 - 1) ∧ Small (A * 64 + atB (bl s) k - 128) (k + 1) ∧ Conts (bl s) (k + 1)) := by
              obtain ⟨a1, a2, a3⟩ := hA.out
              refine ⟨?_, ?_, conts_more a3 hco⟩
              · rw [Nat.add_sub_cancel, acc_more _ _ _ hk1, ← a1]; omega
              · unfold Small at a2 ⊢; omega
            obtain ⟨A', hA'⟩ : ∃ A', A' = A * 64 + atB (bl s) k - 128 := ⟨_, rfl⟩
            rw [← hA'] at hnext
            have hA1 : (A : Int) * 64 + (atB (bl s) k : Int) - 128 = (A' : Int) := by omega
            clear hA hA' hco
            go_wp2
            go_round
            case rel => exact ⟨k + 1, A', by omega, by omega, by go_num, (by first | rfl | rw [hA1]), hnext⟩
            case measure => simp [intOf]; omega
          · have hbad : Hid (¬ Good (bl s) 3 2048 r0) := fun g => hco (g.2.1 k hk1 hkn)
            clear hA
            by_cases k1 : atB (bl s) k < 128
            · have k2 : (atB (bl s) k : Int) < 128 := by omega
              go_wp2
              go_ret3
              exact ⟨ret_dv (hlead.out.2 hbad), rfl⟩
            · have k2 : (191 : Int) < (atB (bl s) k : Int) := by omega
              have k3 : (128 : Int) ≤ (atB (bl s) k : Int) := by omega
              go_wp2
              go_ret3
              exact ⟨ret_dv (hlead.out.2 hbad), rfl⟩
        · obtain rfl : k = 3 := by omega
          have hgood : Hid (Good (bl s) 3 2048 r0 ↔ (2048 ≤ A ∧ A ≤ 1114111 ∧ ¬ (55296 ≤ A ∧ A < 57344))) := by
            obtain ⟨a1, a2, a3⟩ := hA.out
            unfold Good Hid
            rw [← a1]
            exact ⟨fun g => g.2.2, fun g => ⟨by omega, a3, g⟩⟩
          have hA2 : Hid (A = acc (bl s) r0 (3 - 1)) := hA.out.1
          clear hA
          by_cases e1 : A < 2048
          · have hd := Go.Lib.hid (hlead.out.2 fun g => by have := (hgood.out).1 g; omega)
            clear hgood
            go_wp2
            go_ret3
            exact ⟨ret_dv hd.out, rfl⟩
          by_cases e2 : 1114111 < A
          · have hd := Go.Lib.hid (hlead.out.2 fun g => by have := (hgood.out).1 g; omega)
            clear hgood
            go_wp2
            go_ret3
            exact ⟨ret_dv hd.out, rfl⟩
          by_cases e3 : 55296 ≤ A
          · by_cases e4 : A < 57344
            · have hd := Go.Lib.hid (hlead.out.2 fun g => by have := (hgood.out).1 g; omega)
              clear hgood
              go_wp2 <;> (go_ret3; exact ⟨ret_dv hd.out, rfl⟩)
            · have hd := Go.Lib.hid (hlead.out.1 ((hgood.out).2 (by omega)))
              clear hgood
              go_wp2 <;> (go_ret3; exact ⟨ret_dv (by rw [hA2.out]; exact hd.out), rfl⟩)
          · have hd := Go.Lib.hid (hlead.out.1 ((hgood.out).2 (by omega)))
            clear hgood
            go_wp2 <;> (go_ret3; exact ⟨ret_dv (by rw [hA2.out]; exact hd.out), rfl⟩)

set_option maxHeartbeats 2000000 in
set_option maxRecDepth 100000 in
theorem decode_4 (s : ByteArray) (w : World) (h0 : bl s ≠ []) (hm : s.size ≤ maxLen) (c3 : 240 ≤ atB (bl s) 0) (c4 : atB (bl s) 0 < 248) :
    Calls Tryz.prog 61 #[.string s] w fun e w' => e = .returned (dv (dr (bl s)) (dw (bl s)) (okB (bl s))) ∧ w = w' := by
    have hp := ne_of_size h0
    have hc0 := at_get s 0 hp
    have hlt := atB_lt (bl s) 0
    have hsz := bl_size s
    unfold maxLen at hm
    have H0 := Go.Lib.hid h0; clear h0
    have hlead := Go.Lib.hid (d_lead (bl s) H0.out 4 65536 (atB (bl s) 0 - 240) (by unfold Lead; omega))
    have g2 : (240 : Int) ≤ (atB (bl s) 0 : Int) := by omega
    have g3 : (atB (bl s) 0 : Int) < 248 := by omega
    rcases Nat.lt_or_ge s.size 4 with hn | hn
    · go_enter Tryz.func61, Tryz.ntmps61
      go_wp2_with fail
      go_ret3
      exact ⟨ret_dv (hlead.out.2 fun g => by have := g.1; omega), rfl⟩
    · obtain ⟨r0, hr0⟩ : ∃ r0, r0 = atB (bl s) 0 - 240 := ⟨_, rfl⟩
      have hr1 : (atB (bl s) 0 : Int) - 240 = (r0 : Int) := by omega
      rw [← hr0] at hlead
      have hr2 : r0 < 32 := by omega
      clear hr0 hlt c3 c4
      go_enter Tryz.func61, Tryz.ntmps61
      go_wp2_with fail
      clear hr1 g2 g3
      go_loop [8, 9] (fun r i => ∃ k A : Nat, 1 ≤ k ∧ k ≤ 4 ∧ i = .int .i64 (k : Int) ∧ r = .int .i32 (A : Int) ∧ Hid (A = acc (bl s) r0 (k - 1) ∧ Small A k ∧ Conts (bl s) k)) (fun _ i => 4 - (intOf i).toNat)
      case atStart => exact ⟨1, r0, by omega, by omega, rfl, rfl, rfl, by unfold Small; omega, fun j h1 h2 => by omega⟩
      case round =>
        obtain ⟨k, A, hk1, hk2, rfl, rfl, hA⟩ := hrel
        by_cases hkn : k < 4
        · have hks : k < s.size := by omega
          have hck := at_get s k hks
          have hclt := atB_lt (bl s) k
          have hAs : A < 131072 := by
            have := hA.out.2.1
            unfold Small at this
            omega
          by_cases hco : 128 ≤ atB (bl s) k ∧ atB (bl s) k ≤ 191
          · have k1 : (128 : Int) ≤ (atB (bl s) k : Int) := by omega
            have k2 : (atB (bl s) k : Int) ≤ 191 := by omega
            have hnext : Hid ((A * 64 + atB (bl s) k - 128 : Nat) = acc (bl s) r0 (k + 1 - 1) ∧ Small (A * 64 + atB (bl s) k - 128) (k + 1) ∧ Conts (bl s) (k + 1)) := by
              obtain ⟨a1, a2, a3⟩ := hA.out
              refine ⟨?_, ?_, conts_more a3 hco⟩
              · rw [Nat.add_sub_cancel, acc_more _ _ _ hk1, ← a1]; omega
              · unfold Small at a2 ⊢; omega
            obtain ⟨A', hA'⟩ : ∃ A', A' = A * 64 + atB (bl s) k - 128 := ⟨_, rfl⟩
            rw [← hA'] at hnext
            have hA1 : (A : Int) * 64 + (atB (bl s) k : Int) - 128 = (A' : Int) := by omega
            clear hA hA' hco
            go_wp2
            go_round
            case rel => exact ⟨k + 1, A', by omega, by omega, by go_num, (by first | rfl | rw [hA1]), hnext⟩
            case measure => simp [intOf]; omega
          · have hbad : Hid (¬ Good (bl s) 4 65536 r0) := fun g => hco (g.2.1 k hk1 hkn)
            clear hA
            by_cases k1 : atB (bl s) k < 128
            · have k2 : (atB (bl s) k : Int) < 128 := by omega
              go_wp2
              go_ret3
              exact ⟨ret_dv (hlead.out.2 hbad), rfl⟩
            · have k2 : (191 : Int) < (atB (bl s) k : Int) := by omega
              have k3 : (128 : Int) ≤ (atB (bl s) k : Int) := by omega
              go_wp2
              go_ret3
              exact ⟨ret_dv (hlead.out.2 hbad), rfl⟩
        · obtain rfl : k = 4 := by omega
          have hgood : Hid (Good (bl s) 4 65536 r0 ↔ (65536 ≤ A ∧ A ≤ 1114111 ∧ ¬ (55296 ≤ A ∧ A < 57344))) := by
            obtain ⟨a1, a2, a3⟩ := hA.out
            unfold Good Hid
            rw [← a1]
            exact ⟨fun g => g.2.2, fun g => ⟨by omega, a3, g⟩⟩
          have hA2 : Hid (A = acc (bl s) r0 (4 - 1)) := hA.out.1
          clear hA
          by_cases e1 : A < 65536
          · have hd := Go.Lib.hid (hlead.out.2 fun g => by have := (hgood.out).1 g; omega)
            clear hgood
            go_wp2
            go_ret3
            exact ⟨ret_dv hd.out, rfl⟩
          by_cases e2 : 1114111 < A
          · have hd := Go.Lib.hid (hlead.out.2 fun g => by have := (hgood.out).1 g; omega)
            clear hgood
            go_wp2
            go_ret3
            exact ⟨ret_dv hd.out, rfl⟩
          by_cases e3 : 55296 ≤ A
          · by_cases e4 : A < 57344
            · have hd := Go.Lib.hid (hlead.out.2 fun g => by have := (hgood.out).1 g; omega)
              clear hgood
              go_wp2 <;> (go_ret3; exact ⟨ret_dv hd.out, rfl⟩)
            · have hd := Go.Lib.hid (hlead.out.1 ((hgood.out).2 (by omega)))
              clear hgood
              go_wp2 <;> (go_ret3; exact ⟨ret_dv (by rw [hA2.out]; exact hd.out), rfl⟩)
          · have hd := Go.Lib.hid (hlead.out.1 ((hgood.out).2 (by omega)))
            clear hgood
            go_wp2 <;> (go_ret3; exact ⟨ret_dv (by rw [hA2.out]; exact hd.out), rfl⟩)

set_option maxRecDepth 100000 in
theorem decode_c (s : ByteArray) (w : World) (h0 : bl s ≠ []) (hm : s.size ≤ maxLen) :
    Calls Tryz.prog 61 #[.string s] w fun e w' => e = .returned (dv (dr (bl s)) (dw (bl s)) (okB (bl s))) ∧ w = w' := by
  have hp := ne_of_size h0
  have hc0 := at_get s 0 hp
  have hlt := atB_lt (bl s) 0
  have hsz := bl_size s
  unfold maxLen at hm
  have H0 := Go.Lib.hid h0; clear h0
  rcases Nat.lt_or_ge (atB (bl s) 0) 128 with c1 | c1
  · have hd := Go.Lib.hid (d_ascii (bl s) H0.out c1)
    have hc1 : (atB (bl s) 0 : Int) < 128 := by omega
    go_enter Tryz.func61, Tryz.ntmps61
    go_wp2_with fail
    go_ret3
    exact ⟨ret_dv hd.out, rfl⟩
  by_cases c2 : atB (bl s) 0 < 192 ∨ 248 ≤ atB (bl s) 0
  · have hd := Go.Lib.hid (d_none (bl s) H0.out c1 c2)
    have g1 : (128 : Int) ≤ (atB (bl s) 0 : Int) := by omega
    rcases c2 with c2 | c2
    · have g2 : (atB (bl s) 0 : Int) < 192 := by omega
      go_enter Tryz.func61, Tryz.ntmps61
      go_wp2_with fail
      go_ret3
      exact ⟨ret_dv hd.out, rfl⟩
    · have g2 : (248 : Int) ≤ (atB (bl s) 0 : Int) := by omega
      go_enter Tryz.func61, Tryz.ntmps61
      go_wp2_with fail
      go_ret3
      exact ⟨ret_dv hd.out, rfl⟩
  rcases Nat.lt_or_ge (atB (bl s) 0) 224 with c3 | c3
  · exact decode_2 s w H0.out hm (by omega) c3
  rcases Nat.lt_or_ge (atB (bl s) 0) 240 with c4 | c4
  · exact decode_3 s w H0.out hm c3 c4
  · exact decode_4 s w H0.out hm c4 (by omega)

end Go.Proofs.YtggokffdgjedgaaGreat

namespace Go.Proofs.YtggokffdgjedgaaGreat
open Go.RowKit

set_option maxRecDepth 100000 in
theorem rvalid_c (s : ByteArray) (w : World) (hm : s.size ≤ 1000000000) :
    Calls Tryz.prog 43 #[.string s] w fun e w' => e = .returned (.bool (wellB (toks (bl s)))) ∧ w = w' := by
  have hl1 := toks_length (bl s)
  rw [← bl_size] at hl1
  obtain ⟨T, hT⟩ : ∃ T, T = (toks (bl s)).length := ⟨_, rfl⟩
  rw [← hT] at hl1
  have HT := Go.Lib.hid hT; clear hT
  go_enter Tryz.func43, Tryz.ntmps43
  go_wp2
  go_loop [3] (fun u => ∃ (n p : Nat), n ≤ T ∧ u = .int .i64 (p : Int) ∧ p ≤ s.size ∧ Hid (p = posOf (bl s) n) ∧ Hid (wellB ((toks (bl s)).take n) = true)) (fun u => s.size - (intOf u).toNat)
  case atStart => exact ⟨0, 0, by omega, rfl, by omega, rfl, rfl⟩
  case round =>
    obtain ⟨n, p, hn, rfl, hps, hp, hwell⟩ := hrel
    by_cases hlt : n < T
    · have hT' : n < (toks (bl s)).length := by rw [← HT.out]; exact hlt
      have hne := drop_ne (bl s) n hT'
      rw [← hp.out] at hne
      have hplt : p < s.size := by
        rw [bl_size]
        exact Nat.lt_of_not_le fun hh => hne (List.drop_eq_nil_of_le hh)
      have hsz : (s.extract p s.size).size ≤ maxLen := by rw [ByteArray.size_extract]; unfold maxLen; omega
      have C := fun W => decode_c (s.extract p s.size) W (by rw [drop_bl]; exact hne) hsz
      rw [drop_bl] at C
      have hsucc := posOf_succ (bl s) n hT'
      have hwt := well_take (bl s) n hT'
      have hwf := well_false (bl s) n hT'
      have hple := posOf_le (bl s) (n + 1)
      rw [← bl_size] at hple
      rw [hwell.out, Bool.true_and] at hwt
      rw [← hp.out] at hsucc hwt hwf
      have hdw := (dw_le _ hne).1
      rw [hsucc] at hple
      clear hsz hne hwell
      unfold dv at C
      generalize (bl s).drop p = L at *
      have Hwt := Go.Lib.hid hwt; clear hwt
      have Hwf := Go.Lib.hid hwf; clear hwf
      have Hsucc := Go.Lib.hid hsucc; clear hsucc
      have HC := Go.Lib.hid C; clear C
      generalize dr L = r at HC
      generalize dw L = d at *
      cases ho : okB L with
      | true =>
        rw [ho] at HC
        go_wp2_with (refine (HC.out _).mono ?_; rintro e w1 ⟨rfl, rfl⟩)
        go_round
        case rel => exact ⟨n + 1, p + d, by omega, by go_num, by omega, Hsucc.out.symm, Hwt.out.trans ho⟩
        case measure => simp [intOf]; omega
      | false =>
        rw [ho] at HC
        go_wp2_with (refine (HC.out _).mono ?_; rintro e w1 ⟨rfl, rfl⟩)
        go_ret
        exact ⟨ret_of (congrArg Value.bool (Hwf.out ho).symm), rfl⟩
    · have hpe : p = s.size := by
        rw [hp.out, posOf_all (bl s) n (by rw [← HT.out]; omega), bl_size]
      have hall : Hid (wellB (toks (bl s)) = true) := by
        have := hwell.out
        rwa [List.take_of_length_le (by rw [← HT.out]; omega)] at this
      clear hp hwell
      subst hpe
      go_wp2
      go_ret
      exact ⟨ret_of (congrArg Value.bool hall.out.symm), rfl⟩

end Go.Proofs.YtggokffdgjedgaaGreat

namespace Go.Proofs.YtggokffdgjedgaaGreat
open Go.RowKit

/-- The same Kind, N, S. -/
def eqR (k1 n1 : Int) (s1 : ByteArray) (k2 n2 : Int) (s2 : ByteArray) : Bool := k1 == k2 && n1 == n2 && s1.toList == s2.toList
theorem eqR_iff (k1 n1 : Int) (s1 : ByteArray) (k2 n2 : Int) (s2 : ByteArray) : eqR k1 n1 s1 k2 n2 s2 = true ↔ k1 = k2 ∧ n1 = n2 ∧ s1 = s2 := by
  unfold eqR
  rw [Bool.and_eq_true, Bool.and_eq_true, beq_iff_eq, beq_iff_eq, beq_iff_eq, ByteArray.toList_eq, ByteArray.toList_eq, and_assoc]
  constructor
  · rintro ⟨h1, h2, h3⟩
    exact ⟨h1, h2, ByteArray.ext (Array.toList_inj.1 h3)⟩
  · rintro ⟨h1, h2, rfl⟩
    exact ⟨h1, h2, rfl⟩
theorem eqR_refl (k n : Int) (s : ByteArray) : eqR k n s k n s = true := (eqR_iff ..).2 ⟨rfl, rfl, rfl⟩

theorem below_one (w : World) (o : Obj) : Below w.heap.size w (w.alloc o) := (Below.refl _ w).alloc (Nat.le_refl _) o
theorem below_two (w : World) (o1 o2 : Obj) : Below w.heap.size w ((w.alloc o1).alloc o2) := (below_one w o1).alloc (below_one w o1).size o2

set_option maxRecDepth 100000 in
theorem eqval_c (k1 n1 : Int) (s1 : ByteArray) (k2 n2 : Int) (s2 : ByteArray) (w : World) :
    Calls Tryz.prog 34 #[rawV k1 n1 s1, rawV k2 n2 s2] w fun e w' => e = .returned (.bool (eqR k1 n1 s1 k2 n2 s2)) ∧ Below w.heap.size w w' := by
  unfold rawV
  by_cases h1 : k1 = k2
  · by_cases h2 : n1 = n2
    · have hr : Hid (eqR k1 n1 s1 k2 n2 s2 = (s1.toList == s2.toList)) := by unfold Hid eqR; simp [h1, h2]
      go_enter Tryz.func34, Tryz.ntmps34
      go_wp2_with fail
      go_ret
      exact ⟨ret_of (congrArg Value.bool (by first | exact hr.out.symm | (subst h1; subst h2; exact hr.out.symm))), below_two _ _ _⟩
    · have hr : Hid (eqR k1 n1 s1 k2 n2 s2 = false) := by unfold Hid eqR; simp [h1, h2]
      go_enter Tryz.func34, Tryz.ntmps34
      go_wp2_with fail
      go_ret
      exact ⟨ret_of (congrArg Value.bool (by first | exact hr.out.symm | (subst h1; exact hr.out.symm))), below_two _ _ _⟩
  · have hr : Hid (eqR k1 n1 s1 k2 n2 s2 = false) := by unfold Hid eqR; simp [h1]
    go_enter Tryz.func34, Tryz.ntmps34
    go_wp2_with fail
    go_ret
    exact ⟨ret_of (congrArg Value.bool hr.out.symm), below_two _ _ _⟩

/-- What may be a value. -/
def mayR (k n : Int) (s : ByteArray) : Bool := if k = 1 then s.toList.isEmpty else if k = 2 then n == 0 && decide (s.size ≤ 24) && wellB (toks (bl s)) else false

set_option maxRecDepth 100000 in
theorem mayval_c (k n : Int) (s : ByteArray) (w : World) (hm : s.size ≤ maxLen) :
    Calls Tryz.prog 26 #[rawV k n s] w fun e w' => e = .returned (.bool (mayR k n s)) ∧ Below w.heap.size w w' := by
  unfold rawV
  unfold maxLen at hm
  by_cases h1 : k = 1
  · subst h1
    go_enter Tryz.func26, Tryz.ntmps26
    go_wp2_with fail
    go_ret
    exact ⟨ret_of (congrArg Value.bool (by unfold mayR; simp)), below_one _ _⟩
  by_cases h2 : k = 2
  · subst h2
    by_cases h3 : n = 0
    · subst h3
      by_cases h4 : s.size ≤ 24
      · have C := Go.Lib.hid fun W => rvalid_c s W (by omega)
        go_enter Tryz.func26, Tryz.ntmps26
        go_wp2_with fail
        refine (C.out _).mono ?_
        rintro e w1 ⟨rfl, rfl⟩
        go_wp2_with fail
        go_ret
        exact ⟨ret_of (congrArg Value.bool (by unfold mayR; simp [h4])), below_one _ _⟩
      · go_enter Tryz.func26, Tryz.ntmps26
        go_wp2_with fail
        go_ret
        exact ⟨ret_of (congrArg Value.bool (by unfold mayR; simp [h4])), below_one _ _⟩
    · have h3' : (n == 0) = false := by simp [h3]
      go_enter Tryz.func26, Tryz.ntmps26
      go_wp2_with fail
      go_ret
      exact ⟨ret_of (congrArg Value.bool (by unfold mayR; simp [h3])), below_one _ _⟩
  · have h1' : (k == 1) = false := by simp [h1]
    have h2' : (k == 2) = false := by simp [h2]
    go_enter Tryz.func26, Tryz.ntmps26
    go_wp2_with fail
    go_ret
    exact ⟨ret_of (congrArg Value.bool (by unfold mayR; simp [h1, h2])), below_one _ _⟩

set_option maxRecDepth 100000 in
/-- The laws' 'Cut(r)'. -/
theorem vcut_c (k n : Int) (s : ByteArray) (w : World) (hm : s.size ≤ maxLen) :
    Calls Tryz.prog 42 #[rawV k n s] w fun e w' => e = .returned (rawV k n (str ((bl s).take 30))) ∧ Below w.heap.size w w' := by
  unfold rawV
  have C := Go.Lib.hid fun W => lcut_c s 30 W hm (by omega)
  clear hm
  go_enter Tryz.func42, Tryz.ntmps42
  go_wp2_with fail
  refine (C.out _).mono ?_
  rintro e w1 ⟨rfl, rfl⟩
  go_wp2_with fail
  refine bodyPost_ret (results_cell_row rfl _ _ (w.heap.size + 1) 31 #[.int .i64 k, .int .i64 n, .string (str ((bl s).take 30))] (0, 0) _ rfl (heap_alloc2_new w _ _) Tryz.underlying31 rfl (by kernel_rfl)) rfl ?_
  exact ⟨rfl, below_two _ _ _⟩

/-- A row and two more are what is answered. -/
theorem results_row_two {P : Program} {fn : Func} {p u v : Tmp} {ty : TypeId} (h : fn.results = #[.cell p ty, .tmp u, .tmp v]) (tmps : Array Value) (w : World) (g : Nat) (t : TypeId) (cs : Array Value) (fr : Nat × Nat) (d : TypeDesc)
    (hp : tmps.getD p undef = .pointer (some ⟨g, 0, none⟩)) (hg : w.heap[g]? = some (.cells cs t fr))
    (hu : P.underlying ty = some d) (hd : (match d with | .struct _ | .array _ _ => true | _ => false) = true) (hi : (P.info? ty).map (·.size) = some cs.size) :
    (results fn tmps).run P w = .ok (.tuple #[.agg cs, tmps.getD u undef, tmps.getD v undef]) w := by
  have hp' : tmps[p]?.getD undef = .pointer (some ⟨g, 0, none⟩) := by simpa using hp
  simp only [results, h]
  simp [Result.andThen, hp', asAddr, run_loadVar_row w g t ty cs fr d hg hu hd hi]

end Go.Proofs.YtggokffdgjedgaaGreat

namespace Go.Proofs.YtggokffdgjedgaaGreat
open Go.RowKit
open Go.Lib (uvarint zigzag)

/-! the plain functions -/
/-- What a zigzag number stands for. -/
def unzig (u : Nat) : Int := if u % 2 = 1 then -((u / 2 : Nat) : Int) - 1 else ((u / 2 : Nat) : Int)

/-- A number at the beginning of l, k bytes of it gone, u gathered: the number, its bytes, the error. -/
def getS : List UInt8 → Nat → Nat → Int × Nat × Int
  | [], _, _ => (0, 0, 2)
  | c :: r, k, u =>
    if k = 9 ∧ 1 < c.toNat then (0, 0, 1)
    else if 128 ≤ c.toNat then getS r (k + 1) (u + c.toNat % 128 * 128 ^ k)
    else if c.toNat = 0 ∧ 0 < k then (0, 0, 1)
    else (unzig (u + c.toNat * 128 ^ k), k + 1, 0)

def getB (l : List UInt8) : Int × Nat × Int := getS l 0 0

theorem getS_of (r : List UInt8) : ∀ (n x k u : Nat), x ≤ n → k ≤ 9 → x < 128 ^ (9 - k) * 2 → (0 < k → 0 < x) → getS (uvarint x ++ r) k u = (unzig (u + x * 128 ^ k), k + (uvarint x).length, 0) := by
  intro n
  induction n with
  | zero =>
    intro x k u hn hk hx hp
    obtain rfl : x = 0 := by omega
    have hk0 : k = 0 := by
      rcases Nat.eq_zero_or_pos k with h | h
      · exact h
      · exact absurd (hp h) (by omega)
    subst hk0
    rw [Go.Lib.uvarint_small (by omega)]
    simp [getS]
  | succ n ih =>
    intro x k u hn hk hx hp
    by_cases hs : x < 128
    · rw [Go.Lib.uvarint_small hs]
      have hc : (x.toUInt8).toNat = x := by simp; omega
      have h9 : ¬ (k = 9 ∧ 1 < x) := by
        rintro ⟨rfl, h⟩
        simp at hx
        omega
      have h0 : ¬ (x = 0 ∧ 0 < k) := by
        rintro ⟨h, h'⟩
        have := hp h'
        omega
      simp [getS, hc, h9, h0, show ¬ 128 ≤ x from by omega]
    · rw [Go.Lib.uvarint_big (by omega)]
      have hc : ((x % 128 + 128).toUInt8).toNat = x % 128 + 128 := by simp; omega
      have hk8 : k < 9 := by
        rcases Nat.lt_or_ge k 9 with h | h
        · exact h
        · obtain rfl : k = 9 := by omega
          simp at hx
          omega
      have hpow : 128 ^ (9 - k) = 128 * 128 ^ (9 - (k + 1)) := by
        rw [show 9 - k = (9 - (k + 1)) + 1 from by omega, Nat.pow_succ, Nat.mul_comm]
      have h2 : x / 128 < 128 ^ (9 - (k + 1)) * 2 := by
        rw [hpow, Nat.mul_assoc] at hx
        exact Nat.div_lt_of_lt_mul hx
      have := ih (x / 128) (k + 1) (u + x % 128 * 128 ^ k) (by omega) (by omega) h2 (fun _ => by omega)
      simp only [List.cons_append, getS, hc, show ¬ (k = 9 ∧ 1 < x % 128 + 128) from by omega, if_false, show 128 ≤ x % 128 + 128 from by omega, if_true, List.length_cons]
      rw [show (x % 128 + 128) % 128 = x % 128 from by omega, this]
      have e : u + x % 128 * 128 ^ k + x / 128 * 128 ^ (k + 1) = u + x * 128 ^ k := by
        rw [Nat.pow_succ, Nat.mul_comm (128 ^ k) 128, ← Nat.mul_assoc, Nat.add_assoc, ← Nat.add_mul]
        congr 2
        omega
      rw [e, show k + 1 + (uvarint (x / 128)).length = k + ((uvarint (x / 128)).length + 1) from by omega]

theorem unzig_zigzag (n : Int) : unzig (zigzag n) = n := by
  unfold unzig zigzag
  split <;> split <;> omega

/-- Whatever stands behind, the number comes back. -/
theorem getB_put (n : Int) (h0 : -9223372036854775808 ≤ n) (h1 : n ≤ 9223372036854775807) (r : List UInt8) : getB (uvarint (zigzag n) ++ r) = (n, (uvarint (zigzag n)).length, 0) := by
  have hz := Go.Lib.zigzag_lt h0 h1
  have := getS_of r (zigzag n) (zigzag n) 0 0 (Nat.le_refl _) (by omega) (by simpa using hz) (by omega)
  unfold getB
  rw [this]
  simp [unzig_zigzag]

/-- Cut off anywhere it is not all there. -/
theorem getS_cut : ∀ (n x k u j : Nat), x ≤ n → k ≤ 9 → x < 128 ^ (9 - k) * 2 → j < (uvarint x).length → getS ((uvarint x).take j) k u = (0, 0, 2) := by
  intro n
  induction n with
  | zero =>
    intro x k u j hn hk hx hj
    obtain rfl : x = 0 := by omega
    rw [Go.Lib.uvarint_small (by omega)] at hj ⊢
    obtain rfl : j = 0 := by simpa using hj
    simp [getS]
  | succ n ih =>
    intro x k u j hn hk hx hj
    by_cases hs : x < 128
    · rw [Go.Lib.uvarint_small hs] at hj ⊢
      obtain rfl : j = 0 := by simpa using hj
      simp [getS]
    · rw [Go.Lib.uvarint_big (by omega)] at hj ⊢
      have hc : ((x % 128 + 128).toUInt8).toNat = x % 128 + 128 := by simp; omega
      cases j with
      | zero => simp [getS]
      | succ j =>
        have hk8 : k < 9 := by
          rcases Nat.lt_or_ge k 9 with h | h
          · exact h
          · obtain rfl : k = 9 := by omega
            simp at hx
            omega
        have hpow : 128 ^ (9 - k) = 128 * 128 ^ (9 - (k + 1)) := by
          rw [show 9 - k = (9 - (k + 1)) + 1 from by omega, Nat.pow_succ, Nat.mul_comm]
        have h2 : x / 128 < 128 ^ (9 - (k + 1)) * 2 := by
          rw [hpow, Nat.mul_assoc] at hx
          exact Nat.div_lt_of_lt_mul hx
        simp only [List.length_cons] at hj
        have := ih (x / 128) (k + 1) (u + (x % 128 + 128) % 128 * 128 ^ k) j (by omega) (by omega) h2 (by omega)
        simp only [List.take_succ_cons, getS, hc, show ¬ (k = 9 ∧ 1 < x % 128 + 128) from by omega, if_false, show 128 ≤ x % 128 + 128 from by omega, if_true]
        exact this

theorem getB_cut (n : Int) (h0 : -9223372036854775808 ≤ n) (h1 : n ≤ 9223372036854775807) (j : Nat) (hj : j < (uvarint (zigzag n)).length) : getB ((uvarint (zigzag n)).take j) = (0, 0, 2) := by
  have hz := Go.Lib.zigzag_lt h0 h1
  exact getS_cut (zigzag n) (zigzag n) 0 0 j (Nat.le_refl _) (by omega) (by simpa using hz) hj

/-- What Get answers fits its kinds. -/
theorem getS_fits : ∀ (l : List UInt8) (k u : Nat), k ≤ 9 → u < 128 ^ k → -9223372036854775808 ≤ (getS l k u).1 ∧ (getS l k u).1 ≤ 9223372036854775807 ∧ (getS l k u).2.1 ≤ k + l.length ∧ ((getS l k u).2.2 = 0 ∨ (getS l k u).2.2 = 1 ∨ (getS l k u).2.2 = 2) ∧ ((getS l k u).2.2 = 0 → 1 ≤ (getS l k u).2.1) ∧ (getS l k u).2.1 ≤ 10 := by
  intro l
  induction l with
  | nil => intro k u _ _; simp [getS]
  | cons c r ih =>
    intro k u hk hu
    have hc : c.toNat < 256 := c.toNat_lt
    have hpow : 128 ^ k ≤ 128 ^ 9 := Nat.pow_le_pow_right (by omega) hk
    unfold getS
    split
    · simp
    · rename_i h9
      split
      · rename_i hbig
        have hk8 : k < 9 := by omega
        have hu' : u + c.toNat % 128 * 128 ^ k < 128 ^ (k + 1) := by
          rw [Nat.pow_succ]
          have : c.toNat % 128 * 128 ^ k ≤ 127 * 128 ^ k := Nat.mul_le_mul_right _ (by omega)
          omega
        have := ih (k + 1) _ (by omega) hu'
        simp only [List.length_cons]
        omega
      · split
        · simp
        · simp only [List.length_cons]
          have hb : u + c.toNat * 128 ^ k < 18446744073709551616 := by
            by_cases hk9 : k = 9
            · subst hk9
              have : c.toNat * 128 ^ 9 ≤ 1 * 128 ^ 9 := Nat.mul_le_mul_right _ (by omega)
              omega
            · have h8 : 128 ^ k ≤ 128 ^ 8 := Nat.pow_le_pow_right (by omega) (by omega)
              have : c.toNat * 128 ^ k ≤ 127 * 128 ^ k := Nat.mul_le_mul_right _ (by omega)
              omega
          unfold unzig
          refine ⟨?_, ?_, by omega, by simp, by simp, by omega⟩ <;> split <;> omega

theorem getB_fits (l : List UInt8) : -9223372036854775808 ≤ (getB l).1 ∧ (getB l).1 ≤ 9223372036854775807 ∧ (getB l).2.1 ≤ l.length ∧ ((getB l).2.2 = 0 ∨ (getB l).2.2 = 1 ∨ (getB l).2.2 = 2) ∧ ((getB l).2.2 = 0 → 1 ≤ (getB l).2.1) ∧ (getB l).2.1 ≤ 10 := by
  have := getS_fits l 0 0 (by omega) (by simp)
  unfold getB
  omega

/-- A text at the beginning of l. -/
def textB (l : List UInt8) : List UInt8 × Nat × Int :=
  if (getB l).2.2 ≠ 0 then ([], 0, (getB l).2.2)
  else if (getB l).1 < 0 ∨ 65536 < (getB l).1 then ([], 0, 1)
  else if l.length < (getB l).2.1 + (getB l).1.toNat then ([], 0, 2)
  else ((l.drop (getB l).2.1).take (getB l).1.toNat, (getB l).2.1 + (getB l).1.toNat, 0)

def putT (s : List UInt8) : List UInt8 := uvarint (zigzag s.length) ++ s

theorem textB_put (s r : List UInt8) (hs : s.length ≤ 65536) : textB (putT s ++ r) = (s, (putT s).length, 0) := by
  have h := getB_put (s.length : Int) (by omega) (by omega) (s ++ r)
  unfold putT textB
  rw [List.append_assoc, h]
  simp only [List.length_append]
  rw [if_neg (by simp), if_neg (by omega), if_neg (by omega)]
  simp

theorem textB_cut (s : List UInt8) (hs : s.length ≤ 65536) (j : Nat) (hj : j < (putT s).length) : textB ((putT s).take j) = ([], 0, 2) := by
  unfold putT at hj ⊢
  rw [List.length_append] at hj
  by_cases hc : j < (uvarint (zigzag s.length)).length
  · have h := getB_cut (s.length : Int) (by omega) (by omega) j hc
    rw [List.take_append_of_le_length (by omega)]
    unfold textB
    rw [h]
    simp
  · have h := getB_put (s.length : Int) (by omega) (by omega) (s.take (j - (uvarint (zigzag s.length)).length))
    rw [List.take_append, List.take_of_length_le (by omega)]
    unfold textB
    rw [h]
    simp only [List.length_append, List.length_take]
    rw [if_neg (by simp), if_neg (by omega), if_pos (by omega)]

end Go.Proofs.YtggokffdgjedgaaGreat

namespace Go.Proofs.YtggokffdgjedgaaGreat
open Go.RowKit
open Go.Lib (uvarint zigzag)

theorem i64_not_all (n : Int) (h0 : -9223372036854775808 ≤ n) (h1 : n ≤ 9223372036854775807) : bits .xor .i64 (-1) n = -n - 1 := by
  show IntKind.i64.wrap ((BitVec.ofInt 64 (-1) ^^^ BitVec.ofInt 64 n).toNat : Int) = _
  have e1 : BitVec.ofInt 64 (-1) = BitVec.allOnes 64 := by decide
  have e2 : BitVec.allOnes 64 ^^^ BitVec.ofInt 64 n = ~~~ (BitVec.ofInt 64 n) := by rw [BitVec.allOnes_xor]
  rw [e1, e2, BitVec.toNat_not, BitVec.toNat_ofInt, IntKind.wrap_i64]
  omega

theorem unsigned_neg (n : Int) (h0 : -9223372036854775808 ≤ n) (hn : n < 0) :
    bits BinOp.or IntKind.u64 (IntKind.u64.wrap (IntKind.u64.wrap (bits BinOp.xor IntKind.i64 (-1) n) * 2)) 1 = ((zigzag n : Nat) : Int) := by
  rw [i64_not_all n h0 (by omega), IntKind.wrap_u64, IntKind.wrap_u64]
  have e : (-n - 1) % 18446744073709551616 * 2 % 18446744073709551616 = 2 * (-n - 1) := by omega
  rw [e, bits_join .u64 64 (by decide) wraps_u64 1 _ _ (by omega) (by omega) (by omega) (by omega) (by omega) (by omega)]
  unfold Go.Lib.zigzag
  rw [if_neg (by omega)]
  omega

end Go.Proofs.YtggokffdgjedgaaGreat

namespace Go.Proofs.YtggokffdgjedgaaGreat
open Go.RowKit
open Go.Lib (uvarint zigzag)

/-- What Get answers, as values. -/
def gv (r : Int × Nat × Int) : Value := .tuple #[.int .i64 r.1, .int .i64 (r.2.1 : Int), .int .i64 r.2.2]

theorem getS_step (l : List UInt8) (k u : Nat) (h : k < l.length) : getS (l.drop k) k u =
    if k = 9 ∧ 1 < l[k].toNat then (0, 0, 1)
    else if 128 ≤ l[k].toNat then getS (l.drop (k + 1)) (k + 1) (u + l[k].toNat % 128 * 128 ^ k)
    else if l[k].toNat = 0 ∧ 0 < k then (0, 0, 1)
    else (unzig (u + l[k].toNat * 128 ^ k), k + 1, 0) := by
  rw [List.drop_eq_getElem_cons h, getS]

set_option maxRecDepth 100000 in
theorem gather (acc c k : Nat) (hk : k ≤ 9) (hc : c < 256) (hacc : acc < 128 ^ k) (hck : k = 9 → c % 128 ≤ 1) :
    bits BinOp.or IntKind.u64 (acc : Int) (IntKind.u64.wrap (IntKind.u64.wrap (bits BinOp.and IntKind.u8 (c : Int) 127) * 2 ^ (7 * k))) = ((acc + c % 128 * 128 ^ k : Nat) : Int) ∧ acc + c % 128 * 128 ^ k < 18446744073709551616 := by
  have hp : (2 : Nat) ^ (7 * k) = 128 ^ k := by rw [Nat.pow_mul]
  have hlt : c % 128 * 128 ^ k + 128 ^ k ≤ 18446744073709551616 := by
    clear hp
    by_cases h9 : k = 9
    · have := hck h9
      subst h9
      have h99 : (128 : Nat) ^ 9 = 9223372036854775808 := by decide
      rw [h99]
      clear hacc hck hk
      omega
    · have h8 : 128 ^ k ≤ 128 ^ 8 := Nat.pow_le_pow_right (by omega) (by omega)
      have : c % 128 * 128 ^ k ≤ 127 * 128 ^ k := Nat.mul_le_mul_right _ (by omega)
      omega
  have e1 : IntKind.u64.wrap (bits BinOp.and IntKind.u8 (c : Int) 127) = ((c % 128 : Nat) : Int) := by
    rw [u8_and127 _ (by omega) (by omega), IntKind.wrap_u64]; omega
  have e2 : ((c % 128 : Nat) : Int) * 2 ^ (7 * k) = ((c % 128 * 128 ^ k : Nat) : Int) := by
    rw [← hp]; simp
  have e3 : IntKind.u64.wrap ((c % 128 * 128 ^ k : Nat) : Int) = ((c % 128 * 128 ^ k : Nat) : Int) := by
    rw [IntKind.wrap_u64]
    have hpos : 0 < 128 ^ k := Nat.pow_pos (by omega)
    omega
  have hpos : 0 < 128 ^ k := Nat.pow_pos (by omega)
  rw [e1, e2, e3]
  refine ⟨?_, by omega⟩
  have hmod : ((c % 128 * 128 ^ k : Nat) : Int) % 2 ^ (7 * k) = 0 := by
    have : (c % 128 * 128 ^ k) % 2 ^ (7 * k) = 0 := by rw [hp]; exact Nat.mul_mod_left _ _
    exact_mod_cast this
  have hlow : ((acc : Nat) : Int) < 2 ^ (7 * k) := by
    have : acc < 2 ^ (7 * k) := by rw [hp]; exact hacc
    exact_mod_cast this
  rw [bits_join_low .u64 64 (by decide) wraps_u64 (7 * k) _ _ (by omega) hlow (by omega) (by omega) hmod (by omega)]
  simp

theorem gather_next (acc c k : Nat) (hacc : acc < 128 ^ k) : acc + c % 128 * 128 ^ k < 128 ^ (k + 1) := by
  rw [Nat.pow_succ]
  have : c % 128 * 128 ^ k ≤ 127 * 128 ^ k := Nat.mul_le_mul_right _ (by omega)
  omega

theorem gather2 (acc c k W : Nat) (hW : W = 128 ^ k) (hk : k ≤ 9) (hc : c < 256) (hacc : acc < 128 ^ k) (hck : k = 9 → c % 128 ≤ 1) :
    IntKind.u64.wrap ((acc : Int) + IntKind.u64.wrap ((c : Int) % 128 * (W : Int))) = ((acc + c % 128 * 128 ^ k : Nat) : Int) ∧ acc + c % 128 * 128 ^ k < 18446744073709551616 := by
  have h := (gather acc c k hk hc hacc hck).2
  have e2 : (c : Int) % 128 * (W : Int) = ((c % 128 * 128 ^ k : Nat) : Int) := by
    rw [hW]; simp
  refine ⟨?_, h⟩
  have hpos : 0 < 128 ^ k := Nat.pow_pos (by omega)
  rw [e2]
  generalize c % 128 * 128 ^ k = q at h ⊢
  rw [IntKind.wrap_u64, IntKind.wrap_u64]
  omega

theorem nextW (k W : Nat) (hW : W = 128 ^ k) (hk : k < 9) : IntKind.u64.wrap ((W : Int) * 128) = ((W * 128 : Nat) : Int) ∧ W * 128 < 18446744073709551616 ∧ W * 128 = 128 ^ (k + 1) := by
  have h8 : 128 ^ k ≤ 128 ^ 8 := Nat.pow_le_pow_right (by omega) (by omega)
  rw [← hW] at h8
  have h88 : (128 : Nat) ^ 8 = 72057594037927936 := by decide
  rw [h88] at h8
  refine ⟨?_, by omega, by rw [hW, Nat.pow_succ]⟩
  rw [IntKind.wrap_u64]
  omega

theorem ret_gv {e : Ending} {r s : Int × Nat × Int} (he : e = .returned (gv r)) (h : r = s) : e = .returned (gv s) := by rw [he, h]

end Go.Proofs.YtggokffdgjedgaaGreat
