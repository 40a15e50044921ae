/-
  The reference's own decoding: what it looks at, and that it is what a range tells.
  What Decode and At answer.
  The contract of the reference's Decode.
  The contract of the reference's Valid.
  Values: contracts of the reference's EqVal, MayVal, of the laws' Cut.
  Package num: what each function answers, as plain functions on numbers and bytes, and the contracts of the Go functions that say so.
  Contracts of package num's functions and of the reference's.
  Contracts of Get and GetText, the program's and the reference's.
  Contracts of GetText, the program's and the reference's, and of the law's own numbers.
  Values as bytes: what is written, what is told again, and the contracts of the reference's PutVal, GetVal.
  Records: contracts of the reference's May, Eq, Bytes.
  Mathematics of stage 10 (of no code): rows that rise by their keys, and what the last of each key is.
-/
import Derived.Test.YthbnecdeebmlhaaGreatM01
import Derived.Laws.DeepNot64
import Derived.Lib.VarintBits
namespace Go.Proofs.YthbnecdeebmlhaaGreat
open Go.RowKit

def atB (l : List UInt8) (k : Nat) : Nat := (l.getD k 0).toNat
theorem atB_lt (l : List UInt8) (k : Nat) : atB l k < 256 := (l.getD k 0).toNat_lt

/-- How many bytes a first byte asks for, the least rune, and what it brings itself. -/
def Lead (c n low r0 : Nat) : Prop := (192 ≤ c ∧ c < 224 ∧ n = 2 ∧ low = 128 ∧ r0 = c - 192) ∨ (224 ≤ c ∧ c < 240 ∧ n = 3 ∧ low = 2048 ∧ r0 = c - 224) ∨ (240 ≤ c ∧ c < 248 ∧ n = 4 ∧ low = 65536 ∧ r0 = c - 240)
/-- What k further bytes make. -/
def acc (l : List UInt8) (r0 : Nat) : Nat → Nat
  | 0 => r0
  | k + 1 => acc l r0 k * 64 + atB l (k + 1) % 64
def Conts (l : List UInt8) (n : Nat) : Prop := ∀ j, 1 ≤ j → j < n → 128 ≤ atB l j ∧ atB l j ≤ 191
/-- A rune of n bytes stands there. -/
def Good (l : List UInt8) (n low r0 : Nat) : Prop := n ≤ l.length ∧ Conts l n ∧ low ≤ acc l r0 (n - 1) ∧ acc l r0 (n - 1) ≤ 1114111 ∧ ¬ (55296 ≤ acc l r0 (n - 1) ∧ acc l r0 (n - 1) < 57344)

theorem dr_eq (l : List UInt8) {a b : Nat} (h : Utf8.decode (str l) 0 = (a, b)) : dr l = a ∧ dw l = b := by
  unfold dr dw
  rw [h]
  exact ⟨rfl, rfl⟩

theorem d_ascii (l : List UInt8) (hl : l ≠ []) (h : atB l 0 < 128) : dr l = atB l 0 ∧ dw l = 1 ∧ okB l = true := by
  have key : Utf8.decode (str l) 0 = (atB l 0, 1) := by
    unfold atB at h
    unfold Utf8.decode
    simp only [get_str, str_size, if_pos h]
    rfl
  obtain ⟨h1, h2⟩ := dr_eq l key
  refine ⟨h1, h2, ?_⟩
  cases ho : okB l with
  | true => rfl
  | false =>
    have := (okB_false ho hl).1
    omega

theorem d_bad (l : List UInt8) (hl : l ≠ []) (h : 128 ≤ atB l 0) (hd : Utf8.decode (str l) 0 = (65533, 1)) : dr l = 65533 ∧ dw l = 1 ∧ okB l = false := by
  obtain ⟨h1, h2⟩ := dr_eq l hd
  exact ⟨h1, h2, (okB_bad hl h2 h).1⟩

theorem d_good (l : List UInt8) (hl : l ≠ []) {r n : Nat} (hn : 2 ≤ n) (hd : Utf8.decode (str l) 0 = (r, n)) : dr l = r ∧ dw l = n ∧ okB l = true := by
  obtain ⟨h1, h2⟩ := dr_eq l hd
  refine ⟨h1, h2, ?_⟩
  cases ho : okB l with
  | true => rfl
  | false =>
    have := (okB_false ho hl).2
    omega

theorem cont_iff (l : List UInt8) (k : Nat) : (decide (0 + k < l.length) && (l.getD k 0).toNat / 64 == 2) = true ↔ k < l.length ∧ 128 ≤ atB l k ∧ atB l k ≤ 191 := by
  rw [Bool.and_eq_true, decide_eq_true_eq, beq_iff_eq]
  unfold atB
  omega

theorem d_none (l : List UInt8) (hl : l ≠ []) (h : 128 ≤ atB l 0) (h2 : atB l 0 < 192 ∨ 248 ≤ atB l 0) : dr l = 65533 ∧ dw l = 1 ∧ okB l = false := by
  refine d_bad l hl h ?_
  unfold atB at h h2
  unfold Utf8.decode
  simp only [get_str, str_size]
  rw [if_neg (by omega), if_neg (by rw [Bool.and_eq_true, beq_iff_eq]; omega), if_neg (by rw [Bool.and_eq_true, Bool.and_eq_true, beq_iff_eq]; omega), if_neg (by rw [Bool.and_eq_true, Bool.and_eq_true, Bool.and_eq_true, beq_iff_eq]; omega)]
  rfl

theorem good_of (l : List UInt8) (n low r0 A : Nat) (h : acc l r0 (n - 1) = A) (h1 : n ≤ l.length) (h2 : Conts l n) (h3 : low ≤ A) (h4 : A < 55296 ∨ (57344 ≤ A ∧ A ≤ 1114111)) : Good l n low r0 := by
  subst h
  exact ⟨h1, h2, h3, by omega, by omega⟩

set_option maxRecDepth 100000 in
theorem d_lead (l : List UInt8) (hl : l ≠ []) (n low r0 : Nat) (h : Lead (atB l 0) n low r0) :
    (Good l n low r0 → dr l = acc l r0 (n - 1) ∧ dw l = n ∧ okB l = true) ∧ (¬ Good l n low r0 → dr l = 65533 ∧ dw l = 1 ∧ okB l = false) := by
  have hc := atB_lt l 0
  rcases h with ⟨c0, c1, rfl, rfl, rfl⟩ | ⟨c0, c1, rfl, rfl, rfl⟩ | ⟨c0, c1, rfl, rfl, rfl⟩
  · have hC : Conts l 2 ↔ 128 ≤ atB l 1 ∧ atB l 1 ≤ 191 := ⟨fun H => H 1 (by omega) (by omega), fun H j j1 j2 => (by omega : 1 = j) ▸ H⟩
    have hA : acc l (atB l 0 - 192) 1 = (atB l 0 - 192) * 64 + atB l 1 % 64 := rfl
    have hE : (l.getD 0 0).toNat % 32 * 64 + (l.getD 1 0).toNat % 64 = acc l (atB l 0 - 192) 1 := by rw [hA]; unfold atB at *; omega
    constructor
    · intro g
      obtain ⟨g1, g2, g3, g4, g5⟩ := g
      rw [hC] at g2
      simp only [Nat.reduceSub] at g3 g4 g5
      refine d_good l hl (by omega) ?_
      unfold Utf8.decode
      simp only [get_str, str_size]
      rw [if_neg (by unfold atB at c0; omega), if_pos (by rw [Bool.and_eq_true, cont_iff, beq_iff_eq]; unfold atB at *; omega), hE, if_pos g3]
    · intro g
      refine d_bad l hl (by omega) ?_
      unfold Utf8.decode
      simp only [get_str, str_size]
      rw [if_neg (by unfold atB at c0; omega)]
      by_cases hk : 1 < l.length ∧ 128 ≤ atB l 1 ∧ atB l 1 ≤ 191
      · rw [if_pos (by rw [Bool.and_eq_true, cont_iff, beq_iff_eq]; unfold atB at *; omega), hE, if_neg (fun hx => g ⟨hk.1, hC.2 hk.2, hx, by show acc l (atB l 0 - 192) 1 ≤ _; omega, by show ¬ (_ ≤ acc l (atB l 0 - 192) 1 ∧ acc l (atB l 0 - 192) 1 < _); omega⟩)]
        rfl
      · rw [if_neg (by rw [Bool.and_eq_true, cont_iff]; exact fun hx => hk hx.2), if_neg (by rw [Bool.and_eq_true, Bool.and_eq_true, beq_iff_eq]; unfold atB at *; omega), if_neg (by rw [Bool.and_eq_true, Bool.and_eq_true, Bool.and_eq_true, beq_iff_eq]; unfold atB at *; omega)]
        rfl
  · have hC : Conts l 3 ↔ (128 ≤ atB l 1 ∧ atB l 1 ≤ 191) ∧ (128 ≤ atB l 2 ∧ atB l 2 ≤ 191) := ⟨fun H => ⟨H 1 (by omega) (by omega), H 2 (by omega) (by omega)⟩, fun H j j1 j2 => by
      rcases (by omega : j = 1 ∨ j = 2) with rfl | rfl
      · exact H.1
      · exact H.2⟩
    have hA : acc l (atB l 0 - 224) 2 = ((atB l 0 - 224) * 64 + atB l 1 % 64) * 64 + atB l 2 % 64 := rfl
    have hE : (l.getD 0 0).toNat % 16 * 4096 + (l.getD 1 0).toNat % 64 * 64 + (l.getD 2 0).toNat % 64 = acc l (atB l 0 - 224) 2 := by rw [hA]; unfold atB at *; omega
    have hvv := valid_iff (acc l (atB l 0 - 224) 2)
    constructor
    · intro g
      obtain ⟨g1, g2, g3, g4, g5⟩ := g
      rw [hC] at g2
      simp only [Nat.reduceSub] at g3 g4 g5
      refine d_good l hl (by omega) ?_
      unfold Utf8.decode
      simp only [get_str, str_size]
      rw [if_neg (by unfold atB at c0; omega), if_neg (by rw [Bool.and_eq_true, beq_iff_eq]; unfold atB at *; omega), if_pos (by rw [Bool.and_eq_true, Bool.and_eq_true, cont_iff, cont_iff, beq_iff_eq]; unfold atB at *; omega), hE, if_pos (by rw [Bool.and_eq_true, decide_eq_true_eq]; exact ⟨g3, hvv.2 (by omega)⟩)]
    · intro g
      refine d_bad l hl (by omega) ?_
      unfold Utf8.decode
      simp only [get_str, str_size]
      rw [if_neg (by unfold atB at c0; omega), if_neg (by rw [Bool.and_eq_true, beq_iff_eq]; unfold atB at *; omega)]
      by_cases hk : (1 < l.length ∧ 128 ≤ atB l 1 ∧ atB l 1 ≤ 191) ∧ (2 < l.length ∧ 128 ≤ atB l 2 ∧ atB l 2 ≤ 191)
      · rw [if_pos (by rw [Bool.and_eq_true, Bool.and_eq_true, cont_iff, cont_iff, beq_iff_eq]; unfold atB at *; omega), hE, if_neg (fun hx => by
          rw [Bool.and_eq_true, decide_eq_true_eq, hvv] at hx
          exact g (good_of l 3 2048 _ _ rfl hk.2.1 (hC.2 ⟨hk.1.2, hk.2.2⟩) hx.1 hx.2))]
        rfl
      · rw [if_neg (by rw [Bool.and_eq_true, Bool.and_eq_true, cont_iff, cont_iff]; exact fun hx => hk ⟨hx.1.2, hx.2⟩), if_neg (by rw [Bool.and_eq_true, Bool.and_eq_true, Bool.and_eq_true, beq_iff_eq]; unfold atB at *; omega)]
        rfl
  · have hC : Conts l 4 ↔ (128 ≤ atB l 1 ∧ atB l 1 ≤ 191) ∧ (128 ≤ atB l 2 ∧ atB l 2 ≤ 191) ∧ (128 ≤ atB l 3 ∧ atB l 3 ≤ 191) := ⟨fun H => ⟨H 1 (by omega) (by omega), H 2 (by omega) (by omega), H 3 (by omega) (by omega)⟩, fun H j j1 j2 => by
      rcases (by omega : j = 1 ∨ j = 2 ∨ j = 3) with rfl | rfl | rfl
      · exact H.1
      · exact H.2.1
      · exact H.2.2⟩
    have hA : acc l (atB l 0 - 240) 3 = (((atB l 0 - 240) * 64 + atB l 1 % 64) * 64 + atB l 2 % 64) * 64 + atB l 3 % 64 := rfl
    have hE : (l.getD 0 0).toNat % 8 * 262144 + (l.getD 1 0).toNat % 64 * 4096 + (l.getD 2 0).toNat % 64 * 64 + (l.getD 3 0).toNat % 64 = acc l (atB l 0 - 240) 3 := by rw [hA]; unfold atB at *; omega
    have hvv := valid_iff (acc l (atB l 0 - 240) 3)
    constructor
    · intro g
      obtain ⟨g1, g2, g3, g4, g5⟩ := g
      rw [hC] at g2
      simp only [Nat.reduceSub] at g3 g4 g5
      refine d_good l hl (by omega) ?_
      unfold Utf8.decode
      simp only [get_str, str_size]
      rw [if_neg (by unfold atB at c0; omega), if_neg (by rw [Bool.and_eq_true, beq_iff_eq]; unfold atB at *; omega), if_neg (by rw [Bool.and_eq_true, Bool.and_eq_true, beq_iff_eq]; unfold atB at *; omega), if_pos (by rw [Bool.and_eq_true, Bool.and_eq_true, Bool.and_eq_true, cont_iff, cont_iff, cont_iff, beq_iff_eq]; unfold atB at *; omega), hE, if_pos (by rw [Bool.and_eq_true, decide_eq_true_eq]; exact ⟨g3, hvv.2 (by omega)⟩)]
    · intro g
      refine d_bad l hl (by omega) ?_
      unfold Utf8.decode
      simp only [get_str, str_size]
      rw [if_neg (by unfold atB at c0; omega), if_neg (by rw [Bool.and_eq_true, beq_iff_eq]; unfold atB at *; omega), if_neg (by rw [Bool.and_eq_true, Bool.and_eq_true, beq_iff_eq]; unfold atB at *; omega)]
      by_cases hk : (1 < l.length ∧ 128 ≤ atB l 1 ∧ atB l 1 ≤ 191) ∧ (2 < l.length ∧ 128 ≤ atB l 2 ∧ atB l 2 ≤ 191) ∧ (3 < l.length ∧ 128 ≤ atB l 3 ∧ atB l 3 ≤ 191)
      · rw [if_pos (by rw [Bool.and_eq_true, Bool.and_eq_true, Bool.and_eq_true, cont_iff, cont_iff, cont_iff, beq_iff_eq]; unfold atB at *; omega), hE, if_neg (fun hx => by
          rw [Bool.and_eq_true, decide_eq_true_eq, hvv] at hx
          exact g (good_of l 4 65536 _ _ rfl hk.2.2.1 (hC.2 ⟨hk.1.2, hk.2.1.2, hk.2.2.2⟩) hx.1 hx.2))]
        rfl
      · rw [if_neg (by rw [Bool.and_eq_true, Bool.and_eq_true, Bool.and_eq_true, cont_iff, cont_iff, cont_iff]; exact fun hx => hk ⟨hx.1.1.2, hx.1.2, hx.2⟩)]
        rfl

end Go.Proofs.YthbnecdeebmlhaaGreat

namespace Go.Proofs.YthbnecdeebmlhaaGreat
open Go.RowKit

def dv (r n : Nat) (ok : Bool) : Value := .tuple #[.int .i32 (r : Int), .int .i64 (n : Int), .bool ok]

end Go.Proofs.YthbnecdeebmlhaaGreat

namespace Go.Proofs.YthbnecdeebmlhaaGreat
open Go.RowKit

theorem at_get (s : ByteArray) (j : Nat) (h : j < s.size) : (s[j]'h).toNat = atB (bl s) j := by
  have h' : j < (bl s).length := by rw [← bl_size]; exact h
  unfold atB
  rw [List.getD_eq_getElem?_getD, List.getElem?_eq_getElem h', Option.getD_some]
  rfl

theorem ret_dv {r r' n n' : Nat} {ok ok' : Bool} (h : r' = r ∧ n' = n ∧ ok' = ok) : Ending.returned (.tuple #[.int .i32 (r : Int), .int .i64 (n : Int), .bool ok]) = .returned (dv r' n' ok') := by
  obtain ⟨rfl, rfl, rfl⟩ := h
  rfl

theorem conts_more {l : List UInt8} {k : Nat} (h : Conts l k) (hk : 128 ≤ atB l k ∧ atB l k ≤ 191) : Conts l (k + 1) := by
  intro j h1 h2
  rcases Nat.lt_or_ge j k with h3 | h3
  · exact h j h1 h3
  · obtain rfl : j = k := by omega
    exact hk

theorem acc_more (l : List UInt8) (r0 k : Nat) (hk : 1 ≤ k) : acc l r0 k = acc l r0 (k - 1) * 64 + atB l k % 64 := by
  obtain ⟨m, rfl⟩ : ∃ m, k = m + 1 := ⟨k - 1, by omega⟩
  rfl

/-- How great it is by now. -/
def Small (A k : Nat) : Prop := (A < 32 ∧ k = 1) ∨ (A < 2048 ∧ k = 2) ∨ (A < 131072 ∧ k = 3) ∨ (A < 8388608 ∧ k = 4)

theorem ne_of_size {s : ByteArray} (h : bl s ≠ []) : 0 < s.size := by rw [bl_size]; exact List.length_pos_iff.2 h

set_option maxHeartbeats 2000000 in
set_option maxRecDepth 100000 in
theorem decode_2 (s : ByteArray) (w : World) (h0 : bl s ≠ []) (hm : s.size ≤ maxLen) (c3 : 192 ≤ atB (bl s) 0) (c4 : atB (bl s) 0 < 224) :
    Calls Tryz.prog 106 #[.string s] w fun e w' => e = .returned (dv (dr (bl s)) (dw (bl s)) (okB (bl s))) ∧ w = w' := by
    have hp := ne_of_size h0
    have hc0 := at_get s 0 hp
    have hlt := atB_lt (bl s) 0
    have hsz := bl_size s
    unfold maxLen at hm
    have H0 := Go.Lib.hid h0; clear h0
    have hlead := Go.Lib.hid (d_lead (bl s) H0.out 2 128 (atB (bl s) 0 - 192) (by unfold Lead; omega))
    have g2 : (192 : Int) ≤ (atB (bl s) 0 : Int) := by omega
    have g3 : (atB (bl s) 0 : Int) < 224 := by omega
    rcases Nat.lt_or_ge s.size 2 with hn | hn
    · go_enter Tryz.func106, Tryz.ntmps106
      go_wp2_with fail
      go_ret3
      exact ⟨ret_dv (hlead.out.2 fun g => by have := g.1; omega), rfl⟩
    · obtain ⟨r0, hr0⟩ : ∃ r0, r0 = atB (bl s) 0 - 192 := ⟨_, rfl⟩
      have hr1 : (atB (bl s) 0 : Int) - 192 = (r0 : Int) := by omega
      rw [← hr0] at hlead
      have hr2 : r0 < 32 := by omega
      clear hr0 hlt c3 c4
      go_enter Tryz.func106, Tryz.ntmps106
      go_wp2_with fail
      clear hr1 g2 g3
      go_loop [8, 9] (fun r i => ∃ k A : Nat, 1 ≤ k ∧ k ≤ 2 ∧ i = .int .i64 (k : Int) ∧ r = .int .i32 (A : Int) ∧ Hid (A = acc (bl s) r0 (k - 1) ∧ Small A k ∧ Conts (bl s) k)) (fun _ i => 2 - (intOf i).toNat)
      case atStart => exact ⟨1, r0, by omega, by omega, rfl, rfl, rfl, by unfold Small; omega, fun j h1 h2 => by omega⟩
      case round =>
        obtain ⟨k, A, hk1, hk2, rfl, rfl, hA⟩ := hrel
        by_cases hkn : k < 2
        · have hks : k < s.size := by omega
          have hck := at_get s k hks
          have hclt := atB_lt (bl s) k
          have hAs : A < 131072 := by
            have := hA.out.2.1
            unfold Small at this
            omega
          by_cases hco : 128 ≤ atB (bl s) k ∧ atB (bl s) k ≤ 191
          · have k1 : (128 : Int) ≤ (atB (bl s) k : Int) := by omega
            have k2 : (atB (bl s) k : Int) ≤ 191 := by omega
            have hnext : Hid ((A * 64 + atB (bl s) k - 128 : Nat) = acc (bl s) r0 (k + 1 - 1) ∧ Small (A * 64 + atB (bl s) k - 128) (k + 1) ∧ Conts (bl s) (k + 1)) := by
              obtain ⟨a1, a2, a3⟩ := hA.out
              refine ⟨?_, ?_, conts_more a3 hco⟩
              · rw [Nat.add_sub_cancel, acc_more _ _ _ hk1, ← a1]; omega
              · unfold Small at a2 ⊢; omega
            obtain ⟨A', hA'⟩ : ∃ A', A' = A * 64 + atB (bl s) k - 128 := ⟨_, rfl⟩
            rw [← hA'] at hnext
            have hA1 : (A : Int) * 64 + (atB (bl s) k : Int) - 128 = (A' : Int) := by omega
            clear hA hA' hco
            go_wp2
            go_round
            case rel => exact ⟨k + 1, A', by omega, by omega, by go_num, (by first | rfl | rw [hA1]), hnext⟩
            case measure => simp [intOf]; omega
          · have hbad : Hid (¬ Good (bl s) 2 128 r0) := fun g => hco (g.2.1 k hk1 hkn)
            clear hA
            by_cases k1 : atB (bl s) k < 128
            · have k2 : (atB (bl s) k : Int) < 128 := by omega
              go_wp2
              go_ret3
              exact ⟨ret_dv (hlead.out.2 hbad), rfl⟩
            · have k2 : (191 : Int) < (atB (bl s) k : Int) := by omega
              have k3 : (128 : Int) ≤ (atB (bl s) k : Int) := by omega
              go_wp2
              go_ret3
              exact ⟨ret_dv (hlead.out.2 hbad), rfl⟩
        · obtain rfl : k = 2 := by omega
          have hgood : Hid (Good (bl s) 2 128 r0 ↔ (128 ≤ A ∧ A ≤ 1114111 ∧ ¬ (55296 ≤ A ∧ A < 57344))) := by
            obtain ⟨a1, a2, a3⟩ := hA.out
            unfold Good Hid
            rw [← a1]
            exact ⟨fun g => g.2.2, fun g => ⟨by omega, a3, g⟩⟩
          have hA2 : Hid (A = acc (bl s) r0 (2 - 1)) := hA.out.1
          clear hA
          by_cases e1 : A < 128
          · have hd := Go.Lib.hid (hlead.out.2 fun g => by have := (hgood.out).1 g; omega)
            clear hgood
            go_wp2
            go_ret3
            exact ⟨ret_dv hd.out, rfl⟩
          by_cases e2 : 1114111 < A
          · have hd := Go.Lib.hid (hlead.out.2 fun g => by have := (hgood.out).1 g; omega)
            clear hgood
            go_wp2
            go_ret3
            exact ⟨ret_dv hd.out, rfl⟩
          by_cases e3 : 55296 ≤ A
          · by_cases e4 : A < 57344
            · have hd := Go.Lib.hid (hlead.out.2 fun g => by have := (hgood.out).1 g; omega)
              clear hgood
              go_wp2 <;> (go_ret3; exact ⟨ret_dv hd.out, rfl⟩)
            · have hd := Go.Lib.hid (hlead.out.1 ((hgood.out).2 (by omega)))
              clear hgood
              go_wp2 <;> (go_ret3; exact ⟨ret_dv (by rw [hA2.out]; exact hd.out), rfl⟩)
          · have hd := Go.Lib.hid (hlead.out.1 ((hgood.out).2 (by omega)))
            clear hgood
            go_wp2 <;> (go_ret3; exact ⟨ret_dv (by rw [hA2.out]; exact hd.out), rfl⟩)

set_option maxHeartbeats 2000000 in
set_option maxRecDepth 100000 in
theorem decode_3 (s : ByteArray) (w : World) (h0 : bl s ≠ []) (hm : s.size ≤ maxLen) (c3 : 224 ≤ atB (bl s) 0) (c4 : atB (bl s) 0 < 240) :
    Calls Tryz.prog 106 #[.string s] w fun e w' => e = .returned (dv (dr (bl s)) (dw (bl s)) (okB (bl s))) ∧ w = w' := by
    have hp := ne_of_size h0
    have hc0 := at_get s 0 hp
    have hlt := atB_lt (bl s) 0
    have hsz := bl_size s
    unfold maxLen at hm
    have H0 := Go.Lib.hid h0; clear h0
    have hlead := Go.Lib.hid (d_lead (bl s) H0.out 3 2048 (atB (bl s) 0 - 224) (by unfold Lead; omega))
    have g2 : (224 : Int) ≤ (atB (bl s) 0 : Int) := by omega
    have g3 : (atB (bl s) 0 : Int) < 240 := by omega
    rcases Nat.lt_or_ge s.size 3 with hn | hn
    · go_enter Tryz.func106, Tryz.ntmps106
      go_wp2_with fail
      go_ret3
      exact ⟨ret_dv (hlead.out.2 fun g => by have := g.1; omega), rfl⟩
    · obtain ⟨r0, hr0⟩ : ∃ r0, r0 = atB (bl s) 0 - 224 := ⟨_, rfl⟩
      have hr1 : (atB (bl s) 0 : Int) - 224 = (r0 : Int) := by omega
      rw [← hr0] at hlead
      have hr2 : r0 < 32 := by omega
      clear hr0 hlt c3 c4
      go_enter Tryz.func106, Tryz.ntmps106
      go_wp2_with fail
      clear hr1 g2 g3
      go_loop [8, 9] (fun r i => ∃ k A : Nat, 1 ≤ k ∧ k ≤ 3 ∧ i = .int .i64 (k : Int) ∧ r = .int .i32 (A : Int) ∧ Hid (A = acc (bl s) r0 (k - 1) ∧ Small A k ∧ Conts (bl s) k)) (fun _ i => 3 - (intOf i).toNat)
      case atStart => exact ⟨1, r0, by omega, by omega, rfl, rfl, rfl, by unfold Small; omega, fun j h1 h2 => by omega⟩
      case round =>
        obtain ⟨k, A, hk1, hk2, rfl, rfl, hA⟩ := hrel
        by_cases hkn : k < 3
        · have hks : k < s.size := by omega
          have hck := at_get s k hks
          have hclt := atB_lt (bl s) k
          have hAs : A < 131072 := by
            have := hA.out.2.1
            unfold Small at this
            omega
          by_cases hco : 128 ≤ atB (bl s) k ∧ atB (bl s) k ≤ 191
          · have k1 : (128 : Int) ≤ (atB (bl s) k : Int) := by omega
            have k2 : (atB (bl s) k : Int) ≤ 191 := by omega
            have hnext : Hid ((A * 64 + atB (bl s) k - 128 : Nat) = acc (bl s) r0 (k + 1 - 1) ∧ Small (A * 64 + atB (bl s) k - 128) (k + 1) ∧ Conts (bl s) (k + 1)) := by
              obtain ⟨a1, a2, a3⟩ := hA.out
              refine ⟨?_, ?_, conts_more a3 hco⟩
              · rw [Nat.add_sub_cancel, acc_more _ _ _ hk1, ← a1]; omega
              · unfold Small at a2 ⊢; omega
            obtain ⟨A', hA'⟩ : ∃ A', A' = A * 64 + atB (bl s) k - 128 := ⟨_, rfl⟩
            rw [← hA'] at hnext
            have hA1 : (A : Int) * 64 + (atB (bl s) k : Int) - 128 = (A' : Int) := by omega
            clear hA hA' hco
            go_wp2
            go_round
            case rel => exact ⟨k + 1, A', by omega, by omega, by go_num, (by first | rfl | rw [hA1]), hnext⟩
            case measure => simp [intOf]; omega
          · have hbad : Hid (¬ Good (bl s) 3 2048 r0) := fun g => hco (g.2.1 k hk1 hkn)
            clear hA
            by_cases k1 : atB (bl s) k < 128
            · have k2 : (atB (bl s) k : Int) < 128 := by omega
              go_wp2
              go_ret3
              exact ⟨ret_dv (hlead.out.2 hbad), rfl⟩
            · have k2 : (191 : Int) < (atB (bl s) k : Int) := by omega
              have k3 : (128 : Int) ≤ (atB (bl s) k : Int) := by omega
              go_wp2
              go_ret3
              exact ⟨ret_dv (hlead.out.2 hbad), rfl⟩
        · obtain rfl : k = 3 := by omega
          have hgood : Hid (Good (bl s) 3 2048 r0 ↔ (2048 ≤ A ∧ A ≤ 1114111 ∧ ¬ (55296 ≤ A ∧ A < 57344))) := by
            obtain ⟨a1, a2, a3⟩ := hA.out
            unfold Good Hid
            rw [← a1]
            exact ⟨fun g => g.2.2, fun g => ⟨by omega, a3, g⟩⟩
          have hA2 : Hid (A = acc (bl s) r0 (3 - 1)) := hA.out.1
          clear hA
          by_cases e1 : A < 2048
          · have hd := Go.Lib.hid (hlead.out.2 fun g => by have := (hgood.out).1 g; omega)
            clear hgood
            go_wp2
            go_ret3
            exact ⟨ret_dv hd.out, rfl⟩
          by_cases e2 : 1114111 < A
          · have hd := Go.Lib.hid (hlead.out.2 fun g => by have := (hgood.out).1 g; omega)
            clear hgood
            go_wp2
            go_ret3
            exact ⟨ret_dv hd.out, rfl⟩
          by_cases e3 : 55296 ≤ A
          · by_cases e4 : A < 57344
            · have hd := Go.Lib.hid (hlead.out.2 fun g => by have := (hgood.out).1 g; omega)
              clear hgood
              go_wp2 <;> (go_ret3; exact ⟨ret_dv hd.out, rfl⟩)
            · have hd := Go.Lib.hid (hlead.out.1 ((hgood.out).2 (by omega)))
              clear hgood
              go_wp2 <;> (go_ret3; exact ⟨ret_dv (by rw [hA2.out]; exact hd.out), rfl⟩)
          · have hd := Go.Lib.hid (hlead.out.1 ((hgood.out).2 (by omega)))
            clear hgood
            go_wp2 <;> (go_ret3; exact ⟨ret_dv (by rw [hA2.out]; exact hd.out), rfl⟩)

set_option maxHeartbeats 2000000 in
set_option maxRecDepth 100000 in
theorem decode_4 (s : ByteArray) (w : World) (h0 : bl s ≠ []) (hm : s.size ≤ maxLen) (c3 : 240 ≤ atB (bl s) 0) (c4 : atB (bl s) 0 < 248) :
    Calls Tryz.prog 106 #[.string s] w fun e w' => e = .returned (dv (dr (bl s)) (dw (bl s)) (okB (bl s))) ∧ w = w' := by
    have hp := ne_of_size h0
    have hc0 := at_get s 0 hp
    have hlt := atB_lt (bl s) 0
    have hsz := bl_size s
    unfold maxLen at hm
    have H0 := Go.Lib.hid h0; clear h0
    have hlead := Go.Lib.hid (d_lead (bl s) H0.out 4 65536 (atB (bl s) 0 - 240) (by unfold Lead; omega))
    have g2 : (240 : Int) ≤ (atB (bl s) 0 : Int) := by omega
    have g3 : (atB (bl s) 0 : Int) < 248 := by omega
    rcases Nat.lt_or_ge s.size 4 with hn | hn
    · go_enter Tryz.func106, Tryz.ntmps106
      go_wp2_with fail
      go_ret3
      exact ⟨ret_dv (hlead.out.2 fun g => by have := g.1; omega), rfl⟩
    · obtain ⟨r0, hr0⟩ : ∃ r0, r0 = atB (bl s) 0 - 240 := ⟨_, rfl⟩
      have hr1 : (atB (bl s) 0 : Int) - 240 = (r0 : Int) := by omega
      rw [← hr0] at hlead
      have hr2 : r0 < 32 := by omega
      clear hr0 hlt c3 c4
      go_enter Tryz.func106, Tryz.ntmps106
      go_wp2_with fail
      clear hr1 g2 g3
      go_loop [8, 9] (fun r i => ∃ k A : Nat, 1 ≤ k ∧ k ≤ 4 ∧ i = .int .i64 (k : Int) ∧ r = .int .i32 (A : Int) ∧ Hid (A = acc (bl s) r0 (k - 1) ∧ Small A k ∧ Conts (bl s) k)) (fun _ i => 4 - (intOf i).toNat)
      case atStart => exact ⟨1, r0, by omega, by omega, rfl, rfl, rfl, by unfold Small; omega, fun j h1 h2 => by omega⟩
      case round =>
        obtain ⟨k, A, hk1, hk2, rfl, rfl, hA⟩ := hrel
        by_cases hkn : k < 4
        · have hks : k < s.size := by omega
          have hck := at_get s k hks
          have hclt := atB_lt (bl s) k
          have hAs : A < 131072 := by
            have := hA.out.2.1
            unfold Small at this
            omega
          by_cases hco : 128 ≤ atB (bl s) k ∧ atB (bl s) k ≤ 191
          · have k1 : (128 : Int) ≤ (atB (bl s) k : Int) := by omega
            have k2 : (atB (bl s) k : Int) ≤ 191 := by omega
            have hnext : Hid ((A * 64 + atB (bl s) k - 128 : Nat) = acc (bl s) r0 (k + 1 - 1) ∧ Small (A * 64 + atB (bl s) k - 128) (k + 1) ∧ Conts (bl s) (k + 1)) := by
              obtain ⟨a1, a2, a3⟩ := hA.out
              refine ⟨?_, ?_, conts_more a3 hco⟩
              · rw [Nat.add_sub_cancel, acc_more _ _ _ hk1, ← a1]; omega
              · unfold Small at a2 ⊢; omega
            obtain ⟨A', hA'⟩ : ∃ A', A' = A * 64 + atB (bl s) k - 128 := ⟨_, rfl⟩
            rw [← hA'] at hnext
            have hA1 : (A : Int) * 64 + (atB (bl s) k : Int) - 128 = (A' : Int) := by omega
            clear hA hA' hco
            go_wp2
            go_round
            case rel => exact ⟨k + 1, A', by omega, by omega, by go_num, (by first | rfl | rw [hA1]), hnext⟩
            case measure => simp [intOf]; omega
          · have hbad : Hid (¬ Good (bl s) 4 65536 r0) := fun g => hco (g.2.1 k hk1 hkn)
            clear hA
            by_cases k1 : atB (bl s) k < 128
            · have k2 : (atB (bl s) k : Int) < 128 := by omega
              go_wp2
              go_ret3
              exact ⟨ret_dv (hlead.out.2 hbad), rfl⟩
            · have k2 : (191 : Int) < (atB (bl s) k : Int) := by omega
              have k3 : (128 : Int) ≤ (atB (bl s) k : Int) := by omega
              go_wp2
              go_ret3
              exact ⟨ret_dv (hlead.out.2 hbad), rfl⟩
        · obtain rfl : k = 4 := by omega
          have hgood : Hid (Good (bl s) 4 65536 r0 ↔ (65536 ≤ A ∧ A ≤ 1114111 ∧ ¬ (55296 ≤ A ∧ A < 57344))) := by
            obtain ⟨a1, a2, a3⟩ := hA.out
            unfold Good Hid
            rw [← a1]
            exact ⟨fun g => g.2.2, fun g => ⟨by omega, a3, g⟩⟩
          have hA2 : Hid (A = acc (bl s) r0 (4 - 1)) := hA.out.1
          clear hA
          by_cases e1 : A < 65536
          · have hd := Go.Lib.hid (hlead.out.2 fun g => by have := (hgood.out).1 g; omega)
            clear hgood
            go_wp2
            go_ret3
            exact ⟨ret_dv hd.out, rfl⟩
          by_cases e2 : 1114111 < A
          · have hd := Go.Lib.hid (hlead.out.2 fun g => by have := (hgood.out).1 g; omega)
            clear hgood
            go_wp2
            go_ret3
            exact ⟨ret_dv hd.out, rfl⟩
          by_cases e3 : 55296 ≤ A
          · by_cases e4 : A < 57344
            · have hd := Go.Lib.hid (hlead.out.2 fun g => by have := (hgood.out).1 g; omega)
              clear hgood
              go_wp2 <;> (go_ret3; exact ⟨ret_dv hd.out, rfl⟩)
            · have hd := Go.Lib.hid (hlead.out.1 ((hgood.out).2 (by omega)))
              clear hgood
              go_wp2 <;> (go_ret3; exact ⟨ret_dv (by rw [hA2.out]; exact hd.out), rfl⟩)
          · have hd := Go.Lib.hid (hlead.out.1 ((hgood.out).2 (by omega)))
            clear hgood
            go_wp2 <;> (go_ret3; exact ⟨ret_dv (by rw [hA2.out]; exact hd.out), rfl⟩)

set_option maxRecDepth 100000 in
theorem decode_c (s : ByteArray) (w : World) (h0 : bl s ≠ []) (hm : s.size ≤ maxLen) :
    Calls Tryz.prog 106 #[.string s] w fun e w' => e = .returned (dv (dr (bl s)) (dw (bl s)) (okB (bl s))) ∧ w = w' := by
  have hp := ne_of_size h0
  have hc0 := at_get s 0 hp
  have hlt := atB_lt (bl s) 0
  have hsz := bl_size s
  unfold maxLen at hm
  have H0 := Go.Lib.hid h0; clear h0
  rcases Nat.lt_or_ge (atB (bl s) 0) 128 with c1 | c1
  · have hd := Go.Lib.hid (d_ascii (bl s) H0.out c1)
    have hc1 : (atB (bl s) 0 : Int) < 128 := by omega
    go_enter Tryz.func106, Tryz.ntmps106
    go_wp2_with fail
    go_ret3
    exact ⟨ret_dv hd.out, rfl⟩
  by_cases c2 : atB (bl s) 0 < 192 ∨ 248 ≤ atB (bl s) 0
  · have hd := Go.Lib.hid (d_none (bl s) H0.out c1 c2)
    have g1 : (128 : Int) ≤ (atB (bl s) 0 : Int) := by omega
    rcases c2 with c2 | c2
    · have g2 : (atB (bl s) 0 : Int) < 192 := by omega
      go_enter Tryz.func106, Tryz.ntmps106
      go_wp2_with fail
      go_ret3
      exact ⟨ret_dv hd.out, rfl⟩
    · have g2 : (248 : Int) ≤ (atB (bl s) 0 : Int) := by omega
      go_enter Tryz.func106, Tryz.ntmps106
      go_wp2_with fail
      go_ret3
      exact ⟨ret_dv hd.out, rfl⟩
  rcases Nat.lt_or_ge (atB (bl s) 0) 224 with c3 | c3
  · exact decode_2 s w H0.out hm (by omega) c3
  rcases Nat.lt_or_ge (atB (bl s) 0) 240 with c4 | c4
  · exact decode_3 s w H0.out hm c3 c4
  · exact decode_4 s w H0.out hm c4 (by omega)

end Go.Proofs.YthbnecdeebmlhaaGreat

namespace Go.Proofs.YthbnecdeebmlhaaGreat
open Go.RowKit

set_option maxRecDepth 100000 in
theorem rvalid_c (s : ByteArray) (w : World) (hm : s.size ≤ 1000000000) :
    Calls Tryz.prog 105 #[.string s] w fun e w' => e = .returned (.bool (wellB (toks (bl s)))) ∧ w = w' := by
  have hl1 := toks_length (bl s)
  rw [← bl_size] at hl1
  obtain ⟨T, hT⟩ : ∃ T, T = (toks (bl s)).length := ⟨_, rfl⟩
  rw [← hT] at hl1
  have HT := Go.Lib.hid hT; clear hT
  go_enter Tryz.func105, Tryz.ntmps105
  go_wp2
  go_loop [3] (fun u => ∃ (n p : Nat), n ≤ T ∧ u = .int .i64 (p : Int) ∧ p ≤ s.size ∧ Hid (p = posOf (bl s) n) ∧ Hid (wellB ((toks (bl s)).take n) = true)) (fun u => s.size - (intOf u).toNat)
  case atStart => exact ⟨0, 0, by omega, rfl, by omega, rfl, rfl⟩
  case round =>
    obtain ⟨n, p, hn, rfl, hps, hp, hwell⟩ := hrel
    by_cases hlt : n < T
    · have hT' : n < (toks (bl s)).length := by rw [← HT.out]; exact hlt
      have hne := drop_ne (bl s) n hT'
      rw [← hp.out] at hne
      have hplt : p < s.size := by
        rw [bl_size]
        exact Nat.lt_of_not_le fun hh => hne (List.drop_eq_nil_of_le hh)
      have hsz : (s.extract p s.size).size ≤ maxLen := by rw [ByteArray.size_extract]; unfold maxLen; omega
      have C := fun W => decode_c (s.extract p s.size) W (by rw [drop_bl]; exact hne) hsz
      rw [drop_bl] at C
      have hsucc := posOf_succ (bl s) n hT'
      have hwt := well_take (bl s) n hT'
      have hwf := well_false (bl s) n hT'
      have hple := posOf_le (bl s) (n + 1)
      rw [← bl_size] at hple
      rw [hwell.out, Bool.true_and] at hwt
      rw [← hp.out] at hsucc hwt hwf
      have hdw := (dw_le _ hne).1
      rw [hsucc] at hple
      clear hsz hne hwell
      unfold dv at C
      generalize (bl s).drop p = L at *
      have Hwt := Go.Lib.hid hwt; clear hwt
      have Hwf := Go.Lib.hid hwf; clear hwf
      have Hsucc := Go.Lib.hid hsucc; clear hsucc
      have HC := Go.Lib.hid C; clear C
      generalize dr L = r at HC
      generalize dw L = d at *
      cases ho : okB L with
      | true =>
        rw [ho] at HC
        go_wp2_with (refine (HC.out _).mono ?_; rintro e w1 ⟨rfl, rfl⟩)
        go_round
        case rel => exact ⟨n + 1, p + d, by omega, by go_num, by omega, Hsucc.out.symm, Hwt.out.trans ho⟩
        case measure => simp [intOf]; omega
      | false =>
        rw [ho] at HC
        go_wp2_with (refine (HC.out _).mono ?_; rintro e w1 ⟨rfl, rfl⟩)
        go_ret
        exact ⟨ret_of (congrArg Value.bool (Hwf.out ho).symm), rfl⟩
    · have hpe : p = s.size := by
        rw [hp.out, posOf_all (bl s) n (by rw [← HT.out]; omega), bl_size]
      have hall : Hid (wellB (toks (bl s)) = true) := by
        have := hwell.out
        rwa [List.take_of_length_le (by rw [← HT.out]; omega)] at this
      clear hp hwell
      subst hpe
      go_wp2
      go_ret
      exact ⟨ret_of (congrArg Value.bool hall.out.symm), rfl⟩

end Go.Proofs.YthbnecdeebmlhaaGreat

namespace Go.Proofs.YthbnecdeebmlhaaGreat
open Go.RowKit

/-- The same Kind, N, S. -/
def eqR (k1 n1 : Int) (s1 : ByteArray) (k2 n2 : Int) (s2 : ByteArray) : Bool := k1 == k2 && n1 == n2 && s1.toList == s2.toList
theorem eqR_iff (k1 n1 : Int) (s1 : ByteArray) (k2 n2 : Int) (s2 : ByteArray) : eqR k1 n1 s1 k2 n2 s2 = true ↔ k1 = k2 ∧ n1 = n2 ∧ s1 = s2 := by
  unfold eqR
  rw [Bool.and_eq_true, Bool.and_eq_true, beq_iff_eq, beq_iff_eq, beq_iff_eq, ByteArray.toList_eq, ByteArray.toList_eq, and_assoc]
  constructor
  · rintro ⟨h1, h2, h3⟩
    exact ⟨h1, h2, ByteArray.ext (Array.toList_inj.1 h3)⟩
  · rintro ⟨h1, h2, rfl⟩
    exact ⟨h1, h2, rfl⟩
theorem below_one (w : World) (o : Obj) : Below w.heap.size w (w.alloc o) := (Below.refl _ w).alloc (Nat.le_refl _) o
theorem below_two (w : World) (o1 o2 : Obj) : Below w.heap.size w ((w.alloc o1).alloc o2) := (below_one w o1).alloc (below_one w o1).size o2

set_option maxRecDepth 100000 in
theorem eqval_c (k1 n1 : Int) (s1 : ByteArray) (k2 n2 : Int) (s2 : ByteArray) (w : World) :
    Calls Tryz.prog 62 #[rawV k1 n1 s1, rawV k2 n2 s2] w fun e w' => e = .returned (.bool (eqR k1 n1 s1 k2 n2 s2)) ∧ Below w.heap.size w w' := by
  unfold rawV
  by_cases h1 : k1 = k2
  · by_cases h2 : n1 = n2
    · have hr : Hid (eqR k1 n1 s1 k2 n2 s2 = (s1.toList == s2.toList)) := by unfold Hid eqR; simp [h1, h2]
      go_enter Tryz.func62, Tryz.ntmps62
      go_wp2_with fail
      go_ret
      exact ⟨ret_of (congrArg Value.bool (by first | exact hr.out.symm | (subst h1; subst h2; exact hr.out.symm))), below_two _ _ _⟩
    · have hr : Hid (eqR k1 n1 s1 k2 n2 s2 = false) := by unfold Hid eqR; simp [h1, h2]
      go_enter Tryz.func62, Tryz.ntmps62
      go_wp2_with fail
      go_ret
      exact ⟨ret_of (congrArg Value.bool (by first | exact hr.out.symm | (subst h1; exact hr.out.symm))), below_two _ _ _⟩
  · have hr : Hid (eqR k1 n1 s1 k2 n2 s2 = false) := by unfold Hid eqR; simp [h1]
    go_enter Tryz.func62, Tryz.ntmps62
    go_wp2_with fail
    go_ret
    exact ⟨ret_of (congrArg Value.bool hr.out.symm), below_two _ _ _⟩

/-- What may be a value. -/
def mayR (k n : Int) (s : ByteArray) : Bool := if k = 1 then s.toList.isEmpty else if k = 2 then n == 0 && decide (s.size ≤ 24) && wellB (toks (bl s)) else false

set_option maxRecDepth 100000 in
theorem mayval_c (k n : Int) (s : ByteArray) (w : World) (hm : s.size ≤ maxLen) :
    Calls Tryz.prog 68 #[rawV k n s] w fun e w' => e = .returned (.bool (mayR k n s)) ∧ Below w.heap.size w w' := by
  unfold rawV
  unfold maxLen at hm
  by_cases h1 : k = 1
  · subst h1
    go_enter Tryz.func68, Tryz.ntmps68
    go_wp2_with fail
    go_ret
    exact ⟨ret_of (congrArg Value.bool (by unfold mayR; simp)), below_one _ _⟩
  by_cases h2 : k = 2
  · subst h2
    by_cases h3 : n = 0
    · subst h3
      by_cases h4 : s.size ≤ 24
      · have C := Go.Lib.hid fun W => rvalid_c s W (by omega)
        go_enter Tryz.func68, Tryz.ntmps68
        go_wp2_with fail
        refine (C.out _).mono ?_
        rintro e w1 ⟨rfl, rfl⟩
        go_wp2_with fail
        go_ret
        exact ⟨ret_of (congrArg Value.bool (by unfold mayR; simp [h4])), below_one _ _⟩
      · go_enter Tryz.func68, Tryz.ntmps68
        go_wp2_with fail
        go_ret
        exact ⟨ret_of (congrArg Value.bool (by unfold mayR; simp [h4])), below_one _ _⟩
    · have h3' : (n == 0) = false := by simp [h3]
      go_enter Tryz.func68, Tryz.ntmps68
      go_wp2_with fail
      go_ret
      exact ⟨ret_of (congrArg Value.bool (by unfold mayR; simp [h3])), below_one _ _⟩
  · have h1' : (k == 1) = false := by simp [h1]
    have h2' : (k == 2) = false := by simp [h2]
    go_enter Tryz.func68, Tryz.ntmps68
    go_wp2_with fail
    go_ret
    exact ⟨ret_of (congrArg Value.bool (by unfold mayR; simp [h1, h2])), below_one _ _⟩

set_option maxRecDepth 100000 in
/-- The laws' 'Cut(r)'. -/
theorem vcut_c (k n : Int) (s : ByteArray) (w : World) (hm : s.size ≤ maxLen) :
    Calls Tryz.prog 65 #[rawV k n s] w fun e w' => e = .returned (rawV k n (str ((bl s).take 30))) ∧ Below w.heap.size w w' := by
  unfold rawV
  have C := Go.Lib.hid fun W => lcut_c s 30 W hm (by omega)
  clear hm
  go_enter Tryz.func65, Tryz.ntmps65
  go_wp2_with fail
  refine (C.out _).mono ?_
  rintro e w1 ⟨rfl, rfl⟩
  go_wp2_with fail
  refine bodyPost_ret (results_cell_row rfl _ _ (w.heap.size + 1) 26 #[.int .i64 k, .int .i64 n, .string (str ((bl s).take 30))] (0, 0) _ rfl (heap_alloc2_new w _ _) Tryz.underlying26 rfl (by kernel_rfl)) rfl ?_
  exact ⟨rfl, below_two _ _ _⟩

/-- A row and two more are what is answered. -/
theorem results_row_two {P : Program} {fn : Func} {p u v : Tmp} {ty : TypeId} (h : fn.results = #[.cell p ty, .tmp u, .tmp v]) (tmps : Array Value) (w : World) (g : Nat) (t : TypeId) (cs : Array Value) (fr : Nat × Nat) (d : TypeDesc)
    (hp : tmps.getD p undef = .pointer (some ⟨g, 0, none⟩)) (hg : w.heap[g]? = some (.cells cs t fr))
    (hu : P.underlying ty = some d) (hd : (match d with | .struct _ | .array _ _ => true | _ => false) = true) (hi : (P.info? ty).map (·.size) = some cs.size) :
    (results fn tmps).run P w = .ok (.tuple #[.agg cs, tmps.getD u undef, tmps.getD v undef]) w := by
  have hp' : tmps[p]?.getD undef = .pointer (some ⟨g, 0, none⟩) := by simpa using hp
  simp only [results, h]
  simp [Result.andThen, hp', asAddr, run_loadVar_row w g t ty cs fr d hg hu hd hi]

end Go.Proofs.YthbnecdeebmlhaaGreat

namespace Go.Proofs.YthbnecdeebmlhaaGreat
open Go.RowKit
open Go.Lib (uvarint zigzag)

/-! the plain functions -/
/-- What a zigzag number stands for. -/
def unzig (u : Nat) : Int := if u % 2 = 1 then -((u / 2 : Nat) : Int) - 1 else ((u / 2 : Nat) : Int)

/-- A number at the beginning of l, k bytes of it gone, u gathered: the number, its bytes, the error. -/
def getS : List UInt8 → Nat → Nat → Int × Nat × Int
  | [], _, _ => (0, 0, 2)
  | c :: r, k, u =>
    if k = 9 ∧ 1 < c.toNat then (0, 0, 1)
    else if 128 ≤ c.toNat then getS r (k + 1) (u + c.toNat % 128 * 128 ^ k)
    else if c.toNat = 0 ∧ 0 < k then (0, 0, 1)
    else (unzig (u + c.toNat * 128 ^ k), k + 1, 0)

def getB (l : List UInt8) : Int × Nat × Int := getS l 0 0

theorem getS_of (r : List UInt8) : ∀ (n x k u : Nat), x ≤ n → k ≤ 9 → x < 128 ^ (9 - k) * 2 → (0 < k → 0 < x) → getS (uvarint x ++ r) k u = (unzig (u + x * 128 ^ k), k + (uvarint x).length, 0) := by
  intro n
  induction n with
  | zero =>
    intro x k u hn hk hx hp
    obtain rfl : x = 0 := by omega
    have hk0 : k = 0 := by
      rcases Nat.eq_zero_or_pos k with h | h
      · exact h
      · exact absurd (hp h) (by omega)
    subst hk0
    rw [Go.Lib.uvarint_small (by omega)]
    simp [getS]
  | succ n ih =>
    intro x k u hn hk hx hp
    by_cases hs : x < 128
    · rw [Go.Lib.uvarint_small hs]
      have hc : (x.toUInt8).toNat = x := by simp; omega
      have h9 : ¬ (k = 9 ∧ 1 < x) := by
        rintro ⟨rfl, h⟩
        simp at hx
        omega
      have h0 : ¬ (x = 0 ∧ 0 < k) := by
        rintro ⟨h, h'⟩
        have := hp h'
        omega
      simp [getS, hc, h9, h0, show ¬ 128 ≤ x from by omega]
    · rw [Go.Lib.uvarint_big (by omega)]
      have hc : ((x % 128 + 128).toUInt8).toNat = x % 128 + 128 := by simp; omega
      have hk8 : k < 9 := by
        rcases Nat.lt_or_ge k 9 with h | h
        · exact h
        · obtain rfl : k = 9 := by omega
          simp at hx
          omega
      have hpow : 128 ^ (9 - k) = 128 * 128 ^ (9 - (k + 1)) := by
        rw [show 9 - k = (9 - (k + 1)) + 1 from by omega, Nat.pow_succ, Nat.mul_comm]
      have h2 : x / 128 < 128 ^ (9 - (k + 1)) * 2 := by
        rw [hpow, Nat.mul_assoc] at hx
        exact Nat.div_lt_of_lt_mul hx
      have := ih (x / 128) (k + 1) (u + x % 128 * 128 ^ k) (by omega) (by omega) h2 (fun _ => by omega)
      simp only [List.cons_append, getS, hc, show ¬ (k = 9 ∧ 1 < x % 128 + 128) from by omega, if_false, show 128 ≤ x % 128 + 128 from by omega, if_true, List.length_cons]
      rw [show (x % 128 + 128) % 128 = x % 128 from by omega, this]
      have e : u + x % 128 * 128 ^ k + x / 128 * 128 ^ (k + 1) = u + x * 128 ^ k := by
        rw [Nat.pow_succ, Nat.mul_comm (128 ^ k) 128, ← Nat.mul_assoc, Nat.add_assoc, ← Nat.add_mul]
        congr 2
        omega
      rw [e, show k + 1 + (uvarint (x / 128)).length = k + ((uvarint (x / 128)).length + 1) from by omega]

theorem unzig_zigzag (n : Int) : unzig (zigzag n) = n := by
  unfold unzig zigzag
  split <;> split <;> omega

/-- Whatever stands behind, the number comes back. -/
theorem getB_put (n : Int) (h0 : -9223372036854775808 ≤ n) (h1 : n ≤ 9223372036854775807) (r : List UInt8) : getB (uvarint (zigzag n) ++ r) = (n, (uvarint (zigzag n)).length, 0) := by
  have hz := Go.Lib.zigzag_lt h0 h1
  have := getS_of r (zigzag n) (zigzag n) 0 0 (Nat.le_refl _) (by omega) (by simpa using hz) (by omega)
  unfold getB
  rw [this]
  simp [unzig_zigzag]

/-- What Get answers fits its kinds. -/
theorem getS_fits : ∀ (l : List UInt8) (k u : Nat), k ≤ 9 → u < 128 ^ k → -9223372036854775808 ≤ (getS l k u).1 ∧ (getS l k u).1 ≤ 9223372036854775807 ∧ (getS l k u).2.1 ≤ k + l.length ∧ ((getS l k u).2.2 = 0 ∨ (getS l k u).2.2 = 1 ∨ (getS l k u).2.2 = 2) ∧ ((getS l k u).2.2 = 0 → 1 ≤ (getS l k u).2.1) ∧ (getS l k u).2.1 ≤ 10 := by
  intro l
  induction l with
  | nil => intro k u _ _; simp [getS]
  | cons c r ih =>
    intro k u hk hu
    have hc : c.toNat < 256 := c.toNat_lt
    have hpow : 128 ^ k ≤ 128 ^ 9 := Nat.pow_le_pow_right (by omega) hk
    unfold getS
    split
    · simp
    · rename_i h9
      split
      · rename_i hbig
        have hk8 : k < 9 := by omega
        have hu' : u + c.toNat % 128 * 128 ^ k < 128 ^ (k + 1) := by
          rw [Nat.pow_succ]
          have : c.toNat % 128 * 128 ^ k ≤ 127 * 128 ^ k := Nat.mul_le_mul_right _ (by omega)
          omega
        have := ih (k + 1) _ (by omega) hu'
        simp only [List.length_cons]
        omega
      · split
        · simp
        · simp only [List.length_cons]
          have hb : u + c.toNat * 128 ^ k < 18446744073709551616 := by
            by_cases hk9 : k = 9
            · subst hk9
              have : c.toNat * 128 ^ 9 ≤ 1 * 128 ^ 9 := Nat.mul_le_mul_right _ (by omega)
              omega
            · have h8 : 128 ^ k ≤ 128 ^ 8 := Nat.pow_le_pow_right (by omega) (by omega)
              have : c.toNat * 128 ^ k ≤ 127 * 128 ^ k := Nat.mul_le_mul_right _ (by omega)
              omega
          unfold unzig
          refine ⟨?_, ?_, by omega, by simp, by simp, by omega⟩ <;> split <;> omega

theorem getB_fits (l : List UInt8) : -9223372036854775808 ≤ (getB l).1 ∧ (getB l).1 ≤ 9223372036854775807 ∧ (getB l).2.1 ≤ l.length ∧ ((getB l).2.2 = 0 ∨ (getB l).2.2 = 1 ∨ (getB l).2.2 = 2) ∧ ((getB l).2.2 = 0 → 1 ≤ (getB l).2.1) ∧ (getB l).2.1 ≤ 10 := by
  have := getS_fits l 0 0 (by omega) (by simp)
  unfold getB
  omega

/-- A text at the beginning of l. -/
def textB (l : List UInt8) : List UInt8 × Nat × Int :=
  if (getB l).2.2 ≠ 0 then ([], 0, (getB l).2.2)
  else if (getB l).1 < 0 ∨ 65536 < (getB l).1 then ([], 0, 1)
  else if l.length < (getB l).2.1 + (getB l).1.toNat then ([], 0, 2)
  else ((l.drop (getB l).2.1).take (getB l).1.toNat, (getB l).2.1 + (getB l).1.toNat, 0)

def putT (s : List UInt8) : List UInt8 := uvarint (zigzag s.length) ++ s

theorem textB_put (s r : List UInt8) (hs : s.length ≤ 65536) : textB (putT s ++ r) = (s, (putT s).length, 0) := by
  have h := getB_put (s.length : Int) (by omega) (by omega) (s ++ r)
  unfold putT textB
  rw [List.append_assoc, h]
  simp only [List.length_append]
  rw [if_neg (by simp), if_neg (by omega), if_neg (by omega)]
  simp

end Go.Proofs.YthbnecdeebmlhaaGreat

namespace Go.Proofs.YthbnecdeebmlhaaGreat
open Go.RowKit
open Go.Lib (uvarint zigzag)

theorem i64_not_all (n : Int) (h0 : -9223372036854775808 ≤ n) (h1 : n ≤ 9223372036854775807) : bits .xor .i64 (-1) n = -n - 1 := by
  show IntKind.i64.wrap ((BitVec.ofInt 64 (-1) ^^^ BitVec.ofInt 64 n).toNat : Int) = _
  have e1 : BitVec.ofInt 64 (-1) = BitVec.allOnes 64 := by decide
  have e2 : BitVec.allOnes 64 ^^^ BitVec.ofInt 64 n = ~~~ (BitVec.ofInt 64 n) := by rw [BitVec.allOnes_xor]
  rw [e1, e2, BitVec.toNat_not, BitVec.toNat_ofInt, IntKind.wrap_i64]
  omega

theorem unsigned_neg (n : Int) (h0 : -9223372036854775808 ≤ n) (hn : n < 0) :
    bits BinOp.or IntKind.u64 (IntKind.u64.wrap (IntKind.u64.wrap (bits BinOp.xor IntKind.i64 (-1) n) * 2)) 1 = ((zigzag n : Nat) : Int) := by
  rw [i64_not_all n h0 (by omega), IntKind.wrap_u64, IntKind.wrap_u64]
  have e : (-n - 1) % 18446744073709551616 * 2 % 18446744073709551616 = 2 * (-n - 1) := by omega
  rw [e, bits_join .u64 64 (by decide) wraps_u64 1 _ _ (by omega) (by omega) (by omega) (by omega) (by omega) (by omega)]
  unfold Go.Lib.zigzag
  rw [if_neg (by omega)]
  omega

theorem unsigned_c (n : Int) (w : World) (h0 : -9223372036854775808 ≤ n) (h1 : n ≤ 9223372036854775807) :
    Calls Tryz.prog 173 #[.int .i64 n] w fun e w' => e = .returned (.int .u64 (zigzag n : Nat)) ∧ w = w' := by
  by_cases hn : n < 0
  · go_enter Tryz.func173, Tryz.ntmps173
    go_wp2
    go_ret
    exact ⟨ret_int (unsigned_neg n h0 hn), rfl⟩
  · have hn' : 0 ≤ n := by omega
    go_enter Tryz.func173, Tryz.ntmps173
    go_wp2
    go_ret
    exact ⟨ret_int (Go.Lib.zigzag_nonneg hn').symm, rfl⟩

theorem signed_c (n : Nat) (w : World) (h1 : n < 18446744073709551616) :
    Calls Tryz.prog 154 #[.int .u64 n] w fun e w' => e = .returned (.int .i64 (unzig n)) ∧ w = w' := by
  have hb := Go.Lib.u64_and1 n (by omega) (by omega)
  have hx := Go.Lib.i64_not (n / 2) (by omega)
  by_cases hn : n % 2 = 1
  · have hd : (bits .and .u64 (n : Int) 1 == 1) = true := by rw [hb]; simp; omega
    have Hb := Go.Lib.hid hb; clear hb
    have Hx := Go.Lib.hid hx; clear hx
    have Hn := Go.Lib.hid hn; clear hn
    go_enter Tryz.func154, Tryz.ntmps154
    go_wp2
    go_ret
    refine ⟨ret_int ?_, rfl⟩
    rw [unzig, if_pos Hn.out, ← Hx.out]
    rfl
  · have hd : (bits .and .u64 (n : Int) 1 == 1) = false := by rw [hb]; simp; omega
    have Hb := Go.Lib.hid hb; clear hb
    have Hx := Go.Lib.hid hx; clear hx
    have Hn := Go.Lib.hid hn; clear hn
    go_enter Tryz.func154, Tryz.ntmps154
    go_wp2
    go_ret
    refine ⟨ret_int ?_, rfl⟩
    rw [unzig, if_neg Hn.out]
    rfl

/-- 'copyWithRoom(b, more)'. -/
theorem copy_c (v : Value) (l : List UInt8) (n : Int) (w : World) (hv : RB w v l) (h0 : 0 ≤ n) (hn : l.length + n.toNat ≤ 140737488355328) :
    Calls Tryz.prog 153 #[v, .int .i64 n] w fun e w' => ∃ v', e = .returned v' ∧ Own 5 w' w.heap.size v' l ∧ Below w.heap.size w w' := by
  have hrb := hv
  obtain ⟨a, cap, rfl, h1, h2, h3, h4⟩ := hv
  have hs := h2
  unfold maxLen at hs
  clear h3 h4
  go_enter Tryz.func153, Tryz.ntmps153
  go_wp2_with (first
    | (at_make; refine wpList_make_len rfl (.tmp 7) (.tmp 11) 47 rfl 5 Tryz.underlying47 info8 .i64 .i64 _ _ l.length (l.length + n.toNat) rfl rfl rfl (by omega) (by omega) (by omega) ?_; intro v1 w1 hown1 hg1)
    | (with_reducible show wpList _ _ _ (⟨some 15, _, _, _, _, _⟩ :: _) _ _; go_loud (refine wpList_copy_RB rfl (.tmp 13) (.tmp 14) 47 rfl w.heap.size 5 Tryz.underlying47 info8 v1 (.slice a l.length cap) _ l rfl rfl hown1 (hrb.below (grown_below hg1 (Nat.le_refl _) (by simp))) (by simp) w (grown_below hg1 (Nat.le_refl _) (by simp)) ?_); intro w2 hown2 hb2))
  go_ret
  exact ⟨_, rfl, hown2, hb2⟩

set_option maxRecDepth 100000 in
/-- 'addNum(out, n)', out the call's own. -/
theorem add_c (B : Nat) (v : Value) (l : List UInt8) (n : Int) (w : World) (hv : Own 5 w B v l) (hB : B ≤ w.heap.size) (h0 : -9223372036854775808 ≤ n) (h1 : n ≤ 9223372036854775807) (hl : l.length + 10 ≤ 140737488355328) :
    Calls Tryz.prog 152 #[v, .int .i64 n] w fun e w' => ∃ v', e = .returned v' ∧ Own 5 w' B v' (l ++ uvarint (zigzag n)) ∧ Below B w w' := by
  have hz := Go.Lib.zigzag_lt h0 h1
  have hzl := Go.Lib.uvarint_length64 hz
  obtain ⟨z, Hz⟩ : ∃ z, z = zigzag n := ⟨_, rfl⟩
  rw [← Hz] at hz hzl ⊢
  have Hzl := Go.Lib.hid hzl; clear hzl
  have HZ := Go.Lib.hid Hz; clear Hz
  go_enter Tryz.func152, Tryz.ntmps152
  go_wp2_with (go_at_call 173; refine (unsigned_c n _ h0 h1).mono ?_; rintro e w1 ⟨rfl, rfl⟩; rw [← HZ.out])
  go_loopw [0, 5] (fun x u wr => ∃ (p : List UInt8) (y : Nat), y < 18446744073709551616 ∧ u = .int .u64 (y : Int) ∧ Own 5 wr B x (l ++ p) ∧ Below B w wr ∧ Hid (uvarint z = p ++ uvarint y)) (fun _ u _ => (intOf u).toNat)
  case atStart => exact ⟨[], z, hz, rfl, by simpa using hv, Below.refl _ _, by simp [Hid]⟩
  case round =>
    obtain ⟨p, y, hy, rfl, hown, hbel, hz1⟩ := hrel
    have hpl : Hid (p.length + (uvarint y).length ≤ 10) := by
      have := Hzl.out
      rw [hz1.out, List.length_append] at this
      exact this
    have hpl1 : p.length + 1 ≤ 10 := by have := hpl.out; have := Go.Lib.uvarint_pos y; omega
    by_cases hs : y < 128
    · have hc : (y : Int) = ((UInt8.ofNat y).toNat : Int) := by simp; omega
      have Hc := Go.Lib.hid hc; clear hc
      go_wp2_with (at_builtin; go_loud (refine wpList_append_RB rfl (.tmp 18) (.tmp 21) 47 rfl B 5 Tryz.underlying47 info8 u0 (.slice (some ⟨wr.heap.size, 0, none⟩) 1 1) (l ++ p) [UInt8.ofNat y] rfl rfl (hown.alloc _) (RB.one wr _ _ _ Hc.out) (by simp; omega) (by have := hbel.size; simp; omega) ?_); intro v2 w2 hown2 hg2)
      go_ret
      have hu : uvarint z = p ++ [UInt8.ofNat y] := by rw [hz1.out, Go.Lib.uvarint_small hs]
      refine ⟨_, rfl, ?_, (hbel.alloc (by have := hbel.size; omega) _).grown hg2 (by have := hbel.size; simp; omega) hown.row⟩
      rw [hu, ← List.append_assoc]
      exact hown2
    · have hc : bits BinOp.or IntKind.u8 ((y : Int) % 256) 128 = ((UInt8.ofNat (y % 128 + 128)).toNat : Int) := by
        rw [Go.Lib.u8_or128_any _ (by omega) (by omega)]; simp; omega
      have Hc := Go.Lib.hid hc; clear hc
      go_wp2_with (at_builtin; go_loud (refine wpList_append_RB rfl (.tmp 10) (.tmp 14) 47 rfl B 5 Tryz.underlying47 info8 u0 (.slice (some ⟨wr.heap.size, 0, none⟩) 1 1) (l ++ p) [UInt8.ofNat (y % 128 + 128)] rfl rfl (hown.alloc _) (RB.one wr _ _ _ Hc.out) (by simp; omega) (by have := hbel.size; simp; omega) ?_); intro v2 w2 hown2 hg2)
      have hu : uvarint z = (p ++ [UInt8.ofNat (y % 128 + 128)]) ++ uvarint (y / 128) := by rw [hz1.out, Go.Lib.uvarint_big (by omega)]; simp
      have Hu := Go.Lib.hid hu; clear hu
      have hbel2 : Below B w w2 := (hbel.alloc (by have := hbel.size; omega) _).grown hg2 (by have := hbel.size; simp; omega) hown.row
      clear hbel hg2 hz1 hpl
      go_roundw
      case rel => exact ⟨p ++ [UInt8.ofNat (y % 128 + 128)], y / 128, by omega, by go_num, by rw [← List.append_assoc]; exact hown2, hbel2, Hu⟩
      case measure => simp [intOf]; omega

/-- 'Put(b, n)'. -/
theorem put_c (v : Value) (l : List UInt8) (n : Int) (w : World) (hv : RB w v l) (h0 : -9223372036854775808 ≤ n) (h1 : n ≤ 9223372036854775807) (hl : l.length + 10 ≤ 140737488355328) :
    Calls Tryz.prog 130 #[v, .int .i64 n] w fun e w' => ∃ v', e = .returned v' ∧ Own 5 w' w.heap.size v' (l ++ uvarint (zigzag n)) ∧ Below w.heap.size w w' := by
  go_enter Tryz.func130, Tryz.ntmps130
  go_wp2_with fail
  refine (copy_c v l 10 w hv (by omega) (by omega)).mono ?_
  rintro e w1 ⟨v1, rfl, hown1, hb1⟩
  go_wp2_with fail
  refine (add_c w.heap.size v1 l n w1 hown1 hb1.size h0 h1 hl).mono ?_
  rintro e w2 ⟨v2, rfl, hown2, hb2⟩
  go_wp2_with fail
  go_ret
  exact ⟨_, rfl, hown2, hb1.trans hb2⟩

/-- 'PutText(b, s)'. -/
theorem putText_c (v : Value) (l : List UInt8) (q : ByteArray) (w : World) (hv : RB w v l) (hl : l.length + q.size + 10 ≤ 140737488355328) :
    Calls Tryz.prog 129 #[v, .string q] w fun e w' => ∃ v', e = .returned v' ∧ Own 5 w' w.heap.size v' (l ++ putT q.data.toList) ∧ Below w.heap.size w w' := by
  have e1 : IntKind.i64.wrap (10 + (q.size : Int)) = 10 + (q.size : Int) := IntWalk.i64_in _ (by omega)
  have hq : (q.data.toList.length : Int) = q.size := by rw [← Go.Lib.size_eq]
  have Hq := Go.Lib.hid hq; clear hq
  go_enter Tryz.func129, Tryz.ntmps129
  go_wp2_with fail
  refine (copy_c v l (10 + (q.size : Int)) w hv (by omega) (by omega)).mono ?_
  rintro e w1 ⟨v1, rfl, hown1, hb1⟩
  go_wp2_with fail
  refine (add_c w.heap.size v1 l (q.size : Int) w1 hown1 hb1.size (by omega) (by omega) (by omega)).mono ?_
  rintro e w2 ⟨v2, rfl, hown2, hb2⟩
  have hzl := Go.Lib.uvarint_length64 (Go.Lib.zigzag_lt (x := (q.size : Int)) (by omega) (by omega))
  have Hzl := Go.Lib.hid hzl; clear hzl
  have hb12 := hb1.trans hb2
  clear hb1 hb2
  go_wp2_with (at_builtin; go_loud (refine wpList_append_str rfl (.tmp 14) (.tmp 15) 47 9 rfl w.heap.size 5 Tryz.underlying47 Tryz.underlying9 info8 v2 (l ++ uvarint (zigzag (q.size : Int))) q rfl rfl hown2 (by have := Hzl.out; simp; omega) hb12.size ?_); intro v3 w3 hown3 hg3)
  go_ret
  refine ⟨_, rfl, ?_, hb12.grown hg3 hb12.size hown2.row⟩
  unfold putT
  rw [Hq.out, ← List.append_assoc]
  exact hown3

set_option maxRecDepth 100000 in
/-- The reference's Put. -/
theorem rput_c (n : Int) (w : World) (h0 : -9223372036854775808 ≤ n) (h1 : n ≤ 9223372036854775807) :
    Calls Tryz.prog 109 #[.int .i64 n] w fun e w' => ∃ v', e = .returned v' ∧ Own 5 w' w.heap.size v' (uvarint (zigzag n)) ∧ Below w.heap.size w w' := by
  have hz := Go.Lib.zigzag_lt h0 h1
  have hzl := Go.Lib.uvarint_length64 hz
  obtain ⟨z, Hz⟩ : ∃ z, z = zigzag n := ⟨_, rfl⟩
  rw [← Hz] at hz hzl ⊢
  have Hzl := Go.Lib.hid hzl; clear hzl
  have HZ := Go.Lib.hid Hz; clear Hz
  have hneg : n < 0 → bits BinOp.xor IntKind.u64 (IntKind.u64.max) (IntKind.u64.wrap (IntKind.u64.wrap n * 2)) = (z : Int) := fun h => by rw [HZ.out]; exact Go.Lib.zigzag_neg h0 h
  have hpos : 0 ≤ n → n * 2 = (z : Int) := fun h => by rw [HZ.out]; exact (Go.Lib.zigzag_nonneg h).symm
  have Hneg := Go.Lib.hid hneg; clear hneg
  have Hpos := Go.Lib.hid hpos; clear hpos
  by_cases hn : n < 0
  all_goals
    go_enter Tryz.func109, Tryz.ntmps109
    go_wp2_with fail
    go_loopw [4, 3] (fun x u wr => ∃ (p : List UInt8) (y : Nat), y < 18446744073709551616 ∧ u = .int .u64 (y : Int) ∧ Own 5 wr w.heap.size x p ∧ Below w.heap.size w wr ∧ Hid (uvarint z = p ++ uvarint y)) (fun _ u _ => (intOf u).toNat)
    case atStart => exact ⟨[], z, hz, by first | exact congrArg (Value.int .u64) (Hneg.out hn) | exact congrArg (Value.int .u64) (Hpos.out (by omega)), Own.nil _ _ _, Below.refl _ _, by simp [Hid]⟩
    case round =>
      obtain ⟨p, y, hy, rfl, hown, hbel, hz1⟩ := hrel
      have hpl : Hid (p.length + (uvarint y).length ≤ 10) := by
        have := Hzl.out
        rw [hz1.out, List.length_append] at this
        exact this
      have hpl1 : p.length + 1 ≤ 10 := by have := hpl.out; have := Go.Lib.uvarint_pos y; omega
      by_cases hs : y < 128
      · have hc : (y : Int) = ((UInt8.ofNat y).toNat : Int) := by simp; omega
        have Hc := Go.Lib.hid hc; clear hc
        go_wp2_with (at_builtin; go_loud (refine wpList_append_RB rfl (.tmp 23) (.tmp 26) 47 rfl w.heap.size 5 Tryz.underlying47 info8 u4 (.slice (some ⟨wr.heap.size, 0, none⟩) 1 1) p [UInt8.ofNat y] rfl rfl (hown.alloc _) (RB.one wr _ _ _ Hc.out) (by simp; omega) (by have := hbel.size; simp; omega) ?_); intro v2 w2 hown2 hg2)
        go_ret
        have hu : uvarint z = p ++ [UInt8.ofNat y] := by rw [hz1.out, Go.Lib.uvarint_small hs]
        refine ⟨_, rfl, ?_, (hbel.alloc (by have := hbel.size; omega) _).grown hg2 (by have := hbel.size; simp; omega) hown.row⟩
        rw [hu]
        exact hown2
      · have hc : (y : Int) % 128 + 128 = ((UInt8.ofNat (y % 128 + 128)).toNat : Int) := by simp; omega
        have Hc := Go.Lib.hid hc; clear hc
        go_wp2_with (at_builtin; go_loud (refine wpList_append_RB rfl (.tmp 14) (.tmp 19) 47 rfl w.heap.size 5 Tryz.underlying47 info8 u4 (.slice (some ⟨wr.heap.size, 0, none⟩) 1 1) p [UInt8.ofNat (y % 128 + 128)] rfl rfl (hown.alloc _) (RB.one wr _ _ _ Hc.out) (by simp; omega) (by have := hbel.size; simp; omega) ?_); intro v2 w2 hown2 hg2)
        have hu : uvarint z = (p ++ [UInt8.ofNat (y % 128 + 128)]) ++ uvarint (y / 128) := by rw [hz1.out, Go.Lib.uvarint_big (by omega)]; simp
        have Hu := Go.Lib.hid hu; clear hu
        have hbel2 : Below w.heap.size w w2 := (hbel.alloc (by have := hbel.size; omega) _).grown hg2 (by have := hbel.size; simp; omega) hown.row
        clear hbel hg2 hz1 hpl
        go_roundw
        case rel => exact ⟨p ++ [UInt8.ofNat (y % 128 + 128)], y / 128, by omega, by go_num, hown2, hbel2, Hu⟩
        case measure => simp [intOf]; omega

theorem rputText_c (q : ByteArray) (w : World) (hl : q.size + 10 ≤ 140737488355328) :
    Calls Tryz.prog 108 #[.string q] w fun e w' => ∃ v', e = .returned v' ∧ Own 5 w' w.heap.size v' (putT q.data.toList) ∧ Below w.heap.size w w' := by
  have hq : (q.data.toList.length : Int) = q.size := by rw [← Go.Lib.size_eq]
  have Hq := Go.Lib.hid hq; clear hq
  go_enter Tryz.func108, Tryz.ntmps108
  go_wp2_with fail
  refine (rput_c (q.size : Int) w (by omega) (by omega)).mono ?_
  rintro e w1 ⟨v1, rfl, hown1, hb1⟩
  have hzl := Go.Lib.uvarint_length64 (Go.Lib.zigzag_lt (x := (q.size : Int)) (by omega) (by omega))
  have Hzl := Go.Lib.hid hzl; clear hzl
  go_wp2_with (at_builtin; go_loud (refine wpList_append_str rfl (.tmp 5) (.tmp 6) 47 9 rfl w.heap.size 5 Tryz.underlying47 Tryz.underlying9 info8 v1 (uvarint (zigzag (q.size : Int))) q rfl rfl hown1 (by have := Hzl.out; omega) hb1.size ?_); intro v3 w3 hown3 hg3)
  go_ret
  refine ⟨_, rfl, ?_, hb1.grown hg3 hb1.size hown1.row⟩
  unfold putT
  rw [Hq.out]
  exact hown3

end Go.Proofs.YthbnecdeebmlhaaGreat

namespace Go.Proofs.YthbnecdeebmlhaaGreat
open Go.RowKit
open Go.Lib (uvarint zigzag)

/-- What Get answers, as values. -/
def gv (r : Int × Nat × Int) : Value := .tuple #[.int .i64 r.1, .int .i64 (r.2.1 : Int), .int .i64 r.2.2]

theorem getS_step (l : List UInt8) (k u : Nat) (h : k < l.length) : getS (l.drop k) k u =
    if k = 9 ∧ 1 < l[k].toNat then (0, 0, 1)
    else if 128 ≤ l[k].toNat then getS (l.drop (k + 1)) (k + 1) (u + l[k].toNat % 128 * 128 ^ k)
    else if l[k].toNat = 0 ∧ 0 < k then (0, 0, 1)
    else (unzig (u + l[k].toNat * 128 ^ k), k + 1, 0) := by
  rw [List.drop_eq_getElem_cons h, getS]

set_option maxRecDepth 100000 in
theorem gather (acc c k : Nat) (hk : k ≤ 9) (hc : c < 256) (hacc : acc < 128 ^ k) (hck : k = 9 → c % 128 ≤ 1) :
    bits BinOp.or IntKind.u64 (acc : Int) (IntKind.u64.wrap (IntKind.u64.wrap (bits BinOp.and IntKind.u8 (c : Int) 127) * 2 ^ (7 * k))) = ((acc + c % 128 * 128 ^ k : Nat) : Int) ∧ acc + c % 128 * 128 ^ k < 18446744073709551616 := by
  have hp : (2 : Nat) ^ (7 * k) = 128 ^ k := by rw [Nat.pow_mul]
  have hlt : c % 128 * 128 ^ k + 128 ^ k ≤ 18446744073709551616 := by
    clear hp
    by_cases h9 : k = 9
    · have := hck h9
      subst h9
      have h99 : (128 : Nat) ^ 9 = 9223372036854775808 := by decide
      rw [h99]
      clear hacc hck hk
      omega
    · have h8 : 128 ^ k ≤ 128 ^ 8 := Nat.pow_le_pow_right (by omega) (by omega)
      have : c % 128 * 128 ^ k ≤ 127 * 128 ^ k := Nat.mul_le_mul_right _ (by omega)
      omega
  have e1 : IntKind.u64.wrap (bits BinOp.and IntKind.u8 (c : Int) 127) = ((c % 128 : Nat) : Int) := by
    rw [u8_and127 _ (by omega) (by omega), IntKind.wrap_u64]; omega
  have e2 : ((c % 128 : Nat) : Int) * 2 ^ (7 * k) = ((c % 128 * 128 ^ k : Nat) : Int) := by
    rw [← hp]; simp
  have e3 : IntKind.u64.wrap ((c % 128 * 128 ^ k : Nat) : Int) = ((c % 128 * 128 ^ k : Nat) : Int) := by
    rw [IntKind.wrap_u64]
    have hpos : 0 < 128 ^ k := Nat.pow_pos (by omega)
    omega
  have hpos : 0 < 128 ^ k := Nat.pow_pos (by omega)
  rw [e1, e2, e3]
  refine ⟨?_, by omega⟩
  have hmod : ((c % 128 * 128 ^ k : Nat) : Int) % 2 ^ (7 * k) = 0 := by
    have : (c % 128 * 128 ^ k) % 2 ^ (7 * k) = 0 := by rw [hp]; exact Nat.mul_mod_left _ _
    exact_mod_cast this
  have hlow : ((acc : Nat) : Int) < 2 ^ (7 * k) := by
    have : acc < 2 ^ (7 * k) := by rw [hp]; exact hacc
    exact_mod_cast this
  rw [bits_join_low .u64 64 (by decide) wraps_u64 (7 * k) _ _ (by omega) hlow (by omega) (by omega) hmod (by omega)]
  simp

theorem gather_next (acc c k : Nat) (hacc : acc < 128 ^ k) : acc + c % 128 * 128 ^ k < 128 ^ (k + 1) := by
  rw [Nat.pow_succ]
  have : c % 128 * 128 ^ k ≤ 127 * 128 ^ k := Nat.mul_le_mul_right _ (by omega)
  omega

theorem ret_gv {e : Ending} {r s : Int × Nat × Int} (he : e = .returned (gv r)) (h : r = s) : e = .returned (gv s) := by rw [he, h]

set_option maxRecDepth 100000 in
theorem get_c (v : Value) (l : List UInt8) (w : World) (hv : RB w v l) :
    Calls Tryz.prog 134 #[v] w fun e w' => e = .returned (gv (getB l)) ∧ w = w' := by
  obtain ⟨a, cap, rfl, h1, h2, h3, h4⟩ := hv
  have hm : l.length ≤ 9223372036854775807 := by unfold maxLen at h2; omega
  have H4 := Go.Lib.hid h4; clear h4
  clear h3
  go_enter Tryz.func134, Tryz.ntmps134
  go_wp2_with fail
  go_loop [5, 10] (fun u i => ∃ k acc : Nat, k ≤ l.length ∧ k ≤ 9 ∧ i = .int .i64 (k : Int) ∧ u = .int .u64 (acc : Int) ∧ acc < 18446744073709551616 ∧ Hid (acc < 128 ^ k) ∧ Hid (getB l = getS (l.drop k) k acc)) (fun _ i => l.length - (intOf i).toNat)
  case atStart => exact ⟨0, 0, by omega, by omega, rfl, rfl, by omega, by simp [Hid], rfl⟩
  case round =>
    obtain ⟨k, acc, hk, hk9, rfl, rfl, hacc, hpow, hg⟩ := hrel
    by_cases hlt : k < l.length
    · obtain ⟨b, o, rfl, hc⟩ := H4.out (by intro e; subst e; simp at hlt)
      have hck := hc k hlt
      clear hc
      have hst := getS_step l k acc hlt
      obtain ⟨c, Hc⟩ : ∃ c, c = l[k] := ⟨_, rfl⟩
      have hc256 : c.toNat < 256 := c.toNat_lt
      rw [← Hc] at hck hst
      have Hst := Go.Lib.hid hst; clear hst
      have HC := Go.Lib.hid Hc; clear Hc
      by_cases hb9 : k = 9 ∧ 1 < c.toNat
      · have h9 : ((k : Int) == 9) = true := by simp; omega
        have hc1 : (1 : Int) < (c.toNat : Int) := by omega
        have Hb9 := Go.Lib.hid hb9; clear hb9
        go_wp2
        go_ret3
        exact ⟨ret_gv (r := (0, 0, 1)) rfl (by rw [hg.out, Hst.out, if_pos Hb9.out]), rfl⟩
      · obtain ⟨A, HA⟩ : ∃ A, A = acc + c.toNat % 128 * 128 ^ k := ⟨_, rfl⟩
        have hu0 := gather acc c.toNat k hk9 hc256 hpow.out (by intro h; omega)
        rw [← HA] at hu0
        obtain ⟨hu, hA⟩ := hu0
        have hnx := gather_next acc c.toNat k hpow.out
        rw [← HA] at hnx
        have Hnx := Go.Lib.hid hnx; clear hnx
        have HA' := Go.Lib.hid HA; clear HA
        have Hb9 := Go.Lib.hid hb9
        have hq9 : ¬ ((k : Int) = 9 ∧ (1 : Int) < (c.toNat : Int)) := by omega
        clear hb9
        by_cases h128 : 128 ≤ c.toNat
        · have hk9' : k < 9 := by omega
          have h9 : ((k : Int) == 9) = false := by simp; omega
          go_wp2
          go_round
          case rel => exact ⟨k + 1, A, by omega, by omega, by go_num, rfl, hA, Hnx, by rw [Hid, hg.out, Hst.out, if_neg Hb9.out, if_pos h128, HA'.out]⟩
          case measure => simp [intOf]; omega
        · by_cases h0 : c.toNat = 0 ∧ 0 < k
          · have H0 := Go.Lib.hid h0
            have hc0 : ((c.toNat : Int) == 0) = true := by simp; omega
            have hkp : 0 < k := h0.2
            have hc1 : ¬ (1 : Int) < (c.toNat : Int) := by omega
            have hd : decide ((1 : Int) < (c.toNat : Int)) = false := by simp; omega
            clear h0
            by_cases h9 : ((k : Int) == 9) = true
            all_goals
              go_wp2
              go_ret3
              exact ⟨ret_gv (r := (0, 0, 1)) rfl (by rw [hg.out, Hst.out, if_neg Hb9.out, if_neg h128, if_pos H0.out]), rfl⟩
          · have H0 := Go.Lib.hid h0
            have hfin : getB l = (unzig A, k + 1, 0) := by
              rw [hg.out, Hst.out, if_neg Hb9.out, if_neg h128, if_neg h0, HA'.out, Nat.mod_eq_of_lt (by omega)]
            have Hfin := Go.Lib.hid hfin
            clear h0 hfin
            by_cases hk9' : k = 9
            · have h9 : ((k : Int) == 9) = true := by simp; omega
              have hd : decide ((1 : Int) < (c.toNat : Int)) = false := by simp; omega
              have hc0 : ((c.toNat : Int) == 0) = false := by have := H0.out; simp; omega
              have Hk9 := Go.Lib.hid hk9'; clear hk9'
              go_wp2_with (go_at_call 154; refine (signed_c A _ hA).mono ?_; rintro e w1 ⟨rfl, rfl⟩)
              go_ret3
              exact ⟨ret_gv (r := (unzig A, k + 1, 0)) rfl Hfin.out.symm, rfl⟩
            · have h9 : ((k : Int) == 9) = false := by simp; omega
              by_cases hc0 : ((c.toNat : Int) == 0) = true
              · have hkp : ¬ (0 : Int) < (k : Int) := by have := H0.out; simp at hc0; omega
                have hd : decide ((0 : Int) < (k : Int)) = false := by simp; omega
                go_wp2_with (go_at_call 154; refine (signed_c A _ hA).mono ?_; rintro e w1 ⟨rfl, rfl⟩)
                go_ret3
                exact ⟨ret_gv (r := (unzig A, k + 1, 0)) rfl Hfin.out.symm, rfl⟩
              · have hc0' : ((c.toNat : Int) == 0) = false := by simpa using hc0
                clear hc0
                go_wp2_with (go_at_call 154; refine (signed_c A _ hA).mono ?_; rintro e w1 ⟨rfl, rfl⟩)
                go_ret3
                exact ⟨ret_gv (r := (unzig A, k + 1, 0)) rfl Hfin.out.symm, rfl⟩
    · go_wp2
      go_ret3
      exact ⟨ret_gv (r := (0, 0, 2)) rfl (by rw [hg.out, List.drop_of_length_le (by omega), getS]), rfl⟩

end Go.Proofs.YthbnecdeebmlhaaGreat

namespace Go.Proofs.YthbnecdeebmlhaaGreat
open Go.RowKit
open Go.Lib (uvarint zigzag)

/-- What GetText answers, as values. -/
def tv (r : List UInt8 × Nat × Int) : Value := .tuple #[.string (str r.1), .int .i64 (r.2.1 : Int), .int .i64 r.2.2]

theorem ret_tv {e : Ending} {r s : List UInt8 × Nat × Int} (he : e = .returned (tv r)) (h : r = s) : e = .returned (tv s) := by rw [he, h]

theorem getText_c (v : Value) (l : List UInt8) (w : World) (hv : RB w v l) :
    Calls Tryz.prog 117 #[v] w fun e w' => e = .returned (tv (textB l)) ∧ w = w' := by
  have hrb := hv
  obtain ⟨a, cap, rfl, h1, h2, h3, h4⟩ := hv
  have hm : l.length ≤ 9223372036854775807 := by unfold maxLen at h2; omega
  clear h4 h3
  have hget := get_c (.slice a l.length cap) l w hrb
  have hfit := getB_fits l
  have htx : textB l = textB l := rfl
  conv at htx => rhs; unfold textB
  rcases hr : getB l with ⟨n, k, er⟩
  rw [hr] at hget hfit htx
  simp only [] at hfit htx
  obtain ⟨f1, f2, f3, f4, f5, f6⟩ := hfit
  have Hget := Go.Lib.hid hget; clear hget
  have Hr := Go.Lib.hid hr; clear hr
  have Htx := Go.Lib.hid htx; clear htx
  by_cases her : er = 0
  · subst her
    by_cases hn : n < 0 ∨ 65536 < n
    · have htx := Htx.out
      rw [if_neg (by simp), if_pos hn] at htx
      have Ht := Go.Lib.hid htx; clear htx
      by_cases hn0 : n < 0
      all_goals
        go_enter Tryz.func117, Tryz.ntmps117
        go_wp2_with (go_at_call 134; refine Hget.out.mono ?_; rintro e w1 ⟨rfl, rfl⟩; unfold gv)
        go_ret3
        exact ⟨ret_tv (r := ([], 0, 1)) rfl Ht.out.symm, rfl⟩
    · by_cases hlen : l.length < k + n.toNat
      · have htx := Htx.out
        rw [if_neg (by simp), if_neg hn, if_pos hlen] at htx
        have Ht := Go.Lib.hid htx; clear htx
        go_enter Tryz.func117, Tryz.ntmps117
        go_wp2_with (go_at_call 134; refine Hget.out.mono ?_; rintro e w1 ⟨rfl, rfl⟩; unfold gv)
        go_ret3
        exact ⟨ret_tv (r := ([], 0, 2)) rfl Ht.out.symm, rfl⟩
      · obtain ⟨m, rfl⟩ : ∃ m : Nat, n = (m : Int) := ⟨n.toNat, by omega⟩
        have htx := Htx.out
        rw [if_neg (by simp), if_neg hn, if_neg hlen, Int.toNat_natCast] at htx
        have ht2 : textB l = ((l.take (k + m)).drop k, k + m, 0) := by rw [htx, List.drop_take, show k + m - k = m from by omega]
        have Ht := Go.Lib.hid ht2; clear htx ht2
        rw [Int.toNat_natCast] at hlen
        go_enter Tryz.func117, Tryz.ntmps117
        go_wp2_with (first
          | (go_at_call 134; refine Hget.out.mono ?_; rintro e w1 ⟨rfl, rfl⟩; unfold gv)
          | (with_reducible show wpList _ _ _ (⟨some 34, _, _, _, _, _⟩ :: _) _ _; go_loud (refine wpList_slice_lh rfl (.tmp 31) (.tmp 32) (.tmp 33) 47 rfl 5 Tryz.underlying47 info8 (.slice a l.length cap) l .i64 .i64 _ _ k (k + m) rfl rfl rfl rfl (by omega) hrb (by omega) (by omega) ?_); intro v2 hv2)
          | (with_reducible show wpList _ _ _ (⟨some 35, _, _, _, _, _⟩ :: _) _ _; go_loud (refine wpList_string_RB rfl (.tmp 34) 47 9 rfl 5 Tryz.underlying47 Tryz.underlying5 Tryz.underlying9 v2 _ rfl hv2 ?_)))
        go_ret3
        exact ⟨ret_tv (r := ((l.take (k + m)).drop k, k + m, 0)) rfl Ht.out.symm, rfl⟩
  · have htx := Htx.out
    rw [if_pos her] at htx
    have Ht := Go.Lib.hid htx; clear htx
    go_enter Tryz.func117, Tryz.ntmps117
    go_wp2_with (go_at_call 134; refine Hget.out.mono ?_; rintro e w1 ⟨rfl, rfl⟩; unfold gv)
    go_ret3
    exact ⟨ret_tv (r := ([], 0, er)) rfl Ht.out.symm, rfl⟩

end Go.Proofs.YthbnecdeebmlhaaGreat

namespace Go.Proofs.YthbnecdeebmlhaaGreat
open Go.RowKit
open Go.Lib (uvarint zigzag)

/-- A value's bytes. -/
def putV (k n : Int) (s : List UInt8) : List UInt8 := uvarint (zigzag k) ++ (if k = 1 then uvarint (zigzag n) else putT s)

/-- What stands at the beginning of bytes. -/
def valB (l : List UInt8) : (Int × Int × List UInt8) × Nat × Int :=
  if (getB l).2.2 = 0 then
    if (getB l).1 = 1 then
      if (getB (l.drop (getB l).2.1)).2.2 = 0 then ((1, (getB (l.drop (getB l).2.1)).1, []), (getB l).2.1 + (getB (l.drop (getB l).2.1)).2.1, 0)
      else ((0, 0, []), 0, (getB (l.drop (getB l).2.1)).2.2)
    else if (getB l).1 = 2 then
      if (textB (l.drop (getB l).2.1)).2.2 = 0 then
        if mayR 2 0 (str (textB (l.drop (getB l).2.1)).1) then ((2, 0, (textB (l.drop (getB l).2.1)).1), (getB l).2.1 + (textB (l.drop (getB l).2.1)).2.1, 0)
        else ((0, 0, []), 0, 1)
      else ((0, 0, []), 0, (textB (l.drop (getB l).2.1)).2.2)
    else ((0, 0, []), 0, 1)
  else ((0, 0, []), 0, (getB l).2.2)

theorem mayR_cases {k n : Int} {s : List UInt8} (h : mayR k n (str s) = true) : (k = 1 ∧ s = []) ∨ (k = 2 ∧ n = 0 ∧ s.length ≤ 24) := by
  unfold mayR at h
  split at h
  · rename_i hk
    rw [ByteArray.toList_eq, List.isEmpty_iff] at h
    exact .inl ⟨hk, by simpa [str] using h⟩
  · split at h
    · rename_i hk
      rw [Bool.and_eq_true, Bool.and_eq_true, beq_iff_eq, decide_eq_true_eq, str_size] at h
      exact .inr ⟨hk, h.1.1, h.1.2⟩
    · cases h

theorem valB_put (k n : Int) (s r : List UInt8) (h : mayR k n (str s) = true) (h0 : -9223372036854775808 ≤ n) (h1 : n ≤ 9223372036854775807) : valB (putV k n s ++ r) = ((k, n, s), (putV k n s).length, 0) := by
  rcases mayR_cases h with ⟨rfl, rfl⟩ | ⟨rfl, rfl, hs⟩
  · have e1 : putV 1 n [] = uvarint (zigzag 1) ++ uvarint (zigzag n) := by simp [putV]
    have g1 := getB_put 1 (by omega) (by omega) (uvarint (zigzag n) ++ r)
    have g2 := getB_put n h0 h1 r
    rw [e1, List.append_assoc]
    unfold valB
    rw [g1]
    simp only [if_true, List.drop_left]
    rw [g2]
    simp
  · have e1 : putV 2 0 s = uvarint (zigzag 2) ++ putT s := by simp [putV]
    have g1 := getB_put 2 (by omega) (by omega) (putT s ++ r)
    have g2 := textB_put s r (by omega)
    rw [e1, List.append_assoc]
    unfold valB
    rw [g1]
    simp only [if_true, List.drop_left, show ¬ ((2 : Int) = 1) from by omega, if_false]
    rw [g2]
    simp [h]

/-- A raw value in a box of its own stands while what was made later changes. -/
theorem box_cells (w : World) (k n : Int) (s : ByteArray) (e : TypeId) (w' : World) (hb : Below (w.alloc (.cells #[.int .i64 k, .int .i64 n, .string s] e)).heap.size (w.alloc (.cells #[.int .i64 k, .int .i64 n, .string s] e)) w') :
    w'.cell? ⟨w.heap.size, 0, none⟩ = some (.int .i64 k) ∧ w'.cell? ⟨w.heap.size, 1, none⟩ = some (.int .i64 n) ∧ w'.cell? ⟨w.heap.size, 2, none⟩ = some (.string s) := by
  have hg := heap_alloc_new w (.cells #[.int .i64 k, .int .i64 n, .string s] e)
  have hlt : w.heap.size < (w.alloc (.cells #[.int .i64 k, .int .i64 n, .string s] e)).heap.size := (Array.getElem?_eq_some_iff.1 hg).1
  have c (i : Nat) := cell_of_row _ w.heap.size i #[.int .i64 k, .int .i64 n, .string s] e (0, 0) hg
  exact ⟨(hb.cell hlt).trans (c 0), (hb.cell hlt).trans (c 1), (hb.cell hlt).trans (c 2)⟩

set_option maxRecDepth 100000 in
theorem rputVal_c (k n : Int) (s : List UInt8) (w : World) (k0 : -9223372036854775808 ≤ k) (k1 : k ≤ 9223372036854775807) (h0 : -9223372036854775808 ≤ n) (h1 : n ≤ 9223372036854775807) (hs : s.length ≤ 60000) :
    Calls Tryz.prog 110 #[rawV k n (str s)] w fun e w' => ∃ v, e = .returned v ∧ Own 5 w' w.heap.size v (putV k n s) ∧ Below w.heap.size w w' := by
  unfold rawV
  have C1 := Go.Lib.hid fun W => rput_c k W k0 k1
  have hlk := Go.Lib.uvarint_length64 (Go.Lib.zigzag_lt k0 k1)
  have hln := Go.Lib.uvarint_length64 (Go.Lib.zigzag_lt h0 h1)
  have hbA := below_one w (.cells #[.int .i64 k, .int .i64 n, .string (str s)] 26)
  by_cases hk : k = 1
  · have C2 := Go.Lib.hid fun W => rput_c n W h0 h1
    have he : Hid (putV k n s = uvarint (zigzag k) ++ uvarint (zigzag n)) := by unfold Hid putV; rw [if_pos hk]
    have hkb : (k == 1) = true := by simp [hk]
    clear hk k0 k1 h0 h1
    generalize uvarint (zigzag k) = uk at *
    generalize uvarint (zigzag n) = un at *
    go_enter Tryz.func110, Tryz.ntmps110
    go_wp2_with fail
    refine (C1.out _).mono ?_
    rintro e w1 ⟨v1, rfl, hown1, hb1⟩
    obtain ⟨x0, x1, x2⟩ := box_cells _ _ _ _ _ _ hb1
    have hbb1 := hbA.trans (hb1.mono hbA.size)
    have hown1' := hown1.mono hbA.size
    clear hown1 hb1 hbA
    go_wp2_with fail
    refine (C2.out _).mono ?_
    rintro e w2 ⟨v2, rfl, hown2, hb2⟩
    have hbb2 := hbb1.trans (hb2.mono hbb1.size)
    have hownA := hown1'.below hb2
    have hrb2 := hown2.rb
    clear hown1' hown2 hb2 hbb1 x0 x1 x2
    go_wp2_with (first
      | (with_reducible show wpList _ _ _ (⟨some 14, _, _, _, _, _⟩ :: _) _ _; go_loud (refine wpList_append_RB rfl (.tmp 10) (.tmp 13) 47 rfl w.heap.size 5 Tryz.underlying47 info8 v1 v2 uk un rfl rfl hownA hrb2 (by omega) hbb2.size ?_); intro v3 w3 hown3 hg3; have hbb3 := hbb2.grown hg3 hbb2.size hownA.row)
      | fail)
    go_ret
    exact ⟨_, rfl, by rw [he.out]; exact hown3, hbb3⟩
  · have C2 := Go.Lib.hid fun W => rputText_c (str s) W (by rw [str_size]; omega)
    have e1 : putT (str s).data.toList = putT s := by simp [str]
    have e2 : (putT s).length ≤ 60010 := by
      rw [putT, List.length_append]
      have := Go.Lib.uvarint_length64 (Go.Lib.zigzag_lt (x := (s.length : Int)) (by omega) (by omega))
      omega
    have he : Hid (putV k n s = uvarint (zigzag k) ++ putT s) := by unfold Hid putV; rw [if_neg hk]
    have hkb : (k == 1) = false := by simp [hk]
    have C2 := C2.out
    rw [e1] at C2
    have C3 := Go.Lib.hid C2
    clear C2
    clear hk k0 k1 h0 h1 e1
    generalize uvarint (zigzag k) = uk at *
    generalize putT s = un at *
    go_enter Tryz.func110, Tryz.ntmps110
    go_wp2_with fail
    refine (C1.out _).mono ?_
    rintro e w1 ⟨v1, rfl, hown1, hb1⟩
    obtain ⟨x0, x1, x2⟩ := box_cells _ _ _ _ _ _ hb1
    have hbb1 := hbA.trans (hb1.mono hbA.size)
    have hown1' := hown1.mono hbA.size
    clear hown1 hb1 hbA
    go_wp2_with fail
    refine (C3.out _).mono ?_
    rintro e w2 ⟨v2, rfl, hown2, hb2⟩
    have hbb2 := hbb1.trans (hb2.mono hbb1.size)
    have hownA := hown1'.below hb2
    have hrb2 := hown2.rb
    clear hown1' hown2 hb2 hbb1 x0 x1 x2
    go_wp2_with (first
      | (with_reducible show wpList _ _ _ (⟨some 19, _, _, _, _, _⟩ :: _) _ _; go_loud (refine wpList_append_RB rfl (.tmp 15) (.tmp 18) 47 rfl w.heap.size 5 Tryz.underlying47 info8 v1 v2 uk un rfl rfl hownA hrb2 (by omega) hbb2.size ?_); intro v3 w3 hown3 hg3; have hbb3 := hbb2.grown hg3 hbb2.size hownA.row)
      | fail)
    go_ret
    exact ⟨_, rfl, by rw [he.out]; exact hown3, hbb3⟩

def vv (r : (Int × Int × List UInt8) × Nat × Int) : Value := .tuple #[rawV r.1.1 r.1.2.1 (str r.1.2.2), .int .i64 (r.2.1 : Int), .int .i64 r.2.2]
theorem valB_err (l : List UInt8) (k e : Int) (p : Nat) (h : getB l = (k, p, e)) (he : e ≠ 0) : valB l = ((0, 0, []), 0, e) := by
  unfold valB
  rw [h]
  simp [he]
theorem valB_num (l : List UInt8) (p m : Nat) (n e : Int) (h : getB l = (1, p, 0)) (g : getB (l.drop p) = (n, m, e)) : valB l = if e = 0 then ((1, n, []), p + m, 0) else ((0, 0, []), 0, e) := by
  unfold valB
  rw [h]
  simp only [if_true]
  rw [g]
theorem valB_text (l s : List UInt8) (p m : Nat) (e : Int) (h : getB l = (2, p, 0)) (g : textB (l.drop p) = (s, m, e)) : valB l = if e = 0 then (if mayR 2 0 (str s) then ((2, 0, s), p + m, 0) else ((0, 0, []), 0, 1)) else ((0, 0, []), 0, e) := by
  unfold valB
  rw [h]
  simp only [if_true, show ¬ ((2 : Int) = 1) from by omega, if_false]
  rw [g]
theorem valB_else (l : List UInt8) (k : Int) (p : Nat) (h : getB l = (k, p, 0)) (h1 : k ≠ 1) (h2 : k ≠ 2) : valB l = ((0, 0, []), 0, 1) := by
  unfold valB
  rw [h]
  simp [h1, h2]

theorem raw_cells_one (k n : Int) (s : ByteArray) : (#[.int .i64 k, .int .i64 n, .string s] : Array Value).all (fun x => x.oneCell') = true := by simp [Value.oneCell']
theorem setRow_below {w0 w : World} {g : Nat} (cs : Array Value) (h : Below w0.heap.size w0 w) (hg : w0.heap.size ≤ g) : Below w0.heap.size w0 (w.setRow g cs) := h.trans ⟨rfl, rfl, rfl, by simp, fun k hk => setRow_other _ _ _ _ (by omega)⟩

theorem two_first (w : World) (o1 o2 : Obj) : ((w.alloc o1).alloc o2).heap[w.heap.size]? = some o1 := by
  have h := heap_alloc_new w o1
  rw [_root_.Go.heap_alloc_old (w.alloc o1) o2 (Array.getElem?_eq_some_iff.1 h).1]
  exact h

theorem textB_small {l s : List UInt8} {m : Nat} {e : Int} (h : textB l = (s, m, e)) (he : e = 0) : s.length ≤ 65536 ∧ m ≤ 70000 := by
  have hf := getB_fits l
  unfold textB at h
  split at h
  · simp only [Prod.mk.injEq] at h
    have := h.1
    have := h.2.1
    subst s
    subst m
    simp
  · split at h
    · simp only [Prod.mk.injEq] at h
      omega
    · split at h
      · simp only [Prod.mk.injEq] at h
        omega
      · simp only [Prod.mk.injEq] at h
        obtain ⟨h1, h2, -⟩ := h
        subst h1
        rw [List.length_take]
        omega

end Go.Proofs.YthbnecdeebmlhaaGreat

namespace Go.Proofs.YthbnecdeebmlhaaGreat
open Go.RowKit
open Go.Lib (uvarint zigzag)

/-- What may be a record. -/
def mayRec (key : ByteArray) (gone : Bool) (k n : Int) (s : ByteArray) : Bool := mayK key && (if gone then k == 0 && n == 0 && s.toList.isEmpty else mayR k n s)
/-- The same Key, Gone, Val. -/
def eqRec (key1 : ByteArray) (gone1 : Bool) (k1 n1 : Int) (s1 key2 : ByteArray) (gone2 : Bool) (k2 n2 : Int) (s2 : ByteArray) : Bool := key1.toList == key2.toList && gone1 == gone2 && eqR k1 n1 s1 k2 n2 s2
/-- A record's bytes. -/
def recB (key : List UInt8) (gone : Bool) (k n : Int) (s : List UInt8) : List UInt8 := putT key ++ (if gone then uvarint (zigzag 0) else putV k n s)

def recO (key : ByteArray) (gone : Bool) (k n : Int) (s : ByteArray) : Obj := .cells #[.string key, .bool gone, .int .i64 k, .int .i64 n, .string s] 28

set_option maxRecDepth 100000 in
theorem rmayrec_c (key : ByteArray) (gone : Bool) (k n : Int) (s : ByteArray) (w : World) (hk : key.size ≤ maxLen) (hm : s.size ≤ maxLen) :
    Calls Tryz.prog 37 #[recV key gone k n s] w fun e w' => e = .returned (.bool (mayRec key gone k n s)) ∧ Below w.heap.size w w' := by
  unfold recV
  have C1 := Go.Lib.hid fun W => rmay_c key W hk
  have C2 := Go.Lib.hid fun W => mayval_c k n s W hm
  clear hk hm
  cases h1 : mayK key with
  | false =>
    have hv := Go.Lib.hid (show mayRec key gone k n s = false from by unfold mayRec; rw [h1]; rfl)
    rw [h1] at C1
    clear h1
    go_enter Tryz.func37, Tryz.ntmps37
    go_wp2_with fail
    refine (C1.out _).mono ?_
    rintro e w1 ⟨rfl, rfl⟩
    go_wp2_with fail
    go_ret
    exact ⟨ret_of (congrArg Value.bool hv.out.symm), below_one _ _⟩
  | true =>
    have hv := Go.Lib.hid (show mayRec key gone k n s = (if gone then k == 0 && n == 0 && s.toList.isEmpty else mayR k n s) from by unfold mayRec; rw [h1]; rfl)
    rw [h1] at C1
    clear h1
    cases gone with
    | false =>
      have hv := Go.Lib.hid (hv.out.trans (if_neg (by decide)))
      go_enter Tryz.func37, Tryz.ntmps37
      go_wp2_with fail
      refine (C1.out _).mono ?_
      rintro e w1 ⟨rfl, rfl⟩
      go_wp2_with fail
      refine (C2.out _).mono ?_
      rintro e w2 ⟨rfl, hb2⟩
      have hbb := (below_one w _).trans (hb2.mono (below_one w _).size)
      go_wp2_with fail
      go_ret
      exact ⟨ret_of (congrArg Value.bool hv.out.symm), hbb⟩
    | true =>
      have hv := Go.Lib.hid (hv.out.trans (if_pos rfl))
      clear C2
      by_cases hk : k = 0
      · by_cases hn : n = 0
        · have he : Hid (mayRec key true k n s = s.toList.isEmpty) := by
            unfold Hid
            rw [hv.out, hk, hn]
            cases s.toList <;> rfl
          clear hv
          go_enter Tryz.func37, Tryz.ntmps37
          go_wp2_with fail
          refine (C1.out _).mono ?_
          rintro e w1 ⟨rfl, rfl⟩
          go_wp2_with fail
          go_ret
          exact ⟨ret_of (congrArg Value.bool (by first | exact he.out.symm | (subst hk; subst hn; exact he.out.symm))), below_one _ _⟩
        · have he : Hid (mayRec key true k n s = false) := by unfold Hid; rw [hv.out]; simp [hn]
          have hnb : (n == 0) = false := by simp [hn]
          clear hv
          go_enter Tryz.func37, Tryz.ntmps37
          go_wp2_with fail
          refine (C1.out _).mono ?_
          rintro e w1 ⟨rfl, rfl⟩
          go_wp2_with fail
          go_ret
          exact ⟨ret_of (congrArg Value.bool (by first | exact he.out.symm | (subst hk; exact he.out.symm))), below_one _ _⟩
      · have he : Hid (mayRec key true k n s = false) := by unfold Hid; rw [hv.out]; simp [hk]
        have hkb : (k == 0) = false := by simp [hk]
        clear hv
        go_enter Tryz.func37, Tryz.ntmps37
        go_wp2_with fail
        refine (C1.out _).mono ?_
        rintro e w1 ⟨rfl, rfl⟩
        go_wp2_with fail
        go_ret
        exact ⟨ret_of (congrArg Value.bool he.out.symm), below_one _ _⟩

set_option maxRecDepth 100000 in
theorem reqrec_c (key1 : ByteArray) (gone1 : Bool) (k1 n1 : Int) (s1 key2 : ByteArray) (gone2 : Bool) (k2 n2 : Int) (s2 : ByteArray) (w : World) :
    Calls Tryz.prog 30 #[recV key1 gone1 k1 n1 s1, recV key2 gone2 k2 n2 s2] w fun e w' => e = .returned (.bool (eqRec key1 gone1 k1 n1 s1 key2 gone2 k2 n2 s2)) ∧ Below w.heap.size w w' := by
  unfold recV
  have C := Go.Lib.hid fun W => eqval_c k1 n1 s1 k2 n2 s2 W
  unfold rawV at C
  by_cases h1 : key1 = key2
  · by_cases h2 : gone1 = gone2
    · have he : Hid (eqRec key1 gone1 k1 n1 s1 key2 gone2 k2 n2 s2 = eqR k1 n1 s1 k2 n2 s2) := by unfold Hid eqRec; simp [h1, h2]
      subst h1 h2
      go_enter Tryz.func30, Tryz.ntmps30
      go_wp2_with fail
      refine (C.out _).mono ?_
      rintro e w2 ⟨rfl, hb2⟩
      have hbb := (below_two w _ _).trans (hb2.mono (below_two w _ _).size)
      go_wp2_with fail
      go_ret
      exact ⟨ret_of (congrArg Value.bool he.out.symm), hbb⟩
    · have he : Hid (eqRec key1 gone1 k1 n1 s1 key2 gone2 k2 n2 s2 = false) := by unfold Hid eqRec; simp [h2]
      have hgb : (gone1 == gone2) = false := by simp [h2]
      subst h1
      go_enter Tryz.func30, Tryz.ntmps30
      go_wp2_with fail
      go_ret
      exact ⟨ret_of (congrArg Value.bool he.out.symm), below_two _ _ _⟩
  · have hkb : (key1.toList == key2.toList) = false := by
      rw [ByteArray.toList_eq, ByteArray.toList_eq]
      simp only [beq_eq_false_iff_ne, ne_eq]
      exact fun h => h1 (ByteArray.ext (Array.toList_inj.1 h))
    have he : Hid (eqRec key1 gone1 k1 n1 s1 key2 gone2 k2 n2 s2 = false) := by unfold Hid eqRec; rw [hkb]; rfl
    clear h1
    go_enter Tryz.func30, Tryz.ntmps30
    go_wp2_with fail
    go_ret
    exact ⟨ret_of (congrArg Value.bool he.out.symm), below_two _ _ _⟩

/-- The five cells of a record in a box of its own, whatever was made later. -/
theorem rec_box {w w' : World} (key : ByteArray) (gone : Bool) (k n : Int) (s : ByteArray) (hb : Below (w.alloc (recO key gone k n s)).heap.size (w.alloc (recO key gone k n s)) w') :
    w'.heap[w.heap.size]? = some (recO key gone k n s) ∧ w'.cell? ⟨w.heap.size, 0, none⟩ = some (.string key) ∧ w'.cell? ⟨w.heap.size, 1, none⟩ = some (.bool gone) ∧ w'.cell? ⟨w.heap.size, 2, none⟩ = some (.int .i64 k) ∧ w'.cell? ⟨w.heap.size, 3, none⟩ = some (.int .i64 n) ∧ w'.cell? ⟨w.heap.size, 4, none⟩ = some (.string s) := by
  have hg := heap_alloc_new w (recO key gone k n s)
  have hlt : w.heap.size < (w.alloc (recO key gone k n s)).heap.size := (Array.getElem?_eq_some_iff.1 hg).1
  have hh := (hb.block _ hlt).trans hg
  unfold recO at *
  have c (i : Nat) := cell_of_row w' w.heap.size i _ _ _ hh
  exact ⟨hh, c 0, c 1, c 2, c 3, c 4⟩

end Go.Proofs.YthbnecdeebmlhaaGreat

namespace Go.Proofs.YthbnecdeebmlhaaGreat

section
variable {R K : Type} [DecidableEq K] (key : R → K) (lt : K → K → Bool)

/-- The order of keys. -/
structure Ordered : Prop where
  irr : ∀ a, lt a a = false
  trans : ∀ a b c, lt a b = true → lt b c = true → lt a c = true
  tri : ∀ a b, lt a b = true ∨ a = b ∨ lt b a = true

def Rising (l : List R) : Prop := l.Pairwise fun a b => lt (key a) (key b) = true
def findK (l : List R) (k : K) : Option R := l.find? fun x => decide (key x = k)
/-- One record more: the walk of the reference. -/
def setGo (r : R) : List R → Bool → List R
  | [], done => if done then [] else [r]
  | x :: t, done => (if !done && !(lt (key x) (key r)) then [r] else []) ++ ((if key x = key r then [] else [x]) ++ setGo r t (done || (!done && !(lt (key x) (key r)))))
def newestK (l : List R) : List R := l.foldl (fun a r => setGo key lt r a false) []

variable {key lt}
theorem setGo_done (r : R) : ∀ l : List R, (∀ x ∈ l, key x ≠ key r) → setGo key lt r l true = l := by
  intro l
  induction l with
  | nil => intro _; rfl
  | cons x t ih =>
    intro h
    have hx := h x (List.mem_cons_self ..)
    simp [setGo, hx, ih fun y hy => h y (List.mem_cons_of_mem _ hy)]

/-- Of a row that rises: what lies below, the record, what lies above. -/
theorem setGo_mem (O : Ordered lt) (r : R) : ∀ l : List R, Rising key lt l → ∀ y, y ∈ setGo key lt r l false → y = r ∨ (y ∈ l ∧ key y ≠ key r) := by
  intro l
  induction l with
  | nil => intro _ y hy; simp [setGo] at hy; exact .inl hy
  | cons x t ih =>
    intro hl y hy
    have ht : Rising key lt t := (List.pairwise_cons.1 hl).2
    have hxt := (List.pairwise_cons.1 hl).1
    cases hb : lt (key x) (key r) with
    | true =>
      have hne : key x ≠ key r := fun e => by rw [e, O.irr] at hb; cases hb
      simp [setGo, hb, hne] at hy
      rcases hy with rfl | hy
      · exact .inr ⟨List.mem_cons_self .., hne⟩
      · rcases ih ht y hy with h | h
        · exact .inl h
        · exact .inr ⟨List.mem_cons_of_mem _ h.1, h.2⟩
    | false =>
      have hd : ∀ z ∈ t, key z ≠ key r := by
        intro z hz e
        have := hxt z hz
        rw [e, hb] at this
        cases this
      have e := setGo_done (lt := lt) r t hd
      by_cases hk : key x = key r
      · simp [setGo, hk, O.irr, e] at hy
        rcases hy with h | h
        · exact .inl h
        · exact .inr ⟨List.mem_cons_of_mem _ h, hd y h⟩
      · simp [setGo, hb, hk, e] at hy
        rcases hy with h | h | h
        · exact .inl h
        · subst h; exact .inr ⟨List.mem_cons_self .., hk⟩
        · exact .inr ⟨List.mem_cons_of_mem _ h, hd y h⟩

theorem setGo_rising (O : Ordered lt) (r : R) : ∀ l : List R, Rising key lt l → Rising key lt (setGo key lt r l false) := by
  intro l
  induction l with
  | nil => intro _; simp [setGo, Rising]
  | cons x t ih =>
    intro hl
    have ht : Rising key lt t := (List.pairwise_cons.1 hl).2
    have hxt := (List.pairwise_cons.1 hl).1
    cases hb : lt (key x) (key r) with
    | true =>
      have hne : key x ≠ key r := fun e => by rw [e, O.irr] at hb; cases hb
      have e : setGo key lt r (x :: t) false = x :: setGo key lt r t false := by simp [setGo, hb, hne]
      rw [e]
      refine List.pairwise_cons.2 ⟨fun y hy => ?_, ih ht⟩
      rcases setGo_mem O r t ht y hy with rfl | h
      · exact hb
      · exact hxt y h.1
    | false =>
      have hd : ∀ z ∈ t, key z ≠ key r := by
        intro z hz e
        have := hxt z hz
        rw [e, hb] at this
        cases this
      have e := setGo_done (lt := lt) r t hd
      by_cases hk : key x = key r
      · have e2 : setGo key lt r (x :: t) false = r :: t := by simp [setGo, hk, O.irr, e]
        rw [e2]
        exact List.pairwise_cons.2 ⟨fun y hy => by rw [← hk]; exact hxt y hy, ht⟩
      · have e2 : setGo key lt r (x :: t) false = r :: x :: t := by simp [setGo, hb, hk, e]
        rw [e2]
        have hrx : lt (key r) (key x) = true := by
          rcases O.tri (key x) (key r) with h | h | h
          · rw [h] at hb; cases hb
          · exact absurd h hk
          · exact h
        refine List.pairwise_cons.2 ⟨fun y hy => ?_, hl⟩
        rcases List.mem_cons.1 hy with rfl | h
        · exact hrx
        · exact O.trans _ _ _ hrx (hxt y h)

theorem setGo_find (O : Ordered lt) (r : R) (k : K) : ∀ l : List R, Rising key lt l → findK key (setGo key lt r l false) k = if key r = k then some r else findK key l k := by
  intro l
  induction l with
  | nil => intro _; by_cases h : key r = k <;> simp [setGo, findK, h]
  | cons x t ih =>
    intro hl
    have ht : Rising key lt t := (List.pairwise_cons.1 hl).2
    have hxt := (List.pairwise_cons.1 hl).1
    cases hb : lt (key x) (key r) with
    | true =>
      have hne : key x ≠ key r := fun e => by rw [e, O.irr] at hb; cases hb
      have e : setGo key lt r (x :: t) false = x :: setGo key lt r t false := by simp [setGo, hb, hne]
      rw [e]
      have := ih ht
      unfold findK at this ⊢
      rw [List.find?_cons, List.find?_cons]
      by_cases hx : key x = k
      · have hr : ¬ key r = k := fun h => hne (hx.trans h.symm)
        simp [hx, hr]
      · simp [hx, this]
    | false =>
      have hd : ∀ z ∈ t, key z ≠ key r := by
        intro z hz e
        have := hxt z hz
        rw [e, hb] at this
        cases this
      have e := setGo_done (lt := lt) r t hd
      by_cases hk : key x = key r
      · have e2 : setGo key lt r (x :: t) false = r :: t := by simp [setGo, hk, O.irr, e]
        rw [e2]
        unfold findK
        rw [List.find?_cons, List.find?_cons]
        by_cases hr : key r = k
        · simp [hr]
        · simp [hr, hk]
      · have e2 : setGo key lt r (x :: t) false = r :: x :: t := by simp [setGo, hb, hk, e]
        rw [e2]
        unfold findK
        rw [List.find?_cons]
        by_cases hr : key r = k <;> simp [hr]

theorem rising_ext (O : Ordered lt) : ∀ l m : List R, Rising key lt l → Rising key lt m → (∀ k, findK key l k = findK key m k) → l = m := by
  have hnone : ∀ l : List R, (∀ k, findK key l k = none) → l = [] := by
    intro l h
    cases l with
    | nil => rfl
    | cons x t => have := h (key x); simp [findK] at this
  have habove : ∀ (x : R) (t : List R) (k : K), (∀ a ∈ t, lt (key x) (key a) = true) → lt k (key x) = true ∨ k = key x → findK key t k = none := by
    intro x t k h hk
    unfold findK
    rw [List.find?_eq_none]
    intro a ha
    simp only [decide_eq_true_eq]
    intro e
    have h1 := h a ha
    rw [e] at h1
    rcases hk with h2 | h2
    · have := O.trans _ _ _ h2 h1
      rw [O.irr] at this; cases this
    · rw [h2, O.irr] at h1; cases h1
  intro l
  induction l with
  | nil => intro m _ _ h; exact (hnone m fun k => (h k).symm).symm
  | cons x t ih =>
    intro m hl hm h
    cases m with
    | nil => have := h (key x); simp [findK] at this
    | cons y u =>
      have hxt := (List.pairwise_cons.1 hl).1
      have hyu := (List.pairwise_cons.1 hm).1
      have hx := h (key x)
      have hy := h (key y)
      have hkk : key x = key y := by
        rcases O.tri (key x) (key y) with g | g | g
        · have hne : key y ≠ key x := fun e => by rw [e, O.irr] at g; cases g
          have := habove y u (key x) hyu (.inl g)
          unfold findK at hx this
          rw [List.find?_cons, List.find?_cons, this] at hx
          simp [hne] at hx
        · exact g
        · have hne : key x ≠ key y := fun e => by rw [e, O.irr] at g; cases g
          have := habove x t (key y) hxt (.inl g)
          unfold findK at hy this
          rw [List.find?_cons, List.find?_cons, this] at hy
          simp [hne] at hy
      have hxy : x = y := by
        unfold findK at hx
        rw [List.find?_cons, List.find?_cons] at hx
        simpa [hkk] using hx
      subst hxy
      refine congrArg (x :: ·) (ih u (List.pairwise_cons.1 hl).2 (List.pairwise_cons.1 hm).2 fun k => ?_)
      by_cases hk : key x = k
      · subst hk
        rw [habove x t _ hxt (.inr rfl), habove x u _ hyu (.inr rfl)]
      · have := h k
        unfold findK at this ⊢
        rw [List.find?_cons, List.find?_cons] at this
        simpa [hk] using this

theorem newestK_rising (O : Ordered lt) (l : List R) : Rising key lt (newestK key lt l) := by
  have : ∀ (l a : List R), Rising key lt a → Rising key lt (l.foldl (fun a r => setGo key lt r a false) a) := by
    intro l
    induction l with
    | nil => intro a h; exact h
    | cons r l ih => intro a h; exact ih _ (setGo_rising O r a h)
  exact this l [] List.Pairwise.nil
theorem newestK_find (O : Ordered lt) (l : List R) (k : K) : findK key (newestK key lt l) k = findK key l.reverse k := by
  have : ∀ (l a : List R), Rising key lt a → findK key (l.foldl (fun a r => setGo key lt r a false) a) k = findK key (l.reverse ++ a) k := by
    intro l
    induction l with
    | nil => intro a _; rfl
    | cons r l ih =>
      intro a h
      rw [List.foldl_cons, ih _ (setGo_rising O r a h), List.reverse_cons, List.append_assoc]
      have := setGo_find O r k a h
      unfold findK at this ⊢
      rw [List.find?_append, List.find?_append, this, List.singleton_append, List.find?_cons]
      by_cases hr : key r = k <;> simp [hr]
  have h := this l [] List.Pairwise.nil
  rw [List.append_nil] at h
  exact h
end

end Go.Proofs.YthbnecdeebmlhaaGreat
