/-
  The reference's own decoding: what it looks at, and that it is what a range tells.
-/
import Derived.Test.YtmlndgkpbodnnaaRunM
namespace Go.Proofs.Ytmlndgkpbodnnaa
open Go.RowKit

def atB (l : List UInt8) (k : Nat) : Nat := (l.getD k 0).toNat
theorem atB_lt (l : List UInt8) (k : Nat) : atB l k < 256 := (l.getD k 0).toNat_lt

/-- How many bytes a first byte asks for, the least rune, and what it brings itself. -/
def Lead (c n low r0 : Nat) : Prop := (192 ≤ c ∧ c < 224 ∧ n = 2 ∧ low = 128 ∧ r0 = c - 192) ∨ (224 ≤ c ∧ c < 240 ∧ n = 3 ∧ low = 2048 ∧ r0 = c - 224) ∨ (240 ≤ c ∧ c < 248 ∧ n = 4 ∧ low = 65536 ∧ r0 = c - 240)
/-- What k further bytes make. -/
def acc (l : List UInt8) (r0 : Nat) : Nat → Nat
  | 0 => r0
  | k + 1 => acc l r0 k * 64 + atB l (k + 1) % 64
def Conts (l : List UInt8) (n : Nat) : Prop := ∀ j, 1 ≤ j → j < n → 128 ≤ atB l j ∧ atB l j ≤ 191
/-- A rune of n bytes stands there. -/
def Good (l : List UInt8) (n low r0 : Nat) : Prop := n ≤ l.length ∧ Conts l n ∧ low ≤ acc l r0 (n - 1) ∧ acc l r0 (n - 1) ≤ 1114111 ∧ ¬ (55296 ≤ acc l r0 (n - 1) ∧ acc l r0 (n - 1) < 57344)

theorem dr_eq (l : List UInt8) {a b : Nat} (h : Utf8.decode (str l) 0 = (a, b)) : dr l = a ∧ dw l = b := by
  unfold dr dw
  rw [h]
  exact ⟨rfl, rfl⟩

theorem d_ascii (l : List UInt8) (hl : l ≠ []) (h : atB l 0 < 128) : dr l = atB l 0 ∧ dw l = 1 ∧ okB l = true := by
  have key : Utf8.decode (str l) 0 = (atB l 0, 1) := by
    unfold atB at h
    unfold Utf8.decode
    simp only [get_str, str_size, if_pos h]
    rfl
  obtain ⟨h1, h2⟩ := dr_eq l key
  refine ⟨h1, h2, ?_⟩
  cases ho : okB l with
  | true => rfl
  | false =>
    have := (okB_false ho hl).1
    omega

theorem d_bad (l : List UInt8) (hl : l ≠ []) (h : 128 ≤ atB l 0) (hd : Utf8.decode (str l) 0 = (65533, 1)) : dr l = 65533 ∧ dw l = 1 ∧ okB l = false := by
  obtain ⟨h1, h2⟩ := dr_eq l hd
  exact ⟨h1, h2, (okB_bad hl h2 h).1⟩

theorem d_good (l : List UInt8) (hl : l ≠ []) {r n : Nat} (hn : 2 ≤ n) (hd : Utf8.decode (str l) 0 = (r, n)) : dr l = r ∧ dw l = n ∧ okB l = true := by
  obtain ⟨h1, h2⟩ := dr_eq l hd
  refine ⟨h1, h2, ?_⟩
  cases ho : okB l with
  | true => rfl
  | false =>
    have := (okB_false ho hl).2
    omega

theorem cont_iff (l : List UInt8) (k : Nat) : (decide (0 + k < l.length) && (l.getD k 0).toNat / 64 == 2) = true ↔ k < l.length ∧ 128 ≤ atB l k ∧ atB l k ≤ 191 := by
  rw [Bool.and_eq_true, decide_eq_true_eq, beq_iff_eq]
  unfold atB
  omega

theorem d_none (l : List UInt8) (hl : l ≠ []) (h : 128 ≤ atB l 0) (h2 : atB l 0 < 192 ∨ 248 ≤ atB l 0) : dr l = 65533 ∧ dw l = 1 ∧ okB l = false := by
  refine d_bad l hl h ?_
  unfold atB at h h2
  unfold Utf8.decode
  simp only [get_str, str_size]
  rw [if_neg (by omega), if_neg (by rw [Bool.and_eq_true, beq_iff_eq]; omega), if_neg (by rw [Bool.and_eq_true, Bool.and_eq_true, beq_iff_eq]; omega), if_neg (by rw [Bool.and_eq_true, Bool.and_eq_true, Bool.and_eq_true, beq_iff_eq]; omega)]
  rfl

theorem good_of (l : List UInt8) (n low r0 A : Nat) (h : acc l r0 (n - 1) = A) (h1 : n ≤ l.length) (h2 : Conts l n) (h3 : low ≤ A) (h4 : A < 55296 ∨ (57344 ≤ A ∧ A ≤ 1114111)) : Good l n low r0 := by
  subst h
  exact ⟨h1, h2, h3, by omega, by omega⟩

set_option maxRecDepth 100000 in
theorem d_lead (l : List UInt8) (hl : l ≠ []) (n low r0 : Nat) (h : Lead (atB l 0) n low r0) :
    (Good l n low r0 → dr l = acc l r0 (n - 1) ∧ dw l = n ∧ okB l = true) ∧ (¬ Good l n low r0 → dr l = 65533 ∧ dw l = 1 ∧ okB l = false) := by
  have hc := atB_lt l 0
  rcases h with ⟨c0, c1, rfl, rfl, rfl⟩ | ⟨c0, c1, rfl, rfl, rfl⟩ | ⟨c0, c1, rfl, rfl, rfl⟩
  · have hC : Conts l 2 ↔ 128 ≤ atB l 1 ∧ atB l 1 ≤ 191 := ⟨fun H => H 1 (by omega) (by omega), fun H j j1 j2 => (by omega : 1 = j) ▸ H⟩
    have hA : acc l (atB l 0 - 192) 1 = (atB l 0 - 192) * 64 + atB l 1 % 64 := rfl
    have hE : (l.getD 0 0).toNat % 32 * 64 + (l.getD 1 0).toNat % 64 = acc l (atB l 0 - 192) 1 := by rw [hA]; unfold atB at *; omega
    constructor
    · intro g
      obtain ⟨g1, g2, g3, g4, g5⟩ := g
      rw [hC] at g2
      simp only [Nat.reduceSub] at g3 g4 g5
      refine d_good l hl (by omega) ?_
      unfold Utf8.decode
      simp only [get_str, str_size]
      rw [if_neg (by unfold atB at c0; omega), if_pos (by rw [Bool.and_eq_true, cont_iff, beq_iff_eq]; unfold atB at *; omega), hE, if_pos g3]
    · intro g
      refine d_bad l hl (by omega) ?_
      unfold Utf8.decode
      simp only [get_str, str_size]
      rw [if_neg (by unfold atB at c0; omega)]
      by_cases hk : 1 < l.length ∧ 128 ≤ atB l 1 ∧ atB l 1 ≤ 191
      · rw [if_pos (by rw [Bool.and_eq_true, cont_iff, beq_iff_eq]; unfold atB at *; omega), hE, if_neg (fun hx => g ⟨hk.1, hC.2 hk.2, hx, by show acc l (atB l 0 - 192) 1 ≤ _; omega, by show ¬ (_ ≤ acc l (atB l 0 - 192) 1 ∧ acc l (atB l 0 - 192) 1 < _); omega⟩)]
        rfl
      · rw [if_neg (by rw [Bool.and_eq_true, cont_iff]; exact fun hx => hk hx.2), if_neg (by rw [Bool.and_eq_true, Bool.and_eq_true, beq_iff_eq]; unfold atB at *; omega), if_neg (by rw [Bool.and_eq_true, Bool.and_eq_true, Bool.and_eq_true, beq_iff_eq]; unfold atB at *; omega)]
        rfl
  · have hC : Conts l 3 ↔ (128 ≤ atB l 1 ∧ atB l 1 ≤ 191) ∧ (128 ≤ atB l 2 ∧ atB l 2 ≤ 191) := ⟨fun H => ⟨H 1 (by omega) (by omega), H 2 (by omega) (by omega)⟩, fun H j j1 j2 => by
      rcases (by omega : j = 1 ∨ j = 2) with rfl | rfl
      · exact H.1
      · exact H.2⟩
    have hA : acc l (atB l 0 - 224) 2 = ((atB l 0 - 224) * 64 + atB l 1 % 64) * 64 + atB l 2 % 64 := rfl
    have hE : (l.getD 0 0).toNat % 16 * 4096 + (l.getD 1 0).toNat % 64 * 64 + (l.getD 2 0).toNat % 64 = acc l (atB l 0 - 224) 2 := by rw [hA]; unfold atB at *; omega
    have hvv := valid_iff (acc l (atB l 0 - 224) 2)
    constructor
    · intro g
      obtain ⟨g1, g2, g3, g4, g5⟩ := g
      rw [hC] at g2
      simp only [Nat.reduceSub] at g3 g4 g5
      refine d_good l hl (by omega) ?_
      unfold Utf8.decode
      simp only [get_str, str_size]
      rw [if_neg (by unfold atB at c0; omega), if_neg (by rw [Bool.and_eq_true, beq_iff_eq]; unfold atB at *; omega), if_pos (by rw [Bool.and_eq_true, Bool.and_eq_true, cont_iff, cont_iff, beq_iff_eq]; unfold atB at *; omega), hE, if_pos (by rw [Bool.and_eq_true, decide_eq_true_eq]; exact ⟨g3, hvv.2 (by omega)⟩)]
    · intro g
      refine d_bad l hl (by omega) ?_
      unfold Utf8.decode
      simp only [get_str, str_size]
      rw [if_neg (by unfold atB at c0; omega), if_neg (by rw [Bool.and_eq_true, beq_iff_eq]; unfold atB at *; omega)]
      by_cases hk : (1 < l.length ∧ 128 ≤ atB l 1 ∧ atB l 1 ≤ 191) ∧ (2 < l.length ∧ 128 ≤ atB l 2 ∧ atB l 2 ≤ 191)
      · rw [if_pos (by rw [Bool.and_eq_true, Bool.and_eq_true, cont_iff, cont_iff, beq_iff_eq]; unfold atB at *; omega), hE, if_neg (fun hx => by
          rw [Bool.and_eq_true, decide_eq_true_eq, hvv] at hx
          exact g (good_of l 3 2048 _ _ rfl hk.2.1 (hC.2 ⟨hk.1.2, hk.2.2⟩) hx.1 hx.2))]
        rfl
      · rw [if_neg (by rw [Bool.and_eq_true, Bool.and_eq_true, cont_iff, cont_iff]; exact fun hx => hk ⟨hx.1.2, hx.2⟩), if_neg (by rw [Bool.and_eq_true, Bool.and_eq_true, Bool.and_eq_true, beq_iff_eq]; unfold atB at *; omega)]
        rfl
  · have hC : Conts l 4 ↔ (128 ≤ atB l 1 ∧ atB l 1 ≤ 191) ∧ (128 ≤ atB l 2 ∧ atB l 2 ≤ 191) ∧ (128 ≤ atB l 3 ∧ atB l 3 ≤ 191) := ⟨fun H => ⟨H 1 (by omega) (by omega), H 2 (by omega) (by omega), H 3 (by omega) (by omega)⟩, fun H j j1 j2 => by
      rcases (by omega : j = 1 ∨ j = 2 ∨ j = 3) with rfl | rfl | rfl
      · exact H.1
      · exact H.2.1
      · exact H.2.2⟩
    have hA : acc l (atB l 0 - 240) 3 = (((atB l 0 - 240) * 64 + atB l 1 % 64) * 64 + atB l 2 % 64) * 64 + atB l 3 % 64 := rfl
    have hE : (l.getD 0 0).toNat % 8 * 262144 + (l.getD 1 0).toNat % 64 * 4096 + (l.getD 2 0).toNat % 64 * 64 + (l.getD 3 0).toNat % 64 = acc l (atB l 0 - 240) 3 := by rw [hA]; unfold atB at *; omega
    have hvv := valid_iff (acc l (atB l 0 - 240) 3)
    constructor
    · intro g
      obtain ⟨g1, g2, g3, g4, g5⟩ := g
      rw [hC] at g2
      simp only [Nat.reduceSub] at g3 g4 g5
      refine d_good l hl (by omega) ?_
      unfold Utf8.decode
      simp only [get_str, str_size]
      rw [if_neg (by unfold atB at c0; omega), if_neg (by rw [Bool.and_eq_true, beq_iff_eq]; unfold atB at *; omega), if_neg (by rw [Bool.and_eq_true, Bool.and_eq_true, beq_iff_eq]; unfold atB at *; omega), if_pos (by rw [Bool.and_eq_true, Bool.and_eq_true, Bool.and_eq_true, cont_iff, cont_iff, cont_iff, beq_iff_eq]; unfold atB at *; omega), hE, if_pos (by rw [Bool.and_eq_true, decide_eq_true_eq]; exact ⟨g3, hvv.2 (by omega)⟩)]
    · intro g
      refine d_bad l hl (by omega) ?_
      unfold Utf8.decode
      simp only [get_str, str_size]
      rw [if_neg (by unfold atB at c0; omega), if_neg (by rw [Bool.and_eq_true, beq_iff_eq]; unfold atB at *; omega), if_neg (by rw [Bool.and_eq_true, Bool.and_eq_true, beq_iff_eq]; unfold atB at *; omega)]
      by_cases hk : (1 < l.length ∧ 128 ≤ atB l 1 ∧ atB l 1 ≤ 191) ∧ (2 < l.length ∧ 128 ≤ atB l 2 ∧ atB l 2 ≤ 191) ∧ (3 < l.length ∧ 128 ≤ atB l 3 ∧ atB l 3 ≤ 191)
      · rw [if_pos (by rw [Bool.and_eq_true, Bool.and_eq_true, Bool.and_eq_true, cont_iff, cont_iff, cont_iff, beq_iff_eq]; unfold atB at *; omega), hE, if_neg (fun hx => by
          rw [Bool.and_eq_true, decide_eq_true_eq, hvv] at hx
          exact g (good_of l 4 65536 _ _ rfl hk.2.2.1 (hC.2 ⟨hk.1.2, hk.2.1.2, hk.2.2.2⟩) hx.1 hx.2))]
        rfl
      · rw [if_neg (by rw [Bool.and_eq_true, Bool.and_eq_true, Bool.and_eq_true, cont_iff, cont_iff, cont_iff]; exact fun hx => hk ⟨hx.1.1.2, hx.1.2, hx.2⟩)]
        rfl

end Go.Proofs.Ytmlndgkpbodnnaa
