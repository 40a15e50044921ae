/-
  A raw value as an argument.
  The runes of a list of bytes: mathematics alone. Each rune that a range tells, beside the bytes that it stands for.
  Slices of values of one cell each: what one reads as, what the call itself owns, and laws over them. Plain facts, of no one program.
-/
import Derived.Test.YtkddleonmkhaiaaGreatM01
import Derived.Lib.SmallJoins
import Derived.Deep.Slices
import Derived.Deep.Fields
import Derived.ChangeSame
import Derived.Lib.RuneCount
namespace Go.Proofs.YtkddleonmkhaiaaGreat
open Go.RowKit Go.Joins Go.ChangeShapes Go.WideShapes Go.Deep

/-- A raw value as the program holds it. -/
def rawV (k n : Int) (s : ByteArray) : Value := .agg #[.int .i64 k, .int .i64 n, .string s]
def RawOk (x : Int × Int × ByteArray) : Prop := (Lit.int .i64 x.1).wf = true ∧ (Lit.int .i64 x.2.1).wf = true ∧ x.2.2.size ≤ maxLen

set_option maxRecDepth 100000 in
theorem open_raw {H : Type} {enc : TypeId × Value → H} {W : World} {base : Nat} {v : Value} {d : DataW H} {p : List MemPlace} (hok : Value.okWide Tryz.prog W .any base 31 v) (h : DataW.Trod enc Tryz.prog W 0 (fun _ => true) true 31 v d p) :
    ∃ k n s, v = rawV k n s ∧ (Lit.int .i64 k).wf = true ∧ (Lit.int .i64 n).wf = true ∧ s.size ≤ maxLen := by
  obtain ⟨c0, c1, c2, y0, y1, y2, m, rfl, -, -, h0, h1, h2⟩ := open_agg3 Tryz.underlying31 (by kernel_rfl) (by kernel_rfl) hok h
  obtain ⟨a, e0, -, w0⟩ := DataW.trod_int Tryz.underlying3 h0
  obtain ⟨b, e1, -, w1⟩ := DataW.trod_int Tryz.underlying2 h1
  obtain ⟨s, e2, -, w2⟩ := DataW.trod_string Tryz.underlying9 h2
  simp only [List.cons.injEq, and_true] at e0 e1 e2
  subst e0 e1 e2
  exact ⟨a, b, s, rfl, w0, w1, w2⟩

end Go.Proofs.YtkddleonmkhaiaaGreat

namespace Go.Proofs.YtkddleonmkhaiaaGreat
open Go.RowKit

def bl (s : ByteArray) : List UInt8 := s.data.toList
/-- The bytes of a rune. -/
def enc (r : Nat) : List UInt8 := bl (Utf8.encode (r : Int))
/-- The first rune that a range tells, and how many bytes it takes. -/
def dr (l : List UInt8) : Nat := (Utf8.decode (str l) 0).1
def dw (l : List UInt8) : Nat := (Utf8.decode (str l) 0).2
/-- It is written in its bytes. -/
def okB (l : List UInt8) : Bool := (enc (dr l)).isPrefixOf l

theorem bl_str (l : List UInt8) : bl (str l) = l := by simp [bl, str]
theorem str_bl (s : ByteArray) : str (bl s) = s := str_toList s
theorem bl_size (s : ByteArray) : s.size = (bl s).length := by unfold bl; rw [Array.length_toList]; rfl

theorem get_bang (s : ByteArray) (k : Nat) : s.get! k = (bl s).getD k 0 := by
  show s.data[k]! = _
  unfold bl
  rw [getElem!_def, List.getD_eq_getElem?_getD, Array.getElem?_toList]
  cases s.data[k]? <;> rfl

theorem get_str (l : List UInt8) (k : Nat) : (str l).get! (0 + k) = l.getD k 0 := by rw [get_bang, bl_str, Nat.zero_add]

/-- What is decoded at a place is decoded at the head of what is left. -/
theorem dec_shift (s : ByteArray) (p : Nat) : Utf8.decode s p = (dr ((bl s).drop p), dw ((bl s).drop p)) := by
  have hg : ∀ k, s.get! (p + k) = (str ((bl s).drop p)).get! (0 + k) := by
    intro k
    rw [get_str, get_bang]
    simp [List.getD_eq_getElem?_getD]
  have hs : ∀ k, (p + k < s.size) = (0 + k < (str ((bl s).drop p)).size) := by
    intro k
    rw [str_size, bl_size]
    simp
    omega
  have : Utf8.decode s p = Utf8.decode (str ((bl s).drop p)) 0 := by
    unfold Utf8.decode
    simp only [hg, hs]
  rw [this]
  rfl

theorem valid_iff (r : Nat) : Utf8.valid (r : Int) = true ↔ r < 55296 ∨ (57344 ≤ r ∧ r ≤ 1114111) := by
  unfold Utf8.valid
  rw [Bool.or_eq_true, Bool.and_eq_true, Bool.and_eq_true, decide_eq_true_eq, decide_eq_true_eq, decide_eq_true_eq, decide_eq_true_eq]
  omega

theorem enc1 {r : Nat} (h : r < 128) : enc r = [UInt8.ofNat r] := by
  have hv : Utf8.valid (r : Int) = true := (valid_iff r).2 (by omega)
  simp only [enc, Utf8.encode, hv, if_true, Int.toNat_natCast, h]
  rfl
theorem enc2 {r : Nat} (h0 : 128 ≤ r) (h1 : r < 2048) : enc r = [UInt8.ofNat (192 + r / 64), UInt8.ofNat (128 + r % 64)] := by
  have hv : Utf8.valid (r : Int) = true := (valid_iff r).2 (by omega)
  have a : ¬ r < 128 := by omega
  simp only [enc, Utf8.encode, hv, if_true, Int.toNat_natCast, a, if_false, h1]
  rfl
theorem enc3 {r : Nat} (h0 : 2048 ≤ r) (h1 : r < 65536) (hv : Utf8.valid (r : Int) = true) : enc r = [UInt8.ofNat (224 + r / 4096), UInt8.ofNat (128 + r / 64 % 64), UInt8.ofNat (128 + r % 64)] := by
  have a : ¬ r < 128 := by omega
  have b : ¬ r < 2048 := by omega
  simp only [enc, Utf8.encode, hv, if_true, Int.toNat_natCast, a, if_false, b, h1]
  rfl
theorem enc4 {r : Nat} (h0 : 65536 ≤ r) (hv : Utf8.valid (r : Int) = true) : enc r = [UInt8.ofNat (240 + r / 262144), UInt8.ofNat (128 + r / 4096 % 64), UInt8.ofNat (128 + r / 64 % 64), UInt8.ofNat (128 + r % 64)] := by
  have a : ¬ r < 128 := by omega
  have b : ¬ r < 2048 := by omega
  have c : ¬ r < 65536 := by omega
  simp only [enc, Utf8.encode, hv, if_true, Int.toNat_natCast, a, if_false, b, c]
  rfl
theorem enc_bad : enc 65533 = [239, 191, 189] := by
  rw [enc3 (by omega) (by omega) ((valid_iff _).2 (by omega))]
  rfl

theorem enc_len (r : Nat) (hv : Utf8.valid (r : Int) = true) : 1 ≤ (enc r).length ∧ (enc r).length ≤ 4 := by
  have := (valid_iff r).1 hv
  rcases Nat.lt_or_ge r 128 with h | h
  · rw [enc1 h]; simp
  rcases Nat.lt_or_ge r 2048 with h2 | h2
  · rw [enc2 h h2]; simp
  rcases Nat.lt_or_ge r 65536 with h3 | h3
  · rw [enc3 h2 h3 hv]; simp
  · rw [enc4 h3 hv]; simp

theorem ofNat_toNat (n : Nat) (h : n < 256) : (UInt8.ofNat n).toNat = n := by simp; omega

set_option maxRecDepth 100000 in
/-- A rune's bytes, whatever stands behind them, are that rune. -/
theorem dec_enc (r : Nat) (hv : Utf8.valid (r : Int) = true) (l : List UInt8) : dr (enc r ++ l) = r ∧ dw (enc r ++ l) = (enc r).length := by
  have hr := (valid_iff r).1 hv
  have key : Utf8.decode (str (enc r ++ l)) 0 = (r, (enc r).length) := by
    rcases Nat.lt_or_ge r 128 with h | h
    · rw [enc1 h]
      have e0 := ofNat_toNat r (by omega)
      unfold Utf8.decode
      simp only [get_str, str_size]
      simp [-UInt8.toNat_ofNat', e0, h]
    rcases Nat.lt_or_ge r 2048 with h2 | h2
    · rw [enc2 h h2]
      have e0 := ofNat_toNat (192 + r / 64) (by omega)
      have e1 := ofNat_toNat (128 + r % 64) (by omega)
      unfold Utf8.decode
      simp only [get_str, str_size]
      simp only [List.cons_append, List.nil_append, List.getD_cons_zero, List.getD_cons_succ, List.length_cons, e0, e1]
      rw [if_neg (by omega), if_pos (by simp; omega), if_pos (by omega)]
      simp; omega
    rcases Nat.lt_or_ge r 65536 with h3 | h3
    · rw [enc3 h2 h3 hv]
      have e0 := ofNat_toNat (224 + r / 4096) (by omega)
      have e1 := ofNat_toNat (128 + r / 64 % 64) (by omega)
      have e2 := ofNat_toNat (128 + r % 64) (by omega)
      unfold Utf8.decode
      simp only [get_str, str_size]
      simp only [List.cons_append, List.nil_append, List.getD_cons_zero, List.getD_cons_succ, List.length_cons, e0, e1, e2]
      have ec : (224 + r / 4096) % 16 * 4096 + (128 + r / 64 % 64) % 64 * 64 + (128 + r % 64) % 64 = r := by omega
      rw [if_neg (by omega), if_neg (by simp; omega), if_pos (by simp; omega), ec, if_pos (by simp [hv]; omega)]
      simp
    · rw [enc4 h3 hv]
      have e0 := ofNat_toNat (240 + r / 262144) (by omega)
      have e1 := ofNat_toNat (128 + r / 4096 % 64) (by omega)
      have e2 := ofNat_toNat (128 + r / 64 % 64) (by omega)
      have e3 := ofNat_toNat (128 + r % 64) (by omega)
      unfold Utf8.decode
      simp only [get_str, str_size]
      simp only [List.cons_append, List.nil_append, List.getD_cons_zero, List.getD_cons_succ, List.length_cons, e0, e1, e2, e3]
      have ec : (240 + r / 262144) % 8 * 262144 + (128 + r / 4096 % 64) % 64 * 4096 + (128 + r / 64 % 64) % 64 * 64 + (128 + r % 64) % 64 = r := by omega
      rw [if_neg (by omega), if_neg (by simp; omega), if_neg (by simp; omega), if_pos (by simp; omega), ec, if_pos (by simp [hv]; omega)]
      simp
  have k1 : dr (enc r ++ l) = (r, (enc r).length).1 := by rw [← key]; rfl
  have k2 : dw (enc r ++ l) = (r, (enc r).length).2 := by rw [← key]; rfl
  refine ⟨k1, ?_⟩
  rw [k2]

theorem okB_enc (r : Nat) (hv : Utf8.valid (r : Int) = true) (l : List UInt8) : okB (enc r ++ l) = true := by
  unfold okB
  rw [(dec_enc r hv l).1]
  simp

theorem byte_eq {n : Nat} {b : UInt8} (h : n = b.toNat) : UInt8.ofNat n = b := by
  subst h; simp

theorem four : (t : List UInt8) → 3 ≤ t.length → ∃ b1 b2 b3 t', t = b1 :: b2 :: b3 :: t'
  | [], h => by simp at h
  | [_], h => by simp at h
  | [_, _], h => by simp at h
  | b1 :: b2 :: b3 :: t, _ => ⟨b1, b2, b3, t, rfl⟩

set_option maxHeartbeats 2000000 in
set_option maxRecDepth 100000 in
/-- What is decoded: a rune in its bytes, or none that begins. -/
theorem dec_cases : (l : List UInt8) → l ≠ [] → (dr l = 65533 ∧ dw l = 1 ∧ 128 ≤ (l.getD 0 0).toNat) ∨ (Utf8.valid (dr l : Int) = true ∧ l = enc (dr l) ++ l.drop (dw l))
  | [], h => absurd rfl h
  | b0 :: t, _ => by
    by_cases h1 : b0.toNat < 128
    · right
      have key : Utf8.decode (str (b0 :: t)) 0 = (b0.toNat, 1) := by
        unfold Utf8.decode
        simp only [get_str, str_size]
        simp [h1]
      unfold dr dw
      rw [key]
      refine ⟨(valid_iff _).2 (by show b0.toNat < _ ∨ _; omega), ?_⟩
      show b0 :: t = enc b0.toNat ++ t
      rw [enc1 h1, byte_eq rfl]
      rfl
    · have hb := b0.toNat_lt
      unfold dr dw
      generalize hD : Utf8.decode (str (b0 :: t)) 0 = D
      unfold Utf8.decode at hD
      simp only [get_str, str_size, List.getD_cons_zero, h1, if_false] at hD
      split at hD
      · rename_i hc
        simp only [Bool.and_eq_true, beq_iff_eq, decide_eq_true_eq] at hc
        split at hD
        · subst hD
          right
          cases t with
          | nil => simp at hc
          | cons b1 t =>
            simp only [List.getD_cons_succ, List.getD_cons_zero, Nat.reduceAdd] at hc ⊢
            rename_i hc2
            simp only [List.getD_cons_succ, List.getD_cons_zero] at hc2
            refine ⟨(valid_iff _).2 (by omega), ?_⟩
            rw [enc2 (by omega) (by omega)]
            show b0 :: b1 :: t = _ :: _ :: t
            rw [byte_eq (b := b0) (by omega), byte_eq (b := b1) (by omega)]
        · subst hD; left; exact ⟨rfl, rfl, by simpa using Nat.le_of_not_lt h1⟩
      · split at hD
        · rename_i hc
          simp only [Bool.and_eq_true, beq_iff_eq, decide_eq_true_eq] at hc
          split at hD
          · subst hD
            right
            match t with
            | [] => simp at hc
            | [_] => simp at hc
            | b1 :: b2 :: t =>
              simp only [List.getD_cons_succ, List.getD_cons_zero, Nat.reduceAdd] at hc ⊢
              rename_i hc2
              simp only [List.getD_cons_succ, List.getD_cons_zero, Bool.and_eq_true, decide_eq_true_eq] at hc2
              refine ⟨hc2.2, ?_⟩
              rw [enc3 (by omega) (by omega) hc2.2]
              show b0 :: b1 :: b2 :: t = _ :: _ :: _ :: t
              rw [byte_eq (b := b0) (by omega), byte_eq (b := b1) (by omega), byte_eq (b := b2) (by omega)]
          · subst hD; left; exact ⟨rfl, rfl, by simpa using Nat.le_of_not_lt h1⟩
        · split at hD
          · rename_i hc
            simp only [Bool.and_eq_true, beq_iff_eq, decide_eq_true_eq] at hc
            obtain ⟨b1, b2, b3, t, rfl⟩ := four t (by simp only [List.length_cons] at hc; omega)
            simp only [List.getD_cons_succ, List.getD_cons_zero, Nat.reduceAdd] at hc hD
            split at hD
            · subst hD
              right
              rename_i hc2
              simp only [Bool.and_eq_true, decide_eq_true_eq] at hc2
              refine ⟨hc2.2, ?_⟩
              generalize hC : (b0.toNat % 8) * 262144 + b1.toNat % 64 * 4096 + b2.toNat % 64 * 64 + b3.toNat % 64 = C at hc2 ⊢
              rw [enc4 (by omega) hc2.2]
              show b0 :: b1 :: b2 :: b3 :: t = _ :: _ :: _ :: _ :: t
              rw [byte_eq (b := b0) (by omega), byte_eq (b := b1) (by omega), byte_eq (b := b2) (by omega), byte_eq (b := b3) (by omega)]
            · subst hD; left; exact ⟨rfl, rfl, by simpa using Nat.le_of_not_lt h1⟩
          · subst hD; left; exact ⟨rfl, rfl, by simpa using Nat.le_of_not_lt h1⟩

theorem okB_true {l : List UInt8} (h : okB l = true) (hl : l ≠ []) : Utf8.valid (dr l : Int) = true ∧ l = enc (dr l) ++ l.drop (dw l) := by
  rcases dec_cases l hl with ⟨h1, h2, h3⟩ | h'
  · exfalso
    unfold okB at h
    rw [List.isPrefixOf_iff_prefix] at h
    obtain ⟨t, ht⟩ := h
    have hv : Utf8.valid (dr l : Int) = true := by rw [h1]; decide
    have := (dec_enc (dr l) hv t).2
    rw [ht, h2, h1, enc_bad] at this
    revert this
    decide
  · exact h'

theorem okB_false {l : List UInt8} (h : okB l = false) (hl : l ≠ []) : dr l = 65533 ∧ dw l = 1 := by
  rcases dec_cases l hl with ⟨h1, h2, h3⟩ | ⟨h1, h2⟩
  · exact ⟨h1, h2⟩
  · exfalso
    unfold okB at h
    have : (enc (dr l)).isPrefixOf l = true := by
      rw [List.isPrefixOf_iff_prefix]
      exact ⟨_, h2.symm⟩
    rw [this] at h
    cases h

/-- No rune begins there. -/
theorem okB_bad {l : List UInt8} (hl : l ≠ []) (h : dw l = 1) (hb : 128 ≤ (l.getD 0 0).toNat) : okB l = false ∧ dr l = 65533 := by
  cases ho : okB l with
  | false => exact ⟨rfl, (okB_false ho hl).1⟩
  | true =>
    exfalso
    obtain ⟨hv, he⟩ := okB_true ho hl
    have h2 := (dec_enc (dr l) hv (l.drop (dw l))).2
    rw [← he, h] at h2
    have hr := (valid_iff _).1 hv
    rcases Nat.lt_or_ge (dr l) 128 with g | g
    · rw [enc1 g] at he
      rw [he] at hb
      simp at hb
      omega
    rcases Nat.lt_or_ge (dr l) 2048 with g2 | g2
    · rw [enc2 g g2] at h2; simp at h2
    rcases Nat.lt_or_ge (dr l) 65536 with g3 | g3
    · rw [enc3 g2 g3 hv] at h2; simp at h2
    · rw [enc4 g3 hv] at h2; simp at h2

theorem dr_valid (l : List UInt8) (hl : l ≠ []) : Utf8.valid (dr l : Int) = true := by
  rcases dec_cases l hl with ⟨h1, -, -⟩ | ⟨h1, -⟩
  · rw [h1]; decide
  · exact h1

theorem dw_le (l : List UInt8) (hl : l ≠ []) : 1 ≤ dw l ∧ dw l ≤ 4 ∧ dw l ≤ l.length := by
  cases ho : okB l with
  | false =>
    have := (okB_false ho hl).2
    have := List.length_pos_iff.2 hl
    omega
  | true =>
    obtain ⟨hv, he⟩ := okB_true ho hl
    have h2 := (dec_enc (dr l) hv (l.drop (dw l))).2
    rw [← he] at h2
    have h3 := enc_len _ hv
    have h4 := congrArg List.length he
    rw [List.length_append] at h4
    omega

theorem okB_take {l : List UInt8} (h : okB l = true) (hl : l ≠ []) : l.take (dw l) = enc (dr l) := by
  obtain ⟨hv, he⟩ := okB_true h hl
  have h2 := (dec_enc (dr l) hv (l.drop (dw l))).2
  rw [← he] at h2
  have h3 : (enc (dr l) ++ l.drop (dw l)).take (dw l) = enc (dr l) := by rw [h2]; simp
  rw [← he] at h3
  exact h3

attribute [irreducible] enc dr dw

/-- The runes, each beside its bytes. -/
def toksF : Nat → List UInt8 → List (Nat × List UInt8)
  | 0, _ => []
  | f + 1, l => if l.isEmpty then [] else (dr l, l.take (dw l)) :: toksF f (l.drop (dw l))
def toks (l : List UInt8) : List (Nat × List UInt8) := toksF l.length l

theorem toksF_more : ∀ (f g : Nat) (l : List UInt8), l.length ≤ f → l.length ≤ g → toksF f l = toksF g l
  | 0, 0, _, _, _ => rfl
  | 0, g + 1, l, hf, _ => by
    obtain rfl : l = [] := List.eq_nil_of_length_eq_zero (by omega)
    simp [toksF]
  | f + 1, 0, l, _, hg => by
    obtain rfl : l = [] := List.eq_nil_of_length_eq_zero (by omega)
    simp [toksF]
  | f + 1, g + 1, l, hf, hg => by
    unfold toksF
    by_cases hl : l = []
    · subst hl; rfl
    · have := dw_le l hl
      have h0 : l.isEmpty = false := by simpa using hl
      rw [h0]
      simp only [Bool.false_eq_true, if_false]
      rw [toksF_more f g (l.drop (dw l)) (by simp; omega) (by simp; omega)]

theorem toks_nil : toks [] = [] := rfl
theorem toks_cons {l : List UInt8} (hl : l ≠ []) : toks l = (dr l, l.take (dw l)) :: toks (l.drop (dw l)) := by
  have hp := List.length_pos_iff.2 hl
  have hd := dw_le l hl
  unfold toks
  obtain ⟨n, hn⟩ : ∃ n, l.length = n + 1 := ⟨l.length - 1, by omega⟩
  rw [hn]
  show (if l.isEmpty then [] else _) = _
  have h0 : l.isEmpty = false := by simpa using hl
  rw [h0]
  simp only [Bool.false_eq_true, if_false]
  rw [toksF_more n (l.drop (dw l)).length (l.drop (dw l)) (by simp; omega) (Nat.le_refl _)]

/-- By what is left. -/
theorem toks_induct {p : List UInt8 → Prop} (h0 : p []) (h1 : ∀ l, l ≠ [] → p (l.drop (dw l)) → p l) (l : List UInt8) : p l := by
  generalize hn : l.length = n
  induction n using Nat.strongRecOn generalizing l with
  | ind n ih =>
    by_cases hl : l = []
    · subst hl; exact h0
    · have hd := dw_le l hl
      have hp := List.length_pos_iff.2 hl
      exact h1 l hl (ih (l.drop (dw l)).length (by simp; omega) _ rfl)

/-- The bytes of some of them. -/
def bytesOf (ts : List (Nat × List UInt8)) : List UInt8 := ts.flatMap (·.2)
def runesOf (ts : List (Nat × List UInt8)) : List Nat := ts.map (·.1)
/-- Each is written in its bytes. -/
def wellB (ts : List (Nat × List UInt8)) : Bool := ts.all fun t => t.2 == enc t.1

theorem bytesOf_toks (l : List UInt8) : bytesOf (toks l) = l := by
  induction l using toks_induct with
  | h0 => rfl
  | h1 l hl ih =>
    rw [toks_cons hl]
    show l.take (dw l) ++ bytesOf (toks (l.drop (dw l))) = l
    rw [ih, List.take_append_drop]

theorem toks_good (l : List UInt8) : ∀ t ∈ toks l, Utf8.valid (t.1 : Int) = true ∧ 1 ≤ t.2.length ∧ t.2.length ≤ 4 := by
  induction l using toks_induct with
  | h0 => intro t ht; simp [toks_nil] at ht
  | h1 l hl ih =>
    rw [toks_cons hl]
    intro t ht
    have hd := dw_le l hl
    rcases List.mem_cons.1 ht with rfl | h
    · exact ⟨dr_valid l hl, by simp; omega, by simp; omega⟩
    · exact ih t h

theorem toks_enc (r : Nat) (hv : Utf8.valid (r : Int) = true) (l : List UInt8) : toks (enc r ++ l) = (r, enc r) :: toks l := by
  have hne : enc r ++ l ≠ [] := by
    have := (enc_len r hv).1
    intro e
    have := congrArg List.length e
    simp at this
    simp [this] at *
  obtain ⟨h1, h2⟩ := dec_enc r hv l
  rw [toks_cons hne, h1, h2]
  simp

theorem ok_head {l : List UInt8} (hl : l ≠ []) : (l.take (dw l) == enc (dr l)) = okB l := by
  cases h : okB l with
  | true => rw [okB_take h hl]; simp
  | false =>
    obtain ⟨h1, h2⟩ := okB_false h hl
    rw [h1, h2]
    rw [beq_eq_false_iff_ne]
    intro e
    have := congrArg List.length e
    have e3 : (enc 65533).length = 3 := by rw [enc_bad]; rfl
    rw [e3, List.length_take] at this
    omega

theorem wellB_cons {l : List UInt8} (hl : l ≠ []) : wellB (toks l) = (okB l && wellB (toks (l.drop (dw l)))) := by
  rw [toks_cons hl, ← ok_head hl]
  rfl

/-- Behind what is valid the runes go on. -/
theorem toks_append (a b : List UInt8) (h : wellB (toks a) = true) : toks (a ++ b) = toks a ++ toks b := by
  induction a using toks_induct with
  | h0 => rfl
  | h1 a ha ih =>
    rw [wellB_cons ha, Bool.and_eq_true] at h
    obtain ⟨hv, he⟩ := okB_true h.1 ha
    have e1 : a ++ b = enc (dr a) ++ (a.drop (dw a) ++ b) := by rw [← List.append_assoc, ← he]
    rw [e1, toks_enc _ hv, ih h.2, toks_cons ha, okB_take h.1 ha]
    rfl

/-- The first ones of a text are the first ones' own. -/
theorem toks_take (l : List UInt8) : ∀ n, toks (bytesOf ((toks l).take n)) = (toks l).take n := by
  induction l using toks_induct with
  | h0 => intro n; simp [toks_nil, bytesOf]
  | h1 l hl ih =>
    intro n
    cases n with
    | zero => simp [toks_nil, bytesOf]
    | succ n =>
      have hc := toks_cons hl
      rw [hc, List.take_succ_cons]
      show toks (l.take (dw l) ++ bytesOf ((toks (l.drop (dw l))).take n)) = _
      cases ho : okB l with
      | true =>
        rw [okB_take ho hl, toks_enc _ (okB_true ho hl).1, ih n]
      | false =>
        obtain ⟨h1, h2⟩ := okB_false ho hl
        have hp := List.length_pos_iff.2 hl
        have hb1 : (l.take (dw l)).length = 1 := by rw [h2]; simp; omega
        generalize hP : l.take (dw l) ++ bytesOf ((toks (l.drop (dw l))).take n) = P
        have hPn : P ≠ [] := by
          intro e
          have := congrArg List.length hP
          rw [e] at this
          simp only [List.length_append, hb1, List.length_nil] at this
          omega
        have hpre : ∃ R, l = P ++ R := by
          refine ⟨bytesOf ((toks (l.drop (dw l))).drop n), ?_⟩
          rw [← hP, List.append_assoc]
          have : bytesOf ((toks (l.drop (dw l))).take n) ++ bytesOf ((toks (l.drop (dw l))).drop n) = l.drop (dw l) := by
            unfold bytesOf
            rw [← List.flatMap_append, List.take_append_drop]
            exact bytesOf_toks _
          rw [this, List.take_append_drop]
        obtain ⟨R, hR⟩ := hpre
        have hPo : okB P = false := by
          cases hq : okB P with
          | false => rfl
          | true =>
            exfalso
            obtain ⟨hv, he⟩ := okB_true hq hPn
            have : l = enc (dr P) ++ (P.drop (dw P) ++ R) := by rw [← List.append_assoc, ← he]; exact hR
            have h3 := okB_enc (dr P) hv (P.drop (dw P) ++ R)
            rw [← this, ho] at h3
            cases h3
        obtain ⟨g1, g2⟩ := okB_false hPo hPn
        rw [toks_cons hPn, g1, g2, h1]
        have e1 : P.take 1 = l.take (dw l) := by rw [← hP]; simp [← hb1]
        have e2 : P.drop 1 = bytesOf ((toks (l.drop (dw l))).take n) := by rw [← hP]; simp [← hb1]
        rw [e1, e2, ih n]

theorem toks_drop (l : List UInt8) : ∀ n, toks (bytesOf ((toks l).drop n)) = (toks l).drop n := by
  induction l using toks_induct with
  | h0 => intro n; simp [toks_nil, bytesOf]
  | h1 l hl ih =>
    intro n
    cases n with
    | zero => rw [List.drop_zero, bytesOf_toks]
    | succ n => rw [toks_cons hl, List.drop_succ_cons]; exact ih n

theorem bytesOf_append (a b : List (Nat × List UInt8)) : bytesOf (a ++ b) = bytesOf a ++ bytesOf b := by simp [bytesOf]

theorem bytesOf_split (l : List UInt8) (n : Nat) : bytesOf ((toks l).take n) ++ bytesOf ((toks l).drop n) = l := by
  rw [← bytesOf_append, List.take_append_drop, bytesOf_toks]

/-- Where the n-th begins. -/
def posOf (l : List UInt8) (n : Nat) : Nat := (bytesOf ((toks l).take n)).length

theorem take_pos (l : List UInt8) (n : Nat) : l.take (posOf l n) = bytesOf ((toks l).take n) := by
  have := bytesOf_split l n
  unfold posOf
  generalize bytesOf ((toks l).take n) = x at this ⊢
  generalize bytesOf ((toks l).drop n) = y at this
  rw [← this]
  simp
theorem drop_pos (l : List UInt8) (n : Nat) : l.drop (posOf l n) = bytesOf ((toks l).drop n) := by
  have := bytesOf_split l n
  unfold posOf
  generalize bytesOf ((toks l).take n) = x at this ⊢
  generalize bytesOf ((toks l).drop n) = y at this ⊢
  rw [← this]
  simp
theorem toks_drop_pos (l : List UInt8) (n : Nat) : toks (l.drop (posOf l n)) = (toks l).drop n := by rw [drop_pos, toks_drop]
theorem posOf_le (l : List UInt8) (n : Nat) : posOf l n ≤ l.length := by
  have := congrArg List.length (bytesOf_split l n)
  rw [List.length_append] at this
  unfold posOf
  omega

theorem toks_length (l : List UInt8) : (toks l).length ≤ l.length := by
  induction l using toks_induct with
  | h0 => simp [toks_nil]
  | h1 l hl ih =>
    have := dw_le l hl
    rw [toks_cons hl]
    simp at ih ⊢
    omega

theorem posOf_all (l : List UInt8) (n : Nat) (h : (toks l).length ≤ n) : posOf l n = l.length := by
  unfold posOf
  rw [List.take_of_length_le h, bytesOf_toks]
theorem posOf_zero (l : List UInt8) : posOf l 0 = 0 := rfl

theorem drop_ne (l : List UInt8) (n : Nat) (h : n < (toks l).length) : l.drop (posOf l n) ≠ [] := by
  intro e
  have := toks_drop_pos l n
  rw [e, toks_nil] at this
  have := congrArg List.length this
  simp at this
  omega

theorem get_toks (l : List UInt8) (n : Nat) (h : n < (toks l).length) : (toks l)[n] = (dr (l.drop (posOf l n)), (l.drop (posOf l n)).take (dw (l.drop (posOf l n)))) := by
  have h1 := toks_drop_pos l n
  rw [toks_cons (drop_ne l n h)] at h1
  have h2 := congrArg List.head? h1
  simp only [List.head?_cons, List.head?_drop] at h2
  rw [List.getElem?_eq_getElem h] at h2
  exact (Option.some.inj h2).symm

theorem posOf_succ (l : List UInt8) (n : Nat) (h : n < (toks l).length) : posOf l (n + 1) = posOf l n + dw (l.drop (posOf l n)) := by
  have hne := drop_ne l n h
  have hd := dw_le _ hne
  have hg := get_toks l n h
  conv => lhs; unfold posOf
  rw [List.take_add_one, List.getElem?_eq_getElem h, hg]
  simp only [bytesOf_append, List.length_append, Option.toList_some]
  show posOf l n + _ = _
  congr 1
  simp [bytesOf]
  simp at hd
  omega

/-- The runes written one by one. -/
theorem toks_written (rs : List Nat) (h : ∀ r ∈ rs, Utf8.valid (r : Int) = true) : toks (rs.flatMap enc) = rs.map fun r => (r, enc r) := by
  induction rs with
  | nil => rfl
  | cons r rs ih =>
    rw [List.flatMap_cons, toks_enc r (h r (List.mem_cons_self ..)), ih fun r hr => h r (List.mem_cons_of_mem _ hr)]
    rfl

theorem all_own (f : Nat → List UInt8) (rs : List Nat) : ((rs.map fun r => (r, f r)).all fun t => t.2 == f t.1) = true := by
  rw [List.all_eq_true]
  intro t ht
  obtain ⟨r, -, rfl⟩ := List.mem_map.1 ht
  exact beq_iff_eq.2 rfl
theorem well_written (rs : List Nat) : wellB (rs.map fun r => (r, enc r)) = true := all_own enc rs

theorem map_own (f : Nat → List UInt8) (ts : List (Nat × List UInt8)) (h : (ts.all fun t => t.2 == f t.1) = true) : (ts.map (·.1)).flatMap f = ts.flatMap (·.2) := by
  rw [List.all_eq_true] at h
  rw [List.flatMap_map]
  induction ts with
  | nil => rfl
  | cons t ts ih =>
    rw [List.flatMap_cons, List.flatMap_cons, ih fun t ht => h t (List.mem_cons_of_mem _ ht)]
    have := h t (List.mem_cons_self ..)
    rw [beq_iff_eq] at this
    rw [this]

/-- What is valid is what its runes write. -/
theorem written_iff (l : List UInt8) : (runesOf (toks l)).flatMap enc = l ↔ wellB (toks l) = true := by
  have hv : ∀ r ∈ runesOf (toks l), Utf8.valid (r : Int) = true := by
    intro r hr
    obtain ⟨t, ht, rfl⟩ := List.mem_map.1 hr
    exact (toks_good l t ht).1
  constructor
  · intro h
    have h1 := toks_written _ hv
    rw [h] at h1
    rw [h1]
    exact well_written _
  · intro h
    have := map_own enc (toks l) h
    unfold runesOf
    rw [this]
    exact bytesOf_toks l

end Go.Proofs.YtkddleonmkhaiaaGreat

namespace Go.Proofs.YtkddleonmkhaiaaGreat
open Go.RowKit

/-- Whole numbers as values. -/
def zi (k : IntKind) (l : List Nat) : List Value := l.map fun (n : Nat) => Value.int k (n : Int)
theorem zi_length (k : IntKind) (l : List Nat) : (zi k l).length = l.length := by simp [zi]
theorem zi_append (k : IntKind) (l m : List Nat) : zi k (l ++ m) = zi k l ++ zi k m := by simp [zi]
theorem zi_one (k : IntKind) (l : List Nat) : ∀ u ∈ zi k l, u.oneCell' = true := by
  intro u hu
  obtain ⟨n, -, rfl⟩ := List.mem_map.1 hu
  rfl
theorem zi_at (k : IntKind) (l : List Nat) (i : Nat) (h : i < l.length) : (zi k l)[i]'(by rw [zi_length]; exact h) = .int k (l[i] : Int) := by simp [zi]

/-- v, a slice of values of one cell, reads as xs. -/
def RV (w : World) (v : Value) (xs : List Value) : Prop :=
  ∃ a cap, v = .slice a xs.length cap ∧ xs.length ≤ cap ∧ cap ≤ maxLen ∧ (a = none → cap = 0) ∧
    (xs ≠ [] → ∃ b o, a = some ⟨b, o, none⟩ ∧ ∀ i (h : i < xs.length), w.cell? ⟨b, o + i, none⟩ = some xs[i])

/-- v, a slice that was made from block B on, holds xs; e: the elements' type. -/
def OwnV (e : TypeId) (w : World) (B : Nat) (v : Value) (xs : List Value) : Prop := w.ownsRow B e 1 v xs.length xs

theorem RV.block {w : World} {xs : List Value} {b o : Nat} (h : ∀ i (h : i < xs.length), w.cell? ⟨b, o + i, none⟩ = some xs[i]) (hl : xs ≠ []) : b < w.heap.size :=
  World.block_lt_of_cell? w _ (h 0 (List.length_pos_iff.2 hl))

theorem RV.below {w w' : World} {v : Value} {xs : List Value} (h : RV w v xs) (hb : Below w.heap.size w w') : RV w' v xs := by
  obtain ⟨a, cap, hv, h1, h2, h3, h4⟩ := h
  refine ⟨a, cap, hv, h1, h2, h3, fun hl => ?_⟩
  obtain ⟨b, o, ha, hc⟩ := h4 hl
  have hlt := RV.block hc hl
  exact ⟨b, o, ha, fun i hi => (hb.cell (by exact hlt)).trans (hc i hi)⟩

theorem RV.at {w : World} {a : Option Addr} {len cap : Nat} {xs : List Value} (h : RV w (.slice a len cap) xs) (k : Nat) (hk : k < xs.length) : ∃ b o, a = some ⟨b, o, none⟩ ∧ w.cell? ⟨b, o + k, none⟩ = some xs[k] ∧ b < w.heap.size := by
  obtain ⟨a', cap', hv, h1, h2, h3, h4⟩ := h
  cases hv
  have hne : xs ≠ [] := by intro e; subst e; simp at hk
  obtain ⟨b, o, rfl, hc⟩ := h4 hne
  exact ⟨b, o, rfl, hc k hk, RV.block hc hne⟩

theorem RV.form {w : World} {v : Value} {xs : List Value} (h : RV w v xs) : ∃ a cap, v = .slice a xs.length cap ∧ xs.length ≤ 9223372036854775807 := by
  obtain ⟨a, cap, hv, h1, h2, -⟩ := h
  exact ⟨a, cap, hv, by unfold maxLen at h2; omega⟩

theorem OwnV.nil (e : TypeId) (w : World) (B : Nat) : OwnV e w B (.slice none 0 0) [] := World.ownsRow_nil w B e 1

theorem OwnV.rv {e : TypeId} {w : World} {B : Nat} {v : Value} {xs : List Value} (h : OwnV e w B v xs) : RV w v xs := by
  have hc0 := fun (g : Nat) (hg : v.ownBlock = some g) (i : Nat) (hi : i < xs.length) => World.ownsRow.cells h (g := g) hg i _ (List.getElem?_eq_getElem hi)
  rcases h.2 with ⟨rfl, hn⟩ | ⟨g, cap, cur, rfl, hb, hg, h1, h2, h3, h4⟩
  · obtain rfl : xs = [] := List.eq_nil_of_length_eq_zero hn
    exact ⟨none, 0, rfl, Nat.le_refl _, by simp [maxLen], fun _ => rfl, fun h => absurd rfl h⟩
  · refine ⟨some ⟨g, 0, none⟩, cap, rfl, h1, h2, (fun h => by cases h), fun hl => ⟨g, 0, rfl, fun i hi => ?_⟩⟩
    have := hc0 g rfl i hi
    have hadd : (⟨g, 0, none⟩ : Addr).add i = ⟨g, 0 + i, none⟩ := by unfold Addr.add; split <;> simp_all
    rw [hadd] at this
    exact this

theorem OwnV.below {e : TypeId} {w w' : World} {B : Nat} {v : Value} {xs : List Value} (h : OwnV e w B v xs) (hb : Below w.heap.size w w') : OwnV e w' B v xs := by
  refine ⟨h.1, ?_⟩
  rcases h.2 with h' | ⟨g, cap, cur, h1, hB, h2, h3⟩
  · exact .inl h'
  · exact .inr ⟨g, cap, cur, h1, hB, (hb.block g (Array.getElem?_eq_some_iff.1 h2).1).trans h2, h3⟩

theorem OwnV.mono {e : TypeId} {w : World} {B B' : Nat} {v : Value} {xs : List Value} (h : OwnV e w B v xs) (hB : B' ≤ B) : OwnV e w B' v xs := by
  refine ⟨h.1, ?_⟩
  rcases h.2 with h' | ⟨g, cap, cur, h1, hb, h2⟩
  · exact .inl h'
  · exact .inr ⟨g, cap, cur, h1, Nat.le_trans hB hb, h2⟩

theorem OwnV.alloc {e : TypeId} {w : World} {B : Nat} {v : Value} {xs : List Value} (h : OwnV e w B v xs) (o : Obj) : OwnV e (w.alloc o) B v xs := World.ownsRow.alloc h o

theorem OwnV.kept {e : TypeId} {w w' : World} {B : Nat} {v : Value} {xs : List Value} {row : Option Nat} (h : OwnV e w B v xs) (hg : w.grownBy w' row) (hne : v.ownBlock = none ∨ v.ownBlock ≠ row) : OwnV e w' B v xs :=
  World.ownsRow.kept h hg hne

theorem OwnV.row {e : TypeId} {w : World} {B : Nat} {v : Value} {xs : List Value} (h : OwnV e w B v xs) : ∀ k, v.ownBlock = some k → B ≤ k := fun k hk => (World.ownsRow.lt h k hk).1

/-- A change of one block that is not its own. -/
theorem OwnV.other {e : TypeId} {w w' : World} {B : Nat} {v : Value} {xs : List Value} (h : OwnV e w B v xs) (k : Nat) (o : Obj) (hk : w.heap[k]? = some o) (hno : ∀ c t f, o ≠ .cells c t f) (hw : ∀ j, j ≠ k → w'.heap[j]? = w.heap[j]?) : OwnV e w' B v xs := by
  refine ⟨h.1, ?_⟩
  rcases h.2 with h' | ⟨g, cap, cur, h1, hB, h2, h3⟩
  · exact .inl h'
  · refine .inr ⟨g, cap, cur, h1, hB, (hw g ?_).trans h2, h3⟩
    intro e'
    subst e'
    rw [h2] at hk
    exact hno _ _ _ (Option.some.inj hk).symm

/-- One value in a new block of its own. -/
theorem RV.one (w : World) (e : TypeId) (x : Value) : RV (w.alloc (.cells #[x] e)) (.slice (some ⟨w.heap.size, 0, none⟩) 1 1) [x] := by
  refine ⟨some ⟨w.heap.size, 0, none⟩, 1, rfl, Nat.le_refl _, by simp [maxLen], (fun h => by cases h), fun _ => ⟨w.heap.size, 0, rfl, fun i hi => ?_⟩⟩
  obtain rfl : i = 0 := by simpa using hi
  rw [cell_of_row _ w.heap.size 0 #[x] e (0, 0) (heap_alloc_new w _)]
  simp

section
variable {P : Program}

/-- 'append(s, x...)', s the call's own, x whatever reads as m. -/
theorem wpList_append_RV {ops : Array Oper} {rest : List Oper} {o : Oper} {a : Act} {w : World} {Q : Exit → Act → World → Prop} (hgd : o.guard = none) (s x : Operand) (t : TypeId)
    (ho : o.op = .call { callee := .builtin .append, args := #[s, x], argTypes := #[t, t] })
    (B : Nat) (e : TypeId) (ht : P.underlying t = some (.slice e)) (z : Value) (bytes : Nat) (hz1 : z.cells.size = 1) (hinfo : (P.info? e).map (fun i => (i.zero, i.size, i.bytes)) = some (some z, 1, bytes))
    (v xv : Value) (l m : List Value) (hs : a.eval s = v) (hx : a.eval x = xv) (hown : OwnV e w B v l) (hrb : RV w xv m) (hm1 : ∀ u ∈ m, u.oneCell' = true)
    (hlen : (l.length + m.length) * bytes ≤ 140737488355328) (hl63 : l.length + m.length ≤ 140737488355328) (hbase : B ≤ w.heap.size)
    (h : ∀ v' w', OwnV e w' B v' (l ++ m) → w.grownBy w' v.ownBlock → wpList P ops Q rest (a.put o.dst v') w') : wpList P ops Q (o :: rest) a w := by
  obtain ⟨i, hi, hz, hsize, hby⟩ := info_parts hinfo
  obtain ⟨ad, cap, rfl, h1, h2, h3, h4⟩ := hrb
  cases ad with
  | none =>
    obtain rfl := h3 rfl
    obtain rfl : m = [] := List.eq_nil_of_length_eq_zero (by omega)
    refine wpList_append_own_none hgd s x t ho B e i 1 ht hi v l.length l hs hown hx ?_
    exact h v w (by simpa using hown) (World.grownBy.refl _ _)
  | some ad =>
    refine wpList_append_own w hgd s x t ho B e i z 1 bytes ht hi hz hsize hby hz1 (by decide) v l.length l hs hown ad m.length cap m hx (by simp) ?_ hm1 (by unfold maxLen; omega) hlen hbase ?_
    · intro j u hj
      have hjm : j < m.length := by
        rcases Nat.lt_or_ge j m.length with hlt | hge
        · exact hlt
        · rw [List.getElem?_eq_none hge] at hj; cases hj
      obtain ⟨b, o', hao, hc⟩ := h4 (by intro hm; subst hm; simp at hjm)
      cases hao
      rw [List.getElem?_eq_getElem hjm] at hj
      cases hj
      have hadd : (⟨b, o', none⟩ : Addr).add j = ⟨b, o' + j, none⟩ := by unfold Addr.add; split <;> simp_all
      rw [hadd]
      exact hc j hjm
    · intro v' w' hown' hg _
      exact h v' w' (by unfold OwnV; rw [List.length_append]; exact hown') hg

/-- 'make([]T, 0, c)'. -/
theorem wpList_make_none {ops : Array Oper} {rest : List Oper} {o : Oper} {a : Act} {w : World} {Q : Exit → Act → World → Prop} (hgd : o.guard = none) (lo co : Operand) (t : TypeId)
    (hop : o.op = Op.makeSlice t lo co) (e : TypeId) (ht : P.underlying t = some (.slice e)) (z : Value) (bytes : Nat) (hinfo : (P.info? e).map (fun i => (i.zero, i.size, i.bytes)) = some (some z, 1, bytes))
    (kl kc : IntKind) (C : Int) (c : Nat) (hl : a.eval lo = .int kl 0) (hc : a.eval co = .int kc C) (hC : C = (c : Int)) (hcm : bytes * c ≤ 281474976710656) (hcm2 : c ≤ 281474976710656)
    (h : ∀ v w', OwnV e w' w.heap.size v [] → w.grownBy w' none → wpList P ops Q rest (a.put o.dst v) w') : wpList P ops Q (o :: rest) a w := by
  obtain ⟨i, hi, hz, hsize, hby⟩ := info_parts hinfo
  subst hC
  have hr := run_make (P := P) w t e i z ht hi hz kl kc 0 c (by omega) (by omega) (by rw [hby, ← Int.natCast_mul]; omega) (by omega)
  have h00 : Int.toNat 0 = 0 := rfl
  simp only [Int.toNat_natCast, hsize, Nat.mul_one, h00] at hr
  have hgo := h (.slice (some ⟨w.heap.size, 0, none⟩) 0 c) (w.alloc (.cells (madeCells z.cells c) e))
  refine wpList_gives hgd (.slice (some ⟨w.heap.size, 0, none⟩) 0 c) (w.alloc (.cells (madeCells z.cells c) e)) (by simp only [execOp, hop, hl, hc]; rw [Sem.run_bind, hr]; rfl) (hgo ?_ (World.grownBy_alloc w _ none))
  refine ⟨by simp, .inr ⟨w.heap.size, c, madeCells z.cells c, rfl, Nat.le_refl _, heap_alloc_new w _, by simp, by unfold maxLen; omega, by simp [size_madeCells], by simp⟩⟩
end

end Go.Proofs.YtkddleonmkhaiaaGreat
