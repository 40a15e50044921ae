/-
  The runes of a list of bytes: mathematics alone. Each rune that a range tells, beside the bytes that it stands for.
  The reference's own decoding: what it looks at, and that it is what a range tells.
  What Decode and At answer.
-/
import Derived.Test.YtibbligidncocaaM01
import Derived.Lib.RuneCount
namespace Go.Proofs.Ytibbligidncocaa
open Go.RowKit

def bl (s : ByteArray) : List UInt8 := s.data.toList
/-- The bytes of a rune. -/
def enc (r : Nat) : List UInt8 := bl (Utf8.encode (r : Int))
/-- The first rune that a range tells, and how many bytes it takes. -/
def dr (l : List UInt8) : Nat := (Utf8.decode (str l) 0).1
def dw (l : List UInt8) : Nat := (Utf8.decode (str l) 0).2
/-- It is written in its bytes. -/
def okB (l : List UInt8) : Bool := (enc (dr l)).isPrefixOf l

theorem bl_str (l : List UInt8) : bl (str l) = l := by simp [bl, str]
theorem str_bl (s : ByteArray) : str (bl s) = s := str_toList s
theorem bl_size (s : ByteArray) : s.size = (bl s).length := by unfold bl; rw [Array.length_toList]; rfl

theorem get_bang (s : ByteArray) (k : Nat) : s.get! k = (bl s).getD k 0 := by
  show s.data[k]! = _
  unfold bl
  rw [getElem!_def, List.getD_eq_getElem?_getD, Array.getElem?_toList]
  cases s.data[k]? <;> rfl

theorem get_str (l : List UInt8) (k : Nat) : (str l).get! (0 + k) = l.getD k 0 := by rw [get_bang, bl_str, Nat.zero_add]

/-- What is decoded at a place is decoded at the head of what is left. -/
theorem dec_shift (s : ByteArray) (p : Nat) : Utf8.decode s p = (dr ((bl s).drop p), dw ((bl s).drop p)) := by
  have hg : ∀ k, s.get! (p + k) = (str ((bl s).drop p)).get! (0 + k) := by
    intro k
    rw [get_str, get_bang]
    simp [List.getD_eq_getElem?_getD]
  have hs : ∀ k, (p + k < s.size) = (0 + k < (str ((bl s).drop p)).size) := by
    intro k
    rw [str_size, bl_size]
    simp
    omega
  have : Utf8.decode s p = Utf8.decode (str ((bl s).drop p)) 0 := by
    unfold Utf8.decode
    simp only [hg, hs]
  rw [this]
  rfl

theorem valid_iff (r : Nat) : Utf8.valid (r : Int) = true ↔ r < 55296 ∨ (57344 ≤ r ∧ r ≤ 1114111) := by
  unfold Utf8.valid
  rw [Bool.or_eq_true, Bool.and_eq_true, Bool.and_eq_true, decide_eq_true_eq, decide_eq_true_eq, decide_eq_true_eq, decide_eq_true_eq]
  omega

theorem enc1 {r : Nat} (h : r < 128) : enc r = [UInt8.ofNat r] := by
  have hv : Utf8.valid (r : Int) = true := (valid_iff r).2 (by omega)
  simp only [enc, Utf8.encode, hv, if_true, Int.toNat_natCast, h]
  rfl
theorem enc2 {r : Nat} (h0 : 128 ≤ r) (h1 : r < 2048) : enc r = [UInt8.ofNat (192 + r / 64), UInt8.ofNat (128 + r % 64)] := by
  have hv : Utf8.valid (r : Int) = true := (valid_iff r).2 (by omega)
  have a : ¬ r < 128 := by omega
  simp only [enc, Utf8.encode, hv, if_true, Int.toNat_natCast, a, if_false, h1]
  rfl
theorem enc3 {r : Nat} (h0 : 2048 ≤ r) (h1 : r < 65536) (hv : Utf8.valid (r : Int) = true) : enc r = [UInt8.ofNat (224 + r / 4096), UInt8.ofNat (128 + r / 64 % 64), UInt8.ofNat (128 + r % 64)] := by
  have a : ¬ r < 128 := by omega
  have b : ¬ r < 2048 := by omega
  simp only [enc, Utf8.encode, hv, if_true, Int.toNat_natCast, a, if_false, b, h1]
  rfl
theorem enc4 {r : Nat} (h0 : 65536 ≤ r) (hv : Utf8.valid (r : Int) = true) : enc r = [UInt8.ofNat (240 + r / 262144), UInt8.ofNat (128 + r / 4096 % 64), UInt8.ofNat (128 + r / 64 % 64), UInt8.ofNat (128 + r % 64)] := by
  have a : ¬ r < 128 := by omega
  have b : ¬ r < 2048 := by omega
  have c : ¬ r < 65536 := by omega
  simp only [enc, Utf8.encode, hv, if_true, Int.toNat_natCast, a, if_false, b, c]
  rfl
theorem enc_bad : enc 65533 = [239, 191, 189] := by
  rw [enc3 (by omega) (by omega) ((valid_iff _).2 (by omega))]
  rfl

theorem enc_len (r : Nat) (hv : Utf8.valid (r : Int) = true) : 1 ≤ (enc r).length ∧ (enc r).length ≤ 4 := by
  have := (valid_iff r).1 hv
  rcases Nat.lt_or_ge r 128 with h | h
  · rw [enc1 h]; simp
  rcases Nat.lt_or_ge r 2048 with h2 | h2
  · rw [enc2 h h2]; simp
  rcases Nat.lt_or_ge r 65536 with h3 | h3
  · rw [enc3 h2 h3 hv]; simp
  · rw [enc4 h3 hv]; simp

theorem ofNat_toNat (n : Nat) (h : n < 256) : (UInt8.ofNat n).toNat = n := by simp; omega

set_option maxRecDepth 100000 in
/-- A rune's bytes, whatever stands behind them, are that rune. -/
theorem dec_enc (r : Nat) (hv : Utf8.valid (r : Int) = true) (l : List UInt8) : dr (enc r ++ l) = r ∧ dw (enc r ++ l) = (enc r).length := by
  have hr := (valid_iff r).1 hv
  have key : Utf8.decode (str (enc r ++ l)) 0 = (r, (enc r).length) := by
    rcases Nat.lt_or_ge r 128 with h | h
    · rw [enc1 h]
      have e0 := ofNat_toNat r (by omega)
      unfold Utf8.decode
      simp only [get_str, str_size]
      simp [-UInt8.toNat_ofNat', e0, h]
    rcases Nat.lt_or_ge r 2048 with h2 | h2
    · rw [enc2 h h2]
      have e0 := ofNat_toNat (192 + r / 64) (by omega)
      have e1 := ofNat_toNat (128 + r % 64) (by omega)
      unfold Utf8.decode
      simp only [get_str, str_size]
      simp only [List.cons_append, List.nil_append, List.getD_cons_zero, List.getD_cons_succ, List.length_cons, e0, e1]
      rw [if_neg (by omega), if_pos (by simp; omega), if_pos (by omega)]
      simp; omega
    rcases Nat.lt_or_ge r 65536 with h3 | h3
    · rw [enc3 h2 h3 hv]
      have e0 := ofNat_toNat (224 + r / 4096) (by omega)
      have e1 := ofNat_toNat (128 + r / 64 % 64) (by omega)
      have e2 := ofNat_toNat (128 + r % 64) (by omega)
      unfold Utf8.decode
      simp only [get_str, str_size]
      simp only [List.cons_append, List.nil_append, List.getD_cons_zero, List.getD_cons_succ, List.length_cons, e0, e1, e2]
      have ec : (224 + r / 4096) % 16 * 4096 + (128 + r / 64 % 64) % 64 * 64 + (128 + r % 64) % 64 = r := by omega
      rw [if_neg (by omega), if_neg (by simp; omega), if_pos (by simp; omega), ec, if_pos (by simp [hv]; omega)]
      simp
    · rw [enc4 h3 hv]
      have e0 := ofNat_toNat (240 + r / 262144) (by omega)
      have e1 := ofNat_toNat (128 + r / 4096 % 64) (by omega)
      have e2 := ofNat_toNat (128 + r / 64 % 64) (by omega)
      have e3 := ofNat_toNat (128 + r % 64) (by omega)
      unfold Utf8.decode
      simp only [get_str, str_size]
      simp only [List.cons_append, List.nil_append, List.getD_cons_zero, List.getD_cons_succ, List.length_cons, e0, e1, e2, e3]
      have ec : (240 + r / 262144) % 8 * 262144 + (128 + r / 4096 % 64) % 64 * 4096 + (128 + r / 64 % 64) % 64 * 64 + (128 + r % 64) % 64 = r := by omega
      rw [if_neg (by omega), if_neg (by simp; omega), if_neg (by simp; omega), if_pos (by simp; omega), ec, if_pos (by simp [hv]; omega)]
      simp
  have k1 : dr (enc r ++ l) = (r, (enc r).length).1 := by rw [← key]; rfl
  have k2 : dw (enc r ++ l) = (r, (enc r).length).2 := by rw [← key]; rfl
  refine ⟨k1, ?_⟩
  rw [k2]

theorem okB_enc (r : Nat) (hv : Utf8.valid (r : Int) = true) (l : List UInt8) : okB (enc r ++ l) = true := by
  unfold okB
  rw [(dec_enc r hv l).1]
  simp

theorem byte_eq {n : Nat} {b : UInt8} (h : n = b.toNat) : UInt8.ofNat n = b := by
  subst h; simp

theorem four : (t : List UInt8) → 3 ≤ t.length → ∃ b1 b2 b3 t', t = b1 :: b2 :: b3 :: t'
  | [], h => by simp at h
  | [_], h => by simp at h
  | [_, _], h => by simp at h
  | b1 :: b2 :: b3 :: t, _ => ⟨b1, b2, b3, t, rfl⟩

set_option maxHeartbeats 2000000 in
set_option maxRecDepth 100000 in
/-- What is decoded: a rune in its bytes, or none that begins. -/
theorem dec_cases : (l : List UInt8) → l ≠ [] → (dr l = 65533 ∧ dw l = 1 ∧ 128 ≤ (l.getD 0 0).toNat) ∨ (Utf8.valid (dr l : Int) = true ∧ l = enc (dr l) ++ l.drop (dw l))
  | [], h => absurd rfl h
  | b0 :: t, _ => by
    by_cases h1 : b0.toNat < 128
    · right
      have key : Utf8.decode (str (b0 :: t)) 0 = (b0.toNat, 1) := by
        unfold Utf8.decode
        simp only [get_str, str_size]
        simp [h1]
      unfold dr dw
      rw [key]
      refine ⟨(valid_iff _).2 (by show b0.toNat < _ ∨ _; omega), ?_⟩
      show b0 :: t = enc b0.toNat ++ t
      rw [enc1 h1, byte_eq rfl]
      rfl
    · have hb := b0.toNat_lt
      unfold dr dw
      generalize hD : Utf8.decode (str (b0 :: t)) 0 = D
      unfold Utf8.decode at hD
      simp only [get_str, str_size, List.getD_cons_zero, h1, if_false] at hD
      split at hD
      · rename_i hc
        simp only [Bool.and_eq_true, beq_iff_eq, decide_eq_true_eq] at hc
        split at hD
        · subst hD
          right
          cases t with
          | nil => simp at hc
          | cons b1 t =>
            simp only [List.getD_cons_succ, List.getD_cons_zero, Nat.reduceAdd] at hc ⊢
            rename_i hc2
            simp only [List.getD_cons_succ, List.getD_cons_zero] at hc2
            refine ⟨(valid_iff _).2 (by omega), ?_⟩
            rw [enc2 (by omega) (by omega)]
            show b0 :: b1 :: t = _ :: _ :: t
            rw [byte_eq (b := b0) (by omega), byte_eq (b := b1) (by omega)]
        · subst hD; left; exact ⟨rfl, rfl, by simpa using Nat.le_of_not_lt h1⟩
      · split at hD
        · rename_i hc
          simp only [Bool.and_eq_true, beq_iff_eq, decide_eq_true_eq] at hc
          split at hD
          · subst hD
            right
            match t with
            | [] => simp at hc
            | [_] => simp at hc
            | b1 :: b2 :: t =>
              simp only [List.getD_cons_succ, List.getD_cons_zero, Nat.reduceAdd] at hc ⊢
              rename_i hc2
              simp only [List.getD_cons_succ, List.getD_cons_zero, Bool.and_eq_true, decide_eq_true_eq] at hc2
              refine ⟨hc2.2, ?_⟩
              rw [enc3 (by omega) (by omega) hc2.2]
              show b0 :: b1 :: b2 :: t = _ :: _ :: _ :: t
              rw [byte_eq (b := b0) (by omega), byte_eq (b := b1) (by omega), byte_eq (b := b2) (by omega)]
          · subst hD; left; exact ⟨rfl, rfl, by simpa using Nat.le_of_not_lt h1⟩
        · split at hD
          · rename_i hc
            simp only [Bool.and_eq_true, beq_iff_eq, decide_eq_true_eq] at hc
            obtain ⟨b1, b2, b3, t, rfl⟩ := four t (by simp only [List.length_cons] at hc; omega)
            simp only [List.getD_cons_succ, List.getD_cons_zero, Nat.reduceAdd] at hc hD
            split at hD
            · subst hD
              right
              rename_i hc2
              simp only [Bool.and_eq_true, decide_eq_true_eq] at hc2
              refine ⟨hc2.2, ?_⟩
              generalize hC : (b0.toNat % 8) * 262144 + b1.toNat % 64 * 4096 + b2.toNat % 64 * 64 + b3.toNat % 64 = C at hc2 ⊢
              rw [enc4 (by omega) hc2.2]
              show b0 :: b1 :: b2 :: b3 :: t = _ :: _ :: _ :: _ :: t
              rw [byte_eq (b := b0) (by omega), byte_eq (b := b1) (by omega), byte_eq (b := b2) (by omega), byte_eq (b := b3) (by omega)]
            · subst hD; left; exact ⟨rfl, rfl, by simpa using Nat.le_of_not_lt h1⟩
          · subst hD; left; exact ⟨rfl, rfl, by simpa using Nat.le_of_not_lt h1⟩

theorem okB_true {l : List UInt8} (h : okB l = true) (hl : l ≠ []) : Utf8.valid (dr l : Int) = true ∧ l = enc (dr l) ++ l.drop (dw l) := by
  rcases dec_cases l hl with ⟨h1, h2, h3⟩ | h'
  · exfalso
    unfold okB at h
    rw [List.isPrefixOf_iff_prefix] at h
    obtain ⟨t, ht⟩ := h
    have hv : Utf8.valid (dr l : Int) = true := by rw [h1]; decide
    have := (dec_enc (dr l) hv t).2
    rw [ht, h2, h1, enc_bad] at this
    revert this
    decide
  · exact h'

theorem okB_false {l : List UInt8} (h : okB l = false) (hl : l ≠ []) : dr l = 65533 ∧ dw l = 1 := by
  rcases dec_cases l hl with ⟨h1, h2, h3⟩ | ⟨h1, h2⟩
  · exact ⟨h1, h2⟩
  · exfalso
    unfold okB at h
    have : (enc (dr l)).isPrefixOf l = true := by
      rw [List.isPrefixOf_iff_prefix]
      exact ⟨_, h2.symm⟩
    rw [this] at h
    cases h

/-- No rune begins there. -/
theorem okB_bad {l : List UInt8} (hl : l ≠ []) (h : dw l = 1) (hb : 128 ≤ (l.getD 0 0).toNat) : okB l = false ∧ dr l = 65533 := by
  cases ho : okB l with
  | false => exact ⟨rfl, (okB_false ho hl).1⟩
  | true =>
    exfalso
    obtain ⟨hv, he⟩ := okB_true ho hl
    have h2 := (dec_enc (dr l) hv (l.drop (dw l))).2
    rw [← he, h] at h2
    have hr := (valid_iff _).1 hv
    rcases Nat.lt_or_ge (dr l) 128 with g | g
    · rw [enc1 g] at he
      rw [he] at hb
      simp at hb
      omega
    rcases Nat.lt_or_ge (dr l) 2048 with g2 | g2
    · rw [enc2 g g2] at h2; simp at h2
    rcases Nat.lt_or_ge (dr l) 65536 with g3 | g3
    · rw [enc3 g2 g3 hv] at h2; simp at h2
    · rw [enc4 g3 hv] at h2; simp at h2

theorem dr_valid (l : List UInt8) (hl : l ≠ []) : Utf8.valid (dr l : Int) = true := by
  rcases dec_cases l hl with ⟨h1, -, -⟩ | ⟨h1, -⟩
  · rw [h1]; decide
  · exact h1

theorem dw_le (l : List UInt8) (hl : l ≠ []) : 1 ≤ dw l ∧ dw l ≤ 4 ∧ dw l ≤ l.length := by
  cases ho : okB l with
  | false =>
    have := (okB_false ho hl).2
    have := List.length_pos_iff.2 hl
    omega
  | true =>
    obtain ⟨hv, he⟩ := okB_true ho hl
    have h2 := (dec_enc (dr l) hv (l.drop (dw l))).2
    rw [← he] at h2
    have h3 := enc_len _ hv
    have h4 := congrArg List.length he
    rw [List.length_append] at h4
    omega

theorem okB_take {l : List UInt8} (h : okB l = true) (hl : l ≠ []) : l.take (dw l) = enc (dr l) := by
  obtain ⟨hv, he⟩ := okB_true h hl
  have h2 := (dec_enc (dr l) hv (l.drop (dw l))).2
  rw [← he] at h2
  have h3 : (enc (dr l) ++ l.drop (dw l)).take (dw l) = enc (dr l) := by rw [h2]; simp
  rw [← he] at h3
  exact h3

attribute [irreducible] enc dr dw

/-- The runes, each beside its bytes. -/
def toksF : Nat → List UInt8 → List (Nat × List UInt8)
  | 0, _ => []
  | f + 1, l => if l.isEmpty then [] else (dr l, l.take (dw l)) :: toksF f (l.drop (dw l))
def toks (l : List UInt8) : List (Nat × List UInt8) := toksF l.length l

theorem toksF_more : ∀ (f g : Nat) (l : List UInt8), l.length ≤ f → l.length ≤ g → toksF f l = toksF g l
  | 0, 0, _, _, _ => rfl
  | 0, g + 1, l, hf, _ => by
    obtain rfl : l = [] := List.eq_nil_of_length_eq_zero (by omega)
    simp [toksF]
  | f + 1, 0, l, _, hg => by
    obtain rfl : l = [] := List.eq_nil_of_length_eq_zero (by omega)
    simp [toksF]
  | f + 1, g + 1, l, hf, hg => by
    unfold toksF
    by_cases hl : l = []
    · subst hl; rfl
    · have := dw_le l hl
      have h0 : l.isEmpty = false := by simpa using hl
      rw [h0]
      simp only [Bool.false_eq_true, if_false]
      rw [toksF_more f g (l.drop (dw l)) (by simp; omega) (by simp; omega)]

theorem toks_nil : toks [] = [] := rfl
theorem toks_cons {l : List UInt8} (hl : l ≠ []) : toks l = (dr l, l.take (dw l)) :: toks (l.drop (dw l)) := by
  have hp := List.length_pos_iff.2 hl
  have hd := dw_le l hl
  unfold toks
  obtain ⟨n, hn⟩ : ∃ n, l.length = n + 1 := ⟨l.length - 1, by omega⟩
  rw [hn]
  show (if l.isEmpty then [] else _) = _
  have h0 : l.isEmpty = false := by simpa using hl
  rw [h0]
  simp only [Bool.false_eq_true, if_false]
  rw [toksF_more n (l.drop (dw l)).length (l.drop (dw l)) (by simp; omega) (Nat.le_refl _)]

/-- By what is left. -/
theorem toks_induct {p : List UInt8 → Prop} (h0 : p []) (h1 : ∀ l, l ≠ [] → p (l.drop (dw l)) → p l) (l : List UInt8) : p l := by
  generalize hn : l.length = n
  induction n using Nat.strongRecOn generalizing l with
  | ind n ih =>
    by_cases hl : l = []
    · subst hl; exact h0
    · have hd := dw_le l hl
      have hp := List.length_pos_iff.2 hl
      exact h1 l hl (ih (l.drop (dw l)).length (by simp; omega) _ rfl)

/-- The bytes of some of them. -/
def bytesOf (ts : List (Nat × List UInt8)) : List UInt8 := ts.flatMap (·.2)
def runesOf (ts : List (Nat × List UInt8)) : List Nat := ts.map (·.1)
/-- Each is written in its bytes. -/
def wellB (ts : List (Nat × List UInt8)) : Bool := ts.all fun t => t.2 == enc t.1

theorem bytesOf_toks (l : List UInt8) : bytesOf (toks l) = l := by
  induction l using toks_induct with
  | h0 => rfl
  | h1 l hl ih =>
    rw [toks_cons hl]
    show l.take (dw l) ++ bytesOf (toks (l.drop (dw l))) = l
    rw [ih, List.take_append_drop]

theorem toks_good (l : List UInt8) : ∀ t ∈ toks l, Utf8.valid (t.1 : Int) = true ∧ 1 ≤ t.2.length ∧ t.2.length ≤ 4 := by
  induction l using toks_induct with
  | h0 => intro t ht; simp [toks_nil] at ht
  | h1 l hl ih =>
    rw [toks_cons hl]
    intro t ht
    have hd := dw_le l hl
    rcases List.mem_cons.1 ht with rfl | h
    · exact ⟨dr_valid l hl, by simp; omega, by simp; omega⟩
    · exact ih t h

theorem toks_enc (r : Nat) (hv : Utf8.valid (r : Int) = true) (l : List UInt8) : toks (enc r ++ l) = (r, enc r) :: toks l := by
  have hne : enc r ++ l ≠ [] := by
    have := (enc_len r hv).1
    intro e
    have := congrArg List.length e
    simp at this
    simp [this] at *
  obtain ⟨h1, h2⟩ := dec_enc r hv l
  rw [toks_cons hne, h1, h2]
  simp

theorem ok_head {l : List UInt8} (hl : l ≠ []) : (l.take (dw l) == enc (dr l)) = okB l := by
  cases h : okB l with
  | true => rw [okB_take h hl]; simp
  | false =>
    obtain ⟨h1, h2⟩ := okB_false h hl
    rw [h1, h2]
    rw [beq_eq_false_iff_ne]
    intro e
    have := congrArg List.length e
    have e3 : (enc 65533).length = 3 := by rw [enc_bad]; rfl
    rw [e3, List.length_take] at this
    omega

theorem wellB_cons {l : List UInt8} (hl : l ≠ []) : wellB (toks l) = (okB l && wellB (toks (l.drop (dw l)))) := by
  rw [toks_cons hl, ← ok_head hl]
  rfl

/-- Behind what is valid the runes go on. -/
theorem toks_append (a b : List UInt8) (h : wellB (toks a) = true) : toks (a ++ b) = toks a ++ toks b := by
  induction a using toks_induct with
  | h0 => rfl
  | h1 a ha ih =>
    rw [wellB_cons ha, Bool.and_eq_true] at h
    obtain ⟨hv, he⟩ := okB_true h.1 ha
    have e1 : a ++ b = enc (dr a) ++ (a.drop (dw a) ++ b) := by rw [← List.append_assoc, ← he]
    rw [e1, toks_enc _ hv, ih h.2, toks_cons ha, okB_take h.1 ha]
    rfl

/-- The first ones of a text are the first ones' own. -/
theorem toks_take (l : List UInt8) : ∀ n, toks (bytesOf ((toks l).take n)) = (toks l).take n := by
  induction l using toks_induct with
  | h0 => intro n; simp [toks_nil, bytesOf]
  | h1 l hl ih =>
    intro n
    cases n with
    | zero => simp [toks_nil, bytesOf]
    | succ n =>
      have hc := toks_cons hl
      rw [hc, List.take_succ_cons]
      show toks (l.take (dw l) ++ bytesOf ((toks (l.drop (dw l))).take n)) = _
      cases ho : okB l with
      | true =>
        rw [okB_take ho hl, toks_enc _ (okB_true ho hl).1, ih n]
      | false =>
        obtain ⟨h1, h2⟩ := okB_false ho hl
        have hp := List.length_pos_iff.2 hl
        have hb1 : (l.take (dw l)).length = 1 := by rw [h2]; simp; omega
        generalize hP : l.take (dw l) ++ bytesOf ((toks (l.drop (dw l))).take n) = P
        have hPn : P ≠ [] := by
          intro e
          have := congrArg List.length hP
          rw [e] at this
          simp only [List.length_append, hb1, List.length_nil] at this
          omega
        have hpre : ∃ R, l = P ++ R := by
          refine ⟨bytesOf ((toks (l.drop (dw l))).drop n), ?_⟩
          rw [← hP, List.append_assoc]
          have : bytesOf ((toks (l.drop (dw l))).take n) ++ bytesOf ((toks (l.drop (dw l))).drop n) = l.drop (dw l) := by
            unfold bytesOf
            rw [← List.flatMap_append, List.take_append_drop]
            exact bytesOf_toks _
          rw [this, List.take_append_drop]
        obtain ⟨R, hR⟩ := hpre
        have hPo : okB P = false := by
          cases hq : okB P with
          | false => rfl
          | true =>
            exfalso
            obtain ⟨hv, he⟩ := okB_true hq hPn
            have : l = enc (dr P) ++ (P.drop (dw P) ++ R) := by rw [← List.append_assoc, ← he]; exact hR
            have h3 := okB_enc (dr P) hv (P.drop (dw P) ++ R)
            rw [← this, ho] at h3
            cases h3
        obtain ⟨g1, g2⟩ := okB_false hPo hPn
        rw [toks_cons hPn, g1, g2, h1]
        have e1 : P.take 1 = l.take (dw l) := by rw [← hP]; simp [← hb1]
        have e2 : P.drop 1 = bytesOf ((toks (l.drop (dw l))).take n) := by rw [← hP]; simp [← hb1]
        rw [e1, e2, ih n]

theorem toks_drop (l : List UInt8) : ∀ n, toks (bytesOf ((toks l).drop n)) = (toks l).drop n := by
  induction l using toks_induct with
  | h0 => intro n; simp [toks_nil, bytesOf]
  | h1 l hl ih =>
    intro n
    cases n with
    | zero => rw [List.drop_zero, bytesOf_toks]
    | succ n => rw [toks_cons hl, List.drop_succ_cons]; exact ih n

theorem bytesOf_append (a b : List (Nat × List UInt8)) : bytesOf (a ++ b) = bytesOf a ++ bytesOf b := by simp [bytesOf]

theorem bytesOf_split (l : List UInt8) (n : Nat) : bytesOf ((toks l).take n) ++ bytesOf ((toks l).drop n) = l := by
  rw [← bytesOf_append, List.take_append_drop, bytesOf_toks]

/-- Where the n-th begins. -/
def posOf (l : List UInt8) (n : Nat) : Nat := (bytesOf ((toks l).take n)).length

theorem take_pos (l : List UInt8) (n : Nat) : l.take (posOf l n) = bytesOf ((toks l).take n) := by
  have := bytesOf_split l n
  unfold posOf
  generalize bytesOf ((toks l).take n) = x at this ⊢
  generalize bytesOf ((toks l).drop n) = y at this
  rw [← this]
  simp
theorem drop_pos (l : List UInt8) (n : Nat) : l.drop (posOf l n) = bytesOf ((toks l).drop n) := by
  have := bytesOf_split l n
  unfold posOf
  generalize bytesOf ((toks l).take n) = x at this ⊢
  generalize bytesOf ((toks l).drop n) = y at this ⊢
  rw [← this]
  simp
theorem toks_drop_pos (l : List UInt8) (n : Nat) : toks (l.drop (posOf l n)) = (toks l).drop n := by rw [drop_pos, toks_drop]
theorem posOf_le (l : List UInt8) (n : Nat) : posOf l n ≤ l.length := by
  have := congrArg List.length (bytesOf_split l n)
  rw [List.length_append] at this
  unfold posOf
  omega

theorem toks_length (l : List UInt8) : (toks l).length ≤ l.length := by
  induction l using toks_induct with
  | h0 => simp [toks_nil]
  | h1 l hl ih =>
    have := dw_le l hl
    rw [toks_cons hl]
    simp at ih ⊢
    omega

theorem posOf_all (l : List UInt8) (n : Nat) (h : (toks l).length ≤ n) : posOf l n = l.length := by
  unfold posOf
  rw [List.take_of_length_le h, bytesOf_toks]
theorem posOf_zero (l : List UInt8) : posOf l 0 = 0 := rfl

theorem drop_ne (l : List UInt8) (n : Nat) (h : n < (toks l).length) : l.drop (posOf l n) ≠ [] := by
  intro e
  have := toks_drop_pos l n
  rw [e, toks_nil] at this
  have := congrArg List.length this
  simp at this
  omega

theorem get_toks (l : List UInt8) (n : Nat) (h : n < (toks l).length) : (toks l)[n] = (dr (l.drop (posOf l n)), (l.drop (posOf l n)).take (dw (l.drop (posOf l n)))) := by
  have h1 := toks_drop_pos l n
  rw [toks_cons (drop_ne l n h)] at h1
  have h2 := congrArg List.head? h1
  simp only [List.head?_cons, List.head?_drop] at h2
  rw [List.getElem?_eq_getElem h] at h2
  exact (Option.some.inj h2).symm

theorem posOf_succ (l : List UInt8) (n : Nat) (h : n < (toks l).length) : posOf l (n + 1) = posOf l n + dw (l.drop (posOf l n)) := by
  have hne := drop_ne l n h
  have hd := dw_le _ hne
  have hg := get_toks l n h
  conv => lhs; unfold posOf
  rw [List.take_add_one, List.getElem?_eq_getElem h, hg]
  simp only [bytesOf_append, List.length_append, Option.toList_some]
  show posOf l n + _ = _
  congr 1
  simp [bytesOf]
  simp at hd
  omega

/-- The runes written one by one. -/
theorem toks_written (rs : List Nat) (h : ∀ r ∈ rs, Utf8.valid (r : Int) = true) : toks (rs.flatMap enc) = rs.map fun r => (r, enc r) := by
  induction rs with
  | nil => rfl
  | cons r rs ih =>
    rw [List.flatMap_cons, toks_enc r (h r (List.mem_cons_self ..)), ih fun r hr => h r (List.mem_cons_of_mem _ hr)]
    rfl

theorem all_own (f : Nat → List UInt8) (rs : List Nat) : ((rs.map fun r => (r, f r)).all fun t => t.2 == f t.1) = true := by
  rw [List.all_eq_true]
  intro t ht
  obtain ⟨r, -, rfl⟩ := List.mem_map.1 ht
  exact beq_iff_eq.2 rfl
theorem well_written (rs : List Nat) : wellB (rs.map fun r => (r, enc r)) = true := all_own enc rs

theorem map_own (f : Nat → List UInt8) (ts : List (Nat × List UInt8)) (h : (ts.all fun t => t.2 == f t.1) = true) : (ts.map (·.1)).flatMap f = ts.flatMap (·.2) := by
  rw [List.all_eq_true] at h
  rw [List.flatMap_map]
  induction ts with
  | nil => rfl
  | cons t ts ih =>
    rw [List.flatMap_cons, List.flatMap_cons, ih fun t ht => h t (List.mem_cons_of_mem _ ht)]
    have := h t (List.mem_cons_self ..)
    rw [beq_iff_eq] at this
    rw [this]

/-- What is valid is what its runes write. -/
theorem written_iff (l : List UInt8) : (runesOf (toks l)).flatMap enc = l ↔ wellB (toks l) = true := by
  have hv : ∀ r ∈ runesOf (toks l), Utf8.valid (r : Int) = true := by
    intro r hr
    obtain ⟨t, ht, rfl⟩ := List.mem_map.1 hr
    exact (toks_good l t ht).1
  constructor
  · intro h
    have h1 := toks_written _ hv
    rw [h] at h1
    rw [h1]
    exact well_written _
  · intro h
    have := map_own enc (toks l) h
    unfold runesOf
    rw [this]
    exact bytesOf_toks l

end Go.Proofs.Ytibbligidncocaa

namespace Go.Proofs.Ytibbligidncocaa
open Go.RowKit

def atB (l : List UInt8) (k : Nat) : Nat := (l.getD k 0).toNat
theorem atB_lt (l : List UInt8) (k : Nat) : atB l k < 256 := (l.getD k 0).toNat_lt

/-- How many bytes a first byte asks for, the least rune, and what it brings itself. -/
def Lead (c n low r0 : Nat) : Prop := (192 ≤ c ∧ c < 224 ∧ n = 2 ∧ low = 128 ∧ r0 = c - 192) ∨ (224 ≤ c ∧ c < 240 ∧ n = 3 ∧ low = 2048 ∧ r0 = c - 224) ∨ (240 ≤ c ∧ c < 248 ∧ n = 4 ∧ low = 65536 ∧ r0 = c - 240)
/-- What k further bytes make. -/
def acc (l : List UInt8) (r0 : Nat) : Nat → Nat
  | 0 => r0
  | k + 1 => acc l r0 k * 64 + atB l (k + 1) % 64
def Conts (l : List UInt8) (n : Nat) : Prop := ∀ j, 1 ≤ j → j < n → 128 ≤ atB l j ∧ atB l j ≤ 191
/-- A rune of n bytes stands there. -/
def Good (l : List UInt8) (n low r0 : Nat) : Prop := n ≤ l.length ∧ Conts l n ∧ low ≤ acc l r0 (n - 1) ∧ acc l r0 (n - 1) ≤ 1114111 ∧ ¬ (55296 ≤ acc l r0 (n - 1) ∧ acc l r0 (n - 1) < 57344)

theorem dr_eq (l : List UInt8) {a b : Nat} (h : Utf8.decode (str l) 0 = (a, b)) : dr l = a ∧ dw l = b := by
  unfold dr dw
  rw [h]
  exact ⟨rfl, rfl⟩

theorem d_ascii (l : List UInt8) (hl : l ≠ []) (h : atB l 0 < 128) : dr l = atB l 0 ∧ dw l = 1 ∧ okB l = true := by
  have key : Utf8.decode (str l) 0 = (atB l 0, 1) := by
    unfold atB at h
    unfold Utf8.decode
    simp only [get_str, str_size, if_pos h]
    rfl
  obtain ⟨h1, h2⟩ := dr_eq l key
  refine ⟨h1, h2, ?_⟩
  cases ho : okB l with
  | true => rfl
  | false =>
    have := (okB_false ho hl).1
    omega

theorem d_bad (l : List UInt8) (hl : l ≠ []) (h : 128 ≤ atB l 0) (hd : Utf8.decode (str l) 0 = (65533, 1)) : dr l = 65533 ∧ dw l = 1 ∧ okB l = false := by
  obtain ⟨h1, h2⟩ := dr_eq l hd
  exact ⟨h1, h2, (okB_bad hl h2 h).1⟩

theorem d_good (l : List UInt8) (hl : l ≠ []) {r n : Nat} (hn : 2 ≤ n) (hd : Utf8.decode (str l) 0 = (r, n)) : dr l = r ∧ dw l = n ∧ okB l = true := by
  obtain ⟨h1, h2⟩ := dr_eq l hd
  refine ⟨h1, h2, ?_⟩
  cases ho : okB l with
  | true => rfl
  | false =>
    have := (okB_false ho hl).2
    omega

theorem cont_iff (l : List UInt8) (k : Nat) : (decide (0 + k < l.length) && (l.getD k 0).toNat / 64 == 2) = true ↔ k < l.length ∧ 128 ≤ atB l k ∧ atB l k ≤ 191 := by
  rw [Bool.and_eq_true, decide_eq_true_eq, beq_iff_eq]
  unfold atB
  omega

theorem d_none (l : List UInt8) (hl : l ≠ []) (h : 128 ≤ atB l 0) (h2 : atB l 0 < 192 ∨ 248 ≤ atB l 0) : dr l = 65533 ∧ dw l = 1 ∧ okB l = false := by
  refine d_bad l hl h ?_
  unfold atB at h h2
  unfold Utf8.decode
  simp only [get_str, str_size]
  rw [if_neg (by omega), if_neg (by rw [Bool.and_eq_true, beq_iff_eq]; omega), if_neg (by rw [Bool.and_eq_true, Bool.and_eq_true, beq_iff_eq]; omega), if_neg (by rw [Bool.and_eq_true, Bool.and_eq_true, Bool.and_eq_true, beq_iff_eq]; omega)]
  rfl

theorem good_of (l : List UInt8) (n low r0 A : Nat) (h : acc l r0 (n - 1) = A) (h1 : n ≤ l.length) (h2 : Conts l n) (h3 : low ≤ A) (h4 : A < 55296 ∨ (57344 ≤ A ∧ A ≤ 1114111)) : Good l n low r0 := by
  subst h
  exact ⟨h1, h2, h3, by omega, by omega⟩

set_option maxRecDepth 100000 in
theorem d_lead (l : List UInt8) (hl : l ≠ []) (n low r0 : Nat) (h : Lead (atB l 0) n low r0) :
    (Good l n low r0 → dr l = acc l r0 (n - 1) ∧ dw l = n ∧ okB l = true) ∧ (¬ Good l n low r0 → dr l = 65533 ∧ dw l = 1 ∧ okB l = false) := by
  have hc := atB_lt l 0
  rcases h with ⟨c0, c1, rfl, rfl, rfl⟩ | ⟨c0, c1, rfl, rfl, rfl⟩ | ⟨c0, c1, rfl, rfl, rfl⟩
  · have hC : Conts l 2 ↔ 128 ≤ atB l 1 ∧ atB l 1 ≤ 191 := ⟨fun H => H 1 (by omega) (by omega), fun H j j1 j2 => (by omega : 1 = j) ▸ H⟩
    have hA : acc l (atB l 0 - 192) 1 = (atB l 0 - 192) * 64 + atB l 1 % 64 := rfl
    have hE : (l.getD 0 0).toNat % 32 * 64 + (l.getD 1 0).toNat % 64 = acc l (atB l 0 - 192) 1 := by rw [hA]; unfold atB at *; omega
    constructor
    · intro g
      obtain ⟨g1, g2, g3, g4, g5⟩ := g
      rw [hC] at g2
      simp only [Nat.reduceSub] at g3 g4 g5
      refine d_good l hl (by omega) ?_
      unfold Utf8.decode
      simp only [get_str, str_size]
      rw [if_neg (by unfold atB at c0; omega), if_pos (by rw [Bool.and_eq_true, cont_iff, beq_iff_eq]; unfold atB at *; omega), hE, if_pos g3]
    · intro g
      refine d_bad l hl (by omega) ?_
      unfold Utf8.decode
      simp only [get_str, str_size]
      rw [if_neg (by unfold atB at c0; omega)]
      by_cases hk : 1 < l.length ∧ 128 ≤ atB l 1 ∧ atB l 1 ≤ 191
      · rw [if_pos (by rw [Bool.and_eq_true, cont_iff, beq_iff_eq]; unfold atB at *; omega), hE, if_neg (fun hx => g ⟨hk.1, hC.2 hk.2, hx, by show acc l (atB l 0 - 192) 1 ≤ _; omega, by show ¬ (_ ≤ acc l (atB l 0 - 192) 1 ∧ acc l (atB l 0 - 192) 1 < _); omega⟩)]
        rfl
      · rw [if_neg (by rw [Bool.and_eq_true, cont_iff]; exact fun hx => hk hx.2), if_neg (by rw [Bool.and_eq_true, Bool.and_eq_true, beq_iff_eq]; unfold atB at *; omega), if_neg (by rw [Bool.and_eq_true, Bool.and_eq_true, Bool.and_eq_true, beq_iff_eq]; unfold atB at *; omega)]
        rfl
  · have hC : Conts l 3 ↔ (128 ≤ atB l 1 ∧ atB l 1 ≤ 191) ∧ (128 ≤ atB l 2 ∧ atB l 2 ≤ 191) := ⟨fun H => ⟨H 1 (by omega) (by omega), H 2 (by omega) (by omega)⟩, fun H j j1 j2 => by
      rcases (by omega : j = 1 ∨ j = 2) with rfl | rfl
      · exact H.1
      · exact H.2⟩
    have hA : acc l (atB l 0 - 224) 2 = ((atB l 0 - 224) * 64 + atB l 1 % 64) * 64 + atB l 2 % 64 := rfl
    have hE : (l.getD 0 0).toNat % 16 * 4096 + (l.getD 1 0).toNat % 64 * 64 + (l.getD 2 0).toNat % 64 = acc l (atB l 0 - 224) 2 := by rw [hA]; unfold atB at *; omega
    have hvv := valid_iff (acc l (atB l 0 - 224) 2)
    constructor
    · intro g
      obtain ⟨g1, g2, g3, g4, g5⟩ := g
      rw [hC] at g2
      simp only [Nat.reduceSub] at g3 g4 g5
      refine d_good l hl (by omega) ?_
      unfold Utf8.decode
      simp only [get_str, str_size]
      rw [if_neg (by unfold atB at c0; omega), if_neg (by rw [Bool.and_eq_true, beq_iff_eq]; unfold atB at *; omega), if_pos (by rw [Bool.and_eq_true, Bool.and_eq_true, cont_iff, cont_iff, beq_iff_eq]; unfold atB at *; omega), hE, if_pos (by rw [Bool.and_eq_true, decide_eq_true_eq]; exact ⟨g3, hvv.2 (by omega)⟩)]
    · intro g
      refine d_bad l hl (by omega) ?_
      unfold Utf8.decode
      simp only [get_str, str_size]
      rw [if_neg (by unfold atB at c0; omega), if_neg (by rw [Bool.and_eq_true, beq_iff_eq]; unfold atB at *; omega)]
      by_cases hk : (1 < l.length ∧ 128 ≤ atB l 1 ∧ atB l 1 ≤ 191) ∧ (2 < l.length ∧ 128 ≤ atB l 2 ∧ atB l 2 ≤ 191)
      · rw [if_pos (by rw [Bool.and_eq_true, Bool.and_eq_true, cont_iff, cont_iff, beq_iff_eq]; unfold atB at *; omega), hE, if_neg (fun hx => by
          rw [Bool.and_eq_true, decide_eq_true_eq, hvv] at hx
          exact g (good_of l 3 2048 _ _ rfl hk.2.1 (hC.2 ⟨hk.1.2, hk.2.2⟩) hx.1 hx.2))]
        rfl
      · rw [if_neg (by rw [Bool.and_eq_true, Bool.and_eq_true, cont_iff, cont_iff]; exact fun hx => hk ⟨hx.1.2, hx.2⟩), if_neg (by rw [Bool.and_eq_true, Bool.and_eq_true, Bool.and_eq_true, beq_iff_eq]; unfold atB at *; omega)]
        rfl
  · have hC : Conts l 4 ↔ (128 ≤ atB l 1 ∧ atB l 1 ≤ 191) ∧ (128 ≤ atB l 2 ∧ atB l 2 ≤ 191) ∧ (128 ≤ atB l 3 ∧ atB l 3 ≤ 191) := ⟨fun H => ⟨H 1 (by omega) (by omega), H 2 (by omega) (by omega), H 3 (by omega) (by omega)⟩, fun H j j1 j2 => by
      rcases (by omega : j = 1 ∨ j = 2 ∨ j = 3) with rfl | rfl | rfl
      · exact H.1
      · exact H.2.1
      · exact H.2.2⟩
    have hA : acc l (atB l 0 - 240) 3 = (((atB l 0 - 240) * 64 + atB l 1 % 64) * 64 + atB l 2 % 64) * 64 + atB l 3 % 64 := rfl
    have hE : (l.getD 0 0).toNat % 8 * 262144 + (l.getD 1 0).toNat % 64 * 4096 + (l.getD 2 0).toNat % 64 * 64 + (l.getD 3 0).toNat % 64 = acc l (atB l 0 - 240) 3 := by rw [hA]; unfold atB at *; omega
    have hvv := valid_iff (acc l (atB l 0 - 240) 3)
    constructor
    · intro g
      obtain ⟨g1, g2, g3, g4, g5⟩ := g
      rw [hC] at g2
      simp only [Nat.reduceSub] at g3 g4 g5
      refine d_good l hl (by omega) ?_
      unfold Utf8.decode
      simp only [get_str, str_size]
      rw [if_neg (by unfold atB at c0; omega), if_neg (by rw [Bool.and_eq_true, beq_iff_eq]; unfold atB at *; omega), if_neg (by rw [Bool.and_eq_true, Bool.and_eq_true, beq_iff_eq]; unfold atB at *; omega), if_pos (by rw [Bool.and_eq_true, Bool.and_eq_true, Bool.and_eq_true, cont_iff, cont_iff, cont_iff, beq_iff_eq]; unfold atB at *; omega), hE, if_pos (by rw [Bool.and_eq_true, decide_eq_true_eq]; exact ⟨g3, hvv.2 (by omega)⟩)]
    · intro g
      refine d_bad l hl (by omega) ?_
      unfold Utf8.decode
      simp only [get_str, str_size]
      rw [if_neg (by unfold atB at c0; omega), if_neg (by rw [Bool.and_eq_true, beq_iff_eq]; unfold atB at *; omega), if_neg (by rw [Bool.and_eq_true, Bool.and_eq_true, beq_iff_eq]; unfold atB at *; omega)]
      by_cases hk : (1 < l.length ∧ 128 ≤ atB l 1 ∧ atB l 1 ≤ 191) ∧ (2 < l.length ∧ 128 ≤ atB l 2 ∧ atB l 2 ≤ 191) ∧ (3 < l.length ∧ 128 ≤ atB l 3 ∧ atB l 3 ≤ 191)
      · rw [if_pos (by rw [Bool.and_eq_true, Bool.and_eq_true, Bool.and_eq_true, cont_iff, cont_iff, cont_iff, beq_iff_eq]; unfold atB at *; omega), hE, if_neg (fun hx => by
          rw [Bool.and_eq_true, decide_eq_true_eq, hvv] at hx
          exact g (good_of l 4 65536 _ _ rfl hk.2.2.1 (hC.2 ⟨hk.1.2, hk.2.1.2, hk.2.2.2⟩) hx.1 hx.2))]
        rfl
      · rw [if_neg (by rw [Bool.and_eq_true, Bool.and_eq_true, Bool.and_eq_true, cont_iff, cont_iff, cont_iff]; exact fun hx => hk ⟨hx.1.1.2, hx.1.2, hx.2⟩)]
        rfl

end Go.Proofs.Ytibbligidncocaa

namespace Go.Proofs.Ytibbligidncocaa
open Go.RowKit

def dv (r n : Nat) (ok : Bool) : Value := .tuple #[.int .i32 (r : Int), .int .i64 (n : Int), .bool ok]

end Go.Proofs.Ytibbligidncocaa
