/-
  Numbers and texts as bytes (of no code): what is read is written so.
  Records as bytes: what stands at the beginning of bytes.
  Rows of records as bytes (of no code): which rows may be, their bytes, how those are read; what is read is written so.
  A *bits.Bits in memory: what it holds; worlds in which two blocks may have changed. Plain facts.
  'append' to what the call itself owns, with one thing more than the library's law says: the row is the one it was, or a new one.
  The contracts of bits: PutNum.
  The contracts of bits: Put, Len, Num.
  The contract of bits: At.
-/
import Derived.Test.YtgalppnpmfpdbaaM03
import Derived.Test.YtgalppnpmfpdbaaM04
import Derived.Test.YtgalppnpmfpdbaaM06
import Derived.Test.YtgalppnpmfpdbaaM01
import Derived.Test.YtgalppnpmfpdbaaM07
import Derived.Laws.BitsAllLaws
import Derived.Deep.DeepCutAuto
import Derived.Deep.QuietTactic
import Derived.BigQuiet
namespace Go.Proofs.Ytgalppnpmfpdbaa
open Go.RowKit
open Go.Lib (uvarint zigzag)

/-! ### Numbers: what is read is written so. -/
theorem unzig_of (u : Nat) : zigzag (unzig u) = u := by
  unfold unzig zigzag
  split <;> split <;> omega

theorem getS_canon : ∀ (l : List UInt8) (k u : Nat) (n : Int) (m : Nat), k ≤ 9 → getS l k u = (n, m, 0) →
    ∃ x r, n = unzig (u + x * 128 ^ k) ∧ m = k + (uvarint x).length ∧ l = uvarint x ++ r ∧ (0 < k → 0 < x)
  | [], k, u, n, m, _, h => by simp [getS] at h
  | c :: r, k, u, n, m, hk, h => by
    rw [getS] at h
    have hc : c.toNat < 256 := c.toNat_lt
    split at h
    · simp at h
    · rename_i h9
      split at h
      · rename_i h128
        by_cases hk9 : k = 9
        · exact absurd ⟨hk9, by omega⟩ h9
        · obtain ⟨x, r', e1, e2, e3, e4⟩ := getS_canon r (k + 1) _ n m (by omega) h
          have hx := e4 (by omega)
          refine ⟨c.toNat % 128 + 128 * x, r', ?_, ?_, ?_, fun _ => by omega⟩
          · rw [e1, Nat.pow_succ]
            congr 1
            rw [Nat.add_mul, Nat.mul_assoc, Nat.mul_comm 128 (x * 128 ^ k), Nat.mul_assoc]
            omega
          · rw [Go.Lib.uvarint_big (by omega), e2, show (c.toNat % 128 + 128 * x) / 128 = x by omega, List.length_cons]
            omega
          · rw [Go.Lib.uvarint_big (by omega), show (c.toNat % 128 + 128 * x) / 128 = x by omega, show (c.toNat % 128 + 128 * x) % 128 + 128 = c.toNat by omega, e3]
            simp
      · split at h
        · simp at h
        · rename_i h1 h2
          simp only [Prod.mk.injEq, and_true] at h
          obtain ⟨rfl, rfl⟩ := h
          refine ⟨c.toNat, r, rfl, ?_, ?_, fun hk0 => by omega⟩
          · rw [Go.Lib.uvarint_small (by omega)]; simp
          · rw [Go.Lib.uvarint_small (by omega)]
            simp

theorem getB_canon {l : List UInt8} {n : Int} {m : Nat} (h : getB l = (n, m, 0)) : m = (uvarint (zigzag n)).length ∧ l = uvarint (zigzag n) ++ l.drop m := by
  obtain ⟨x, r, e1, e2, e3, -⟩ := getS_canon l 0 0 n m (by omega) h
  simp only [Nat.pow_zero, Nat.mul_one, Nat.zero_add] at e1 e2
  have hx : zigzag n = x := by rw [e1, unzig_of]
  rw [hx]
  refine ⟨e2, ?_⟩
  rw [e2]
  conv => rhs; rw [e3]
  simp [e3]

theorem textB_canon {l s : List UInt8} {m : Nat} (h : textB l = (s, m, 0)) : s.length ≤ 65536 ∧ l = putT s ++ l.drop m := by
  unfold textB at h
  split at h
  · rename_i h0
    simp only [Prod.mk.injEq] at h
    exact absurd h.2.2 h0
  · split at h
    · simp at h
    · split at h
      · simp at h
      · rename_i h0 h1 h2
        simp only [Prod.mk.injEq, and_true] at h
        obtain ⟨rfl, rfl⟩ := h
        have h0 : (getB l).2.2 = 0 := Classical.byContradiction fun hh => h0 hh
        rcases hr : getB l with ⟨n, k, e⟩
        rw [hr] at h0 h1 h2
        simp only [] at h0 h1 h2
        subst h0
        obtain ⟨-, e2⟩ := getB_canon hr
        have hsl : ((l.drop k).take n.toNat).length = n.toNat := by rw [List.length_take, List.length_drop]; omega
        refine ⟨by rw [hsl]; omega, ?_⟩
        unfold putT
        rw [hsl, show ((n.toNat : Nat) : Int) = n by omega, List.append_assoc, ← List.drop_drop, List.take_append_drop]
        exact e2

end Go.Proofs.Ytgalppnpmfpdbaa

namespace Go.Proofs.Ytgalppnpmfpdbaa
open Go.RowKit
open Go.Lib (uvarint zigzag)

/-- Key, Gone, Kind, N, S; how many bytes; the error. -/
abbrev RdT := (List UInt8 × Bool × Int × Int × List UInt8) × Nat × Int
def rdErr (e : Int) : RdT := (([], false, 0, 0, []), 0, e)
def readB (l : List UInt8) : RdT :=
  if (textB l).2.2 ≠ 0 then rdErr (textB l).2.2
  else if mayK (str (textB l).1) = false then rdErr 1
  else if (getB (l.drop (textB l).2.1)).2.2 ≠ 0 then rdErr (getB (l.drop (textB l).2.1)).2.2
  else if (getB (l.drop (textB l).2.1)).1 = 0 then (((textB l).1, true, 0, 0, []), (textB l).2.1 + (getB (l.drop (textB l).2.1)).2.1, 0)
  else if (valB (l.drop (textB l).2.1)).2.2 ≠ 0 then rdErr (valB (l.drop (textB l).2.1)).2.2
  else (((textB l).1, false, (valB (l.drop (textB l).2.1)).1), (textB l).2.1 + (valB (l.drop (textB l).2.1)).2.1, 0)

section
variable {l key : List UInt8} {p m q : Nat} {x e e2 e3 : Int} {v : Int × Int × List UInt8}
theorem readB_e1 (h : textB l = (key, p, e)) (he : e ≠ 0) : readB l = rdErr e := by
  unfold readB; rw [h]; simp [he]
theorem readB_e2 (h : textB l = (key, p, 0)) (hk : mayK (str key) = false) : readB l = rdErr 1 := by
  unfold readB; rw [h]; simp [hk]
theorem readB_e3 (h : textB l = (key, p, 0)) (hk : mayK (str key) = true) (g : getB (l.drop p) = (x, m, e2)) (he : e2 ≠ 0) : readB l = rdErr e2 := by
  unfold readB; rw [h]; simp only []; rw [g]; simp [hk, he]
theorem readB_gone (h : textB l = (key, p, 0)) (hk : mayK (str key) = true) (g : getB (l.drop p) = (0, m, 0)) : readB l = ((key, true, 0, 0, []), p + m, 0) := by
  unfold readB; rw [h]; simp only []; rw [g]; simp [hk]
theorem readB_e4 (h : textB l = (key, p, 0)) (hk : mayK (str key) = true) (g : getB (l.drop p) = (x, m, 0)) (hx : x ≠ 0) (u : valB (l.drop p) = (v, q, e3)) (he : e3 ≠ 0) : readB l = rdErr e3 := by
  unfold readB; rw [h]; simp only []; rw [g, u]; simp [hk, hx, he]
theorem readB_ok (h : textB l = (key, p, 0)) (hk : mayK (str key) = true) (g : getB (l.drop p) = (x, m, 0)) (hx : x ≠ 0) (u : valB (l.drop p) = (v, q, 0)) : readB l = ((key, false, v), p + q, 0) := by
  unfold readB; rw [h]; simp only []; rw [g, u]; simp [hk, hx]
end

theorem textB_fits (l : List UInt8) : (textB l).2.1 ≤ l.length ∧ (textB l).2.1 ≤ 70000 ∧ (textB l).1.length ≤ 65536 ∧ ((textB l).2.2 = 0 ∨ (textB l).2.2 = 1 ∨ (textB l).2.2 = 2) := by
  have hf := getB_fits l
  unfold textB
  split
  · exact ⟨by simp, by simp, by simp, hf.2.2.2.1⟩
  · split
    · simp
    · split
      · simp
      · rename_i c1 c2 c3
        simp only [not_or, Int.not_lt, Nat.not_lt] at c2 c3
        obtain ⟨c4, c5⟩ := c2
        have c6 : (getB l).1.toNat ≤ 65536 := by omega
        refine ⟨?_, ?_, ?_, .inl rfl⟩
        · show (getB l).2.1 + (getB l).1.toNat ≤ l.length; exact c3
        · show (getB l).2.1 + (getB l).1.toNat ≤ 70000; omega
        · show ((l.drop _).take _).length ≤ 65536; rw [List.length_take]; omega
theorem valB_fits (l : List UInt8) : (valB l).2.1 ≤ l.length ∧ (valB l).2.1 ≤ 70010 ∧ ((valB l).2.2 = 0 ∨ (valB l).2.2 = 1 ∨ (valB l).2.2 = 2) ∧ (valB l).1.2.2.length ≤ 65536 := by
  have hf := getB_fits l
  have hf2 := getB_fits (l.drop (getB l).2.1)
  have ht2 := textB_fits (l.drop (getB l).2.1)
  rw [List.length_drop] at hf2 ht2
  unfold valB
  split
  · split
    · split
      · simp; omega
      · simp; omega
    · split
      · split
        · split
          · simp; omega
          · simp
        · simp; omega
      · simp
  · simp; omega

theorem mayRec_key {key : ByteArray} {gone : Bool} {k n : Int} {s : ByteArray} (h : mayRec key gone k n s = true) : mayK key = true ∧ key.size ≤ 16 := by
  unfold mayRec at h
  rw [Bool.and_eq_true] at h
  have h1 := h.1
  unfold mayK at h1
  rw [Bool.and_eq_true, decide_eq_true_eq, decide_eq_true_eq] at h1
  exact ⟨h.1, h1.2⟩
theorem mayRec_gone {key : ByteArray} {k n : Int} {s : List UInt8} (h : mayRec key true k n (str s) = true) : k = 0 ∧ n = 0 ∧ s = [] := by
  unfold mayRec at h
  rw [Bool.and_eq_true] at h
  have h1 := h.2
  simp only [if_true] at h1
  rw [Bool.and_eq_true, Bool.and_eq_true, beq_iff_eq, beq_iff_eq, ByteArray.toList_eq, List.isEmpty_iff] at h1
  exact ⟨h1.1.1, h1.1.2, by simpa [str] using h1.2⟩
theorem mayRec_val {key : ByteArray} {k n : Int} {s : ByteArray} (h : mayRec key false k n s = true) : mayR k n s = true := by
  unfold mayRec at h
  rw [Bool.and_eq_true] at h
  simpa using h.2

/-- What was written is told again. -/
theorem readB_put (key : List UInt8) (gone : Bool) (k n : Int) (s r : List UInt8) (h : mayRec (str key) gone k n (str s) = true) (h0 : -9223372036854775808 ≤ n) (h1 : n ≤ 9223372036854775807) : readB (recB key gone k n s ++ r) = ((key, gone, k, n, s), (recB key gone k n s).length, 0) := by
  obtain ⟨hk, hk16⟩ := mayRec_key h
  rw [str_size] at hk16
  cases gone with
  | true =>
    obtain ⟨rfl, rfl, rfl⟩ := mayRec_gone h
    have e1 : recB key true 0 0 [] = putT key ++ uvarint (zigzag 0) := rfl
    have t1 := textB_put key (uvarint (zigzag 0) ++ r) (by omega)
    have g1 := getB_put 0 (by omega) (by omega) r
    rw [e1, List.append_assoc, readB_gone t1 hk (m := (uvarint (zigzag 0)).length) (by rw [List.drop_left]; exact g1), List.length_append]
  | false =>
    have hv := mayRec_val h
    have e1 : recB key false k n s = putT key ++ putV k n s := rfl
    have t1 := textB_put key (putV k n s ++ r) (by omega)
    have v1 := valB_put k n s r hv h0 h1
    have hkk : k = 1 ∨ k = 2 := by
      rcases mayR_cases hv with ⟨h, -⟩ | ⟨h, -⟩
      · exact .inl h
      · exact .inr h
    obtain ⟨rest, hr⟩ : ∃ rest, putV k n s ++ r = uvarint (zigzag k) ++ rest := ⟨_, by unfold putV; rw [List.append_assoc]⟩
    have g1 := getB_put k (by omega) (by omega) rest
    rw [← hr] at g1
    rw [e1, List.append_assoc, readB_ok t1 hk (by rw [List.drop_left]; exact g1) (by omega) (by rw [List.drop_left]; exact v1), List.length_append]

theorem recB_inj {key1 : List UInt8} {gone1 : Bool} {k1 n1 : Int} {s1 key2 : List UInt8} {gone2 : Bool} {k2 n2 : Int} {s2 : List UInt8} (h : mayRec (str key1) gone1 k1 n1 (str s1) = true) (h0 : -9223372036854775808 ≤ n1) (h1 : n1 ≤ 9223372036854775807)
    (g : mayRec (str key2) gone2 k2 n2 (str s2) = true) (g0 : -9223372036854775808 ≤ n2) (g1 : n2 ≤ 9223372036854775807) (he : recB key1 gone1 k1 n1 s1 = recB key2 gone2 k2 n2 s2) : (key1, gone1, k1, n1, s1) = (key2, gone2, k2, n2, s2) := by
  have a := readB_put key1 gone1 k1 n1 s1 [] h h0 h1
  have b := readB_put key2 gone2 k2 n2 s2 [] g g0 g1
  rw [he, b] at a
  exact (Prod.mk.inj a).1.symm
theorem putV_len {k n : Int} {s : List UInt8} (h : mayR k n (str s) = true) (h0 : -9223372036854775808 ≤ n) (h1 : n ≤ 9223372036854775807) : 2 ≤ (putV k n s).length ∧ (putV k n s).length ≤ 100 := by
  rcases mayR_cases h with ⟨rfl, rfl⟩ | ⟨rfl, rfl, hs⟩
  · have e1 := Go.Lib.uvarint_length64 (Go.Lib.zigzag_lt (x := 1) (by omega) (by omega))
    have e2 := Go.Lib.uvarint_length64 (Go.Lib.zigzag_lt h0 h1)
    have p1 := Go.Lib.uvarint_pos (zigzag 1)
    have p2 := Go.Lib.uvarint_pos (zigzag n)
    unfold putV
    rw [if_pos rfl, List.length_append]
    omega
  · have e1 := Go.Lib.uvarint_length64 (Go.Lib.zigzag_lt (x := 2) (by omega) (by omega))
    have e2 := Go.Lib.uvarint_length64 (Go.Lib.zigzag_lt (x := (s.length : Int)) (by omega) (by omega))
    have p1 := Go.Lib.uvarint_pos (zigzag 2)
    have p2 := Go.Lib.uvarint_pos (zigzag s.length)
    unfold putV putT
    rw [if_neg (by omega), List.length_append, List.length_append]
    omega
theorem recB_len {key : List UInt8} {gone : Bool} {k n : Int} {s : List UInt8} (h : mayRec (str key) gone k n (str s) = true) (h0 : -9223372036854775808 ≤ n) (h1 : n ≤ 9223372036854775807) : 2 ≤ (recB key gone k n s).length ∧ (recB key gone k n s).length ≤ 200 := by
  obtain ⟨hk, hk16⟩ := mayRec_key h
  rw [str_size] at hk16
  have e2 := Go.Lib.uvarint_length64 (Go.Lib.zigzag_lt (x := (key.length : Int)) (by omega) (by omega))
  have p2 := Go.Lib.uvarint_pos (zigzag key.length)
  unfold recB putT
  rw [List.length_append, List.length_append]
  cases gone with
  | true =>
    have e3 := Go.Lib.uvarint_length64 (Go.Lib.zigzag_lt (x := 0) (by omega) (by omega))
    have p3 := Go.Lib.uvarint_pos (zigzag 0)
    simp only [if_true]
    omega
  | false =>
    have := putV_len (mayRec_val h) h0 h1
    simp only [Bool.false_eq_true, if_false]
    omega
theorem gone_less {key : List UInt8} {k n : Int} {s : List UInt8} (h : mayRec (str key) false k n (str s) = true) (h0 : -9223372036854775808 ≤ n) (h1 : n ≤ 9223372036854775807) : (recB key true 0 0 []).length < (recB key false k n s).length := by
  have hv := putV_len (mayRec_val h) h0 h1
  have e3 := Go.Lib.uvarint_length 0 (zigzag 0) (by simp [zigzag])
  unfold recB
  rw [List.length_append, List.length_append]
  simp only [if_true, Bool.false_eq_true, if_false]
  omega

end Go.Proofs.Ytgalppnpmfpdbaa

namespace Go.Proofs.Ytgalppnpmfpdbaa
open Go.RowKit
open Go.Lib (uvarint zigzag)

theorem str_blB (s : ByteArray) : str (bl s) = s := str_bl s

/-! ### A value, a record: what is read is written so. -/
theorem valB_canon {l s : List UInt8} {k n : Int} {m : Nat} (h : valB l = ((k, n, s), m, 0)) :
    mayR k n (str s) = true ∧ (-9223372036854775808 ≤ n ∧ n ≤ 9223372036854775807) ∧ l = putV k n s ++ l.drop m := by
  rcases hr : getB l with ⟨x, p, e⟩
  by_cases he : e = 0
  · subst he
    have c1 := (getB_canon hr).2
    by_cases h1 : x = 1
    · subst h1
      rcases hg : getB (l.drop p) with ⟨y, q, e2⟩
      rw [valB_num l p q y e2 hr hg] at h
      by_cases h2 : e2 = 0
      · subst h2
        rw [if_pos rfl] at h
        simp only [Prod.mk.injEq, and_true] at h
        obtain ⟨⟨rfl, rfl, rfl⟩, rfl⟩ := h
        have c2 := (getB_canon hg).2
        have f2 := getB_fits (l.drop p)
        rw [hg] at f2
        simp only [] at f2
        refine ⟨by simp [mayR, str, ByteArray.toList_eq], by omega, ?_⟩
        have e1 : putV 1 y [] = uvarint (zigzag 1) ++ uvarint (zigzag y) := by simp [putV]
        rw [e1, List.append_assoc, ← List.drop_drop, ← c2]
        exact c1
      · rw [if_neg h2] at h
        simp only [Prod.mk.injEq] at h
        exact absurd h.2.2 h2
    · by_cases h2 : x = 2
      · subst h2
        rcases hg : textB (l.drop p) with ⟨y, q, e2⟩
        rw [valB_text l y p q e2 hr hg] at h
        by_cases h3 : e2 = 0
        · subst h3
          rw [if_pos rfl] at h
          by_cases h4 : mayR 2 0 (str y) = true
          · rw [if_pos h4] at h
            simp only [Prod.mk.injEq, and_true] at h
            obtain ⟨⟨rfl, rfl, rfl⟩, rfl⟩ := h
            have c2 := (textB_canon hg).2
            refine ⟨h4, by omega, ?_⟩
            have e1 : putV 2 0 y = uvarint (zigzag 2) ++ putT y := by simp [putV]
            rw [e1, List.append_assoc, ← List.drop_drop, ← c2]
            exact c1
          · rw [if_neg h4] at h
            simp at h
        · rw [if_neg h3] at h
          simp only [Prod.mk.injEq] at h
          exact absurd h.2.2 h3
      · rw [valB_else l x p hr h1 h2] at h
        simp at h
  · rw [valB_err l x e p hr he] at h
    simp only [Prod.mk.injEq] at h
    exact absurd h.2.2 he

/-- Key, Gone, Kind, N, S, as the program holds them. -/
def unR (r : List UInt8 × Bool × Int × Int × List UInt8) : RecT := (str r.1, r.2.1, r.2.2.1, r.2.2.2.1, str r.2.2.2.2)
def recT (x : RecT) : List UInt8 := recB (bl x.1) x.2.1 x.2.2.1 x.2.2.2.1 (bl x.2.2.2.2)

theorem readB_canon {l : List UInt8} {r : List UInt8 × Bool × Int × Int × List UInt8} {m : Nat} (h : readB l = (r, m, 0)) :
    mayT (unR r) = true ∧ RecOk (unR r) ∧ l = recT (unR r) ++ l.drop m ∧ m ≤ l.length := by
  rcases hr : textB l with ⟨key, p, e⟩
  by_cases he : e = 0
  · subst he
    have c1 := (textB_canon hr).2
    have f1 := textB_fits l
    rw [hr] at f1
    simp only [] at f1
    cases hk : mayK (str key) with
    | false =>
      rw [readB_e2 hr hk] at h
      simp [rdErr] at h
    | true =>
      have hk16 : (str key).size ≤ 16 := by
        have h1 := hk
        unfold mayK at h1
        rw [Bool.and_eq_true, decide_eq_true_eq, decide_eq_true_eq] at h1
        exact h1.2
      rcases hg : getB (l.drop p) with ⟨x, q, e2⟩
      have f2 := getB_fits (l.drop p)
      rw [hg] at f2
      simp only [List.length_drop] at f2
      by_cases h2 : e2 = 0
      · subst h2
        by_cases hx : x = 0
        · subst hx
          rw [readB_gone hr hk hg] at h
          simp only [Prod.mk.injEq, and_true] at h
          obtain ⟨rfl, rfl⟩ := h
          have c2 := (getB_canon hg).2
          refine ⟨?_, ⟨?_, (show (Lit.int .i64 0).wf = true by decide), (show (Lit.int .i64 0).wf = true by decide), ?_⟩, ?_, by omega⟩
          · show mayRec (str key) true 0 0 (str []) = true
            unfold mayRec
            rw [hk]
            simp [str, ByteArray.toList_eq]
          · show (str key).size ≤ maxLen
            unfold maxLen; omega
          · show (str []).size ≤ maxLen
            rw [str_size]; unfold maxLen; simp
          · show l = recB (bl (str key)) true 0 0 (bl (str [])) ++ _
            rw [bl_str, bl_str]
            have e1 : recB key true 0 0 [] = putT key ++ uvarint (zigzag 0) := rfl
            rw [e1, List.append_assoc, ← List.drop_drop, ← c2]
            exact c1
        · rcases hv : valB (l.drop p) with ⟨v, u, e3⟩
          have f3 := valB_fits (l.drop p)
          rw [hv] at f3
          simp only [List.length_drop] at f3
          by_cases h3 : e3 = 0
          · subst h3
            rw [readB_ok hr hk hg hx hv] at h
            simp only [Prod.mk.injEq, and_true] at h
            obtain ⟨rfl, rfl⟩ := h
            obtain ⟨vk, vn, vs⟩ := v
            obtain ⟨c2, c3, c4⟩ := valB_canon hv
            have hkb : -9223372036854775808 ≤ vk ∧ vk ≤ 9223372036854775807 := by
              rcases mayR_cases c2 with ⟨h, -⟩ | ⟨h, -⟩ <;> omega
            refine ⟨?_, ⟨?_, bounds_wf hkb.1 hkb.2, bounds_wf c3.1 c3.2, ?_⟩, ?_, by omega⟩
            · show mayRec (str key) false vk vn (str vs) = true
              unfold mayRec
              rw [hk]
              simpa using c2
            · show (str key).size ≤ maxLen
              unfold maxLen; omega
            · show (str vs).size ≤ maxLen
              rw [str_size]
              rcases mayR_cases c2 with ⟨-, h⟩ | ⟨-, -, h⟩
              · subst h; unfold maxLen; simp
              · unfold maxLen; omega
            · show l = recB (bl (str key)) false vk vn (bl (str vs)) ++ _
              rw [bl_str, bl_str]
              have e1 : recB key false vk vn vs = putT key ++ putV vk vn vs := rfl
              rw [e1, List.append_assoc, ← List.drop_drop, ← c4]
              exact c1
          · rw [readB_e4 hr hk hg hx hv h3] at h
            simp only [rdErr, Prod.mk.injEq] at h
            exact absurd h.2.2 h3
      · rw [readB_e3 hr hk hg h2] at h
        simp only [rdErr, Prod.mk.injEq] at h
        exact absurd h.2.2 h2
  · rw [readB_e1 hr he] at h
    simp only [rdErr, Prod.mk.injEq] at h
    exact absurd h.2.2 he

theorem recOk_n {x : RecT} (h : RecOk x) : -9223372036854775808 ≤ x.2.2.2.1 ∧ x.2.2.2.1 ≤ 9223372036854775807 := by
  have := bounds_i64 h.2.2.1
  omega
theorem recOk_k {x : RecT} (h : RecOk x) : -9223372036854775808 ≤ x.2.2.1 ∧ x.2.2.1 ≤ 9223372036854775807 := by
  have := bounds_i64 h.2.1
  omega
theorem readT_put {x : RecT} (h : mayT x = true) (hok : RecOk x) (r : List UInt8) : ∃ y, readB (recT x ++ r) = (y, (recT x).length, 0) ∧ unR y = x := by
  obtain ⟨key, gone, k, n, s⟩ := x
  obtain ⟨h0, h1⟩ := recOk_n hok
  have := readB_put (bl key) gone k n (bl s) r (by rw [str_bl, str_bl]; exact h) h0 h1
  exact ⟨_, this, by unfold unR; simp only [str_bl]⟩
theorem recT_len {x : RecT} (h : mayT x = true) (hok : RecOk x) : 2 ≤ (recT x).length ∧ (recT x).length ≤ 200 := by
  obtain ⟨key, gone, k, n, s⟩ := x
  obtain ⟨h0, h1⟩ := recOk_n hok
  exact recB_len (key := bl key) (s := bl s) (by rw [str_bl, str_bl]; exact h) h0 h1

/-! ### Rows. -/
def rowC (l : List RecT) : List UInt8 := l.flatMap recT
def rowB (l : List RecT) : List UInt8 := uvarint (zigzag (l.length : Int)) ++ rowC l
def mayRow (l : List RecT) : Bool := decide (l.length ≤ 1000) && l.all mayT
/-- A row's bytes; none of one that may not be. -/
def rowE (l : List RecT) : List UInt8 := if mayRow l then rowB l else []
theorem rowC_snoc (l : List RecT) (x : RecT) : rowC (l ++ [x]) = rowC l ++ recT x := by simp [rowC]
theorem rowC_cons (l : List RecT) (x : RecT) : rowC (x :: l) = recT x ++ rowC l := by simp [rowC]
theorem mayRow_iff {l : List RecT} : mayRow l = true ↔ l.length ≤ 1000 ∧ ∀ x ∈ l, mayT x = true := by
  unfold mayRow
  rw [Bool.and_eq_true, decide_eq_true_eq, List.all_eq_true]
theorem rowC_len (l : List RecT) (h : ∀ x ∈ l, mayT x = true) (hok : ∀ x ∈ l, RecOk x) : (rowC l).length ≤ 200 * l.length := by
  induction l with
  | nil => simp [rowC]
  | cons x t ih =>
    have h1 := (recT_len (h x (List.mem_cons_self ..)) (hok x (List.mem_cons_self ..))).2
    have h2 := ih (fun y hy => h y (List.mem_cons_of_mem _ hy)) (fun y hy => hok y (List.mem_cons_of_mem _ hy))
    rw [rowC_cons, List.length_append, List.length_cons]
    omega
theorem headL (n : Nat) (h : n ≤ 1000000) : (uvarint (zigzag (n : Int))).length ≤ 10 ∧ 1 ≤ (uvarint (zigzag (n : Int))).length :=
  ⟨Go.Lib.uvarint_length64 (Go.Lib.zigzag_lt (by omega) (by omega)), Go.Lib.uvarint_pos _⟩

/-- k records, one behind the other, and what stands behind them. -/
def seqD : Nat → List UInt8 → Option (List RecT × List UInt8)
  | 0, b => some ([], b)
  | k + 1, b => match seqD k b with
    | none => none
    | some (L, r) => if (readB r).2.2 = 0 then some (L ++ [unR (readB r).1], r.drop (readB r).2.1) else none
def rowD (b : List UInt8) : Option (List RecT) :=
  if (getB b).2.2 ≠ 0 ∨ (getB b).1 < 0 ∨ 1000 < (getB b).1 then none
  else match seqD (getB b).1.toNat (b.drop (getB b).2.1) with
    | some (L, []) => some L
    | _ => none

theorem seqD_none {k : Nat} {b : List UInt8} (h : seqD k b = none) : ∀ j, seqD (k + j) b = none
  | 0 => h
  | j + 1 => by
    show seqD (k + j + 1) b = none
    rw [seqD, seqD_none h j]
theorem seqD_ok : ∀ (k : Nat) (b : List UInt8) (L : List RecT) (r : List UInt8), seqD k b = some (L, r) → L.length = k ∧ (∀ x ∈ L, mayT x = true ∧ RecOk x) ∧ b = rowC L ++ r
  | 0, b, L, r, h => by
    simp only [seqD, Option.some.injEq, Prod.mk.injEq] at h
    obtain ⟨rfl, rfl⟩ := h
    exact ⟨rfl, (fun x hx => by cases hx), by simp [rowC]⟩
  | k + 1, b, L, r, h => by
    rw [seqD] at h
    cases hs : seqD k b with
    | none => rw [hs] at h; simp at h
    | some y =>
      obtain ⟨M, q⟩ := y
      rw [hs] at h
      simp only [] at h
      obtain ⟨h1, h2, h3⟩ := seqD_ok k b M q hs
      rcases hr : readB q with ⟨y, m, e⟩
      rw [hr] at h
      simp only [] at h
      by_cases he : e = 0
      · subst he
        rw [if_pos rfl] at h
        simp only [Option.some.injEq, Prod.mk.injEq] at h
        obtain ⟨rfl, rfl⟩ := h
        obtain ⟨c1, c2, c3, -⟩ := readB_canon hr
        refine ⟨by simp [h1], ?_, ?_⟩
        · intro x hx
          rcases List.mem_append.1 hx with hx | hx
          · exact h2 x hx
          · rw [List.mem_singleton.1 hx]; exact ⟨c1, c2⟩
        · rw [rowC_snoc, List.append_assoc, ← c3]
          exact h3
      · rw [if_neg he] at h
        cases h
theorem rowD_ok {b : List UInt8} {l : List RecT} (h : rowD b = some l) : mayRow l = true ∧ (∀ x ∈ l, RecOk x) ∧ rowB l = b := by
  unfold rowD at h
  rcases hr : getB b with ⟨x, p, e⟩
  rw [hr] at h
  simp only [] at h
  split at h
  · cases h
  · rename_i hc
    simp only [not_or, ne_eq, Classical.not_not] at hc
    obtain ⟨rfl, h0, h1⟩ := hc
    cases hs : seqD x.toNat (b.drop p) with
    | none => rw [hs] at h; simp at h
    | some y =>
      obtain ⟨L, r⟩ := y
      rw [hs] at h
      cases r with
      | cons c t => simp at h
      | nil =>
        simp only [Option.some.injEq] at h
        subst h
        obtain ⟨c1, c2, c3⟩ := seqD_ok _ _ _ _ hs
        refine ⟨mayRow_iff.2 ⟨by omega, fun x hx => (c2 x hx).1⟩, fun x hx => (c2 x hx).2, ?_⟩
        have c4 := (getB_canon hr).2
        unfold rowB
        rw [c1, show ((x.toNat : Nat) : Int) = x by omega]
        rw [List.append_nil] at c3
        rw [← c3]
        exact c4.symm
theorem seqD_put (l : List RecT) (r : List UInt8) (h : ∀ x ∈ l, mayT x = true) (hok : ∀ x ∈ l, RecOk x) : ∀ k, k ≤ l.length → seqD k (rowC l ++ r) = some (l.take k, rowC (l.drop k) ++ r)
  | 0, _ => by simp [seqD]
  | k + 1, hk => by
    rw [seqD, seqD_put l r h hok k (by omega)]
    simp only []
    have hm := List.getElem_mem (show k < l.length by omega)
    obtain ⟨y, hy, hu⟩ := readT_put (h _ hm) (hok _ hm) (rowC (l.drop (k + 1)) ++ r)
    have e1 : rowC (l.drop k) ++ r = recT l[k] ++ (rowC (l.drop (k + 1)) ++ r) := by
      rw [List.drop_eq_getElem_cons (show k < l.length by omega), rowC_cons, List.append_assoc]
    rw [e1, hy]
    simp only [if_true, List.drop_left]
    rw [hu, List.take_succ_eq_append_getElem (show k < l.length by omega)]
theorem rowD_put {l : List RecT} (h : mayRow l = true) (hok : ∀ x ∈ l, RecOk x) : rowD (rowB l) = some l := by
  obtain ⟨h1, h2⟩ := mayRow_iff.1 h
  have g := getB_put (l.length : Int) (by omega) (by omega) (rowC l)
  have s := seqD_put l [] h2 hok l.length (Nat.le_refl _)
  rw [List.take_length, List.drop_length, List.append_nil] at s
  unfold rowD rowB
  rw [g]
  simp only [List.drop_left, Int.toNat_natCast]
  rw [if_neg (by omega), s]
  rfl
theorem rowB_inj {l m : List RecT} (h : mayRow l = true) (hok : ∀ x ∈ l, RecOk x) (g : mayRow m = true) (gok : ∀ x ∈ m, RecOk x) (e : rowB l = rowB m) : l = m := by
  have a := rowD_put h hok
  rw [e, rowD_put g gok] at a
  exact (Option.some.inj a).symm
theorem rowB_ne (l : List RecT) : rowB l ≠ [] := by
  intro h
  have := Go.Lib.uvarint_pos (zigzag (l.length : Int))
  have h2 := congrArg List.length h
  unfold rowB at h2
  rw [List.length_append, List.length_nil] at h2
  omega
theorem rowE_len {l : List RecT} (hok : ∀ x ∈ l, RecOk x) : (rowE l).length ≤ 200010 := by
  unfold rowE
  split
  · rename_i h
    obtain ⟨h1, h2⟩ := mayRow_iff.1 h
    have e1 := (headL l.length (by omega)).1
    have e2 := rowC_len l h2 hok
    unfold rowB
    rw [List.length_append]
    omega
  · simp

end Go.Proofs.Ytgalppnpmfpdbaa

namespace Go.Proofs.Ytgalppnpmfpdbaa
open Go.RowKit

/-- Of the blocks that there were all but b and r are as they were. -/
structure Two (b : Nat) (r : Option Nat) (w w' : World) : Prop where
  os : w'.os = w.os
  tape : w'.tape = w.tape
  output : w'.output = w.output
  size : w.heap.size ≤ w'.heap.size
  block : ∀ k, k < w.heap.size → k ≠ b → some k ≠ r → w'.heap[k]? = w.heap[k]?

theorem Two.refl (b : Nat) (r : Option Nat) (w : World) : Two b r w w := ⟨rfl, rfl, rfl, Nat.le_refl _, fun _ _ _ _ => rfl⟩
/-- The second row is the first one, or new. -/
theorem Two.trans {b : Nat} {r r' : Option Nat} {w w1 w2 : World} (h : Two b r w w1) (k : Two b r' w1 w2) (hr : ∀ j, r' = some j → r = some j ∨ w.heap.size ≤ j) : Two b r w w2 :=
  ⟨k.os.trans h.os, k.tape.trans h.tape, k.output.trans h.output, Nat.le_trans h.size k.size, fun i hi hb hn => (k.block i (Nat.lt_of_lt_of_le hi h.size) hb (fun e => by
    rcases hr i e.symm with h' | h'
    · exact hn h'.symm
    · omega)).trans (h.block i hi hb hn)⟩
theorem Two.of_grown {b : Nat} {r : Option Nat} {w w' : World} (h : w.grownBy w' r) : Two b r w w' := ⟨h.os, h.tape, h.output, h.size, fun k hk _ hr => h.block k hk hr⟩
theorem Two.drew {b : Nat} {r : Option Nat} {w w' : World} (h : Two b r w w') : Two b r w w'.drew := ⟨h.os, h.tape, h.output, h.size, h.block⟩
theorem Two.of_below {b : Nat} {r : Option Nat} {w w' : World} (h : Below w.heap.size w w') : Two b r w w' := ⟨h.os, h.tape, h.output, h.size, fun k hk _ _ => h.block k hk⟩
theorem Two.below {b : Nat} {r : Option Nat} {w w' : World} {B : Nat} (h : Two b r w w') (hb : B ≤ b) (hr : ∀ k, r = some k → B ≤ k) (hB : B ≤ w.heap.size) : Below B w w' :=
  ⟨h.os, h.tape, h.output, h.size, fun k hk => h.block k (by omega) (by omega) (fun e => by have := hr k e.symm; omega)⟩
theorem Two.set {b : Nat} {r : Option Nat} {w w' : World} (h : Two b r w w') {p : Addr} (hp : p.block = b ∨ some p.block = r ∨ w.heap.size ≤ p.block) (u : Value) : Two b r w (w'.setCell p u) :=
  ⟨h.os, h.tape, h.output, by simpa [World.setCell] using h.size, fun k hk hb hr => (Below.heap_setCell _ _ _ _ (by rintro rfl; rcases hp with hp | hp | hp <;> first | exact hb hp | exact hr hp | omega)).trans (h.block k hk hb hr)⟩

theorem heap_set {w : World} {b : Nat} {cs : Array Value} {t : TypeId} {fr : Nat × Nat} (h : w.heap[b]? = some (.cells cs t fr)) (o : Nat) (u : Value) : (w.setCell ⟨b, o, none⟩ u).heap[b]? = some (.cells (cs.setIfInBounds o u) t fr) := by
  simp [World.setCell, Array.getElem?_modify, h]

/-- b, a *bits.Bits whose row is v, holds the bytes p and says n bits; all of it lies from block B on. -/
structure BB (w : World) (B b : Nat) (v : Value) (p : List UInt8) (n : Nat) : Prop where
  blk : w.heap[b]? = some (.cells #[v, .int .i64 (n : Int)] 69)
  row : Own 5 w B v p
  low : B ≤ b
/-- It holds the bits l. -/
abbrev BT (w : World) (B b : Nat) (v : Value) (l : List Bool) : Prop := BB w B b v (pack l) l.length

theorem own_not {e t : TypeId} {w : World} {B b : Nat} {v : Value} {l : List UInt8} {cs : Array Value} (h : Own e w B v l) (hb : w.heap[b]? = some (.cells cs t)) (hne : e ≠ t) : v.ownBlock ≠ some b := by
  intro hv
  rcases h.2 with ⟨rfl, -⟩ | ⟨g, cap, cur, rfl, -, hg, -⟩
  · cases hv
  · simp only [Value.ownBlock, Option.some.injEq] at hv
    subst hv
    rw [hb] at hg
    simp only [Option.some.injEq, Obj.cells.injEq] at hg
    exact hne hg.2.1.symm
section
variable {w : World} {B b : Nat} {v : Value} {p : List UInt8} {n : Nat}
theorem BB.lt (h : BB w B b v p n) : b < w.heap.size := (Array.getElem?_eq_some_iff.1 h.blk).1
theorem BB.apart (h : BB w B b v p n) : v.ownBlock ≠ some b := own_not h.row h.blk (by decide)
theorem BB.below {w' : World} (h : BB w B b v p n) (hb : Below w.heap.size w w') : BB w' B b v p n := ⟨(hb.block b h.lt).trans h.blk, h.row.below hb, h.low⟩
theorem BB.mono {B' : Nat} (h : BB w B b v p n) (hB : B' ≤ B) : BB w B' b v p n := ⟨h.blk, h.row.mono hB, Nat.le_trans hB h.low⟩
theorem BB.rows (h : BB w B b v p n) : ∀ k, v.ownBlock = some k → B ≤ k := h.row.row
theorem BB.row_lt (h : BB w B b v p n) : ∀ k, v.ownBlock = some k → k < w.heap.size := fun k hk => (World.ownsRow.lt h.row k hk).2
theorem BB.c0 (h : BB w B b v p n) : w.cell? ⟨b, 0, none⟩ = some v := by rw [cell_of_row w b 0 _ _ _ h.blk]; rfl
theorem BB.c1 (h : BB w B b v p n) : w.cell? ⟨b, 1, none⟩ = some (.int .i64 (n : Int)) := by rw [cell_of_row w b 1 _ _ _ h.blk]; rfl
theorem BB.f (h : BB w B b v p n) (o : Nat) : w.frozen? ⟨b, o, none⟩ = false := frozen_of_row w b o _ _ h.blk
theorem BB.drew (h : BB w B b v p n) : BB w.drew B b v p n := ⟨h.blk, h.row.drew, h.low⟩
/-- A row that has grown is stored. -/
theorem BB.grown {w' : World} {v' : Value} {q : List UInt8} (h : BB w B b v p n) (hg : w.grownBy w' v.ownBlock) (ho : Own 5 w' B v' q) : BB (w'.setCell ⟨b, 0, none⟩ v') B b v' q n := by
  have h1 : w'.heap[b]? = some (.cells #[v, .int .i64 (n : Int)] 69) := (hg.block b h.lt h.apart.symm).trans h.blk
  refine ⟨by rw [heap_set h1]; rfl, ?_, h.low⟩
  have hno := own_not ho h1 (by decide)
  refine ⟨ho.1, ?_⟩
  rcases ho.2 with h' | ⟨g, cap, cur, e1, hB, e2, e3⟩
  · exact .inl h'
  · refine .inr ⟨g, cap, cur, e1, hB, (Below.heap_setCell _ _ _ _ ?_).trans e2, e3⟩
    rintro rfl
    subst e1
    exact hno rfl
/-- A byte is stored. -/
theorem BB.put {g m cap : Nat} (h : BB w B b (.slice (some ⟨g, 0, none⟩) m cap) p n) (j : Nat) (c : UInt8) (x : Int) (hx : x = (c.toNat : Int)) : BB (w.setCell ⟨g, j, none⟩ (.int .u8 x)) B b (.slice (some ⟨g, 0, none⟩) m cap) (p.set j c) n := by
  refine ⟨(Below.heap_setCell _ _ _ _ ?_).trans h.blk, h.row.store j c x hx, h.low⟩
  rintro rfl
  exact h.apart rfl
/-- The number of bits is stored. -/
theorem BB.count (h : BB w B b v p n) (n' : Nat) (x : Int) (hx : x = (n' : Int)) : BB (w.setCell ⟨b, 1, none⟩ (.int .i64 x)) B b v p n' := by
  subst hx
  refine ⟨by rw [heap_set h.blk]; rfl, ?_, h.low⟩
  have hno := h.apart
  refine ⟨h.row.1, ?_⟩
  rcases h.row.2 with h' | ⟨g, cap, cur, e1, hB, e2, e3⟩
  · exact .inl h'
  · refine .inr ⟨g, cap, cur, e1, hB, (Below.heap_setCell _ _ _ _ ?_).trans e2, e3⟩
    rintro rfl
    subst e1
    exact hno rfl
end
/-- A new one has none. -/
theorem BT.new (w : World) : BT (w.alloc (.cells #[.slice none 0 0, .int .i64 0] 69)) w.heap.size w.heap.size (.slice none 0 0) [] :=
  ⟨heap_alloc_new w _, Own.nil _ _ _, Nat.le_refl _⟩

end Go.Proofs.Ytgalppnpmfpdbaa

namespace Go.Proofs.Ytgalppnpmfpdbaa
open Go.RowKit

section
variable {P : Program} (w : World)

theorem run_append_where (base : Nat) (t ty e : TypeId) (i : TypeInfo) (z : Value) (size bytes : Nat) (ht : P.underlying t = some (.slice e)) (hi : P.info? e = some i) (hz : i.zero = some z)
    (hsize : i.size = size) (hby : i.bytes = bytes) (hzs : z.cells.size = size) (hsz : 0 < size)
    (v : Value) (n : Nat) (xs : List Value) (hown : w.ownsRow base e size v n xs)
    (a : Addr) (m c : Nat) (news : List Value) (hl : news.length = m * size) (hnews : ∀ j u, news[j]? = some u → w.cell? (a.add j) = some u) (h1 : ∀ u ∈ news, u.oneCell' = true)
    (h63 : n + m ≤ maxLen) (hbytes : (n + m) * bytes ≤ 140737488355328) (hbase : base ≤ w.heap.size) :
    ∃ v' w', (Builtin.append_ #[t, t] ty #[v, .slice (some a) m c]).run P w = .ok v' w' ∧ w'.ownsRow base e size v' (n + m) (xs ++ news) ∧ w.grownBy w' v.ownBlock ∧
      (v'.ownBlock = v.ownBlock ∨ ∀ k, v'.ownBlock = some k → w.heap.size ≤ k) := by
  obtain ⟨v', w', hr, h2, h3, -⟩ := run_append_own (P := P) w base t ty e i z size bytes ht hi hz hsize hby hzs hsz v n xs hown a m c news hl hnews h1 h63 hbytes hbase
  refine ⟨v', w', hr, h2, h3, ?_⟩
  rcases hown.2 with ⟨rfl, rfl⟩ | ⟨g, cap, cur, rfl, hbg, hg, hnc, hcm, hcs, htake⟩
  · right
    obtain ⟨v2, w2, hr2, k2, -, -⟩ := run_append_own (P := P) w w.heap.size t ty e i z size bytes ht hi hz hsize hby hzs hsz (.slice none 0 0) 0 xs ⟨hown.1, .inl ⟨rfl, rfl⟩⟩ a m c news hl hnews h1 h63 hbytes (Nat.le_refl _)
    rw [hr] at hr2
    cases hr2
    exact fun k hk => (World.ownsRow.lt k2 k hk).1
  · by_cases hroom : n + m ≤ cap
    · left
      obtain ⟨w2, hr2, -, -⟩ := run_append_fits (P := P) w base t ty e i size ht hi hsize g n cap xs hown a m c news hl hnews h1 hroom
      rw [hr] at hr2
      cases hr2
      rfl
    · right
      have hsmall : n + m ≤ 9223372036854775807 := by simp only [maxLen] at h63; omega
      have holds : ∀ j u, xs[j]? = some u → w.cell? ((⟨g, 0, none⟩ : Addr).add j) = some u := hown.cells (g := g) rfl
      subst hsize hby
      have hr2 := run_append_grow (P := P) w t ty e i z ht hi hz ⟨g, 0, none⟩ n cap xs hown.1 holds a m c news hl hnews (by omega) (by omega) (growslice_fits (by omega) hbytes)
      rw [hr] at hr2
      cases hr2
      intro k hk
      simp only [Value.ownBlock, Option.some.injEq] at hk
      omega

theorem wpList_append_where {ops : Array Oper} {rest : List Oper} {o : Oper} {a : Act} {Q : Exit → Act → World → Prop} (hgd : o.guard = none) (s x : Operand) (t : TypeId)
    (ho : o.op = .call { callee := .builtin .append, args := #[s, x], argTypes := #[t, t] })
    (base : Nat) (e : TypeId) (ht : P.underlying t = some (.slice e)) (z : Value) (size bytes : Nat) (hinfo : (P.info? e).map (fun i => (i.zero, i.size, i.bytes)) = some (some z, size, bytes)) (hzs : z.cells.size = size) (hsz : 0 < size)
    (v : Value) (n : Nat) (xs : List Value) (hs : a.eval s = v) (hown : w.ownsRow base e size v n xs)
    (ad : Addr) (m c : Nat) (news : List Value) (hx : a.eval x = .slice (some ad) m c) (hl : news.length = m * size) (hnews : ∀ j u, news[j]? = some u → w.cell? (ad.add j) = some u) (h1 : ∀ u ∈ news, u.oneCell' = true)
    (h63 : n + m ≤ maxLen) (hbytes : (n + m) * bytes ≤ 140737488355328) (hbase : base ≤ w.heap.size)
    (h : ∀ v' w', w'.ownsRow base e size v' (n + m) (xs ++ news) → w.grownBy w' v.ownBlock → (v'.ownBlock = v.ownBlock ∨ ∀ k, v'.ownBlock = some k → w.heap.size ≤ k) → wpList P ops Q rest (a.put o.dst v') w') : wpList P ops Q (o :: rest) a w := by
  obtain ⟨i, hi, hz, hsize, hby⟩ := info_parts hinfo
  obtain ⟨v', w', hr, h2, h3, h4⟩ := run_append_where (P := P) w base t o.type e i z size bytes ht hi hz hsize hby hzs hsz v n xs hown ad m c news hl hnews h1 h63 hbytes hbase
  refine wpList_gives hgd v' w' ?_ (h v' w' h2 h3 h4)
  unfold execOp
  simp only [ho, resolve, invoke, builtin, Sem.run_bind, Sem.run_pure, Result.andThen_ok, List.map_toArray, List.map_cons, List.map_nil, hs, hx, hr]

/-- One byte more. -/
theorem wpList_append_byte {ops : Array Oper} {rest : List Oper} {o : Oper} {a : Act} {Q : Exit → Act → World → Prop} (hgd : o.guard = none) (s x : Operand) (t : TypeId)
    (ho : o.op = .call { callee := .builtin .append, args := #[s, x], argTypes := #[t, t] })
    (B : Nat) (e : TypeId) (ht : P.underlying t = some (.slice e)) (hinfo : (P.info? e).map (fun i => (i.zero, i.size, i.bytes)) = some (some (.int .u8 0), 1, 1))
    (v : Value) (l : List UInt8) (g cap : Nat) (y : UInt8) (hs : a.eval s = v) (hx : a.eval x = .slice (some ⟨g, 0, none⟩) 1 cap) (hown : Own e w B v l) (hy : w.cell? ⟨g, 0, none⟩ = some (.int .u8 (y.toNat : Int)))
    (hlen : l.length < 140737488355328) (hbase : B ≤ w.heap.size)
    (h : ∀ v' w', Own e w' B v' (l ++ [y]) → w.grownBy w' v.ownBlock → (v'.ownBlock = v.ownBlock ∨ ∀ k, v'.ownBlock = some k → w.heap.size ≤ k) → wpList P ops Q rest (a.put o.dst v') w') : wpList P ops Q (o :: rest) a w := by
  refine wpList_append_where w hgd s x t ho B e ht (.int .u8 0) 1 1 hinfo rfl (by decide) v l.length (cells l) hs hown ⟨g, 0, none⟩ 1 cap [.int .u8 (y.toNat : Int)] hx rfl ?_ ?_ (by unfold maxLen; omega) (by omega) hbase ?_
  · intro j u hj
    match j, hj with
    | 0, hj => rw [show (⟨g, 0, none⟩ : Addr).add 0 = ⟨g, 0, none⟩ from rfl, hy]; exact hj
    | j + 1, hj => simp at hj
  · intro u hu
    simp only [List.mem_cons, List.not_mem_nil, or_false] at hu
    subst hu
    rfl
  · intro v' w' h2 h3 h4
    refine h v' w' ?_ h3 h4
    unfold Own
    rw [List.length_append, cells_append]
    exact h2
end

end Go.Proofs.Ytgalppnpmfpdbaa

namespace Go.Proofs.Ytgalppnpmfpdbaa
open Go.RowKit

set_option maxRecDepth 100000 in
theorem putNum_nil (x n : Int) (w : World) : Calls Try.prog 50 #[.pointer none, .int .u64 x, .int .i64 n] w fun e w' => e = .returned (.tuple #[]) ∧ w = w' := by
  go_enter Try.func50, Try.ntmps50
  go_wp2
  refine bodyPost_ret (results_none rfl _ _ _) rfl ?_
  exact ⟨rfl, rfl⟩

def V6 (b g rl cap d o x k t kt X c1 t8 c2 um c3 r : Nat) : Nat → World → Value → Prop
  | 40, _, v => v = .pointer (some ⟨b, 0, none⟩)
  | 41, _, v => v = .pointer (some ⟨b, 0, none⟩)
  | 42, _, v => v = .pointer (some ⟨b, 0, none⟩)
  | 43, _, v => v = .slice (some ⟨g, 0, none⟩) rl cap
  | 44, _, v => v = .pointer (some ⟨b, 0, none⟩)
  | 45, _, v => v = .pointer (some ⟨b, 0, none⟩)
  | 46, _, v => v = .pointer (some ⟨b, 0, none⟩)
  | 47, _, v => v = .slice (some ⟨g, 0, none⟩) rl cap
  | 48, _, v => v = .int .i64 ((rl : Nat) : Int)
  | 49, _, v => v = .int .i64 ((d : Nat) : Int)
  | 50, _, v => v = .pointer (some ⟨g, d, none⟩)
  | 51, _, v => v = .int .u8 (o : Int)
  | 52, _, v => v = .int .u64 (x : Int)
  | 53, _, v => v = .int .i64 ((k : Nat) : Int)
  | 54, _, v => v = .int .i64 ((t : Nat) : Int)
  | 55, _, v => v = .int .i64 ((kt : Nat) : Int)
  | 56, _, v => v = .int .u64 (X : Int)
  | 57, _, v => v = .int .u8 (c1 : Int)
  | 58, _, v => v = .int .i64 ((t : Nat) : Int)
  | 59, _, v => v = .int .i64 ((t8 : Nat) : Int)
  | 60, _, v => v = .int .u8 (c2 : Int)
  | 61, _, v => v = .int .i64 ((um : Nat) : Int)
  | 62, _, v => v = .int .u8 (c3 : Int)
  | 63, _, v => v = .int .u8 (r : Int)
  | 64, _, v => v = .pointer (some ⟨g, d, none⟩)
  | _, _, _ => True

theorem V6_below (b g rl cap d o x k t kt X c1 t8 c2 um c3 r : Nat) : ∀ (i : Nat) (w w' : World) (v : Value), V6 b g rl cap d o x k t kt X c1 t8 c2 um c3 r i w v → Below w.heap.size w w' → V6 b g rl cap d o x k t kt X c1 t8 c2 um c3 r i w' v := by
  intro i w w' v h hb
  unfold V6 at h ⊢
  split at h <;> first | exact h | trivial | exact RB.below h hb | exact Own.below h hb

theorem run_idx8 (g n cap j : Nat) (h : j < n) (W : World) : (Instr.indexAt 40 (.slice (some ⟨g, 0, none⟩) n cap) (.int .i64 (j : Int))).run Try.prog W = .ok (.pointer (some ⟨g, j, none⟩)) W := by
  obtain ⟨i, hi, -, hsize, -⟩ := info_parts info8
  have he : Try.prog.elem 40 = 5 := by kernel_rfl
  have hs : (sizeOf 5).run Try.prog W = .ok 1 W := by simp [sizeOf, typeInfo, hi, hsize]
  have hadd : (⟨g, 0, none⟩ : Addr).add j = ⟨g, j, none⟩ := by unfold Addr.add; split <;> simp_all
  rw [run_indexAt_slice W _ _ _ _ _ _ (by rw [he]; exact Try.underlying40), if_pos ⟨by omega, by omega⟩, he, hs]
  simp [Result.andThen, hadd]

theorem shr_nat (k yk : IntKind) (x y : Nat) (h : (y : Int) ≤ k.bits) : Op.shift .shr k (x : Int) yk (y : Int) = pure (.int k ((x / 2 ^ y : Nat) : Int)) := by
  rw [shift_shr _ _ _ _ (by omega) h, Int.toNat_natCast]
  simp
theorem shl_nat (k yk : IntKind) (x y : Nat) (h : (y : Int) ≤ k.bits) : Op.shift .shl k (x : Int) yk (y : Int) = pure (.int k (k.wrap ((x * 2 ^ y : Nat) : Int))) := by
  rw [shift_shl _ _ _ _ (by omega) h, Int.toNat_natCast]
  simp
/-- What the walk reckons of a piece. -/
theorem put_nums (o X t u : Nat) (ho : o < 256) (hut : u + t ≤ 8) :
    X % 256 * 2 ^ (8 - t) % 256 / 2 ^ u = X % 2 ^ t * 2 ^ (8 - t) / 2 ^ u ∧ bits .or .u8 (o : Int) ((X % 2 ^ t * 2 ^ (8 - t) / 2 ^ u : Nat) : Int) = ((putByte o (X % 2 ^ t) t u : Nat) : Int) := by
  have e : 256 = 2 ^ t * 2 ^ (8 - t) := by rw [← Nat.pow_add, show t + (8 - t) = 8 from by omega]
  have h1 : X % 256 * 2 ^ (8 - t) % 256 = X % 2 ^ t * 2 ^ (8 - t) := by
    have : X % 256 % 2 ^ t = X % 2 ^ t := by rw [e, Nat.mod_mul_right_mod]
    rw [← this]
    generalize X % 256 = Y
    rw [e, Nat.mul_mod_mul_right]
  refine ⟨by rw [h1], ?_⟩
  have h2 : X % 2 ^ t * 2 ^ (8 - t) / 2 ^ u < 256 := by
    refine Nat.lt_of_le_of_lt (Nat.div_le_self _ _) ?_
    rw [e]
    exact Nat.mul_lt_mul_of_pos_right (Nat.mod_lt _ (Nat.pow_pos (by omega))) (Nat.pow_pos (by omega))
  rw [u8_or_nat _ _ ho h2]
  rfl

/-- A round of PutNum: what it leaves. -/
theorem put_close {w wr wc w6 : World} {B b : Nat} {v u : Value} {g cap : Nat} {m : List Bool} {X t r : Nat} (htwo : Two b v.ownBlock w wr) (hown : u.ownBlock = v.ownBlock ∨ ∀ k, u.ownBlock = some k → w.heap.size ≤ k)
    (htwo2 : Two b u.ownBlock wr wc) (hown2 : (Value.slice (some ⟨g, 0, none⟩) (room m).length cap).ownBlock = u.ownBlock ∨ ∀ k, (Value.slice (some ⟨g, 0, none⟩) (room m).length cap).ownBlock = some k → wr.heap.size ≤ k)
    (hbb : BB wc B b (.slice (some ⟨g, 0, none⟩) (room m).length cap) (room m) m.length) (hb6 : Below wc.heap.size wc w6) (ht0 : 0 < t) (hut : m.length % 8 + t ≤ 8)
    (hr : r = putByte ((room m).getD (m.length / 8) 0).toNat (X % 2 ^ t) t (m.length % 8)) (y : Int) (hy : y = ((m.length + t : Nat) : Int)) :
    ∃ u', BT ((w6.setCell ⟨g, m.length / 8, none⟩ (.int .u8 (r : Int))).setCell ⟨b, 1, none⟩ (.int .i64 y)) B b u' (m ++ numB X t) ∧ Two b v.ownBlock w ((w6.setCell ⟨g, m.length / 8, none⟩ (.int .u8 (r : Int))).setCell ⟨b, 1, none⟩ (.int .i64 y)) ∧
      (u'.ownBlock = v.ownBlock ∨ ∀ k, u'.ownBlock = some k → w.heap.size ≤ k) := by
  have hc : (numB X t).length = t := numB_length X t
  have hlt : r < 256 := by rw [hr]; exact putByte_lt _ _ _ _ (UInt8.toNat_lt _) (Nat.mod_lt _ (Nat.pow_pos (by omega))) (by omega)
  have hpm := pack_more m (numB X t) (by rw [hc]; exact hut) (by rw [hc]; exact ht0)
  rw [hc, val_numB, ← hr] at hpm
  have h1 := ((hbb.below hb6).put (m.length / 8) (UInt8.ofNat r) (r : Int) (by rw [ofNat_val r hlt])).count (m.length + t) y hy
  rw [← hpm] at h1
  have hrow : ∀ j, (Value.slice (some ⟨g, 0, none⟩) (room m).length cap).ownBlock = some j → u.ownBlock = some j ∨ wr.heap.size ≤ j := fun j hj => by
    rcases hown2 with h | h
    · exact .inl (h.symm.trans hj)
    · exact .inr (h j hj)
  have hu : ∀ j, u.ownBlock = some j → v.ownBlock = some j ∨ w.heap.size ≤ j := fun j hj => by
    rcases hown with h | h
    · exact .inl (h.symm.trans hj)
    · exact .inr (h j hj)
  refine ⟨.slice (some ⟨g, 0, none⟩) (room m).length cap, ?_, (((htwo.trans htwo2 hu).trans (Two.of_below (r := none) hb6) (fun j hj => by cases hj)).set (p := ⟨g, m.length / 8, none⟩) ?_ _).set (p := ⟨b, 1, none⟩) (.inl rfl) _, ?_⟩
  · have e : (m ++ numB X t).length = m.length + t := by rw [List.length_append, hc]
    show BB _ _ _ _ _ _
    rw [e]
    exact h1
  · right
    rcases hrow g rfl with h | h
    · rcases hu g h with h' | h'
      · exact .inl h'.symm
      · exact .inr h'
    · exact .inr (Nat.le_trans htwo.size h)
  · rcases hown2 with h | h
    · rcases hown with h' | h'
      · exact .inl (h.trans h')
      · exact .inr fun j hj => h' j (h.symm.trans hj)
    · exact .inr fun j hj => Nat.le_trans htwo.size (h j hj)

set_option maxRecDepth 100000 in
theorem putNum_c (x : Nat) (n : Nat) (w : World) (B b : Nat) (v : Value) (l : List Bool) (h : BT w B b v l) (hn : n ≤ 64) (hl : l.length + n ≤ 562949953421312) :
    Calls Try.prog 50 #[.pointer (some ⟨b, 0, none⟩), .int .u64 (x : Int), .int .i64 (n : Int)] w fun e w' => e = .returned (.tuple #[]) ∧
      ∃ v', BT w' B b v' (l ++ numB x n) ∧ Two b v.ownBlock w w' ∧ (v'.ownBlock = v.ownBlock ∨ ∀ k, v'.ownBlock = some k → w.heap.size ≤ k) := by
  go_enter Try.func50, Try.ntmps50
  go_wp2_with fail
  go_loopw [2] (fun n' wr => ∃ (k : Nat) (m : List Bool) (u : Value), k ≤ n ∧ n' = .int .i64 (k : Int) ∧ m ++ numB x k = l ++ numB x n ∧ BT wr B b u m ∧ Two b v.ownBlock w wr ∧ (u.ownBlock = v.ownBlock ∨ ∀ k, u.ownBlock = some k → w.heap.size ≤ k)) (fun n' _ => (intOf n').toNat)
  case atStart => exact ⟨n, l, v, Nat.le_refl _, rfl, rfl, h, Two.refl _ _ _, .inl rfl⟩
  case round =>
    obtain ⟨k, m, u, hk, rfl, hm, hbt, htwo, hown⟩ := hrel
    by_cases hlt : 0 < k
    · have hc0 := hbt.c0
      have hc1 := hbt.c1
      have hf0 := hbt.f 0
      have hf1 := hbt.f 1
      have hml : m.length ≤ 562949953421312 := by have := congrArg List.length hm; simp only [List.length_append, numB_length] at this; omega
      have Hm := Go.Lib.hid hm; clear hm
      go_upto_if 26 with (fail)
      go_cut [26] (fun s wx => ∃ u2, BB wx B b u2 (room m) m.length ∧ Two b u.ownBlock wr wx ∧ (u2.ownBlock = u.ownBlock ∨ ∀ k, u2.ownBlock = some k → wr.heap.size ≤ k))
      case first =>
        by_cases h0 : m.length % 8 = 0
        · have hbt2 := hbt.below ((Below.refl _ wr).alloc (Nat.le_refl _) (.cells #[.int .u8 0] 5))
          have hx0 : (wr.alloc (.cells #[.int .u8 0] 5)).cell? ⟨wr.heap.size, 0, none⟩ = some (.int .u8 (((0 : UInt8).toNat : Nat) : Int)) := by simp
          have hsz : (wr.alloc (.cells #[.int .u8 0] 5)).heap.size = wr.heap.size + 1 := Array.size_push ..
          have hBle : B ≤ wr.heap.size + 1 := by have := hbt.lt; have := hbt.low; omega
          have hpl : (pack m).length < 140737488355328 := by rw [pack_length]; omega
          rw [← hsz] at hBle
          have Hsz := Go.Lib.hid hsz; clear hsz
          go_wp2_with (first
            | (with_reducible show wpList _ _ _ (⟨some 33, _, _, _, _, _⟩ :: _) _ _; go_must (refine wpList_append_byte _ rfl (.tmp 31) (.tmp 32) 40 rfl B 5 Try.underlying40 info8 u (pack m) wr.heap.size 1 0 rfl rfl hbt2.row hx0 hpl hBle ?_); intro u2 w2 hown2 hg2 hw2; obtain ⟨g2, cap2, rfl, -, -, hc1', hc2', -⟩ := hown2.form (by simp); have k0 := hg2.cell (a := ⟨b, 0, none⟩) hbt2.c0 hbt2.apart.symm; have kf : w2.frozen? ⟨b, 0, none⟩ = false := (World.frozen?_of_block (a := ⟨b, 0, none⟩) (hg2.block b hbt2.lt hbt2.apart.symm)).trans (hbt2.f 0))
            | fail)
          go_meet
          rw [show (pack m ++ [(0 : UInt8)]).length = (pack m).length + 1 from by simp] at hown2 hw2
          have hr : room m = pack m ++ [0] := by unfold room; rw [if_pos h0]
          exact ⟨_, by rw [hr]; exact hbt2.grown hg2 hown2, ((Two.of_below ((Below.refl _ wr).alloc (Nat.le_refl _) _)).trans (Two.of_grown hg2) (fun j hj => .inl hj)).set (p := ⟨b, 0, none⟩) (.inl rfl) _, hw2.imp id fun h k hk => Nat.le_trans (by rw [Hsz.out]; omega) (h k hk)⟩
        · go_wp2_with fail
          go_meet
          exact ⟨u, by unfold room; rw [if_neg h0]; exact hbt, Two.refl _ _ _, .inl rfl⟩
      case rest =>
        obtain ⟨u2, hbb, htwo2, hown2⟩ := hcut
        obtain ⟨g, cap, rfl, hBg, hgs, hcl, hcm, hgf⟩ := hbb.row.form (by rw [room_length]; omega)
        rw [room_length] at hcl
        obtain ⟨t, ht⟩ : ∃ t : Nat, t = min k (8 - m.length % 8) := ⟨_, rfl⟩
        have htI : min (k : Int) (8 - (m.length : Int) % 8) = (t : Int) := by omega
        have hc1 := hbb.c1
        have HB := hbb.lt
        have K0 := hbb.c0
        have hdl : m.length / 8 < (room m).length := by rw [room_length]; omega
        have KO := hbb.row.cell (m.length / 8) hdl
        have KF := hbb.row.frozenAt (m.length / 8)
        rw [room_length] at K0
        have ho : (room m)[m.length / 8] = (room m).getD (m.length / 8) 0 := by rw [List.getD_eq_getElem?_getD, List.getElem?_eq_getElem hdl]; rfl
        rw [ho] at KO
        clear ho
        have Ht := Go.Lib.hid ht
        have HK0 := Go.Lib.hid K0; clear K0
        have HKO := Go.Lib.hid KO; clear KO
        have HKF := Go.Lib.hid KF; clear KF
        have HBB := Go.Lib.hid hbb; clear hbb
        have hcap := Go.Lib.hid hcl
        clear hc0 hf0 hf1 ht hcl hcm hgf
        go_upto_region 6 with (fail)
        have hu : (m.length : Int) % 8 = ((m.length % 8 : Nat) : Int) := by omega
        rw [hu]
        clear hu hc1
        have K0 := HK0.out
        have KO := HKO.out
        have K1 := HBB.out.c1
        have F1 := HBB.out.f 1
        have hix := run_idx8 g (m.length / 8 + 1) cap (m.length / 8) (by omega)
        have ht0 : 0 < t ∧ m.length % 8 + t ≤ 8 ∧ t ≤ k ∧ t ≤ 8 := by have := Ht.out; omega
        obtain ⟨ht0, hut, htk, ht8'⟩ := ht0
        have hd1 : IntKind.i64.wrap (((m.length / 8 + 1 : Nat) : Int) - 1) = ((m.length / 8 : Nat) : Int) := by rw [IntKind.wrap_i64]; omega
        obtain ⟨kt, ekt⟩ : ∃ q : Nat, q = k - t := ⟨_, rfl⟩
        obtain ⟨t8, et8⟩ : ∃ q : Nat, q = 8 - t := ⟨_, rfl⟩
        have hkt : IntKind.i64.wrap ((k : Int) - (t : Int)) = (kt : Int) := by rw [IntKind.wrap_i64]; omega
        have ht8 : IntKind.i64.wrap (8 - (t : Int)) = (t8 : Int) := by rw [IntKind.wrap_i64]; omega
        have hX := shr_nat .u64 .i64 x kt (by show _ ≤ (64 : Int); omega)
        obtain ⟨X, eX⟩ : ∃ q : Nat, q = x / 2 ^ kt := ⟨_, rfl⟩
        obtain ⟨c1, ec1⟩ : ∃ q : Nat, q = X % 256 := ⟨_, rfl⟩
        have hc1 : IntKind.u8.wrap (X : Int) = (c1 : Int) := by rw [IntKind.wrap_u8']; omega
        have hc2 := shl_nat .u8 .i64 c1 t8 (by show _ ≤ (8 : Int); omega)
        obtain ⟨c2, ec2⟩ : ∃ q : Nat, q = c1 * 2 ^ t8 % 256 := ⟨_, rfl⟩
        have hc2' : IntKind.u8.wrap ((c1 * 2 ^ t8 : Nat) : Int) = (c2 : Int) := by rw [IntKind.wrap_u8']; omega
        rw [hc2'] at hc2
        obtain ⟨n1, n2⟩ := put_nums ((room m).getD (m.length / 8) 0).toNat X t (m.length % 8) (UInt8.toNat_lt _) hut
        rw [← et8, ← ec1, ← ec2] at n1
        rw [← et8, ← n1] at n2
        rw [← eX] at hX
        obtain ⟨c3, ec3⟩ : ∃ q : Nat, q = c2 / 2 ^ (m.length % 8) := ⟨_, rfl⟩
        have hc3i : (c2 : Int) / 2 ^ (m.length % 8) = (c3 : Int) := by rw [ec3]; simp
        rw [← ec3] at n2
        have hr := n2
        obtain ⟨r, er⟩ : ∃ q : Nat, q = putByte ((room m).getD (m.length / 8) 0).toNat (X % 2 ^ t) t (m.length % 8) := ⟨_, rfl⟩
        rw [← er] at hr
        have Er := Go.Lib.hid er
        have EX := Go.Lib.hid eX
        have Ekt := Go.Lib.hid ekt
        clear n1 n2 er ec3 hc2' ec2 ec1 eX et8 ekt
        have Er2 := Er
        generalize ((room m).getD (m.length / 8) 0).toNat = o at KO hr Er
        clear Er
        generalize hd : m.length / 8 = d at *
        generalize hu : m.length % 8 = um at *
        have Hd := Go.Lib.hid hd
        have Hu := Go.Lib.hid hu
        clear hd hu
        generalize d + 1 = rl at *
        have hmt : (m.length : Int) + (t : Int) = ((m.length + t : Nat) : Int) := by omega
        have Hmt := Go.Lib.hid hmt; clear hmt
        refine wp_region_head 25 (by decide) (by kernel_rfl) (V6 b g rl cap d o x k t kt X c1 t8 c2 um c3 r) (V6_below b g rl cap d o x k t kt X c1 t8 c2 um c3 r) (by decide +kernel) (by rfl) [40, 41, 42, 43, 44, 45, 46, 47, 48, 49, 50, 51, 52, 53, 54, 55, 56, 57, 58, 59, 60, 61, 62, 63, 64] (by rfl) ?_ ?_
        · intro i o hin ho a w6 hb6 hlen hg
          have k0 := (hb6.cell (p := ⟨b, 0, none⟩) HB).trans K0
          have ko := (hb6.cell (p := ⟨g, d, none⟩) hgs).trans KO
          match i, hin, ho with
          | 0, hin, ho =>
            obtain rfl := Option.some.inj ho
            have h0 := given_old hg 0 (by decide +kernel)
            clear hg
            exact st_yield ho (wanted_none rfl) (.pointer (some ⟨b, 0, none⟩)) w6 (by simp [execOp, Act.eval, h0, go_sem]) ⟨_, rfl, Below.refl _ _, by rintro t' ⟨⟩; rfl⟩
          | 1, hin, ho =>
            obtain rfl := Option.some.inj ho
            obtain ⟨_, h40, rfl⟩ := given_fed hg 40 (by decide +kernel)
            clear hg
            exact st_yield ho (wanted_none rfl) (.pointer (some ⟨b, 0, none⟩)) w6 (by simp [execOp, Act.eval, h40, go_sem]) ⟨_, rfl, Below.refl _ _, by rintro t' ⟨⟩; rfl⟩
          | 2, hin, ho =>
            obtain rfl := Option.some.inj ho
            obtain ⟨_, h41, rfl⟩ := given_fed hg 41 (by decide +kernel)
            clear hg
            exact st_yield ho (wanted_none rfl) (.pointer (some ⟨b, 0, none⟩)) w6 (by simp [execOp, Act.eval, h41, go_sem]) ⟨_, rfl, Below.refl _ _, by rintro t' ⟨⟩; rfl⟩
          | 3, hin, ho =>
            obtain rfl := Option.some.inj ho
            obtain ⟨_, h42, rfl⟩ := given_fed hg 42 (by decide +kernel)
            clear hg
            exact st_yield ho (wanted_none rfl) (.slice (some ⟨g, 0, none⟩) rl cap) w6 (by simp [execOp, Act.eval, h42, go_sem, k0]) ⟨_, rfl, Below.refl _ _, by rintro t' ⟨⟩; rfl⟩
          | 4, hin, ho =>
            obtain rfl := Option.some.inj ho
            have h0 := given_old hg 0 (by decide +kernel)
            clear hg
            exact st_yield ho (wanted_none rfl) (.pointer (some ⟨b, 0, none⟩)) w6 (by simp [execOp, Act.eval, h0, go_sem]) ⟨_, rfl, Below.refl _ _, by rintro t' ⟨⟩; rfl⟩
          | 5, hin, ho =>
            obtain rfl := Option.some.inj ho
            obtain ⟨_, h44, rfl⟩ := given_fed hg 44 (by decide +kernel)
            clear hg
            exact st_yield ho (wanted_none rfl) (.pointer (some ⟨b, 0, none⟩)) w6 (by simp [execOp, Act.eval, h44, go_sem]) ⟨_, rfl, Below.refl _ _, by rintro t' ⟨⟩; rfl⟩
          | 6, hin, ho =>
            obtain rfl := Option.some.inj ho
            obtain ⟨_, h45, rfl⟩ := given_fed hg 45 (by decide +kernel)
            clear hg
            exact st_yield ho (wanted_none rfl) (.pointer (some ⟨b, 0, none⟩)) w6 (by simp [execOp, Act.eval, h45, go_sem]) ⟨_, rfl, Below.refl _ _, by rintro t' ⟨⟩; rfl⟩
          | 7, hin, ho =>
            obtain rfl := Option.some.inj ho
            obtain ⟨_, h46, rfl⟩ := given_fed hg 46 (by decide +kernel)
            clear hg
            exact st_yield ho (wanted_none rfl) (.slice (some ⟨g, 0, none⟩) rl cap) w6 (by simp [execOp, Act.eval, h46, go_sem, k0]) ⟨_, rfl, Below.refl _ _, by rintro t' ⟨⟩; rfl⟩
          | 8, hin, ho =>
            obtain rfl := Option.some.inj ho
            obtain ⟨_, h47, rfl⟩ := given_fed hg 47 (by decide +kernel)
            clear hg
            exact st_yield ho (wanted_none rfl) (.int .i64 ((rl : Nat) : Int)) w6 (by simp [execOp, Act.eval, h47, go_sem, resolve, invoke, builtin]) ⟨_, rfl, Below.refl _ _, by rintro t' ⟨⟩; rfl⟩
          | 9, hin, ho =>
            obtain rfl := Option.some.inj ho
            obtain ⟨_, h48, rfl⟩ := given_fed hg 48 (by decide +kernel)
            clear hg
            exact st_yield ho (wanted_none rfl) (.int .i64 ((d : Nat) : Int)) w6 (by simp [execOp, Act.eval, h48, go_sem, hd1]) ⟨_, rfl, Below.refl _ _, by rintro t' ⟨⟩; rfl⟩
          | 10, hin, ho =>
            obtain rfl := Option.some.inj ho
            obtain ⟨_, h43, rfl⟩ := given_fed hg 43 (by decide +kernel)
            obtain ⟨_, h49, rfl⟩ := given_fed hg 49 (by decide +kernel)
            clear hg
            exact st_yield ho (wanted_none rfl) (.pointer (some ⟨g, d, none⟩)) w6 (by simp [execOp, Act.eval, h43, h49, go_sem, hix]) ⟨_, rfl, Below.refl _ _, by rintro t' ⟨⟩; rfl⟩
          | 11, hin, ho =>
            obtain rfl := Option.some.inj ho
            obtain ⟨_, h50, rfl⟩ := given_fed hg 50 (by decide +kernel)
            clear hg
            exact st_yield ho (wanted_none rfl) (.int .u8 (o : Int)) w6 (by simp [execOp, Act.eval, h50, go_sem, ko]) ⟨_, rfl, Below.refl _ _, by rintro t' ⟨⟩; rfl⟩
          | 12, hin, ho =>
            obtain rfl := Option.some.inj ho
            have h1 := given_old hg 1 (by decide +kernel)
            clear hg
            exact st_yield ho (wanted_none rfl) (.int .u64 (x : Int)) w6 (by simp [execOp, Act.eval, h1, go_sem]) ⟨_, rfl, Below.refl _ _, by rintro t' ⟨⟩; rfl⟩
          | 13, hin, ho =>
            obtain rfl := Option.some.inj ho
            have h2 := given_old hg 2 (by decide +kernel)
            clear hg
            exact st_yield ho (wanted_none rfl) (.int .i64 ((k : Nat) : Int)) w6 (by simp [execOp, Act.eval, h2, go_sem]) ⟨_, rfl, Below.refl _ _, by rintro t' ⟨⟩; rfl⟩
          | 14, hin, ho =>
            obtain rfl := Option.some.inj ho
            have h7 := given_old hg 7 (by decide +kernel)
            clear hg
            exact st_yield ho (wanted_none rfl) (.int .i64 ((t : Nat) : Int)) w6 (by simp [execOp, Act.eval, h7, go_sem]) ⟨_, rfl, Below.refl _ _, by rintro t' ⟨⟩; rfl⟩
          | 15, hin, ho =>
            obtain rfl := Option.some.inj ho
            obtain ⟨_, h53, rfl⟩ := given_fed hg 53 (by decide +kernel)
            obtain ⟨_, h54, rfl⟩ := given_fed hg 54 (by decide +kernel)
            clear hg
            exact st_yield ho (wanted_none rfl) (.int .i64 ((kt : Nat) : Int)) w6 (by simp [execOp, Act.eval, h53, h54, go_sem, hkt]) ⟨_, rfl, Below.refl _ _, by rintro t' ⟨⟩; rfl⟩
          | 16, hin, ho =>
            obtain rfl := Option.some.inj ho
            obtain ⟨_, h52, rfl⟩ := given_fed hg 52 (by decide +kernel)
            obtain ⟨_, h55, rfl⟩ := given_fed hg 55 (by decide +kernel)
            clear hg
            exact st_yield ho (wanted_none rfl) (.int .u64 (X : Int)) w6 (by simp [execOp, Act.eval, h52, h55, go_sem, hX]) ⟨_, rfl, Below.refl _ _, by rintro t' ⟨⟩; rfl⟩
          | 17, hin, ho =>
            obtain rfl := Option.some.inj ho
            obtain ⟨_, h56, rfl⟩ := given_fed hg 56 (by decide +kernel)
            clear hg
            exact st_yield ho (wanted_none rfl) (.int .u8 (c1 : Int)) w6 (by simp [execOp, Act.eval, h56, go_sem, hc1]) ⟨_, rfl, Below.refl _ _, by rintro t' ⟨⟩; rfl⟩
          | 18, hin, ho =>
            obtain rfl := Option.some.inj ho
            have h7 := given_old hg 7 (by decide +kernel)
            clear hg
            exact st_yield ho (wanted_none rfl) (.int .i64 ((t : Nat) : Int)) w6 (by simp [execOp, Act.eval, h7, go_sem]) ⟨_, rfl, Below.refl _ _, by rintro t' ⟨⟩; rfl⟩
          | 19, hin, ho =>
            obtain rfl := Option.some.inj ho
            obtain ⟨_, h58, rfl⟩ := given_fed hg 58 (by decide +kernel)
            clear hg
            exact st_yield ho (wanted_none rfl) (.int .i64 ((t8 : Nat) : Int)) w6 (by simp [execOp, Act.eval, h58, go_sem, ht8]) ⟨_, rfl, Below.refl _ _, by rintro t' ⟨⟩; rfl⟩
          | 20, hin, ho =>
            obtain rfl := Option.some.inj ho
            obtain ⟨_, h57, rfl⟩ := given_fed hg 57 (by decide +kernel)
            obtain ⟨_, h59, rfl⟩ := given_fed hg 59 (by decide +kernel)
            clear hg
            exact st_yield ho (wanted_none rfl) (.int .u8 (c2 : Int)) w6 (by simp [execOp, Act.eval, h57, h59, go_sem, hc2]) ⟨_, rfl, Below.refl _ _, by rintro t' ⟨⟩; rfl⟩
          | 21, hin, ho =>
            obtain rfl := Option.some.inj ho
            have h6 := given_old hg 6 (by decide +kernel)
            clear hg
            exact st_yield ho (wanted_none rfl) (.int .i64 ((um : Nat) : Int)) w6 (by simp [execOp, Act.eval, h6, go_sem]) ⟨_, rfl, Below.refl _ _, by rintro t' ⟨⟩; rfl⟩
          | 22, hin, ho =>
            obtain rfl := Option.some.inj ho
            obtain ⟨_, h60, rfl⟩ := given_fed hg 60 (by decide +kernel)
            obtain ⟨_, h61, rfl⟩ := given_fed hg 61 (by decide +kernel)
            clear hg
            exact st_yield ho (wanted_none rfl) (.int .u8 (c3 : Int)) w6 (by simp [execOp, Act.eval, h60, h61, go_sem, hc3i]) ⟨_, rfl, Below.refl _ _, by rintro t' ⟨⟩; rfl⟩
          | 23, hin, ho =>
            obtain rfl := Option.some.inj ho
            obtain ⟨_, h51, rfl⟩ := given_fed hg 51 (by decide +kernel)
            obtain ⟨_, h62, rfl⟩ := given_fed hg 62 (by decide +kernel)
            clear hg
            exact st_yield ho (wanted_none rfl) (.int .u8 (r : Int)) w6 (by simp [execOp, Act.eval, h51, h62, go_sem, hr]) ⟨_, rfl, Below.refl _ _, by rintro t' ⟨⟩; rfl⟩
          | 24, hin, ho =>
            obtain rfl := Option.some.inj ho
            obtain ⟨_, h43, rfl⟩ := given_fed hg 43 (by decide +kernel)
            obtain ⟨_, h49, rfl⟩ := given_fed hg 49 (by decide +kernel)
            clear hg
            exact st_yield ho (wanted_none rfl) (.pointer (some ⟨g, d, none⟩)) w6 (by simp [execOp, Act.eval, h43, h49, go_sem, hix]) ⟨_, rfl, Below.refl _ _, by rintro t' ⟨⟩; rfl⟩
          | n + 25, hin, ho => omega
        · intro f w6 hb6 hv
          have h63 := hv 63 (by decide)
          have h64 := hv 64 (by decide)
          simp only [V6] at h63 h64
          have ko := (hb6.cell (p := ⟨g, d, none⟩) hgs).trans KO
          have kf := (hb6.frozen (p := ⟨g, d, none⟩) hgs).trans HKF.out
          have hne : g ≠ b := fun e => HBB.out.apart (by rw [e]; rfl)
          have kc1 : (w6.setCell ⟨g, d, none⟩ (.int .u8 (r : Int))).cell? ⟨b, 1, none⟩ = some (.int .i64 (m.length : Int)) := by
            rw [World.cell?_setCell_other _ _ _ _ (fun e => hne (congrArg Addr.block e))]
            exact (hb6.cell (p := ⟨b, 1, none⟩) HB).trans K1
          have kf1 : (w6.setCell ⟨g, d, none⟩ (.int .u8 (r : Int))).frozen? ⟨b, 1, none⟩ = false := by
            rw [World.frozen?_setCell]
            exact (hb6.frozen (p := ⟨b, 1, none⟩) HB).trans F1
          have hfin := put_close (X := X) (t := t) (r := r) htwo hown htwo2 hown2 HBB.out hb6 ht0 (by rw [Hu.out]; exact hut) (by rw [Er2.out, Hu.out, Hd.out]) _ Hmt.out
          rw [Hd.out] at hfin
          have Hfin := Go.Lib.hid hfin; clear hfin htwo hown htwo2 hown2 hbt
          clear hv K0 KO K1 F1 hr hc3i hc2 hc1 hX ht8 hd1 hix hne
          unfold putAll
          simp only [List.foldl, List.drop]
          simp only [h63, h64]
          go_simp
          go_wp2_with fail
          obtain ⟨u', h1, h2, h3⟩ := Hfin.out
          have hkk := Ekt.out
          have hxx := EX.out
          refine ⟨⟨kt, m ++ numB X t, u', by omega, rfl, ?_, h1, h2, h3⟩, by simp only [intOf]; omega⟩
          rw [List.append_assoc, hxx, hkk, ← numB_take x k t htk]
          exact Hm.out
    · obtain rfl : k = 0 := by omega
      rw [show numB x 0 = [] from rfl, List.append_nil] at hm
      have Hfin : Hid (∃ v', BT wr B b v' (l ++ numB x n) ∧ Two b v.ownBlock w wr ∧ (v'.ownBlock = v.ownBlock ∨ ∀ k, v'.ownBlock = some k → w.heap.size ≤ k)) := ⟨u, by rw [← hm]; exact hbt, htwo, hown⟩
      clear hm hbt htwo hown
      go_wp2_with fail
      go_end0
      exact ⟨rfl, Hfin.out⟩

end Go.Proofs.Ytgalppnpmfpdbaa

namespace Go.Proofs.Ytgalppnpmfpdbaa
open Go.RowKit

set_option maxRecDepth 100000 in
theorem put_nil (t : Bool) (w : World) : Calls Try.prog 30 #[.pointer none, .bool t] w fun e w' => e = .returned (.tuple #[]) ∧ w = w' := by
  cases t
  all_goals
    go_enter Try.func30, Try.ntmps30
    go_wp2_with fail
    refine (putNum_nil _ _ _).mono ?_
    rintro e w1 ⟨rfl, rfl⟩
    go_wp2_with fail
    go_end0
    exact ⟨rfl, rfl⟩
set_option maxRecDepth 100000 in
theorem bitput_c (t : Bool) (w : World) (B b : Nat) (v : Value) (l : List Bool) (h : BT w B b v l) (hl : l.length + 1 ≤ 562949953421312) :
    Calls Try.prog 30 #[.pointer (some ⟨b, 0, none⟩), .bool t] w fun e w' => e = .returned (.tuple #[]) ∧
      ∃ v', BT w' B b v' (l ++ [t]) ∧ Two b v.ownBlock w w' ∧ (v'.ownBlock = v.ownBlock ∨ ∀ k, v'.ownBlock = some k → w.heap.size ≤ k) := by
  have C0 := putNum_c (if t then 1 else 0) 1 w B b v l h (by omega) hl
  have e1 : numB (if t then 1 else 0) 1 = [t] := by cases t <;> rfl
  rw [e1] at C0
  cases t
  all_goals
    have C := Go.Lib.hid C0
    clear C0 e1
    go_enter Try.func30, Try.ntmps30
    go_wp2_with fail
    refine C.out.mono ?_
    rintro e w1 ⟨rfl, h1⟩
    have H1 := Go.Lib.hid h1
    clear h1 C
    go_wp2_with fail
    go_end0
    exact ⟨rfl, H1.out⟩

set_option maxRecDepth 100000 in
theorem num_nil (a n : Int) (w : World) : Calls Try.prog 56 #[.pointer none, .int .i64 a, .int .i64 n] w fun e w' => e = .returned (.tuple #[.int .u64 0, .bool false]) ∧ w = w' := by
  go_enter Try.func56, Try.ntmps56
  go_wp2_with fail
  go_ret2
  exact ⟨rfl, rfl⟩

set_option maxRecDepth 100000 in
/-- They are not all there. -/
theorem num_no (a n : Int) (w : World) (B b : Nat) (v : Value) (l : List Bool) (h : BT w B b v l) (hl : l.length ≤ 562949953421312) (hno : n < 0 ∨ 64 < n ∨ a < 0 ∨ (l.length : Int) - n < a) :
    Calls Try.prog 56 #[.pointer (some ⟨b, 0, none⟩), .int .i64 a, .int .i64 n] w fun e w' => e = .returned (.tuple #[.int .u64 0, .bool false]) ∧ w = w' := by
  have hc1 := h.c1
  clear h
  by_cases h1 : n < 0
  · go_enter Try.func56, Try.ntmps56
    go_wp2_with fail
    go_ret2
    exact ⟨rfl, rfl⟩
  by_cases h2 : 64 < n
  · go_enter Try.func56, Try.ntmps56
    go_wp2_with fail
    go_ret2
    exact ⟨rfl, rfl⟩
  by_cases h3 : a < 0
  · go_enter Try.func56, Try.ntmps56
    go_wp2_with fail
    go_ret2
    exact ⟨rfl, rfl⟩
  have h4 : (l.length : Int) - n < a := by omega
  clear hno
  go_enter Try.func56, Try.ntmps56
  go_wp2_with fail
  go_ret2
  exact ⟨rfl, rfl⟩

def V7 (b g rl cap d o t um t8 at_ X0 X1 c1 c2 X2 : Nat) : Nat → World → Value → Prop
  | 43, _, v => v = .int .u64 (X0 : Int)
  | 44, _, v => v = .int .i64 (t : Int)
  | 45, _, v => v = .int .u64 (X1 : Int)
  | 46, _, v => v = .pointer (some ⟨b, 0, none⟩)
  | 47, _, v => v = .pointer (some ⟨b, 0, none⟩)
  | 48, _, v => v = .pointer (some ⟨b, 0, none⟩)
  | 49, _, v => v = .slice (some ⟨g, 0, none⟩) rl cap
  | 50, _, v => v = .int .i64 (at_ : Int)
  | 51, _, v => v = .int .i64 (d : Int)
  | 52, _, v => v = .pointer (some ⟨g, d, none⟩)
  | 53, _, v => v = .int .u8 (o : Int)
  | 54, _, v => v = .int .i64 (um : Int)
  | 55, _, v => v = .int .u8 (c1 : Int)
  | 56, _, v => v = .int .i64 (t : Int)
  | 57, _, v => v = .int .i64 (t8 : Int)
  | 58, _, v => v = .int .u8 (c2 : Int)
  | 59, _, v => v = .int .u64 (c2 : Int)
  | 60, _, v => v = .int .u64 (X2 : Int)
  | 8, _, v => v = .int .u64 (X2 : Int)
  | _, _, _ => True

theorem V7_below (b g rl cap d o t um t8 at_ X0 X1 c1 c2 X2 : Nat) : ∀ (i : Nat) (w w' : World) (v : Value), V7 b g rl cap d o t um t8 at_ X0 X1 c1 c2 X2 i w v → Below w.heap.size w w' → V7 b g rl cap d o t um t8 at_ X0 X1 c1 c2 X2 i w' v := by
  intro i w w' v h hb
  unfold V7 at h ⊢
  split at h <;> first | exact h | trivial | exact RB.below h hb | exact Own.below h hb

set_option maxHeartbeats 2000000 in
set_option maxRecDepth 100000 in
theorem num_c (a n : Nat) (w : World) (B b : Nat) (v : Value) (l : List Bool) (h : BT w B b v l) (hl : l.length ≤ 562949953421312) (hn : n ≤ 64) (ha : a + n ≤ l.length) :
    Calls Try.prog 56 #[.pointer (some ⟨b, 0, none⟩), .int .i64 (a : Int), .int .i64 (n : Int)] w fun e w' => e = .returned (.tuple #[.int .u64 (val ((l.drop a).take n) : Int), .bool true]) ∧ Below w.heap.size w w' := by
  have hc1 := h.c1
  have h4 : ¬ ((l.length : Int) - (n : Int) < (a : Int)) := by omega
  have H := Go.Lib.hid h
  clear h
  go_enter Try.func56, Try.ntmps56
  go_wp2_with fail
  go_loopw [1, 2, 8] (fun a' n' x wr => ∃ (j k : Nat), j + k = n ∧ a' = .int .i64 ((a + j : Nat) : Int) ∧ n' = .int .i64 (k : Int) ∧ x = .int .u64 (val ((l.drop a).take j) : Int) ∧ Below w.heap.size w wr) (fun _ n' _ _ => (intOf n').toNat)
  case atStart => exact ⟨0, n, by omega, rfl, rfl, rfl, Below.refl _ _⟩
  case round =>
    obtain ⟨j, k, hjk, rfl, rfl, rfl, hbw⟩ := hrel
    by_cases hlt : 0 < k
    · have hbt : BT wr B b v l := H.out.below hbw
      have hpl : 0 < (pack l).length := by rw [pack_length]; omega
      obtain ⟨g, cap, rfl, hBg, hgs, hcl, hcm, hgf⟩ := hbt.row.form hpl
      obtain ⟨t, ht⟩ : ∃ t : Nat, t = min k (8 - (a + j) % 8) := ⟨_, rfl⟩
      obtain ⟨at_, hat⟩ : ∃ q : Nat, q = a + j := ⟨_, rfl⟩
      have hd : at_ / 8 < (pack l).length := by rw [pack_length]; omega
      have HB := hbt.lt
      have HG := hgs
      have K0 := hbt.c0
      have KO := hbt.row.cell (at_ / 8) hd
      rw [← hat] at ht ⊢
      have htI : min (k : Int) (8 - (at_ : Int) % 8) = (t : Int) := by omega
      have Ht := Go.Lib.hid ht; clear ht
      have Hat := Go.Lib.hid hat; clear hat
      have HK0 := Go.Lib.hid K0; clear K0
      have HKO := Go.Lib.hid KO; clear KO
      have Hjk := Go.Lib.hid hjk; clear hjk
      have hat63 : at_ ≤ 562949953421312 := by have := Hat.out; have := Hjk.out; omega
      clear hbt hcl hcm hgf hpl
      generalize hx0 : val ((l.drop a).take j) = X0
      have Hx0 := Go.Lib.hid hx0; clear hx0
      go_upto_region 7 with (fail)
      have hu : (at_ : Int) % 8 = ((at_ % 8 : Nat) : Int) := by omega
      rw [hu]
      clear hu hc1
      have K0 := HK0.out
      have KO := HKO.out
      have hix := run_idx8 g (pack l).length cap (at_ / 8) hd
      have ht0 : 0 < t ∧ at_ % 8 + t ≤ 8 ∧ t ≤ k ∧ t ≤ 8 := by have := Ht.out; omega
      obtain ⟨ht0, hut, htk, ht8'⟩ := ht0
      obtain ⟨t8, et8⟩ : ∃ q : Nat, q = 8 - t := ⟨_, rfl⟩
      have ht8 : IntKind.i64.wrap (8 - (t : Int)) = (t8 : Int) := by rw [IntKind.wrap_i64]; omega
      have hpiece := pack_piece l at_ t hut (by have := Hat.out; have := Hjk.out; omega) ht0 hd
      have hval : val ((l.drop a).take (j + t)) = X0 * 2 ^ t + val ((l.drop at_).take t) := by
        have hA := Hat.out
        have hJ := Hjk.out
        have hl1 : ((l.drop (a + j)).take t).length = t := by simp only [List.length_take, List.length_drop]; omega
        rw [← take_more, val_append, Hx0.out, hl1, ← hA]
      have hlt0 : X0 < 2 ^ j := by
        have h1 := val_lt ((l.drop a).take j)
        rw [Hx0.out] at h1
        exact Nat.lt_of_lt_of_le h1 (Nat.pow_le_pow_right (by omega) (by simp only [List.length_take]; omega))
      have hc2l := val_lt ((l.drop at_).take t)
      have hc2t : ((l.drop at_).take t).length ≤ t := by simp only [List.length_take]; omega
      obtain ⟨c2, ec2⟩ : ∃ q : Nat, q = val ((l.drop at_).take t) := ⟨_, rfl⟩
      have hc2u : c2 < 2 ^ t := by rw [ec2]; exact Nat.lt_of_lt_of_le hc2l (Nat.pow_le_pow_right (by omega) hc2t)
      obtain ⟨X1, eX1⟩ : ∃ q : Nat, q = X0 * 2 ^ t := ⟨_, rfl⟩
      have hX1 : X1 < 18446744073709551616 := by
        have h1 : X1 < 2 ^ j * 2 ^ t := by rw [eX1]; exact Nat.mul_lt_mul_of_pos_right hlt0 (Nat.pow_pos (by omega))
        rw [← Nat.pow_add] at h1
        exact Nat.lt_of_lt_of_le h1 (Nat.le_trans (Nat.pow_le_pow_right (by omega) (show j + t ≤ 64 by have := Hjk.out; omega)) (by decide))
      have hX2 : X1 ||| c2 = val ((l.drop a).take (j + t)) := by rw [hval, eX1, or_val _ _ _ hc2u, ec2]
      have hc2b : c2 < 18446744073709551616 := Nat.lt_of_lt_of_le hc2u (Nat.le_trans (Nat.pow_le_pow_right (by omega) (show t ≤ 64 by omega)) (by decide))
      have hr := u64_or_nat X1 c2 hX1 hc2b
      rw [hX2] at hr
      have hx1 : IntKind.u64.wrap ((X0 : Int) * 2 ^ t) = (X1 : Int) := by
        have e : (X0 : Int) * 2 ^ t = (X1 : Int) := by rw [eX1]; simp
        rw [e, IntKind.wrap_u64]
        omega
      have hcv : IntKind.u64.wrap (c2 : Int) = (c2 : Int) := by rw [IntKind.wrap_u64]; omega
      rw [← et8, ← ec2] at hpiece
      have hq : (at_ : Int) / 8 = ((at_ / 8 : Nat) : Int) := by omega
      have hqw : IntKind.i64.wrap ((at_ / 8 : Nat) : Int) = ((at_ / 8 : Nat) : Int) := by rw [IntKind.wrap_i64]; omega
      have ho : (pack l)[at_ / 8].toNat < 256 := UInt8.toNat_lt _
      generalize (pack l)[at_ / 8].toNat = o at KO hpiece ho
      obtain ⟨c1, ec1⟩ : ∃ q : Nat, q = o * 2 ^ (at_ % 8) % 256 := ⟨_, rfl⟩
      rw [← ec1] at hpiece
      have hc1 : IntKind.u8.wrap ((o : Int) * 2 ^ (at_ % 8)) = (c1 : Int) := by
        have e : (o : Int) * 2 ^ (at_ % 8) = ((o * 2 ^ (at_ % 8) : Nat) : Int) := by simp
        rw [e, IntKind.wrap_u8', ec1]
        omega
      have hc2i : (c1 : Int) / 2 ^ min t8 8 = (c2 : Int) := by rw [Nat.min_eq_left (by omega), ← hpiece]; simp
      obtain ⟨X2, eX2⟩ : ∃ q : Nat, q = val ((l.drop a).take (j + t)) := ⟨_, rfl⟩
      rw [← eX2] at hr
      have EX2 := Go.Lib.hid eX2
      clear eX2 hpiece ec1 ho hX2 hc2b hX1 eX1 hc2u ec2 hc2t hc2l hlt0 hval et8 hat63
      generalize at_ / 8 = d at *
      generalize at_ % 8 = um at *
      clear HKO HK0
      generalize (pack l).length = rl at K0 hix
      refine wp_region_each (by kernel_rfl) (V7 b g rl cap d o t um t8 at_ X0 X1 c1 c2 X2) (V7_below b g rl cap d o t um t8 at_ X0 X1 c1 c2 X2) (by decide +kernel) (by decide +kernel) (by rfl) [43, 44, 45, 46, 47, 48, 49, 50, 51, 52, 53, 54, 55, 56, 57, 58, 59, 60, 8] (by rfl) ?_ ?_
      · intro i o ho a w6 hb6 hlen hg
        have k0 := (hb6.cell (p := ⟨b, 0, none⟩) HB).trans K0
        have ko := (hb6.cell (p := ⟨g, d, none⟩) HG).trans KO
        match i, ho with
        | 0, ho =>
          obtain rfl := Option.some.inj ho
          have h8 := given_old hg 8 (by decide +kernel)
          clear hg
          exact st_yield ho (wanted_none rfl) (.int .u64 (X0 : Int)) w6 (by simp [execOp, Act.eval, h8, go_sem]) ⟨_, rfl, Below.refl _ _, by rintro t' ⟨⟩; rfl⟩
        | 1, ho =>
          obtain rfl := Option.some.inj ho
          have h10 := given_old hg 10 (by decide +kernel)
          clear hg
          exact st_yield ho (wanted_none rfl) (.int .i64 (t : Int)) w6 (by simp [execOp, Act.eval, h10, go_sem]) ⟨_, rfl, Below.refl _ _, by rintro t' ⟨⟩; rfl⟩
        | 2, ho =>
          obtain rfl := Option.some.inj ho
          obtain ⟨_, h43, rfl⟩ := given_fed hg 43 (by decide +kernel)
          obtain ⟨_, h44, rfl⟩ := given_fed hg 44 (by decide +kernel)
          clear hg
          exact st_yield ho (wanted_none rfl) (.int .u64 (X1 : Int)) w6 (by simp [execOp, Act.eval, h43, h44, go_sem, hx1]) ⟨_, rfl, Below.refl _ _, by rintro t' ⟨⟩; rfl⟩
        | 3, ho =>
          obtain rfl := Option.some.inj ho
          have h0 := given_old hg 0 (by decide +kernel)
          clear hg
          exact st_yield ho (wanted_none rfl) (.pointer (some ⟨b, 0, none⟩)) w6 (by simp [execOp, Act.eval, h0, go_sem]) ⟨_, rfl, Below.refl _ _, by rintro t' ⟨⟩; rfl⟩
        | 4, ho =>
          obtain rfl := Option.some.inj ho
          obtain ⟨_, h46, rfl⟩ := given_fed hg 46 (by decide +kernel)
          clear hg
          exact st_yield ho (wanted_none rfl) (.pointer (some ⟨b, 0, none⟩)) w6 (by simp [execOp, Act.eval, h46, go_sem]) ⟨_, rfl, Below.refl _ _, by rintro t' ⟨⟩; rfl⟩
        | 5, ho =>
          obtain rfl := Option.some.inj ho
          obtain ⟨_, h47, rfl⟩ := given_fed hg 47 (by decide +kernel)
          clear hg
          exact st_yield ho (wanted_none rfl) (.pointer (some ⟨b, 0, none⟩)) w6 (by simp [execOp, Act.eval, h47, go_sem]) ⟨_, rfl, Below.refl _ _, by rintro t' ⟨⟩; rfl⟩
        | 6, ho =>
          obtain rfl := Option.some.inj ho
          obtain ⟨_, h48, rfl⟩ := given_fed hg 48 (by decide +kernel)
          clear hg
          exact st_yield ho (wanted_none rfl) (.slice (some ⟨g, 0, none⟩) rl cap) w6 (by simp [execOp, Act.eval, h48, go_sem, k0]) ⟨_, rfl, Below.refl _ _, by rintro t' ⟨⟩; rfl⟩
        | 7, ho =>
          obtain rfl := Option.some.inj ho
          have h1 := given_old hg 1 (by decide +kernel)
          clear hg
          exact st_yield ho (wanted_none rfl) (.int .i64 (at_ : Int)) w6 (by simp [execOp, Act.eval, h1, go_sem]) ⟨_, rfl, Below.refl _ _, by rintro t' ⟨⟩; rfl⟩
        | 8, ho =>
          obtain rfl := Option.some.inj ho
          obtain ⟨_, h50, rfl⟩ := given_fed hg 50 (by decide +kernel)
          clear hg
          exact st_yield ho (wanted_none rfl) (.int .i64 (d : Int)) w6 (by simp [execOp, Act.eval, h50, go_sem, hq, hqw]) ⟨_, rfl, Below.refl _ _, by rintro t' ⟨⟩; rfl⟩
        | 9, ho =>
          obtain rfl := Option.some.inj ho
          obtain ⟨_, h49, rfl⟩ := given_fed hg 49 (by decide +kernel)
          obtain ⟨_, h51, rfl⟩ := given_fed hg 51 (by decide +kernel)
          clear hg
          exact st_yield ho (wanted_none rfl) (.pointer (some ⟨g, d, none⟩)) w6 (by simp [execOp, Act.eval, h49, h51, go_sem, hix]) ⟨_, rfl, Below.refl _ _, by rintro t' ⟨⟩; rfl⟩
        | 10, ho =>
          obtain rfl := Option.some.inj ho
          obtain ⟨_, h52, rfl⟩ := given_fed hg 52 (by decide +kernel)
          clear hg
          exact st_yield ho (wanted_none rfl) (.int .u8 (o : Int)) w6 (by simp [execOp, Act.eval, h52, go_sem, ko]) ⟨_, rfl, Below.refl _ _, by rintro t' ⟨⟩; rfl⟩
        | 11, ho =>
          obtain rfl := Option.some.inj ho
          have h9 := given_old hg 9 (by decide +kernel)
          clear hg
          exact st_yield ho (wanted_none rfl) (.int .i64 (um : Int)) w6 (by simp [execOp, Act.eval, h9, go_sem]) ⟨_, rfl, Below.refl _ _, by rintro t' ⟨⟩; rfl⟩
        | 12, ho =>
          obtain rfl := Option.some.inj ho
          obtain ⟨_, h53, rfl⟩ := given_fed hg 53 (by decide +kernel)
          obtain ⟨_, h54, rfl⟩ := given_fed hg 54 (by decide +kernel)
          clear hg
          exact st_yield ho (wanted_none rfl) (.int .u8 (c1 : Int)) w6 (by simp [execOp, Act.eval, h53, h54, go_sem, hc1]) ⟨_, rfl, Below.refl _ _, by rintro t' ⟨⟩; rfl⟩
        | 13, ho =>
          obtain rfl := Option.some.inj ho
          have h10 := given_old hg 10 (by decide +kernel)
          clear hg
          exact st_yield ho (wanted_none rfl) (.int .i64 (t : Int)) w6 (by simp [execOp, Act.eval, h10, go_sem]) ⟨_, rfl, Below.refl _ _, by rintro t' ⟨⟩; rfl⟩
        | 14, ho =>
          obtain rfl := Option.some.inj ho
          obtain ⟨_, h56, rfl⟩ := given_fed hg 56 (by decide +kernel)
          clear hg
          exact st_yield ho (wanted_none rfl) (.int .i64 (t8 : Int)) w6 (by simp [execOp, Act.eval, h56, go_sem, ht8]) ⟨_, rfl, Below.refl _ _, by rintro t' ⟨⟩; rfl⟩
        | 15, ho =>
          obtain rfl := Option.some.inj ho
          obtain ⟨_, h55, rfl⟩ := given_fed hg 55 (by decide +kernel)
          obtain ⟨_, h57, rfl⟩ := given_fed hg 57 (by decide +kernel)
          clear hg
          exact st_yield ho (wanted_none rfl) (.int .u8 (c2 : Int)) w6 (by simp [execOp, Act.eval, h55, h57, go_sem, hc2i]) ⟨_, rfl, Below.refl _ _, by rintro t' ⟨⟩; rfl⟩
        | 16, ho =>
          obtain rfl := Option.some.inj ho
          obtain ⟨_, h58, rfl⟩ := given_fed hg 58 (by decide +kernel)
          clear hg
          exact st_yield ho (wanted_none rfl) (.int .u64 (c2 : Int)) w6 (by simp [execOp, Act.eval, h58, go_sem, hcv]) ⟨_, rfl, Below.refl _ _, by rintro t' ⟨⟩; rfl⟩
        | 17, ho =>
          obtain rfl := Option.some.inj ho
          obtain ⟨_, h45, rfl⟩ := given_fed hg 45 (by decide +kernel)
          obtain ⟨_, h59, rfl⟩ := given_fed hg 59 (by decide +kernel)
          clear hg
          exact st_yield ho (wanted_none rfl) (.int .u64 (X2 : Int)) w6 (by simp [execOp, Act.eval, h45, h59, go_sem, hr]) ⟨_, rfl, Below.refl _ _, by rintro t' ⟨⟩; rfl⟩
        | 18, ho =>
          obtain rfl := Option.some.inj ho
          obtain ⟨_, h60, rfl⟩ := given_fed hg 60 (by decide +kernel)
          clear hg
          exact st_yield ho (wanted_none rfl) (.int .u64 (X2 : Int)) w6 (by simp [execOp, Act.eval, h60, go_sem]) ⟨_, rfl, Below.refl _ _, by rintro t' ⟨⟩; rfl⟩
        | n + 19, ho => simp at ho
      · intro f w6 hb6 hv
        have h8 := hv 8 (by decide)
        simp only [V7] at h8
        have hbw6 := hbw.trans (hb6.mono hbw.size)
        have hk64 : k ≤ 64 := by have := Hjk.out; omega
        have hat63 : at_ + t ≤ 1000000000000000 := by have := Hat.out; have := Hjk.out; omega
        clear hv K0 KO hr hcv hc2i hc1 hqw hq hx1 ht8 hix hb6 h4
        unfold putAll
        simp only [List.foldl]
        simp only [h8]
        go_simp
        go_wp2_with fail
        go_roundw
        case rel => exact ⟨j + t, k - t, by have := Hjk.out; omega, (by have := Hat.out; congr 1; omega), (by congr 1; omega), by rw [EX2.out], hbw6⟩
        case measure => simp only [intOf]; omega
    · obtain rfl : k = 0 := by omega
      obtain rfl : j = n := by omega
      clear hc1 h4
      go_wp2_with fail
      go_ret2
      exact ⟨rfl, hbw⟩

end Go.Proofs.Ytgalppnpmfpdbaa

namespace Go.Proofs.Ytgalppnpmfpdbaa
open Go.RowKit

set_option maxRecDepth 100000 in
theorem at_nil (i : Int) (w : World) : Calls Try.prog 34 #[.pointer none, .int .i64 i] w fun e w' => e = .returned (.bool false) ∧ w = w' := by
  go_enter Try.func34, Try.ntmps34
  go_wp2_with fail
  refine (num_nil _ _ _).mono ?_
  rintro e w1 ⟨rfl, rfl⟩
  go_wp2_with fail
  go_ret
  exact ⟨rfl, rfl⟩
/-- Is bit i set? -/
def atBit (l : List Bool) (i : Int) : Bool := decide (0 ≤ i) && l.getD i.toNat false
set_option maxRecDepth 100000 in
theorem at_c (i : Int) (w : World) (B b : Nat) (v : Value) (l : List Bool) (h : BT w B b v l) (hl : l.length ≤ 562949953421312) :
    Calls Try.prog 34 #[.pointer (some ⟨b, 0, none⟩), .int .i64 i] w fun e w' => e = .returned (.bool (atBit l i)) ∧ Below w.heap.size w w' := by
  by_cases hi : 0 ≤ i ∧ i < l.length
  · obtain ⟨k, rfl⟩ : ∃ k : Nat, i = (k : Int) := ⟨i.toNat, by omega⟩
    have hk : k < l.length := by omega
    have e1 : (l.drop k).take 1 = [l[k]] := by rw [List.drop_eq_getElem_cons hk]; rfl
    have e2 : atBit l (k : Int) = l[k] := by simp [atBit, hk]
    have C := num_c k 1 w B b v l h hl (by omega) (by omega)
    rw [e1] at C
    rw [e2]
    generalize l[k] = t at C
    clear e1 e2 h hi hk
    cases t
    all_goals
      have C := Go.Lib.hid C
      go_enter Try.func34, Try.ntmps34
      go_wp2_with fail
      refine C.out.mono ?_
      rintro e w1 ⟨rfl, h1⟩
      clear C
      go_wp2_with fail
      go_ret
      exact ⟨rfl, h1⟩
  · have e2 : atBit l i = false := by
      unfold atBit
      by_cases h0 : 0 ≤ i
      · rw [List.getD_eq_getElem?_getD, List.getElem?_eq_none (by omega)]; simp
      · simp [h0]
    have C := Go.Lib.hid (num_no i 1 w B b v l h hl (by omega))
    rw [e2]
    clear e2 h hi
    go_enter Try.func34, Try.ntmps34
    go_wp2_with fail
    refine C.out.mono ?_
    rintro e w1 ⟨rfl, rfl⟩
    clear C
    go_wp2_with fail
    go_ret
    exact ⟨rfl, Below.refl _ _⟩

end Go.Proofs.Ytgalppnpmfpdbaa
