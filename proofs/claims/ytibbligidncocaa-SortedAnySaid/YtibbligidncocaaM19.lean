/-
  Records: contract of the reference's Bytes.
  Numbers and texts as bytes (of no code): what is read is written so.
  Records as bytes: what stands at the beginning of bytes.
-/
import Derived.Test.YtibbligidncocaaM12
import Derived.Test.YtibbligidncocaaM11
import Derived.Test.YtibbligidncocaaM06
namespace Go.Proofs.Ytibbligidncocaa
open Go.RowKit
open Go.Lib (uvarint zigzag)

set_option maxRecDepth 100000 in
theorem rbytes_c (key : List UInt8) (gone : Bool) (k n : Int) (s : List UInt8) (w : World) (hk : key.length ≤ 60000) (k0 : -9223372036854775808 ≤ k) (k1 : k ≤ 9223372036854775807) (h0 : -9223372036854775808 ≤ n) (h1 : n ≤ 9223372036854775807) (hs : s.length ≤ 60000) :
    Calls Try.prog 48 #[recV (str key) gone k n (str s)] w fun e w' => ∃ v, e = .returned v ∧ Own 5 w' w.heap.size v (recB key gone k n s) ∧ Below w.heap.size w w' := by
  unfold recV
  have C1 := Go.Lib.hid fun W => rputText_c (str key) W (by rw [str_size]; omega)
  have e1 : putT (str key).data.toList = putT key := by simp [str]
  have e2 : (putT key).length ≤ 60010 := by
    rw [putT, List.length_append]
    have := Go.Lib.uvarint_length64 (Go.Lib.zigzag_lt (x := (key.length : Int)) (by omega) (by omega))
    omega
  have C1 := C1.out
  rw [e1] at C1
  have C1' := Go.Lib.hid C1
  have hbA := below_one w (.cells #[.string (str key), .bool gone, .int .i64 k, .int .i64 n, .string (str s)] 39)
  clear C1 e1 hk
  cases gone with
  | true =>
    have C2 := Go.Lib.hid fun W => rput_c 0 W (by omega) (by omega)
    have e3 : (uvarint (zigzag 0)).length ≤ 10 := Go.Lib.uvarint_length64 (Go.Lib.zigzag_lt (by omega) (by omega))
    have he : Hid (recB key true k n s = putT key ++ uvarint (zigzag 0)) := rfl
    clear k0 k1 h0 h1 hs
    generalize uvarint (zigzag 0) = un at *
    generalize putT key = uk at *
    go_enter Try.func48, Try.ntmps48
    go_wp2_with fail
    refine (C1'.out _).mono ?_
    rintro e w1 ⟨v1, rfl, hown1, hb1⟩
    obtain ⟨hh, x0, x1, x2, x3, x4⟩ := rec_box _ _ _ _ _ hb1
    have hbb1 := hbA.trans (hb1.mono hbA.size)
    have hown1' := hown1.mono hbA.size
    clear hown1 hb1 hbA hh
    go_wp2_with fail
    refine (C2.out _).mono ?_
    rintro e w2 ⟨v2, rfl, hown2, hb2⟩
    have hbb2 := hbb1.trans (hb2.mono hbb1.size)
    have hownA := hown1'.below hb2
    have hrb2 := hown2.rb
    clear hown1' hown2 hb2 hbb1 x0 x1 x2 x3 x4
    go_wp2_with (first
      | (with_reducible show wpList _ _ _ (⟨some 11, _, _, _, _, _⟩ :: _) _ _; go_loud (refine wpList_append_RB rfl (.tmp 9) (.tmp 10) 33 rfl w.heap.size 5 Try.underlying33 info8 v1 v2 uk un rfl rfl hownA hrb2 (by omega) hbb2.size ?_); intro v3 w3 hown3 hg3; have hbb3 := hbb2.grown hg3 hbb2.size hownA.row)
      | fail)
    go_ret
    exact ⟨_, rfl, by rw [he.out]; exact hown3, hbb3⟩
  | false =>
    have C2 := Go.Lib.hid fun W => rputVal_c k n s W k0 k1 h0 h1 hs
    have e3 : (putV k n s).length ≤ 60050 := by
      have a1 := Go.Lib.uvarint_length64 (Go.Lib.zigzag_lt k0 k1)
      have a2 := Go.Lib.uvarint_length64 (Go.Lib.zigzag_lt h0 h1)
      have a3 := Go.Lib.uvarint_length64 (Go.Lib.zigzag_lt (x := (s.length : Int)) (by omega) (by omega))
      unfold putV putT
      split <;> simp only [List.length_append] <;> omega
    have he : Hid (recB key false k n s = putT key ++ putV k n s) := rfl
    clear k0 k1 h0 h1 hs
    generalize putV k n s = un at *
    generalize putT key = uk at *
    unfold rawV at C2
    go_enter Try.func48, Try.ntmps48
    go_wp2_with fail
    refine (C1'.out _).mono ?_
    rintro e w1 ⟨v1, rfl, hown1, hb1⟩
    obtain ⟨hh, x0, x1, x2, x3, x4⟩ := rec_box _ _ _ _ _ hb1
    have hbb1 := hbA.trans (hb1.mono hbA.size)
    have hown1' := hown1.mono hbA.size
    clear hown1 hb1 hbA
    unfold recO at hh
    go_wp2_with fail
    refine (C2.out _).mono ?_
    rintro e w2 ⟨v2, rfl, hown2, hb2⟩
    have hbb2 := hbb1.trans (hb2.mono hbb1.size)
    have hownA := hown1'.below hb2
    have hrb2 := hown2.rb
    clear hown1' hown2 hb2 hbb1 x0 x1 x2 x3 x4 hh
    go_wp2_with (first
      | (with_reducible show wpList _ _ _ (⟨some 16, _, _, _, _, _⟩ :: _) _ _; go_loud (refine wpList_append_RB rfl (.tmp 12) (.tmp 15) 33 rfl w.heap.size 5 Try.underlying33 info8 v1 v2 uk un rfl rfl hownA hrb2 (by omega) hbb2.size ?_); intro v3 w3 hown3 hg3; have hbb3 := hbb2.grown hg3 hbb2.size hownA.row)
      | fail)
    go_ret
    exact ⟨_, rfl, by rw [he.out]; exact hown3, hbb3⟩

end Go.Proofs.Ytibbligidncocaa

namespace Go.Proofs.Ytibbligidncocaa
open Go.RowKit
open Go.Lib (uvarint zigzag)

/-! ### Numbers: what is read is written so. -/
theorem unzig_of (u : Nat) : zigzag (unzig u) = u := by
  unfold unzig zigzag
  split <;> split <;> omega

theorem getS_canon : ∀ (l : List UInt8) (k u : Nat) (n : Int) (m : Nat), k ≤ 9 → getS l k u = (n, m, 0) →
    ∃ x r, n = unzig (u + x * 128 ^ k) ∧ m = k + (uvarint x).length ∧ l = uvarint x ++ r ∧ (0 < k → 0 < x)
  | [], k, u, n, m, _, h => by simp [getS] at h
  | c :: r, k, u, n, m, hk, h => by
    rw [getS] at h
    have hc : c.toNat < 256 := c.toNat_lt
    split at h
    · simp at h
    · rename_i h9
      split at h
      · rename_i h128
        by_cases hk9 : k = 9
        · exact absurd ⟨hk9, by omega⟩ h9
        · obtain ⟨x, r', e1, e2, e3, e4⟩ := getS_canon r (k + 1) _ n m (by omega) h
          have hx := e4 (by omega)
          refine ⟨c.toNat % 128 + 128 * x, r', ?_, ?_, ?_, fun _ => by omega⟩
          · rw [e1, Nat.pow_succ]
            congr 1
            rw [Nat.add_mul, Nat.mul_assoc, Nat.mul_comm 128 (x * 128 ^ k), Nat.mul_assoc]
            omega
          · rw [Go.Lib.uvarint_big (by omega), e2, show (c.toNat % 128 + 128 * x) / 128 = x by omega, List.length_cons]
            omega
          · rw [Go.Lib.uvarint_big (by omega), show (c.toNat % 128 + 128 * x) / 128 = x by omega, show (c.toNat % 128 + 128 * x) % 128 + 128 = c.toNat by omega, e3]
            simp
      · split at h
        · simp at h
        · rename_i h1 h2
          simp only [Prod.mk.injEq, and_true] at h
          obtain ⟨rfl, rfl⟩ := h
          refine ⟨c.toNat, r, rfl, ?_, ?_, fun hk0 => by omega⟩
          · rw [Go.Lib.uvarint_small (by omega)]; simp
          · rw [Go.Lib.uvarint_small (by omega)]
            simp

theorem getB_canon {l : List UInt8} {n : Int} {m : Nat} (h : getB l = (n, m, 0)) : m = (uvarint (zigzag n)).length ∧ l = uvarint (zigzag n) ++ l.drop m := by
  obtain ⟨x, r, e1, e2, e3, -⟩ := getS_canon l 0 0 n m (by omega) h
  simp only [Nat.pow_zero, Nat.mul_one, Nat.zero_add] at e1 e2
  have hx : zigzag n = x := by rw [e1, unzig_of]
  rw [hx]
  refine ⟨e2, ?_⟩
  rw [e2]
  conv => rhs; rw [e3]
  simp [e3]

theorem textB_canon {l s : List UInt8} {m : Nat} (h : textB l = (s, m, 0)) : s.length ≤ 65536 ∧ l = putT s ++ l.drop m := by
  unfold textB at h
  split at h
  · rename_i h0
    simp only [Prod.mk.injEq] at h
    exact absurd h.2.2 h0
  · split at h
    · simp at h
    · split at h
      · simp at h
      · rename_i h0 h1 h2
        simp only [Prod.mk.injEq, and_true] at h
        obtain ⟨rfl, rfl⟩ := h
        have h0 : (getB l).2.2 = 0 := Classical.byContradiction fun hh => h0 hh
        rcases hr : getB l with ⟨n, k, e⟩
        rw [hr] at h0 h1 h2
        simp only [] at h0 h1 h2
        subst h0
        obtain ⟨-, e2⟩ := getB_canon hr
        have hsl : ((l.drop k).take n.toNat).length = n.toNat := by rw [List.length_take, List.length_drop]; omega
        refine ⟨by rw [hsl]; omega, ?_⟩
        unfold putT
        rw [hsl, show ((n.toNat : Nat) : Int) = n by omega, List.append_assoc, ← List.drop_drop, List.take_append_drop]
        exact e2

end Go.Proofs.Ytibbligidncocaa

namespace Go.Proofs.Ytibbligidncocaa
open Go.RowKit
open Go.Lib (uvarint zigzag)

/-- Key, Gone, Kind, N, S; how many bytes; the error. -/
abbrev RdT := (List UInt8 × Bool × Int × Int × List UInt8) × Nat × Int
def rdErr (e : Int) : RdT := (([], false, 0, 0, []), 0, e)
def readB (l : List UInt8) : RdT :=
  if (textB l).2.2 ≠ 0 then rdErr (textB l).2.2
  else if mayK (str (textB l).1) = false then rdErr 1
  else if (getB (l.drop (textB l).2.1)).2.2 ≠ 0 then rdErr (getB (l.drop (textB l).2.1)).2.2
  else if (getB (l.drop (textB l).2.1)).1 = 0 then (((textB l).1, true, 0, 0, []), (textB l).2.1 + (getB (l.drop (textB l).2.1)).2.1, 0)
  else if (valB (l.drop (textB l).2.1)).2.2 ≠ 0 then rdErr (valB (l.drop (textB l).2.1)).2.2
  else (((textB l).1, false, (valB (l.drop (textB l).2.1)).1), (textB l).2.1 + (valB (l.drop (textB l).2.1)).2.1, 0)

section
variable {l key : List UInt8} {p m q : Nat} {x e e2 e3 : Int} {v : Int × Int × List UInt8}
theorem readB_e1 (h : textB l = (key, p, e)) (he : e ≠ 0) : readB l = rdErr e := by
  unfold readB; rw [h]; simp [he]
theorem readB_e2 (h : textB l = (key, p, 0)) (hk : mayK (str key) = false) : readB l = rdErr 1 := by
  unfold readB; rw [h]; simp [hk]
theorem readB_e3 (h : textB l = (key, p, 0)) (hk : mayK (str key) = true) (g : getB (l.drop p) = (x, m, e2)) (he : e2 ≠ 0) : readB l = rdErr e2 := by
  unfold readB; rw [h]; simp only []; rw [g]; simp [hk, he]
theorem readB_gone (h : textB l = (key, p, 0)) (hk : mayK (str key) = true) (g : getB (l.drop p) = (0, m, 0)) : readB l = ((key, true, 0, 0, []), p + m, 0) := by
  unfold readB; rw [h]; simp only []; rw [g]; simp [hk]
theorem readB_e4 (h : textB l = (key, p, 0)) (hk : mayK (str key) = true) (g : getB (l.drop p) = (x, m, 0)) (hx : x ≠ 0) (u : valB (l.drop p) = (v, q, e3)) (he : e3 ≠ 0) : readB l = rdErr e3 := by
  unfold readB; rw [h]; simp only []; rw [g, u]; simp [hk, hx, he]
theorem readB_ok (h : textB l = (key, p, 0)) (hk : mayK (str key) = true) (g : getB (l.drop p) = (x, m, 0)) (hx : x ≠ 0) (u : valB (l.drop p) = (v, q, 0)) : readB l = ((key, false, v), p + q, 0) := by
  unfold readB; rw [h]; simp only []; rw [g, u]; simp [hk, hx]
end

theorem textB_fits (l : List UInt8) : (textB l).2.1 ≤ l.length ∧ (textB l).2.1 ≤ 70000 ∧ (textB l).1.length ≤ 65536 ∧ ((textB l).2.2 = 0 ∨ (textB l).2.2 = 1 ∨ (textB l).2.2 = 2) := by
  have hf := getB_fits l
  unfold textB
  split
  · exact ⟨by simp, by simp, by simp, hf.2.2.2.1⟩
  · split
    · simp
    · split
      · simp
      · rename_i c1 c2 c3
        simp only [not_or, Int.not_lt, Nat.not_lt] at c2 c3
        obtain ⟨c4, c5⟩ := c2
        have c6 : (getB l).1.toNat ≤ 65536 := by omega
        refine ⟨?_, ?_, ?_, .inl rfl⟩
        · show (getB l).2.1 + (getB l).1.toNat ≤ l.length; exact c3
        · show (getB l).2.1 + (getB l).1.toNat ≤ 70000; omega
        · show ((l.drop _).take _).length ≤ 65536; rw [List.length_take]; omega
theorem valB_fits (l : List UInt8) : (valB l).2.1 ≤ l.length ∧ (valB l).2.1 ≤ 70010 ∧ ((valB l).2.2 = 0 ∨ (valB l).2.2 = 1 ∨ (valB l).2.2 = 2) ∧ (valB l).1.2.2.length ≤ 65536 := by
  have hf := getB_fits l
  have hf2 := getB_fits (l.drop (getB l).2.1)
  have ht2 := textB_fits (l.drop (getB l).2.1)
  rw [List.length_drop] at hf2 ht2
  unfold valB
  split
  · split
    · split
      · simp; omega
      · simp; omega
    · split
      · split
        · split
          · simp; omega
          · simp
        · simp; omega
      · simp
  · simp; omega

theorem mayRec_key {key : ByteArray} {gone : Bool} {k n : Int} {s : ByteArray} (h : mayRec key gone k n s = true) : mayK key = true ∧ key.size ≤ 16 := by
  unfold mayRec at h
  rw [Bool.and_eq_true] at h
  have h1 := h.1
  unfold mayK at h1
  rw [Bool.and_eq_true, decide_eq_true_eq, decide_eq_true_eq] at h1
  exact ⟨h.1, h1.2⟩
theorem mayRec_gone {key : ByteArray} {k n : Int} {s : List UInt8} (h : mayRec key true k n (str s) = true) : k = 0 ∧ n = 0 ∧ s = [] := by
  unfold mayRec at h
  rw [Bool.and_eq_true] at h
  have h1 := h.2
  simp only [if_true] at h1
  rw [Bool.and_eq_true, Bool.and_eq_true, beq_iff_eq, beq_iff_eq, ByteArray.toList_eq, List.isEmpty_iff] at h1
  exact ⟨h1.1.1, h1.1.2, by simpa [str] using h1.2⟩
theorem mayRec_val {key : ByteArray} {k n : Int} {s : ByteArray} (h : mayRec key false k n s = true) : mayR k n s = true := by
  unfold mayRec at h
  rw [Bool.and_eq_true] at h
  simpa using h.2

/-- What was written is told again. -/
theorem readB_put (key : List UInt8) (gone : Bool) (k n : Int) (s r : List UInt8) (h : mayRec (str key) gone k n (str s) = true) (h0 : -9223372036854775808 ≤ n) (h1 : n ≤ 9223372036854775807) : readB (recB key gone k n s ++ r) = ((key, gone, k, n, s), (recB key gone k n s).length, 0) := by
  obtain ⟨hk, hk16⟩ := mayRec_key h
  rw [str_size] at hk16
  cases gone with
  | true =>
    obtain ⟨rfl, rfl, rfl⟩ := mayRec_gone h
    have e1 : recB key true 0 0 [] = putT key ++ uvarint (zigzag 0) := rfl
    have t1 := textB_put key (uvarint (zigzag 0) ++ r) (by omega)
    have g1 := getB_put 0 (by omega) (by omega) r
    rw [e1, List.append_assoc, readB_gone t1 hk (m := (uvarint (zigzag 0)).length) (by rw [List.drop_left]; exact g1), List.length_append]
  | false =>
    have hv := mayRec_val h
    have e1 : recB key false k n s = putT key ++ putV k n s := rfl
    have t1 := textB_put key (putV k n s ++ r) (by omega)
    have v1 := valB_put k n s r hv h0 h1
    have hkk : k = 1 ∨ k = 2 := by
      rcases mayR_cases hv with ⟨h, -⟩ | ⟨h, -⟩
      · exact .inl h
      · exact .inr h
    obtain ⟨rest, hr⟩ : ∃ rest, putV k n s ++ r = uvarint (zigzag k) ++ rest := ⟨_, by unfold putV; rw [List.append_assoc]⟩
    have g1 := getB_put k (by omega) (by omega) rest
    rw [← hr] at g1
    rw [e1, List.append_assoc, readB_ok t1 hk (by rw [List.drop_left]; exact g1) (by omega) (by rw [List.drop_left]; exact v1), List.length_append]

theorem recB_inj {key1 : List UInt8} {gone1 : Bool} {k1 n1 : Int} {s1 key2 : List UInt8} {gone2 : Bool} {k2 n2 : Int} {s2 : List UInt8} (h : mayRec (str key1) gone1 k1 n1 (str s1) = true) (h0 : -9223372036854775808 ≤ n1) (h1 : n1 ≤ 9223372036854775807)
    (g : mayRec (str key2) gone2 k2 n2 (str s2) = true) (g0 : -9223372036854775808 ≤ n2) (g1 : n2 ≤ 9223372036854775807) (he : recB key1 gone1 k1 n1 s1 = recB key2 gone2 k2 n2 s2) : (key1, gone1, k1, n1, s1) = (key2, gone2, k2, n2, s2) := by
  have a := readB_put key1 gone1 k1 n1 s1 [] h h0 h1
  have b := readB_put key2 gone2 k2 n2 s2 [] g g0 g1
  rw [he, b] at a
  exact (Prod.mk.inj a).1.symm
theorem putV_len {k n : Int} {s : List UInt8} (h : mayR k n (str s) = true) (h0 : -9223372036854775808 ≤ n) (h1 : n ≤ 9223372036854775807) : 2 ≤ (putV k n s).length ∧ (putV k n s).length ≤ 100 := by
  rcases mayR_cases h with ⟨rfl, rfl⟩ | ⟨rfl, rfl, hs⟩
  · have e1 := Go.Lib.uvarint_length64 (Go.Lib.zigzag_lt (x := 1) (by omega) (by omega))
    have e2 := Go.Lib.uvarint_length64 (Go.Lib.zigzag_lt h0 h1)
    have p1 := Go.Lib.uvarint_pos (zigzag 1)
    have p2 := Go.Lib.uvarint_pos (zigzag n)
    unfold putV
    rw [if_pos rfl, List.length_append]
    omega
  · have e1 := Go.Lib.uvarint_length64 (Go.Lib.zigzag_lt (x := 2) (by omega) (by omega))
    have e2 := Go.Lib.uvarint_length64 (Go.Lib.zigzag_lt (x := (s.length : Int)) (by omega) (by omega))
    have p1 := Go.Lib.uvarint_pos (zigzag 2)
    have p2 := Go.Lib.uvarint_pos (zigzag s.length)
    unfold putV putT
    rw [if_neg (by omega), List.length_append, List.length_append]
    omega
theorem recB_len {key : List UInt8} {gone : Bool} {k n : Int} {s : List UInt8} (h : mayRec (str key) gone k n (str s) = true) (h0 : -9223372036854775808 ≤ n) (h1 : n ≤ 9223372036854775807) : 2 ≤ (recB key gone k n s).length ∧ (recB key gone k n s).length ≤ 200 := by
  obtain ⟨hk, hk16⟩ := mayRec_key h
  rw [str_size] at hk16
  have e2 := Go.Lib.uvarint_length64 (Go.Lib.zigzag_lt (x := (key.length : Int)) (by omega) (by omega))
  have p2 := Go.Lib.uvarint_pos (zigzag key.length)
  unfold recB putT
  rw [List.length_append, List.length_append]
  cases gone with
  | true =>
    have e3 := Go.Lib.uvarint_length64 (Go.Lib.zigzag_lt (x := 0) (by omega) (by omega))
    have p3 := Go.Lib.uvarint_pos (zigzag 0)
    simp only [if_true]
    omega
  | false =>
    have := putV_len (mayRec_val h) h0 h1
    simp only [Bool.false_eq_true, if_false]
    omega
theorem gone_less {key : List UInt8} {k n : Int} {s : List UInt8} (h : mayRec (str key) false k n (str s) = true) (h0 : -9223372036854775808 ≤ n) (h1 : n ≤ 9223372036854775807) : (recB key true 0 0 []).length < (recB key false k n s).length := by
  have hv := putV_len (mayRec_val h) h0 h1
  have e3 := Go.Lib.uvarint_length 0 (zigzag 0) (by simp [zigzag])
  unfold recB
  rw [List.length_append, List.length_append]
  simp only [if_true, Bool.false_eq_true, if_false]
  omega

end Go.Proofs.Ytibbligidncocaa
