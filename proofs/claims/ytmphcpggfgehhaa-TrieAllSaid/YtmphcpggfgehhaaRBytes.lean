/-
  The reference's Bytes.
-/
import Derived.Test.YtmphcpggfgehhaaRPut
namespace Go.Proofs.Ytmphcpggfgehhaa
open Go.RowKit

/-- The first i bits, noughts behind. -/
def upto (l : List Bool) (i : Nat) : List Bool := l.take i ++ List.replicate (l.length - i) false
theorem upto_length (l : List Bool) (i : Nat) (h : i ≤ l.length) : (upto l i).length = l.length := by unfold upto; simp; omega
theorem upto_zero (l : List Bool) : pack (upto l 0) = List.replicate ((l.length + 7) / 8) 0 := by
  refine bytes_ext (by rw [pack_length, upto_length l 0 (by omega), List.length_replicate]) fun i hi => ?_
  rw [bitAt_pack]
  have h1 : (upto l 0).getD i false = false := by
    unfold upto
    rw [List.take_zero, List.nil_append, List.getD_eq_getElem?_getD]
    rw [List.getElem?_replicate]
    split <;> rfl
  rw [h1]
  unfold bitAt
  rw [List.getD_eq_getElem?_getD, List.getElem?_replicate]
  split
  · show false = bit 0 _
    simp [bit]
  · show false = bit 0 _
    simp [bit]
theorem upto_all (l : List Bool) : upto l l.length = l := by unfold upto; simp
theorem upto_getD (l : List Bool) (i j : Nat) : (upto l i).getD j false = if j < i then l.getD j false else false := by
  unfold upto
  rw [List.getD_eq_getElem?_getD, List.getElem?_append, List.length_take]
  by_cases h1 : j < i
  · rw [if_pos h1]
    by_cases h2 : j < l.length
    · rw [if_pos (by omega), List.getElem?_take, if_pos h1, List.getD_eq_getElem?_getD]
    · rw [if_neg (by omega), List.getElem?_replicate, if_neg (by omega), List.getD_eq_getElem?_getD, List.getElem?_eq_none (by omega)]
  · rw [if_neg h1]
    split
    · omega
    · rw [List.getElem?_replicate]
      split <;> rfl
theorem getD_set_self (p : List UInt8) (k : Nat) (c : UInt8) (h : k < p.length) : (p.set k c).getD k 0 = c := by
  rw [List.getD_eq_getElem?_getD, List.getElem?_set_self h, Option.getD_some]
theorem getD_set_ne (p : List UInt8) (k j : Nat) (c : UInt8) (h : k ≠ j) : (p.set k c).getD j 0 = p.getD j 0 := by
  rw [List.getD_eq_getElem?_getD, List.getElem?_set_ne h, ← List.getD_eq_getElem?_getD]
/-- One bit more. -/
theorem upto_succ (l : List Bool) (i : Nat) (h : i < l.length) : pack (upto l (i + 1)) = if l[i] then (pack (upto l i)).set (i / 8) (UInt8.ofNat (((pack (upto l i)).getD (i / 8) 0).toNat ||| 128 / 2 ^ (i % 8))) else pack (upto l i) := by
  have h128 : ∀ o : UInt8, o.toNat ||| 128 / 2 ^ (i % 8) < 256 := fun o => by
    have h1 := Nat.div_le_self 128 (2 ^ (i % 8))
    exact Nat.or_lt_two_pow (n := 8) (UInt8.toNat_lt o) (by omega)
  have hbit : ∀ j, j < 8 → (128 / 2 ^ (i % 8)).testBit (7 - j) = decide (j = i % 8) := by
    intro j hj
    rw [Nat.testBit_div_two_pow, show 128 = 2 ^ 7 from rfl, Nat.testBit_two_pow]
    congr 1
    apply propext
    omega
  cases hb : l[i] with
  | false =>
    rw [if_neg (by simp)]
    refine bytes_ext (by rw [pack_length, pack_length, upto_length _ _ (by omega), upto_length _ _ (by omega)]) fun j hj => ?_
    rw [bitAt_pack, bitAt_pack, upto_getD, upto_getD]
    by_cases h1 : j < i
    · rw [if_pos h1, if_pos (by omega)]
    · rw [if_neg h1]
      split
      · obtain rfl : j = i := by omega
        rw [List.getD_eq_getElem?_getD, List.getElem?_eq_getElem h]
        exact hb
      · rfl
  | true =>
    rw [if_pos rfl]
    have hk : i / 8 < (pack (upto l i)).length := by rw [pack_length, upto_length _ _ (by omega)]; omega
    refine bytes_ext (by rw [List.length_set, pack_length, pack_length, upto_length _ _ (by omega), upto_length _ _ (by omega)]) fun j hj => ?_
    rw [bitAt_pack, upto_getD]
    have hold := bitAt_pack (upto l i) j
    rw [upto_getD] at hold
    unfold bitAt at hold ⊢
    by_cases hjk : j / 8 = i / 8
    · rw [hjk, getD_set_self _ _ _ hk, ofNat_val _ (h128 _), bit_test, Nat.testBit_or, hbit _ (by omega), ← bit_test]
      rw [hjk] at hold
      rw [hold]
      by_cases h1 : j < i
      · rw [if_pos h1, if_pos (by omega)]
        have h2 : ¬ j % 8 = i % 8 := by omega
        rw [decide_eq_false h2, Bool.or_false]
      · rw [if_neg h1, Bool.false_or]
        by_cases h2 : j = i
        · subst h2
          rw [if_pos (by omega), decide_eq_true rfl, List.getD_eq_getElem?_getD, List.getElem?_eq_getElem h]
          exact hb
        · rw [if_neg (by omega), decide_eq_false (by omega)]
    · rw [getD_set_ne _ _ _ _ (by omega), hold]
      by_cases h1 : j < i
      · rw [if_pos h1, if_pos (by omega)]
      · rw [if_neg h1, if_neg (by omega)]

set_option maxHeartbeats 400000 in
set_option maxRecDepth 100000 in
theorem rbitbytes_c (v : Value) (l : List Bool) (w : World) (h : RV w v (zb l)) (hl : l.length ≤ 1000000) :
    Calls Try.prog 23 #[v] w fun e w' => ∃ v', e = .returned v' ∧ Own 5 w' w.heap.size v' (pack l) ∧ Below w.heap.size w w' := by
  obtain ⟨ad, cap, rfl, -, -⟩ := h.zbForm
  have H := Go.Lib.hid h
  have hq : ((l.length : Int) + 7) / 8 = (((l.length + 7) / 8 : Nat) : Int) := by omega
  have Hq := Go.Lib.hid hq
  have hm : (l.length + 7) / 8 ≤ 140737488355328 := by omega
  clear h hq
  go_enter Try.func23, Try.ntmps23
  go_wp2_with (first
    | (with_reducible show wpList _ _ _ (⟨some 9, _, _, _, _, _⟩ :: _) _ _; go_must (refine wpList_make_len rfl (.tmp 8) (.tmp 8) 46 rfl 5 Try.underlying46 info8 .i64 .i64 _ _ ((l.length + 7) / 8) ((l.length + 7) / 8) rfl rfl Hq.out Hq.out (Nat.le_refl _) hm ?_); go_must (intro v2 w2 ho2 hg2; have hb2 := grown_below hg2 (Nat.le_refl _) (by simp); rw [← upto_zero] at ho2; clear hg2))
    | fail)
  go_loopw [4] (fun i wr => ∃ k : Nat, k ≤ l.length ∧ i = .int .i64 (k : Int) ∧ Own 5 wr w.heap.size v2 (pack (upto l k)) ∧ Below w.heap.size w wr) (fun i _ => l.length - (intOf i).toNat)
  case atStart => exact ⟨0, by omega, rfl, ho2, hb2⟩
  case round =>
    obtain ⟨k, hk, rfl, hown, hb⟩ := hrel
    clear ho2 hb2
    by_cases hlt : k < l.length
    · obtain ⟨b, o, rfl, hc, hbl⟩ := H.out.zbAt k hlt
      have hd := (hb.cell (p := ⟨b, o + k, none⟩) hbl).trans hc
      have hs := upto_succ l k hlt
      cases hb1 : l[k] with
      | false =>
        rw [hb1] at hd hs
        rw [if_neg (by simp)] at hs
        rw [← hs] at hown
        clear hc hs hb1
        go_wp2_with fail
        go_roundw
        case rel => exact ⟨k + 1, by omega, by go_num, hown, hb⟩
        case measure => simp only [intOf]; omega
      | true =>
        rw [hb1] at hd hs
        rw [if_pos rfl] at hs
        have hpk : k / 8 < (pack (upto l k)).length := by rw [pack_length, upto_length _ _ (by omega)]; omega
        obtain ⟨g, cap2, rfl, hg1, hg2, hg3, hg4, -⟩ := hown.form (by omega)
        have hcell := hown.cell (k / 8) hpk
        have hfr := hown.frozenAt (k / 8)
        have e1 : (pack (upto l k))[k / 8] = (pack (upto l k)).getD (k / 8) 0 := by rw [List.getD_eq_getElem?_getD, List.getElem?_eq_getElem hpk]; rfl
        rw [e1] at hcell
        have h128 : 128 / 2 ^ (k % 8) < 256 := by have := Nat.div_le_self 128 (2 ^ (k % 8)); omega
        have hor := u8_or_nat ((pack (upto l k)).getD (k / 8) 0).toNat (128 / 2 ^ (k % 8)) (UInt8.toNat_lt _) h128
        have hst := hown.store (k / 8) (UInt8.ofNat (((pack (upto l k)).getD (k / 8) 0).toNat ||| 128 / 2 ^ (k % 8))) _ rfl
        rw [← hs, ofNat_val _ (Nat.or_lt_two_pow (n := 8) (UInt8.toNat_lt _) (by omega))] at hst
        have Hst := Go.Lib.hid hst
        clear hst hs hc hb1 e1 hown
        generalize ((pack (upto l k)).getD (k / 8) 0).toNat = q at *
        rw [show ((128 / 2 ^ (k % 8) : Nat) : Int) = (128 : Int) / 2 ^ (k % 8) from by simp] at hor
        obtain ⟨r, hr⟩ : ∃ r, r = q ||| 128 / 2 ^ (k % 8) := ⟨_, rfl⟩
        rw [← hr] at hor Hst
        have hlen : (pack (upto l k)).length = (l.length + 7) / 8 := by rw [pack_length, upto_length _ _ (by omega)]
        rw [hlen] at hpk hg3 Hst ⊢
        clear hr hlen
        go_wp2_with fail
        go_roundw
        case rel => exact ⟨k + 1, by omega, by go_num, Hst.out, hb.setCell (p := ⟨g, k / 8, none⟩) hg1 _⟩
        case measure => simp only [intOf]; omega
    · obtain rfl : k = l.length := by omega
      rw [upto_all] at hown
      obtain ⟨a2, c2, rfl, -⟩ := id hown.rb
      go_wp2_with fail
      go_ret
      exact ⟨_, rfl, hown, hb⟩

end Go.Proofs.Ytmphcpggfgehhaa
