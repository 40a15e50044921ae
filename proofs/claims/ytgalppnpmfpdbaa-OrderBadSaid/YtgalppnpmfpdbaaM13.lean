/-
  The reference's bits: PutNum.
  The reference's Bytes.
  What lies apart: rows of other types, a *bits.Bits, slices that came in.
  Stage 19: the reference's TableBytes.
  Stage 19: the law's Of, Back: a table as the program has it, as the document has it.
  Stage 19: the law's eq, at tables that are the same.
  Records that were cut; the reference's May of one.
  Stage 19, mathematics: records laid into a table by turns.
-/
import Derived.Test.YtgalppnpmfpdbaaM12
import Derived.Deep.DeepMust
import Derived.Test.YtgalppnpmfpdbaaM10
import Derived.Test.YtgalppnpmfpdbaaM01
import Derived.Test.YtgalppnpmfpdbaaM08
import Derived.Test.YtgalppnpmfpdbaaM11
import Derived.Test.YtgalppnpmfpdbaaM07
import Derived.Test.YtgalppnpmfpdbaaM06
import Derived.Test.YtgalppnpmfpdbaaM09
namespace Go.Proofs.Ytgalppnpmfpdbaa
open Go.RowKit

theorem and_one (x i : Nat) (hx : x < 18446744073709551616) : (bits .and .u64 ((x / 2 ^ i : Nat) : Int) 1 == 1) = bit x i := by
  have h1 : x / 2 ^ i < 18446744073709551616 := Nat.lt_of_le_of_lt (Nat.div_le_self _ _) hx
  have h2 := u64_and_nat (x / 2 ^ i) 1 h1 (by omega)
  rw [show ((1 : Nat) : Int) = 1 from rfl] at h2
  rw [h2, Nat.and_one_is_mod]
  unfold bit
  rcases Nat.mod_two_eq_zero_or_one (x / 2 ^ i) with h | h <;> rw [h] <;> rfl

end Go.Proofs.Ytgalppnpmfpdbaa

namespace Go.Proofs.Ytgalppnpmfpdbaa
open Go.RowKit

/-- The first i bits, noughts behind. -/
def upto (l : List Bool) (i : Nat) : List Bool := l.take i ++ List.replicate (l.length - i) false
theorem upto_length (l : List Bool) (i : Nat) (h : i ≤ l.length) : (upto l i).length = l.length := by unfold upto; simp; omega
theorem upto_zero (l : List Bool) : pack (upto l 0) = List.replicate ((l.length + 7) / 8) 0 := by
  refine bytes_ext (by rw [pack_length, upto_length l 0 (by omega), List.length_replicate]) fun i hi => ?_
  rw [bitAt_pack]
  have h1 : (upto l 0).getD i false = false := by
    unfold upto
    rw [List.take_zero, List.nil_append, List.getD_eq_getElem?_getD]
    rw [List.getElem?_replicate]
    split <;> rfl
  rw [h1]
  unfold bitAt
  rw [List.getD_eq_getElem?_getD, List.getElem?_replicate]
  split
  · show false = bit 0 _
    simp [bit]
  · show false = bit 0 _
    simp [bit]
theorem upto_all (l : List Bool) : upto l l.length = l := by unfold upto; simp
theorem upto_getD (l : List Bool) (i j : Nat) : (upto l i).getD j false = if j < i then l.getD j false else false := by
  unfold upto
  rw [List.getD_eq_getElem?_getD, List.getElem?_append, List.length_take]
  by_cases h1 : j < i
  · rw [if_pos h1]
    by_cases h2 : j < l.length
    · rw [if_pos (by omega), List.getElem?_take, if_pos h1, List.getD_eq_getElem?_getD]
    · rw [if_neg (by omega), List.getElem?_replicate, if_neg (by omega), List.getD_eq_getElem?_getD, List.getElem?_eq_none (by omega)]
  · rw [if_neg h1]
    split
    · omega
    · rw [List.getElem?_replicate]
      split <;> rfl
theorem getD_set_self (p : List UInt8) (k : Nat) (c : UInt8) (h : k < p.length) : (p.set k c).getD k 0 = c := by
  rw [List.getD_eq_getElem?_getD, List.getElem?_set_self h, Option.getD_some]
theorem getD_set_ne (p : List UInt8) (k j : Nat) (c : UInt8) (h : k ≠ j) : (p.set k c).getD j 0 = p.getD j 0 := by
  rw [List.getD_eq_getElem?_getD, List.getElem?_set_ne h, ← List.getD_eq_getElem?_getD]
/-- One bit more. -/
theorem upto_succ (l : List Bool) (i : Nat) (h : i < l.length) : pack (upto l (i + 1)) = if l[i] then (pack (upto l i)).set (i / 8) (UInt8.ofNat (((pack (upto l i)).getD (i / 8) 0).toNat ||| 128 / 2 ^ (i % 8))) else pack (upto l i) := by
  have h128 : ∀ o : UInt8, o.toNat ||| 128 / 2 ^ (i % 8) < 256 := fun o => by
    have h1 := Nat.div_le_self 128 (2 ^ (i % 8))
    exact Nat.or_lt_two_pow (n := 8) (UInt8.toNat_lt o) (by omega)
  have hbit : ∀ j, j < 8 → (128 / 2 ^ (i % 8)).testBit (7 - j) = decide (j = i % 8) := by
    intro j hj
    rw [Nat.testBit_div_two_pow, show 128 = 2 ^ 7 from rfl, Nat.testBit_two_pow]
    congr 1
    apply propext
    omega
  cases hb : l[i] with
  | false =>
    rw [if_neg (by simp)]
    refine bytes_ext (by rw [pack_length, pack_length, upto_length _ _ (by omega), upto_length _ _ (by omega)]) fun j hj => ?_
    rw [bitAt_pack, bitAt_pack, upto_getD, upto_getD]
    by_cases h1 : j < i
    · rw [if_pos h1, if_pos (by omega)]
    · rw [if_neg h1]
      split
      · obtain rfl : j = i := by omega
        rw [List.getD_eq_getElem?_getD, List.getElem?_eq_getElem h]
        exact hb
      · rfl
  | true =>
    rw [if_pos rfl]
    have hk : i / 8 < (pack (upto l i)).length := by rw [pack_length, upto_length _ _ (by omega)]; omega
    refine bytes_ext (by rw [List.length_set, pack_length, pack_length, upto_length _ _ (by omega), upto_length _ _ (by omega)]) fun j hj => ?_
    rw [bitAt_pack, upto_getD]
    have hold := bitAt_pack (upto l i) j
    rw [upto_getD] at hold
    unfold bitAt at hold ⊢
    by_cases hjk : j / 8 = i / 8
    · rw [hjk, getD_set_self _ _ _ hk, ofNat_val _ (h128 _), bit_test, Nat.testBit_or, hbit _ (by omega), ← bit_test]
      rw [hjk] at hold
      rw [hold]
      by_cases h1 : j < i
      · rw [if_pos h1, if_pos (by omega)]
        have h2 : ¬ j % 8 = i % 8 := by omega
        rw [decide_eq_false h2, Bool.or_false]
      · rw [if_neg h1, Bool.false_or]
        by_cases h2 : j = i
        · subst h2
          rw [if_pos (by omega), decide_eq_true rfl, List.getD_eq_getElem?_getD, List.getElem?_eq_getElem h]
          exact hb
        · rw [if_neg (by omega), decide_eq_false (by omega)]
    · rw [getD_set_ne _ _ _ _ (by omega), hold]
      by_cases h1 : j < i
      · rw [if_pos h1, if_pos (by omega)]
      · rw [if_neg h1, if_neg (by omega)]

set_option maxHeartbeats 400000 in
set_option maxRecDepth 100000 in
theorem rbitbytes_c (v : Value) (l : List Bool) (w : World) (h : RV w v (zb l)) (hl : l.length ≤ 1000000) :
    Calls Try.prog 39 #[v] w fun e w' => ∃ v', e = .returned v' ∧ Own 5 w' w.heap.size v' (pack l) ∧ Below w.heap.size w w' := by
  obtain ⟨ad, cap, rfl, -, -⟩ := h.zbForm
  have H := Go.Lib.hid h
  have hq : ((l.length : Int) + 7) / 8 = (((l.length + 7) / 8 : Nat) : Int) := by omega
  have Hq := Go.Lib.hid hq
  have hm : (l.length + 7) / 8 ≤ 140737488355328 := by omega
  clear h hq
  go_enter Try.func39, Try.ntmps39
  go_wp2_with (first
    | (with_reducible show wpList _ _ _ (⟨some 9, _, _, _, _, _⟩ :: _) _ _; go_must (refine wpList_make_len rfl (.tmp 8) (.tmp 8) 40 rfl 5 Try.underlying40 info8 .i64 .i64 _ _ ((l.length + 7) / 8) ((l.length + 7) / 8) rfl rfl Hq.out Hq.out (Nat.le_refl _) hm ?_); go_must (intro v2 w2 ho2 hg2; have hb2 := grown_below hg2 (Nat.le_refl _) (by simp); rw [← upto_zero] at ho2; clear hg2))
    | fail)
  go_loopw [4] (fun i wr => ∃ k : Nat, k ≤ l.length ∧ i = .int .i64 (k : Int) ∧ Own 5 wr w.heap.size v2 (pack (upto l k)) ∧ Below w.heap.size w wr) (fun i _ => l.length - (intOf i).toNat)
  case atStart => exact ⟨0, by omega, rfl, ho2, hb2⟩
  case round =>
    obtain ⟨k, hk, rfl, hown, hb⟩ := hrel
    clear ho2 hb2
    by_cases hlt : k < l.length
    · obtain ⟨b, o, rfl, hc, hbl⟩ := H.out.zbAt k hlt
      have hd := (hb.cell (p := ⟨b, o + k, none⟩) hbl).trans hc
      have hs := upto_succ l k hlt
      cases hb1 : l[k] with
      | false =>
        rw [hb1] at hd hs
        rw [if_neg (by simp)] at hs
        rw [← hs] at hown
        clear hc hs hb1
        go_wp2_with fail
        go_roundw
        case rel => exact ⟨k + 1, by omega, by go_num, hown, hb⟩
        case measure => simp only [intOf]; omega
      | true =>
        rw [hb1] at hd hs
        rw [if_pos rfl] at hs
        have hpk : k / 8 < (pack (upto l k)).length := by rw [pack_length, upto_length _ _ (by omega)]; omega
        obtain ⟨g, cap2, rfl, hg1, hg2, hg3, hg4, -⟩ := hown.form (by omega)
        have hcell := hown.cell (k / 8) hpk
        have hfr := hown.frozenAt (k / 8)
        have e1 : (pack (upto l k))[k / 8] = (pack (upto l k)).getD (k / 8) 0 := by rw [List.getD_eq_getElem?_getD, List.getElem?_eq_getElem hpk]; rfl
        rw [e1] at hcell
        have h128 : 128 / 2 ^ (k % 8) < 256 := by have := Nat.div_le_self 128 (2 ^ (k % 8)); omega
        have hor := u8_or_nat ((pack (upto l k)).getD (k / 8) 0).toNat (128 / 2 ^ (k % 8)) (UInt8.toNat_lt _) h128
        have hst := hown.store (k / 8) (UInt8.ofNat (((pack (upto l k)).getD (k / 8) 0).toNat ||| 128 / 2 ^ (k % 8))) _ rfl
        rw [← hs, ofNat_val _ (Nat.or_lt_two_pow (n := 8) (UInt8.toNat_lt _) (by omega))] at hst
        have Hst := Go.Lib.hid hst
        clear hst hs hc hb1 e1 hown
        generalize ((pack (upto l k)).getD (k / 8) 0).toNat = q at *
        rw [show ((128 / 2 ^ (k % 8) : Nat) : Int) = (128 : Int) / 2 ^ (k % 8) from by simp] at hor
        obtain ⟨r, hr⟩ : ∃ r, r = q ||| 128 / 2 ^ (k % 8) := ⟨_, rfl⟩
        rw [← hr] at hor Hst
        have hlen : (pack (upto l k)).length = (l.length + 7) / 8 := by rw [pack_length, upto_length _ _ (by omega)]
        rw [hlen] at hpk hg3 Hst ⊢
        clear hr hlen
        go_wp2_with fail
        go_roundw
        case rel => exact ⟨k + 1, by omega, by go_num, Hst.out, hb.setCell (p := ⟨g, k / 8, none⟩) hg1 _⟩
        case measure => simp only [intOf]; omega
    · obtain rfl : k = l.length := by omega
      rw [upto_all] at hown
      obtain ⟨a2, c2, rfl, -⟩ := id hown.rb
      go_wp2_with fail
      go_ret
      exact ⟨_, rfl, hown, hb⟩

end Go.Proofs.Ytgalppnpmfpdbaa

namespace Go.Proofs.Ytgalppnpmfpdbaa
open Go.RowKit

theorem rows_ne {w : World} {B1 B2 : Nat} {e1 e2 : TypeId} {s1 s2 n1 n2 : Nat} {v1 v2 : Value} {xs1 xs2 : List Value} (h1 : w.ownsRow B1 e1 s1 v1 n1 xs1) (h2 : w.ownsRow B2 e2 s2 v2 n2 xs2) (hne : e1 ≠ e2) : v1.ownBlock = none ∨ v1.ownBlock ≠ v2.ownBlock := by
  rcases h1.2 with ⟨rfl, -⟩ | ⟨b, cap, cur, rfl, -, hg, -⟩
  · exact .inl rfl
  · refine .inr fun e => ?_
    rcases h2.2 with ⟨rfl, -⟩ | ⟨b', cap', cur', rfl, -, hg', -⟩
    · cases e
    · simp only [Value.ownBlock, Option.some.injEq] at e
      subst e
      rw [hg] at hg'
      simp only [Option.some.injEq, Obj.cells.injEq] at hg'
      exact absurd hg'.2.1 hne
theorem row_not {e t : TypeId} {w : World} {B b s n : Nat} {v : Value} {xs : List Value} {cs : Array Value} (h : w.ownsRow B e s v n xs) (hb : w.heap[b]? = some (.cells cs t)) (hne : e ≠ t) : v.ownBlock ≠ some b := by
  intro hv
  rcases h.2 with ⟨rfl, -⟩ | ⟨g, cap, cur, rfl, -, hg, -⟩
  · cases hv
  · simp only [Value.ownBlock, Option.some.injEq] at hv
    subst hv
    rw [hb] at hg
    simp only [Option.some.injEq, Obj.cells.injEq] at hg
    exact hne hg.2.1.symm

section
variable {w w' : World} {B B' b n : Nat} {u v : Value} {p : List UInt8} {e : TypeId} {xs : List Value}
/-- A row of another type stays while a *bits.Bits is written to. -/
theorem OwnV.two (h : OwnV e w B v xs) (hb : BB w B' b u p n) (he1 : e ≠ 5) (he2 : e ≠ 69) (hk : Two b u.ownBlock w w') : OwnV e w' B v xs := by
  have h1 := row_not h hb.blk he2
  have h2 := rows_ne h hb.row he1
  refine ⟨h.1, ?_⟩
  rcases h.2 with h' | ⟨g, cap, cur, e1, hB, e2, e3⟩
  · exact .inl h'
  · subst e1
    refine .inr ⟨g, cap, cur, rfl, hB, (hk.block g (Array.getElem?_eq_some_iff.1 e2).1 (fun e' => h1 (by rw [← e']; rfl)) ?_).trans e2, e3⟩
    rcases h2 with h2 | h2
    · cases h2
    · exact h2
/-- A *bits.Bits stays while a row of another type grows. -/
theorem BB.kept (h : BB w B b u p n) (hv : OwnV e w B' v xs) (he1 : e ≠ 5) (he2 : e ≠ 69) (hg : w.grownBy w' v.ownBlock) : BB w' B b u p n := by
  have h1 := row_not hv h.blk he2
  exact ⟨(hg.block b h.lt h1.symm).trans h.blk, h.row.kept hg (rows_ne h.row hv he1.symm), h.low⟩
/-- A row stays while another one of another type grows. -/
theorem OwnV.apart {e2 : TypeId} {v2 : Value} {ys : List Value} (h : OwnV e w B v xs) (h2 : OwnV e2 w B' v2 ys) (hne : e ≠ e2) (hg : w.grownBy w' v2.ownBlock) : OwnV e w' B v xs := OwnV.kept h hg (rows_ne h h2 hne)
end

/-- A slice of whole numbers that came in. -/
theorem rv_of_row {k : IntKind} {w : World} {a : Option Addr} {len cap : Nat} {zs : List Int} (h : (a = none ∧ len = 0 ∧ cap = 0 ∧ zs = []) ∨
    ∃ x, a = some x ∧ len ≤ cap ∧ cap ≤ maxLen ∧ zs.length = cap ∧ (∀ i, i < zs.length → w.cell? (x.add i) = some (.int k (zs.getD i 0))) ∧ ∀ n ∈ zs, (Lit.int k n).wf = true) :
    ∃ Z : List Int, Z.length = len ∧ RV w (.slice a len cap) (Z.map (Value.int k)) ∧ len ≤ 9223372036854775807 ∧ ∀ z ∈ Z, (Lit.int k z).wf = true := by
  rcases h with ⟨rfl, rfl, rfl, rfl⟩ | ⟨x, rfl, hl, hmx, hz, hc, hw⟩
  · exact ⟨[], rfl, ⟨none, 0, rfl, Nat.le_refl _, by simp [maxLen], fun _ => rfl, fun h => absurd rfl h⟩, by omega, by simp⟩
  · have hlen : (zs.take len).length = len := by rw [List.length_take]; omega
    refine ⟨zs.take len, hlen, ⟨some x, cap, by rw [List.length_map, hlen], by rw [List.length_map, hlen]; exact hl, hmx, (fun h => by cases h), fun hne => ?_⟩, by unfold maxLen at hmx; omega, fun z hz => hw z (List.mem_of_mem_take hz)⟩
    have hpos : 0 < len := by
      rcases Nat.eq_zero_or_pos len with h0 | h0
      · subst h0; simp at hne
      · exact h0
    obtain ⟨b, o, spot⟩ := x
    have hspot : spot = none := by simpa [Addr.add] using World.cell?_spot (hc 0 (by omega))
    subst hspot
    refine ⟨b, o, rfl, fun i hi => ?_⟩
    rw [List.length_map, hlen] at hi
    have h1 := hc i (by omega)
    have hadd : (⟨b, o, none⟩ : Addr).add i = ⟨b, o + i, none⟩ := by unfold Addr.add; split <;> simp_all
    rw [hadd] at h1
    rw [h1]
    have hi' : i < zs.length := by omega
    simp [List.getD_eq_getElem?_getD, List.getElem?_eq_getElem hi']

end Go.Proofs.Ytgalppnpmfpdbaa

namespace Go.Proofs.Ytgalppnpmfpdbaa
open Go.RowKit

section
variable {α : Type} {l : List α}
theorem tlen0 (h : l.length = 0) : l = [] := List.eq_nil_of_length_eq_zero h
theorem tlen1 (h : l.length = 1) : ∃ a, l = [a] := by match l, h with | [a], _ => exact ⟨a, rfl⟩
theorem tlen2 (h : l.length = 2) : ∃ a b, l = [a, b] := by match l, h with | [a, b], _ => exact ⟨a, b, rfl⟩
theorem tlen3 (h : l.length = 3) : ∃ a b c, l = [a, b, c] := by match l, h with | [a, b, c], _ => exact ⟨a, b, c, rfl⟩
theorem tlen4 (h : l.length = 4) : ∃ a b c d, l = [a, b, c, d] := by match l, h with | [a, b, c, d], _ => exact ⟨a, b, c, d, rfl⟩
theorem tlen5 (h : l.length = 5) : ∃ a b c d e, l = [a, b, c, d, e] := by match l, h with | [a, b, c, d, e], _ => exact ⟨a, b, c, d, e, rfl⟩
end

def VTb (g3 tg : Nat) (u : Value) (kx : ByteArray) (gx : Bool) (ax nx : Int) (sx : ByteArray) : Nat → Value → Prop
  | 34, v => v = u
  | 35, v => v = .int .i64 (tg : Int)
  | 36, v => v = .int .i64 ((tg : Int) / 256)
  | 37, v => v = .int .u8 ((tg : Int) / 256)
  | 38, v => v = .int .i64 (tg : Int)
  | 39, v => v = .int .i64 ((tg : Int) % 256)
  | 40, v => v = .int .u8 ((tg : Int) % 256)
  | 43, v => v = .pointer (some ⟨g3, 1, none⟩)
  | 44, v => v = .agg #[.string kx, .bool gx, .int .i64 ax, .int .i64 nx, .string sx]
  | _, _ => True

/-- The row is the one it was, or came later. -/
def OldR (w5 : World) (u r : Value) : Prop := r.ownBlock = u.ownBlock ∨ ∀ k, r.ownBlock = some k → w5.heap.size ≤ k
theorem OldR.step {w5 w6 : World} {u r r' : Value} (h : OldR w5 u r) (hs : w5.heap.size ≤ w6.heap.size) (hn : r'.ownBlock = r.ownBlock ∨ ∀ k, r'.ownBlock = some k → w6.heap.size ≤ k) : OldR w5 u r' := by
  rcases hn with e | e
  · unfold OldR; rw [e]; exact h
  · exact .inr fun k hk => by have := e k hk; omega
theorem OldR.grown {w5 w6 w7 : World} {u r : Value} (h : OldR w5 u r) (hg : w5.grownBy w6 u.ownBlock) (hg2 : w6.grownBy w7 r.ownBlock) : w5.grownBy w7 u.ownBlock := by
  refine ⟨hg2.os.trans hg.os, hg2.tape.trans hg.tape, hg2.output.trans hg.output, Nat.le_trans hg.size hg2.size, fun k hk hne => ?_⟩
  refine (hg2.block k (Nat.lt_of_lt_of_le hk hg.size) (fun e => ?_)).trans (hg.block k hk hne)
  rcases h with h | h
  · exact hne (e.trans h)
  · have := h k e.symm
    omega
theorem grown_bel {w5 w6 w7 : World} {r : Option Nat} (hg : w5.grownBy w6 r) (hb : Below w6.heap.size w6 w7) : w5.grownBy w7 r :=
  ⟨hb.os.trans hg.os, hb.tape.trans hg.tape, hb.output.trans hg.output, Nat.le_trans hg.size hb.size, fun k hk hne => (hb.block k (Nat.lt_of_lt_of_le hk hg.size)).trans (hg.block k hk hne)⟩
/-- How far it has come. -/
def CTb (w5 : World) (g : Nat) (u : Value) (P A1 A2 : List UInt8) : List Value → World → Prop
  | [], w => Own 5 w g u P ∧ w5.grownBy w u.ownBlock
  | [x], w => Own 5 w g u P ∧ RB w x A1 ∧ w5.grownBy w u.ownBlock
  | [_, r], w => Own 5 w g r (P ++ A1) ∧ OldR w5 u r ∧ w5.grownBy w u.ownBlock
  | [_, r, x], w => Own 5 w g r (P ++ A1) ∧ RB w x A2 ∧ OldR w5 u r ∧ w5.grownBy w u.ownBlock
  | [_, _, _, r], w => Own 5 w g r (P ++ A1 ++ A2) ∧ OldR w5 u r ∧ w5.grownBy w u.ownBlock
  | [_, _, _, r, y], w => y = r ∧ Own 5 w g r (P ++ A1 ++ A2) ∧ OldR w5 u r ∧ w5.grownBy w u.ownBlock
  | _, w => w5.grownBy w u.ownBlock
theorem CTb.gr {w5 w : World} {g : Nat} {u : Value} {P A1 A2 : List UInt8} : ∀ {vs : List Value}, CTb w5 g u P A1 A2 vs w → w5.grownBy w u.ownBlock
  | [], h => h.2
  | [_], h => h.2.2
  | [_, _], h => h.2.2
  | [_, _, _], h => h.2.2.2
  | [_, _, _, _], h => h.2.2
  | [_, _, _, _, _], h => h.2.2.2
  | _ :: _ :: _ :: _ :: _ :: _ :: _, h => h
theorem tab_not_row {w : World} {g B s n : Nat} {e : TypeId} {TT : TabT} {v : Value} {xs : List Value} (h : TK w g TT) (hk : w.ownsRow B e s v n xs) (hne : 33 ≠ e) : v.ownBlock ≠ some g := by
  intro he
  obtain ⟨cs, fr, hr⟩ := h.row
  rcases hk.2 with ⟨rfl, -⟩ | ⟨q, cap, cur, rfl, -, h2, -⟩
  · cases he
  · cases he
    rw [hr] at h2
    simp only [Option.some.injEq, Obj.cells.injEq] at h2
    exact hne h2.2.1

set_option maxHeartbeats 8000000 in
set_option maxRecDepth 100000 in
theorem rtabbytes_c (TT : TabT) (w : World) (hs : ∀ q, q < 32 → (TT q).2.1.size ≤ 1000 ∧ (TT q).2.2.2.2.2.size ≤ 1000) (hok : TabOk TT) :
    Calls Try.prog 13 #[.agg (tabL TT 32).toArray] w fun e w' => ∃ v', e = .returned v' ∧ Own 5 w' w.heap.size v' (if okTo TT 32 then tabB TT else []) ∧ Below w.heap.size w w' := by
  have HT := Go.Lib.hid (TK.new w TT)
  have HB := Go.Lib.hid (below_one w (.cells (tabL TT 32).toArray 33))
  have HRA := Go.Lib.hid (fun (W : World) g (h : TK W g TT) => h.range)
  have HSZ := Go.Lib.hid (sizeTab TT)
  have CM := Go.Lib.hid fun W => rmaytab_c TT W hs
  have HREC := Go.Lib.hid (fun (h : okTo TT 32 = true) q (hq : q < 32) (h1 : (TT q).1 = true) => And.intro ((okTo_slot h hq).1 h1) (hok q hq))
  have HLEN := Go.Lib.hid (fun (h : okTo TT 32 = true) => bodyB_len h hok)
  generalize tabL TT 32 = TL at *
  clear hs hok
  obtain ⟨OUT, hOUT⟩ : ∃ OUT, OUT = if okTo TT 32 then tabB TT else [] := ⟨_, rfl⟩
  rw [← hOUT]
  have HOUT := Go.Lib.hid hOUT
  clear hOUT
  obtain ⟨g, hg⟩ : ∃ g, g = w.heap.size := ⟨_, rfl⟩
  have HG := Go.Lib.hid hg
  rw [← hg] at HT HB ⊢
  clear hg
  go_enter Try.func13, Try.ntmps13
  go_upto_region 1 with (fail)
  rw [← HG.out]
  generalize w.alloc (.cells TL.toArray 33) = w1 at *
  have HRX := Go.Lib.hid (HRA.out _ _ HT.out)
  go_wp2_with (first
    | (with_reducible show wpList _ _ _ (⟨some 8, _, _, _, _, _⟩ :: _) _ _; go_loud (refine wpList_load_mid rfl 33 (.tmp 1) rfl g 0 rfl TL _ HRX.out Try.underlying33 rfl HSZ.out ?_))
    | fail)
  refine (CM.out _).mono ?_
  rintro e w2 ⟨rfl, hc⟩
  have HT2 := Go.Lib.hid (HT.out.below hc)
  have HB2 := Go.Lib.hid (HB.out.trans (hc.mono (by have := HB.out.size; have := HG.out; omega)))
  clear hc CM HT HB HRX HRA HSZ
  by_cases hok : okTo TT 32 = true
  · have HOUT := Go.Lib.hid (show OUT = tabB TT by rw [HOUT.out, if_pos hok])
    rw [hok]
    have HREC2 := Go.Lib.hid (HREC.out hok)
    have HLEN2 := Go.Lib.hid (HLEN.out hok)
    clear hok HREC HLEN
    go_wp2_with fail
    go_loopw [3, 4, 5] (fun hv lv iv wr => ∃ (i : Nat) (q u : Value), q = hv ∧ u = lv ∧ i ≤ 32 ∧ iv = .int .i64 (i : Int) ∧ Hid (OwnV 4 wr g q (zb (hasL TT i))) ∧ Hid (Own 5 wr g u (bodyB TT i)) ∧ Hid (TK wr g TT) ∧ Hid (Below g w wr)) (fun _ _ iv _ => 32 - (intOf iv).toNat)
    case atStart => exact ⟨0, _, _, rfl, rfl, by omega, rfl, Go.Lib.hid (OwnV.nil _ _ _), Go.Lib.hid (Own.nil _ _ _), HT2, HB2⟩
    case round =>
      clear HT2 HB2
      obtain ⟨i, q, u, rfl, rfl, hi, rfl, HQ, HO, HT, HB⟩ := hrel
      by_cases hlt : i < 32
      · have hltI : (i : Int) < 32 := by omega
        obtain ⟨D, hD⟩ : ∃ D, D = i / 4 := ⟨_, rfl⟩
        obtain ⟨R, hR⟩ : ∃ R, R = i % 4 := ⟨_, rfl⟩
        have d1 : (i : Int).tdiv 4 = (D : Int) := by rw [Int.tdiv_eq_ediv_of_nonneg (by omega)]; omega
        have r1 : (i : Int).tmod 4 = (R : Int) := by rw [Int.tmod_eq_emod_of_nonneg (by omega)]; omega
        have hD8 : D < 8 := by omega
        have hR4 : R < 4 := by omega
        obtain ⟨c0, c1, c2, c3, c4, c5⟩ := HT.out.at hD8 hR4
        rw [show 4 * D + R = i by omega] at c0 c1 c2 c3 c4 c5
        have hix1 := idxT g D hD8
        have hix2 := idxT2 g (24 * D) R hR4
        have HRC := Go.Lib.hid (HREC2.out i hlt)
        have HBL := Go.Lib.hid (HLEN2.out i hi)
        have HHN := Go.Lib.hid (hasL_succ TT i)
        have HBN := Go.Lib.hid (bodyB_succ TT i)
        have HHL := Go.Lib.hid (hasL_len TT i)
        clear hD hR
        generalize hasL TT i = HL at *
        generalize bodyB TT i = BL at *
        generalize TT i = y at *
        obtain ⟨hq, kx, gx, ax, nx, sx⟩ := y
        simp only [] at c0 c1 c2 c3 c4 c5 HRC HHN HBN
        have hgw : g ≤ wr.heap.size := by have := HB.out.size; have := HG.out; omega
        have hbA := below_one wr (.cells #[.bool hq, .string kx, .bool gx, .int .i64 ax, .int .i64 nx, .string sx] 30)
        have HX := Go.Lib.hid (heap_alloc_new wr (.cells #[.bool hq, .string kx, .bool gx, .int .i64 ax, .int .i64 nx, .string sx] 30))
        have HQ2 := Go.Lib.hid (HQ.out.below hbA)
        have HO2 := Go.Lib.hid (HO.out.below hbA)
        have HT2 := Go.Lib.hid (HT.out.below hbA)
        have HB2 := Go.Lib.hid (HB.out.trans (hbA.mono hgw))
        clear hbA HQ HO HT HB hgw
        go_upto_region 9 with (fail)
        obtain ⟨g3, hg3⟩ : ∃ g3, g3 = wr.heap.size := ⟨_, rfl⟩
        rw [← hg3] at HX ⊢
        clear hg3 c0 c1 c2 c3 c4 c5 hix1 hix2 d1 r1
        generalize wr.alloc (.cells #[.bool hq, .string kx, .bool gx, .int .i64 ax, .int .i64 nx, .string sx] 30) = w3 at *
        obtain ⟨x0, x1, x2, x3, x4, x5⟩ := row6 HX.out
        have hb4 := below_one w3 (.cells #[.bool hq] 4)
        have HX4 := Go.Lib.hid (row_kept HX.out hb4)
        have HQ4 := Go.Lib.hid (HQ2.out.below hb4)
        have HO4 := Go.Lib.hid (HO2.out.below hb4)
        have HT4 := Go.Lib.hid (HT2.out.below hb4)
        have HB4 := Go.Lib.hid (HB2.out.trans (hb4.mono (by have := HB2.out.size; have := HG.out; omega)))
        have HON := Go.Lib.hid (RV.zbOne w3 4 hq)
        clear hb4 HX HQ2 HO2 HT2 HB2
        go_upto_region 10 with (first
          | (with_reducible show wpList _ _ _ (⟨some 26, _, _, _, _, _⟩ :: _) _ _; go_loud (refine wpList_append_zb rfl (.tmp 22) (.tmp 25) 81 rfl g 4 Try.underlying81 infoB q (.slice (some ⟨w3.heap.size, 0, none⟩) 1 1) HL [hq] rfl rfl HQ4.out HON.out (by have := HHL.out; simp; omega) (by have := HB4.out.size; have := HG.out; omega) ?_); intro q5 w5 hq5 hg5)
          | fail)
        clear x0 x1 x2 x3 x4 x5
        have HX5 := Go.Lib.hid ((hg5.block g3 (row_lt HX4.out) (fun e => row_not HQ4.out HX4.out (by decide) e.symm)).trans HX4.out)
        have HQ5 := Go.Lib.hid (show OwnV 4 w5 g q5 (zb (hasL TT (i + 1))) by rw [HHN.out]; exact hq5)
        have HO5 := Go.Lib.hid (HO4.out.kept hg5 (rows_ne HO4.out HQ4.out (by decide)))
        have HT5 := Go.Lib.hid (HT4.out.same (hg5.block g HT4.out.lt (fun e => tab_not_row HT4.out HQ4.out (by decide) e.symm)))
        have HB5 := Go.Lib.hid (HB4.out.grown hg5 (by have := HB4.out.size; have := HG.out; omega) (fun j hj => HQ4.out.row j hj))
        clear hq5 hg5 HX4 HQ4 HO4 HT4 HB4 HON HHN
        obtain ⟨x0, x1, x2, x3, x4, x5⟩ := row6 HX5.out
        cases hq with
        | false =>
          simp only [Bool.false_eq_true, if_false, List.append_nil] at HBN
          have HO6 := Go.Lib.hid (show Own 5 w5 g u (bodyB TT (i + 1)) by rw [HBN.out]; exact HO5.out)
          go_wp2_with fail
          exact ⟨⟨i + 1, _, _, rfl, rfl, by omega, by go_num, HQ5, HO6, HT5, HB5⟩, by simp only [intOf]; omega⟩
        | true =>
          simp only [if_true] at HBN
          have hm := (HRC.out rfl).1
          have hrok := (HRC.out rfl).2
          have hsz := mayT_short hm
          simp only [] at hsz
          have CH := Go.Lib.hid fun W => rhash_k kx (hashS kx) rfl W (by omega)
          have CT := Go.Lib.hid fun W => rtag_c (hashS kx) W (hashS_lt kx)
          have HTL := Go.Lib.hid (tag_lt (hashS kx))
          have hl1 : (bl kx).length = kx.size := by have := str_size (bl kx); rw [str_bl] at this; exact this.symm
          have hl2 : (bl sx).length = sx.size := by have := str_size (bl sx); rw [str_bl] at this; exact this.symm
          have CB := Go.Lib.hid (show ∀ W, Calls Try.prog 38 #[.agg #[.string kx, .bool gx, .int .i64 ax, .int .i64 nx, .string sx]] W fun e w' => ∃ v, e = .returned v ∧ Own 5 w' W.heap.size v (recT (kx, gx, ax, nx, sx)) ∧ Below W.heap.size W w' from fun W => by
            have h1 := recOk_k hrok
            have h2 := recOk_n hrok
            have := rbytes_c (bl kx) gx ax nx (bl sx) W (by omega) h1.1 h1.2 h2.1 h2.2 (by omega)
            rw [str_bl, str_bl] at this
            unfold recV at this
            exact this)
          have HEB := Go.Lib.hid (show entB (kx, gx, ax, nx, sx) = [UInt8.ofNat (tagN (hashS kx) / 256), UInt8.ofNat (tagN (hashS kx) % 256)] ++ recT (kx, gx, ax, nx, sx) from rfl)
          have HEL := Go.Lib.hid (show (recT (kx, gx, ax, nx, sx)).length ≤ 200 ∧ recT (kx, gx, ax, nx, sx) ≠ [] from by
            have h := recT_len hm hrok
            exact ⟨h.2, fun e => by rw [e] at h; simp at h⟩)
          rw [HEB.out] at HBN
          clear hm hrok hsz hl1 hl2 HRC HEB
          generalize recT (kx, gx, ax, nx, sx) = RT at *
          generalize tagN (hashS kx) = tg at *
          generalize hashS kx = hx at *
          go_wp2_with fail
          refine (CH.out _).mono ?_
          rintro e w6 ⟨rfl, hc⟩
          have HX6 := Go.Lib.hid (row_kept HX5.out hc)
          have HQ6 := Go.Lib.hid (HQ5.out.below hc)
          have HO6 := Go.Lib.hid (HO5.out.below hc)
          have HT6 := Go.Lib.hid (HT5.out.below hc)
          have HB6 := Go.Lib.hid (HB5.out.trans (hc.mono (by have := HB5.out.size; have := HG.out; omega)))
          clear hc CH HX5 HQ5 HO5 HT5 HB5 x0 x1 x2 x3 x4 x5
          go_wp2_with fail
          refine (CT.out _).mono ?_
          rintro e w7 ⟨rfl, rfl⟩
          clear CT
          go_upto_region 12 with (fail)
          have hgw : g ≤ w6.heap.size := by have := HB6.out.size; have := HG.out; omega
          have HW := Go.Lib.hid hgw
          have HC := Go.Lib.hid (fun W (h : w6.grownBy W u.ownBlock) => row6 ((h.block g3 (row_lt HX6.out) (fun e => row_not HO6.out HX6.out (by decide) e.symm)).trans HX6.out))
          have HFQ := Go.Lib.hid (fun W (h : w6.grownBy W u.ownBlock) => HQ6.out.kept h (rows_ne HQ6.out HO6.out (by decide)))
          have HFT := Go.Lib.hid (fun W (h : w6.grownBy W u.ownBlock) => HT6.out.same (h.block g HT6.out.lt (fun e => tab_not_row HT6.out HO6.out (by decide) e.symm)))
          have HFB := Go.Lib.hid (fun W (h : w6.grownBy W u.ownBlock) => HB6.out.grown h hgw (fun j hj => HO6.out.row j hj))
          have H0 := Go.Lib.hid (show CTb w6 g u BL [UInt8.ofNat (tg / 256), UInt8.ofNat (tg % 256)] RT [] w6.drew from ⟨HO6.out.drew, ⟨rfl, rfl, rfl, Nat.le_refl _, fun _ _ _ => rfl⟩⟩)
          have HLT := Go.Lib.hid (show ∀ W : World, RB (W.alloc (.cells #[.int .u8 ((tg : Int) / 256), .int .u8 ((tg : Int) % 256)] 5)) (.slice (some ⟨W.heap.size, 0, none⟩) 2 2) [UInt8.ofNat (tg / 256), UInt8.ofNat (tg % 256)] from fun W => by
            have htl := HTL.out
            refine RB.lits W 5 _ _ _ 2 ?_ rfl (by simp)
            have e1 : (UInt8.ofNat (tg / 256)).toNat = tg / 256 := by simp only [UInt8.toNat_ofNat']; omega
            have e2 : (UInt8.ofNat (tg % 256)).toNat = tg % 256 := by simp only [UInt8.toNat_ofNat']; omega
            simp [cells, e1, e2])
          have htd : (tg : Int).tdiv 256 = (tg : Int) / 256 := by rw [Int.tdiv_eq_ediv_of_nonneg (by omega)]
          have htm : (tg : Int).tmod 256 = (tg : Int) % 256 := by rw [Int.tmod_eq_emod_of_nonneg (by omega)]
          have hw0 : IntKind.i64.wrap ((tg : Int) / 256) = (tg : Int) / 256 := by rw [IntKind.wrap_i64]; have := HTL.out; omega
          have hw3 : IntKind.i64.wrap ((tg : Int) % 256) = (tg : Int) % 256 := by rw [IntKind.wrap_i64]; have := HTL.out; omega
          have hw1 : IntKind.u8.wrap ((tg : Int) / 256) = (tg : Int) / 256 := by rw [IntKind.wrap_u8]; have := HTL.out; omega
          have hw2 : IntKind.u8.wrap ((tg : Int) % 256) = (tg : Int) % 256 := by rw [IntKind.wrap_u8]; have := HTL.out; omega
          clear HX6 HQ6 HO6 HT6 HB6 hgw
          refine wp_region_chain (by kernel_rfl) (VTb g3 tg u kx gx ax nx sx) [7, 8, 11, 12, 13] (CTb w6 g u BL [UInt8.ofNat (tg / 256), UInt8.ofNat (tg % 256)] RT) (by decide +kernel) (by decide +kernel) (by rfl) (by decide +kernel) [34, 35, 36, 37, 38, 39, 40, 41, 42, 43, 44, 45, 46, 4] (by rfl) (H0.out) ?_ ?_ ?_
          · intro i o ho hnc a w6 vs hC hlen hg
            obtain ⟨x0, x1, x2, x3, x4, x5⟩ := HC.out w6 (CTb.gr hC)
            match i, ho with
            | 0, ho =>
              obtain rfl := Option.some.inj ho
              have h4 := given_old hg 4 (by decide +kernel)
              clear hg
              exact st_yield ho (wanted_none rfl) (u) w6 (by simp [execOp, Act.eval, h4, go_sem]) ⟨_, rfl, hC, by rintro t' ⟨⟩; rfl⟩
            | 1, ho =>
              obtain rfl := Option.some.inj ho
              have h7 := given_old hg 7 (by decide +kernel)
              clear hg
              exact st_yield ho (wanted_none rfl) (.int .i64 (tg : Int)) w6 (by simp [execOp, Act.eval, h7, go_sem]) ⟨_, rfl, hC, by rintro t' ⟨⟩; rfl⟩
            | 2, ho =>
              obtain rfl := Option.some.inj ho
              obtain ⟨_, h35, rfl⟩ := given_fed hg 35 (by decide +kernel)
              clear hg
              exact st_yield ho (wanted_none rfl) (.int .i64 ((tg : Int) / 256)) w6 (by simp [execOp, Act.eval, h35, go_sem, htd, hw0]) ⟨_, rfl, hC, by rintro t' ⟨⟩; rfl⟩
            | 3, ho =>
              obtain rfl := Option.some.inj ho
              obtain ⟨_, h36, rfl⟩ := given_fed hg 36 (by decide +kernel)
              clear hg
              exact st_yield ho (wanted_none rfl) (.int .u8 ((tg : Int) / 256)) w6 (by simp [execOp, Act.eval, h36, go_sem, hw1]) ⟨_, rfl, hC, by rintro t' ⟨⟩; rfl⟩
            | 4, ho =>
              obtain rfl := Option.some.inj ho
              have h7 := given_old hg 7 (by decide +kernel)
              clear hg
              exact st_yield ho (wanted_none rfl) (.int .i64 (tg : Int)) w6 (by simp [execOp, Act.eval, h7, go_sem]) ⟨_, rfl, hC, by rintro t' ⟨⟩; rfl⟩
            | 5, ho =>
              obtain rfl := Option.some.inj ho
              obtain ⟨_, h38, rfl⟩ := given_fed hg 38 (by decide +kernel)
              clear hg
              exact st_yield ho (wanted_none rfl) (.int .i64 ((tg : Int) % 256)) w6 (by simp [execOp, Act.eval, h38, go_sem, htm]) ⟨_, rfl, hC, by rintro t' ⟨⟩; rfl⟩
            | 6, ho =>
              obtain rfl := Option.some.inj ho
              obtain ⟨_, h39, rfl⟩ := given_fed hg 39 (by decide +kernel)
              clear hg
              exact st_yield ho (wanted_none rfl) (.int .u8 ((tg : Int) % 256)) w6 (by simp [execOp, Act.eval, h39, go_sem, hw2]) ⟨_, rfl, hC, by rintro t' ⟨⟩; rfl⟩
            | 7, ho =>
              exact absurd hnc (by decide)
            | 8, ho =>
              exact absurd hnc (by decide)
            | 9, ho =>
              obtain rfl := Option.some.inj ho
              have h6 := given_old hg 6 (by decide +kernel)
              clear hg
              exact st_yield ho (wanted_none rfl) (.pointer (some ⟨g3, 1, none⟩)) w6 (by simp [execOp, Act.eval, h6, go_sem]) ⟨_, rfl, hC, by rintro t' ⟨⟩; rfl⟩
            | 10, ho =>
              obtain rfl := Option.some.inj ho
              obtain ⟨_, h43, rfl⟩ := given_fed hg 43 (by decide +kernel)
              clear hg
              exact st_yield ho (wanted_none rfl) (.agg #[.string kx, .bool gx, .int .i64 ax, .int .i64 nx, .string sx]) w6 (by simp [execOp, Act.eval, h43, go_sem, x1, x2, x3, x4, x5]) ⟨_, rfl, hC, by rintro t' ⟨⟩; rfl⟩
            | 11, ho =>
              exact absurd hnc (by decide)
            | 12, ho =>
              exact absurd hnc (by decide)
            | 13, ho =>
              exact absurd hnc (by decide)
            | n + 14, ho => simp at ho
          · intro j i o hj ho a w6 vs hvl hC hsl hlen hg
            match j, hj with
            | 0, hj =>
              obtain rfl : 7 = i := Option.some.inj hj
              obtain rfl := Option.some.inj ho
              obtain ⟨_, h37, rfl⟩ := given_fed hg 37 (by decide +kernel)
              obtain ⟨_, h40, rfl⟩ := given_fed hg 40 (by decide +kernel)
              clear hg
              obtain rfl := tlen0 hvl
              exact st_yield ho (wanted_none rfl) (.slice (some ⟨w6.heap.size, 0, none⟩) 2 2) (w6.alloc (.cells #[.int .u8 ((tg : Int) / 256), .int .u8 ((tg : Int) % 256)] 5)) (by simp [execOp, Act.eval, h37, h40, go_sem]) ⟨_, rfl, ⟨hC.1.below (below_one _ _), HLT.out w6, grown_bel hC.2 (below_one _ _)⟩, by rintro t' ⟨⟩; trivial⟩
            | 1, hj =>
              obtain rfl : 8 = i := Option.some.inj hj
              obtain rfl := Option.some.inj ho
              obtain ⟨v34', h34, p34⟩ := given_fed hg 34 (by decide +kernel)
              have p34 : v34' = u := p34
              rw [p34] at h34
              clear hg
              obtain ⟨z0, rfl⟩ := tlen1 hvl
              have h41 : a.tmps[41]? = some z0 := hsl 0 7 _ 41 (by simp) rfl rfl rfl
              exact st_list ho (wanted_none rfl) fun Q' hQ => wpList_append_bytes rfl (.tmp 34) (.tmp 41) 40 rfl g 5 Try.underlying40 info8 u z0 (BL) ([UInt8.ofNat (tg / 256), UInt8.ofNat (tg % 256)]) (by simp [Act.eval, h34]) (by simp [Act.eval, h41]) hC.1 hC.2.1 (by simp) (by
                have := HBL.out
                have := HEL.out.1
                simp only [List.length_cons, List.length_nil]; omega) (Nat.le_trans HW.out (CTb.gr hC).size) (fun v' w' hown hg2 hn => wpList_nil (hQ _ _ ⟨v', rfl, ⟨hown, OldR.step (.inl rfl) (CTb.gr hC).size hn, OldR.grown (.inl rfl) (CTb.gr hC) hg2⟩, by rintro t' ⟨⟩; trivial⟩))
            | 2, hj =>
              obtain rfl : 11 = i := Option.some.inj hj
              obtain rfl := Option.some.inj ho
              obtain ⟨_, h44, rfl⟩ := given_fed hg 44 (by decide +kernel)
              clear hg
              obtain ⟨z0, z1, rfl⟩ := tlen2 hvl
              exact st_enter (w1 := w6) ho (wanted_none rfl) 38 #[.agg #[.string kx, .bool gx, .int .i64 ax, .int .i64 nx, .string sx]] (by simp [execOp, Act.eval, h44, resolve, go_sem]) ((CB.out w6).mono (by
                rintro e w7 ⟨v, rfl, hown, hb⟩
                exact ⟨v, rfl, v, rfl, ⟨hC.1.below hb, hown.rb, hC.2.1, grown_bel hC.2.2 hb⟩, by rintro t' ⟨⟩; trivial⟩))
            | 3, hj =>
              obtain rfl : 12 = i := Option.some.inj hj
              obtain rfl := Option.some.inj ho
              clear hg
              obtain ⟨z0, z1, z2, rfl⟩ := tlen3 hvl
              have h42 : a.tmps[42]? = some z1 := hsl 1 8 _ 42 (by simp) rfl rfl rfl
              have h45 : a.tmps[45]? = some z2 := hsl 2 11 _ 45 (by simp) rfl rfl rfl
              exact st_list ho (wanted_none rfl) fun Q' hQ => wpList_append_bytes rfl (.tmp 42) (.tmp 45) 40 rfl g 5 Try.underlying40 info8 z1 z2 (BL ++ [UInt8.ofNat (tg / 256), UInt8.ofNat (tg % 256)]) (RT) (by simp [Act.eval, h42]) (by simp [Act.eval, h45]) hC.1 hC.2.1 (HEL.out.2) (by
                have := HBL.out
                have := HEL.out.1
                simp only [List.length_append, List.length_cons, List.length_nil]; omega) (Nat.le_trans HW.out (CTb.gr hC).size) (fun v' w' hown hg2 hn => wpList_nil (hQ _ _ ⟨v', rfl, ⟨hown, OldR.step (hC.2.2.1) (CTb.gr hC).size hn, OldR.grown (hC.2.2.1) (CTb.gr hC) hg2⟩, by rintro t' ⟨⟩; trivial⟩))
            | 4, hj =>
              obtain rfl : 13 = i := Option.some.inj hj
              obtain rfl := Option.some.inj ho
              clear hg
              obtain ⟨z0, z1, z2, z3, rfl⟩ := tlen4 hvl
              have h46 : a.tmps[46]? = some z3 := hsl 3 12 _ 46 (by simp) rfl rfl rfl
              exact st_yield ho (wanted_none rfl) z3 w6 (by simp [execOp, Act.eval, h46, go_sem]) ⟨_, rfl, ⟨rfl, hC⟩, by rintro t' ⟨⟩; trivial⟩
            | n + 5, hj => simp at hj
          · intro f w8 vs hvl hC hsl hV
            obtain ⟨x0, x1, x2, x3, x4, rfl⟩ := tlen5 hvl
            obtain ⟨hx4, hown, hold, hgr⟩ := hC
            have h4 := hsl 4 13 _ 4 (by simp) rfl rfl rfl
            have h4 : f 4 = x3 := (Option.some.inj h4).symm.trans hx4
            have HO8 := Go.Lib.hid (show Own 5 w8 g x3 (bodyB TT (i + 1)) by rw [HBN.out, ← List.append_assoc]; exact hown)
            have HQ8 := Go.Lib.hid (HFQ.out _ hgr)
            have HT8 := Go.Lib.hid (HFT.out _ hgr)
            have HB8 := Go.Lib.hid (HFB.out _ hgr)
            clear hsl hV hown hold hgr H0 HC HFQ HFT HFB htd htm hw0 hw1 hw2 hw3
            unfold putAll
            simp only [List.foldl]
            simp only [h4]
            go_simp
            go_wp2_with fail
            go_roundw
            case rel => exact ⟨i + 1, _, _, rfl, rfl, by omega, by go_num, HQ8, HO8, HT8, HB8⟩
            case measure => simp only [intOf]; omega
      · obtain rfl : i = 32 := by omega
        have CB := Go.Lib.hid (rbitbytes_c q _ wr HQ.out.rv (by rw [hasL_len]; decide))
        have HLB := Go.Lib.hid (HLEN2.out 32 (by omega))
        clear HREC2 HLEN2
        go_wp2_with fail
        refine CB.out.mono ?_
        rintro e w4 ⟨v4, rfl, ho, hc⟩
        have hgw : g ≤ wr.heap.size := by have := HB.out.size; have := HG.out; omega
        have HO4 := Go.Lib.hid (ho.mono hgw)
        have HR4 := Go.Lib.hid (HO.out.below hc).rb
        have HB4 := Go.Lib.hid (HB.out.trans (hc.mono hgw))
        clear ho hc CB HO HQ HT HB hgw
        go_wp2_with (first
          | (with_reducible show wpList _ _ _ (⟨some 50, _, _, _, _, _⟩ :: _) _ _; go_loud (refine wpList_append_RB rfl (.tmp 48) (.tmp 49) 40 rfl g 5 Try.underlying40 info8 v4 u _ _ rfl rfl HO4.out HR4.out (by have := HLB.out; rw [headB_len]; omega) (by have := HB4.out.size; have := HG.out; omega) ?_); intro v5 w5 ho5 hg5)
          | fail)
        have HF := Go.Lib.hid (And.intro (show Own 5 w5 g v5 OUT by rw [HOUT.out]; exact ho5) (HB4.out.grown hg5 (by have := HB4.out.size; have := HG.out; omega) (fun j hj => HO4.out.row j hj)))
        clear ho5 hg5
        go_wp2_with fail
        go_ret
        exact ⟨_, rfl, HF.out.1, HF.out.2⟩
  · have hok : okTo TT 32 = false := by simpa using hok
    have HOUT := Go.Lib.hid (show OUT = [] by rw [HOUT.out, hok]; rfl)
    rw [hok]
    clear HREC HLEN
    go_wp2_with fail
    go_ret
    exact ⟨_, rfl, by rw [HOUT.out]; exact Own.nil _ _ _, HB2.out⟩
end Go.Proofs.Ytgalppnpmfpdbaa

namespace Go.Proofs.Ytgalppnpmfpdbaa
open Go.RowKit

theorem build_rslot (hq : Bool) (kx : ByteArray) (gx : Bool) (ax nx : Int) (sx : ByteArray) (W : World) : (Instr.build 30 #[(0, .bool hq), (1, .agg #[.string kx, .bool gx, .int .i64 ax, .int .i64 nx, .string sx])]).run Try.prog W = .ok (.agg #[.bool hq, .string kx, .bool gx, .int .i64 ax, .int .i64 nx, .string sx]) W :=
  run_build W _ _ _ (by kernel_rfl)
theorem zero_tabRZ (W : World) : (zeroValue 33).run Try.prog W = .ok (.agg (tabL zeroT 32).toArray) W := zero_tab W

def VWOf (gs gd i D R : Nat) (hq : Bool) (kx : ByteArray) (gx : Bool) (ax nx : Int) (sx : ByteArray) : Nat → World → Value → Prop
  | 9, _, v => v = .int .i64 (i : Int)
  | 10, _, v => v = .int .i64 (D : Int)
  | 11, _, v => v = .int .i64 (i : Int)
  | 12, _, v => v = .int .i64 (R : Int)
  | 13, _, v => v = .int .i64 (i : Int)
  | 14, _, v => v = .int .i64 (D : Int)
  | 15, _, v => v = .int .i64 (i : Int)
  | 16, _, v => v = .int .i64 (R : Int)
  | 17, _, v => v = .pointer (some ⟨gs, 24 * D, none⟩)
  | 18, _, v => v = .pointer (some ⟨gs, 24 * D + 6 * R, none⟩)
  | 19, _, v => v = .pointer (some ⟨gs, 24 * D + 6 * R, none⟩)
  | 20, _, v => v = .bool hq
  | 21, _, v => v = .int .i64 (i : Int)
  | 22, _, v => v = .int .i64 (D : Int)
  | 23, _, v => v = .int .i64 (i : Int)
  | 24, _, v => v = .int .i64 (R : Int)
  | 25, _, v => v = .pointer (some ⟨gs, 24 * D, none⟩)
  | 26, _, v => v = .pointer (some ⟨gs, 24 * D + 6 * R, none⟩)
  | 27, _, v => v = .pointer (some ⟨gs, 24 * D + 6 * R + 1, none⟩)
  | 28, _, v => v = .agg #[.string kx, .bool gx, .int .i64 ax, .int .i64 nx, .string sx]
  | 29, _, v => v = .agg #[.bool hq, .string kx, .bool gx, .int .i64 ax, .int .i64 nx, .string sx]
  | 30, _, v => v = .pointer (some ⟨gd, 24 * D, none⟩)
  | 31, _, v => v = .pointer (some ⟨gd, 24 * D + 6 * R, none⟩)
  | _, _, _ => True
theorem VWOf_below (gs gd i D R : Nat) (hq : Bool) (kx : ByteArray) (gx : Bool) (ax nx : Int) (sx : ByteArray) : ∀ (i' : Nat) (w w' : World) (v : Value), VWOf gs gd i D R hq kx gx ax nx sx i' w v → Below w.heap.size w w' → VWOf gs gd i D R hq kx gx ax nx sx i' w' v := by
  intro i' w w' v h hb
  unfold VWOf at h ⊢
  split at h <;> first | exact h | trivial | exact h

theorem ret_lof_at {w w0 : World} {tmps : Array Value} {TL : List Value} {g : Nat} {fr : Nat × Nat}
    (hp : tmps.getD 2 undef = .pointer (some ⟨g, 0, none⟩)) (hg : w.heap[g]? = some (.cells TL.toArray 38 fr)) (hs : (Try.prog.info? 38).map (·.size) = some TL.length) (hb : Below w0.heap.size w0 w) :
    bodyPost Try.prog Try.f9 (fun e w' => e = .returned (.agg TL.toArray) ∧ Below w0.heap.size w0 w') Exit.ret { tmps := tmps, defers := [] } w :=
  bodyPost_ret (results_cell_row (P := Try.prog) (fn := Try.f9) (p := 2) (ty := 38) rfl tmps w g 38 TL.toArray fr _ hp hg Try.underlying38 rfl (by rw [hs, List.size_toArray])) rfl ⟨rfl, hb⟩

set_option maxHeartbeats 8000000 in
set_option maxRecDepth 100000 in
theorem lof_c (TT : TabT) (w : World) :
    Calls Try.prog 9 #[.agg (tabL TT 32).toArray] w fun e w' => e = .returned (.agg (tabL TT 32).toArray) ∧ Below w.heap.size w w' := by
  have hz := zero_tabZ
  have HSZ := Go.Lib.hid (sizeTabO zeroT)
  have HST := Go.Lib.hid (sizeTabO TT)
  have HTO := Go.Lib.hid (tabL_one TT)
  have hT1 := TK.new w TT
  have HLE := Go.Lib.hid (show (tabL zeroT 32).length = (tabL TT 32).length from by rw [tabL_len, tabL_len])
  have HT0 := Go.Lib.hid (fun W => TO.new W zeroT)
  have HCT := Go.Lib.hid (show tabL (cutT TT 32) 32 = tabL TT 32 from tabL_congr 32 (fun q hq => cutT_old TT hq))
  have HRG := Go.Lib.hid (fun (W : World) g (h : TO W g (cutT TT 32)) => h.range)
  rw [HCT.out] at HRG
  have hb1 := below_one w (.cells (tabL TT 32).toArray 33)
  have hs1 : (w.alloc (.cells (tabL TT 32).toArray 33)).heap.size = w.heap.size + 1 := Array.size_push _
  generalize tabL zeroT 32 = ZL at *
  generalize tabL TT 32 = TL at *
  have hb2 := below_one (w.alloc (.cells TL.toArray 33)) (.cells ZL.toArray 38)
  have HT2 := Go.Lib.hid (hT1.below hb2)
  have HZ2 := Go.Lib.hid (heap_alloc_new (w.alloc (.cells TL.toArray 33)) (.cells ZL.toArray 38))
  rw [hs1] at HZ2
  have HB2 := Go.Lib.hid (hb1.trans (hb2.mono hb1.size))
  have HS2 := Go.Lib.hid (show ((w.alloc (.cells TL.toArray 33)).alloc (.cells ZL.toArray 38)).heap.size = w.heap.size + 2 from (Array.size_push _).trans (by rw [hs1]))
  clear hb1 hb2 hs1 hT1 HCT
  go_enter Try.func9, Try.ntmps9
  go_upto_region 1 with (fail)
  generalize (w.alloc (.cells TL.toArray 33)).alloc (.cells ZL.toArray 38) = w2 at *
  obtain ⟨g, hg⟩ : ∃ g, g = w.heap.size := ⟨_, rfl⟩
  rw [← hg] at HT2 HZ2 HS2 ⊢
  have HG := Go.Lib.hid (show w.heap.size ≤ g by omega)
  clear hg
  go_upto_region 2 with (fail)
  have hb3 := below_one w2 (.cells ZL.toArray 38)
  have HT3 := Go.Lib.hid (HT2.out.below hb3)
  have HZ3 := Go.Lib.hid (row_kept HZ2.out hb3)
  have HB3 := Go.Lib.hid (HB2.out.trans (hb3.mono HB2.out.size))
  have HD3 := Go.Lib.hid (HT0.out w2)
  rw [HS2.out] at HD3
  obtain ⟨g3, hg3⟩ : ∃ g3, g3 = w2.heap.size := ⟨_, rfl⟩
  have HG3 := Go.Lib.hid (show g3 = g + 2 by rw [hg3, HS2.out])
  rw [← HG3.out] at HD3
  rw [← hg3]
  clear hb3 HT2 HZ2 HB2 HT0 hg3 HS2
  generalize w2.alloc (.cells ZL.toArray 38) = w3 at *
  have HD3 := Go.Lib.hid (show TO w3 g3 (cutT TT 0) from by
    have : cutT TT 0 = zeroT := by funext q; unfold cutT zeroT; rw [if_neg (by omega)]
    rw [this]
    exact HD3.out)
  go_wp2_with fail
  go_loopw [4] (fun iv wr => ∃ i : Nat, i ≤ 32 ∧ iv = .int .i64 (i : Int) ∧ Hid (TK wr g TT) ∧ Hid (TO wr g3 (cutT TT i)) ∧ Hid (wr.heap[g + 1]? = some (.cells ZL.toArray 38)) ∧ Hid (Below w.heap.size w wr)) (fun iv _ => 32 - (intOf iv).toNat)
  case atStart => exact ⟨0, by omega, rfl, HT3, HD3, HZ3, HB3⟩
  case round =>
    clear HT3 HD3 HZ3 HB3
    obtain ⟨i, hi, rfl, HT, HD, HZ, HB⟩ := hrel
    by_cases hlt : i < 32
    · have hltI : (i : Int) < 32 := by omega
      obtain ⟨D, hD⟩ : ∃ D, D = i / 4 := ⟨_, rfl⟩
      obtain ⟨R, hR⟩ : ∃ R, R = i % 4 := ⟨_, rfl⟩
      have d1 : (i : Int).tdiv 4 = (D : Int) := by rw [Int.tdiv_eq_ediv_of_nonneg (by omega)]; omega
      have r1 : (i : Int).tmod 4 = (R : Int) := by rw [Int.tmod_eq_emod_of_nonneg (by omega)]; omega
      have hD8 : D < 8 := by omega
      have hR4 : R < 4 := by omega
      have hwD : IntKind.i64.wrap (D : Int) = (D : Int) := by rw [IntKind.wrap_i64]; omega
      have HIE := Go.Lib.hid (show 4 * D + R = i by omega)
      have hix1 := idxT g D hD8
      have hix2 := idxT2 g (24 * D) R hR4
      have hjx1 := idxO g3 D hD8
      have hjx2 := idxO2 g3 (24 * D) R hR4
      have HCELL := Go.Lib.hid (fun W (hb : Below wr.heap.size wr W) => by
        have h := (HT.out.below hb).at hD8 hR4
        rw [show 4 * D + R = i by omega] at h
        exact h)
      have HSET := Go.Lib.hid (cutT_set TT i)
      clear hD hR
      go_upto_region 5 with (fail)
      generalize TT i = y at *
      obtain ⟨hq, kx, gx, ax, nx, sx⟩ := y
      simp only [] at HCELL
      refine wp_region_head 23 (by decide) (by kernel_rfl) (VWOf g g3 i D R hq kx gx ax nx sx) (VWOf_below g g3 i D R hq kx gx ax nx sx) (by decide +kernel) (by rfl) [9, 10, 11, 12, 13, 14, 15, 16, 17, 18, 19, 20, 21, 22, 23, 24, 25, 26, 27, 28, 29, 30, 31] (by rfl) ?_ ?_
      · intro i' o hin ho a w8 hb8 hlen hg
        obtain ⟨y0, y1, y2, y3, y4, y5⟩ := HCELL.out w8 hb8
        match i', hin, ho with
        | 0, hin, ho =>
          obtain rfl := Option.some.inj ho
          have h4 := given_old hg 4 (by decide +kernel)
          clear hg
          exact st_yield ho (wanted_none rfl) (.int .i64 (i : Int)) w8 (by simp [execOp, Act.eval, h4, go_sem]) ⟨_, rfl, Below.refl _ _, by rintro t' ⟨⟩; rfl⟩
        | 1, hin, ho =>
          obtain rfl := Option.some.inj ho
          obtain ⟨_, h9, rfl⟩ := given_fed hg 9 (by decide +kernel)
          clear hg
          exact st_yield ho (wanted_none rfl) (.int .i64 (D : Int)) w8 (by simp [execOp, Act.eval, h9, go_sem, d1, hwD]) ⟨_, rfl, Below.refl _ _, by rintro t' ⟨⟩; rfl⟩
        | 2, hin, ho =>
          obtain rfl := Option.some.inj ho
          have h4 := given_old hg 4 (by decide +kernel)
          clear hg
          exact st_yield ho (wanted_none rfl) (.int .i64 (i : Int)) w8 (by simp [execOp, Act.eval, h4, go_sem]) ⟨_, rfl, Below.refl _ _, by rintro t' ⟨⟩; rfl⟩
        | 3, hin, ho =>
          obtain rfl := Option.some.inj ho
          obtain ⟨_, h11, rfl⟩ := given_fed hg 11 (by decide +kernel)
          clear hg
          exact st_yield ho (wanted_none rfl) (.int .i64 (R : Int)) w8 (by simp [execOp, Act.eval, h11, go_sem, r1]) ⟨_, rfl, Below.refl _ _, by rintro t' ⟨⟩; rfl⟩
        | 4, hin, ho =>
          obtain rfl := Option.some.inj ho
          have h4 := given_old hg 4 (by decide +kernel)
          clear hg
          exact st_yield ho (wanted_none rfl) (.int .i64 (i : Int)) w8 (by simp [execOp, Act.eval, h4, go_sem]) ⟨_, rfl, Below.refl _ _, by rintro t' ⟨⟩; rfl⟩
        | 5, hin, ho =>
          obtain rfl := Option.some.inj ho
          obtain ⟨_, h13, rfl⟩ := given_fed hg 13 (by decide +kernel)
          clear hg
          exact st_yield ho (wanted_none rfl) (.int .i64 (D : Int)) w8 (by simp [execOp, Act.eval, h13, go_sem, d1, hwD]) ⟨_, rfl, Below.refl _ _, by rintro t' ⟨⟩; rfl⟩
        | 6, hin, ho =>
          obtain rfl := Option.some.inj ho
          have h4 := given_old hg 4 (by decide +kernel)
          clear hg
          exact st_yield ho (wanted_none rfl) (.int .i64 (i : Int)) w8 (by simp [execOp, Act.eval, h4, go_sem]) ⟨_, rfl, Below.refl _ _, by rintro t' ⟨⟩; rfl⟩
        | 7, hin, ho =>
          obtain rfl := Option.some.inj ho
          obtain ⟨_, h15, rfl⟩ := given_fed hg 15 (by decide +kernel)
          clear hg
          exact st_yield ho (wanted_none rfl) (.int .i64 (R : Int)) w8 (by simp [execOp, Act.eval, h15, go_sem, r1]) ⟨_, rfl, Below.refl _ _, by rintro t' ⟨⟩; rfl⟩
        | 8, hin, ho =>
          obtain rfl := Option.some.inj ho
          have h1 := given_old hg 1 (by decide +kernel)
          obtain ⟨_, h14, rfl⟩ := given_fed hg 14 (by decide +kernel)
          clear hg
          exact st_yield ho (wanted_none rfl) (.pointer (some ⟨g, 24 * D, none⟩)) w8 (by simp [execOp, Act.eval, h1, h14, go_sem, hix1]) ⟨_, rfl, Below.refl _ _, by rintro t' ⟨⟩; rfl⟩
        | 9, hin, ho =>
          obtain rfl := Option.some.inj ho
          obtain ⟨_, h17, rfl⟩ := given_fed hg 17 (by decide +kernel)
          obtain ⟨_, h16, rfl⟩ := given_fed hg 16 (by decide +kernel)
          clear hg
          exact st_yield ho (wanted_none rfl) (.pointer (some ⟨g, 24 * D + 6 * R, none⟩)) w8 (by simp [execOp, Act.eval, h17, h16, go_sem, hix2]) ⟨_, rfl, Below.refl _ _, by rintro t' ⟨⟩; rfl⟩
        | 10, hin, ho =>
          obtain rfl := Option.some.inj ho
          obtain ⟨_, h18, rfl⟩ := given_fed hg 18 (by decide +kernel)
          clear hg
          exact st_yield ho (wanted_none rfl) (.pointer (some ⟨g, 24 * D + 6 * R, none⟩)) w8 (by simp [execOp, Act.eval, h18, go_sem]) ⟨_, rfl, Below.refl _ _, by rintro t' ⟨⟩; rfl⟩
        | 11, hin, ho =>
          obtain rfl := Option.some.inj ho
          obtain ⟨_, h19, rfl⟩ := given_fed hg 19 (by decide +kernel)
          clear hg
          exact st_yield ho (wanted_none rfl) (.bool hq) w8 (by simp [execOp, Act.eval, h19, go_sem, y0]) ⟨_, rfl, Below.refl _ _, by rintro t' ⟨⟩; rfl⟩
        | 12, hin, ho =>
          obtain rfl := Option.some.inj ho
          have h4 := given_old hg 4 (by decide +kernel)
          clear hg
          exact st_yield ho (wanted_none rfl) (.int .i64 (i : Int)) w8 (by simp [execOp, Act.eval, h4, go_sem]) ⟨_, rfl, Below.refl _ _, by rintro t' ⟨⟩; rfl⟩
        | 13, hin, ho =>
          obtain rfl := Option.some.inj ho
          obtain ⟨_, h21, rfl⟩ := given_fed hg 21 (by decide +kernel)
          clear hg
          exact st_yield ho (wanted_none rfl) (.int .i64 (D : Int)) w8 (by simp [execOp, Act.eval, h21, go_sem, d1, hwD]) ⟨_, rfl, Below.refl _ _, by rintro t' ⟨⟩; rfl⟩
        | 14, hin, ho =>
          obtain rfl := Option.some.inj ho
          have h4 := given_old hg 4 (by decide +kernel)
          clear hg
          exact st_yield ho (wanted_none rfl) (.int .i64 (i : Int)) w8 (by simp [execOp, Act.eval, h4, go_sem]) ⟨_, rfl, Below.refl _ _, by rintro t' ⟨⟩; rfl⟩
        | 15, hin, ho =>
          obtain rfl := Option.some.inj ho
          obtain ⟨_, h23, rfl⟩ := given_fed hg 23 (by decide +kernel)
          clear hg
          exact st_yield ho (wanted_none rfl) (.int .i64 (R : Int)) w8 (by simp [execOp, Act.eval, h23, go_sem, r1]) ⟨_, rfl, Below.refl _ _, by rintro t' ⟨⟩; rfl⟩
        | 16, hin, ho =>
          obtain rfl := Option.some.inj ho
          have h1 := given_old hg 1 (by decide +kernel)
          obtain ⟨_, h22, rfl⟩ := given_fed hg 22 (by decide +kernel)
          clear hg
          exact st_yield ho (wanted_none rfl) (.pointer (some ⟨g, 24 * D, none⟩)) w8 (by simp [execOp, Act.eval, h1, h22, go_sem, hix1]) ⟨_, rfl, Below.refl _ _, by rintro t' ⟨⟩; rfl⟩
        | 17, hin, ho =>
          obtain rfl := Option.some.inj ho
          obtain ⟨_, h25, rfl⟩ := given_fed hg 25 (by decide +kernel)
          obtain ⟨_, h24, rfl⟩ := given_fed hg 24 (by decide +kernel)
          clear hg
          exact st_yield ho (wanted_none rfl) (.pointer (some ⟨g, 24 * D + 6 * R, none⟩)) w8 (by simp [execOp, Act.eval, h25, h24, go_sem, hix2]) ⟨_, rfl, Below.refl _ _, by rintro t' ⟨⟩; rfl⟩
        | 18, hin, ho =>
          obtain rfl := Option.some.inj ho
          obtain ⟨_, h26, rfl⟩ := given_fed hg 26 (by decide +kernel)
          clear hg
          exact st_yield ho (wanted_none rfl) (.pointer (some ⟨g, 24 * D + 6 * R + 1, none⟩)) w8 (by simp [execOp, Act.eval, h26, go_sem]) ⟨_, rfl, Below.refl _ _, by rintro t' ⟨⟩; rfl⟩
        | 19, hin, ho =>
          obtain rfl := Option.some.inj ho
          obtain ⟨_, h27, rfl⟩ := given_fed hg 27 (by decide +kernel)
          clear hg
          exact st_yield ho (wanted_none rfl) (.agg #[.string kx, .bool gx, .int .i64 ax, .int .i64 nx, .string sx]) w8 (by simp [execOp, Act.eval, h27, go_sem, y1, y2, y3, y4, y5]) ⟨_, rfl, Below.refl _ _, by rintro t' ⟨⟩; rfl⟩
        | 20, hin, ho =>
          obtain rfl := Option.some.inj ho
          obtain ⟨_, h20, rfl⟩ := given_fed hg 20 (by decide +kernel)
          obtain ⟨_, h28, rfl⟩ := given_fed hg 28 (by decide +kernel)
          clear hg
          exact st_yield ho (wanted_none rfl) (.agg #[.bool hq, .string kx, .bool gx, .int .i64 ax, .int .i64 nx, .string sx]) w8 (by simp [execOp, Act.eval, h20, h28, build_oslot hq kx gx ax nx sx w8]) ⟨_, rfl, Below.refl _ _, by rintro t' ⟨⟩; rfl⟩
        | 21, hin, ho =>
          obtain rfl := Option.some.inj ho
          have h3 := given_old hg 3 (by decide +kernel)
          obtain ⟨_, h10, rfl⟩ := given_fed hg 10 (by decide +kernel)
          clear hg
          exact st_yield ho (wanted_none rfl) (.pointer (some ⟨g3, 24 * D, none⟩)) w8 (by simp [execOp, Act.eval, h3, h10, go_sem, hjx1]) ⟨_, rfl, Below.refl _ _, by rintro t' ⟨⟩; rfl⟩
        | 22, hin, ho =>
          obtain rfl := Option.some.inj ho
          obtain ⟨_, h30, rfl⟩ := given_fed hg 30 (by decide +kernel)
          obtain ⟨_, h12, rfl⟩ := given_fed hg 12 (by decide +kernel)
          clear hg
          exact st_yield ho (wanted_none rfl) (.pointer (some ⟨g3, 24 * D + 6 * R, none⟩)) w8 (by simp [execOp, Act.eval, h30, h12, go_sem, hjx2]) ⟨_, rfl, Below.refl _ _, by rintro t' ⟨⟩; rfl⟩
        | n + 23, hin, ho => omega
      · intro f w8 hb8 hv
        have h29 := hv 29 (by decide)
        have h31 := hv 31 (by decide)
        simp only [VWOf] at h29 h31
        have HT8 := Go.Lib.hid (HT.out.below hb8)
        have HD8 := Go.Lib.hid (HD.out.below hb8)
        have HZ8 := Go.Lib.hid (row_kept HZ.out hb8)
        have HB8 := Go.Lib.hid (HB.out.trans (hb8.mono HB.out.size))
        have HTH := Go.Lib.hid (show w8.there g3 (24 * D + 6 * R) (#[.bool hq, .string kx, .bool gx, .int .i64 ax, .int .i64 nx, .string sx] : Array Value).size from by rw [show 24 * D + 6 * R = 6 * i by have := HIE.out; omega]; exact HD8.out.there (by omega))
        have hgr := setCells_gr (enc6 (hq, kx, gx, ax, nx, sx)) w8 g3 (24 * D + 6 * R)
        have HT9 := Go.Lib.hid (HT8.out.same (hgr.block g HT8.out.lt (fun e => by have := HG3.out; have := Option.some.inj e; omega)))
        have HD9 := Go.Lib.hid (show TO (w8.setCells g3 (24 * D + 6 * R) (enc6 (hq, kx, gx, ax, nx, sx))) g3 (cutT TT (i + 1)) from by
          have := HD8.out.set (q := i) (by omega) (hq, kx, gx, ax, nx, sx)
          rw [show 6 * i = 24 * D + 6 * R by have := HIE.out; omega, HSET.out] at this
          exact this)
        have HZ9 := Go.Lib.hid ((hgr.block (g + 1) (row_lt HZ8.out) (fun e => by have := HG3.out; have := Option.some.inj e; omega)).trans HZ8.out)
        have HB9 := Go.Lib.hid (HB8.out.grown hgr HB8.out.size (fun j e => by have := HG3.out; have := HG.out; have := Option.some.inj e; omega))
        clear hv hb8 hix1 hix2 hjx1 hjx2 HT HD HZ HB HT8 HD8 HZ8 HB8 hgr d1 r1 hwD HCELL
        unfold putAll
        simp only [List.foldl, List.drop]
        simp only [h29, h31]
        clear h29 h31
        go_simp
        go_wp2_with (first
          | (with_reducible show wpList _ _ _ (⟨none, _, _, _, _, _⟩ :: _) _ _; go_loud (refine wpList_store_mid rfl 35 (.tmp 31) (.tmp 29) rfl g3 (24 * D + 6 * R) #[.bool hq, .string kx, .bool gx, .int .i64 ax, .int .i64 nx, .string sx] rfl rfl HTH.out (by kernel_rfl) (six1 hq kx gx ax nx sx) ?_))
          | fail)
        go_roundw
        case rel => exact ⟨i + 1, by omega, by go_num, HT9, HD9, HZ9, HB9⟩
        case measure => simp only [intOf]; omega
    · obtain rfl : i = 32 := by omega
      have HR9 := Go.Lib.hid (HRG.out _ _ HD.out)
      clear HT HD HRG
      go_wp2_with (first
        | (with_reducible show wpList _ _ _ (⟨some 32, _, _, _, _, _⟩ :: _) _ _; go_loud (refine wpList_load_mid rfl 38 (.tmp 3) rfl g3 0 rfl TL _ HR9.out Try.underlying38 rfl HST.out ?_))
        | (with_reducible show wpList _ _ _ (⟨none, Op.store 38 (.tmp 2) (.tmp 32), _, _, _, _⟩ :: _) _ _; go_loud (refine wpList_store_row rfl 38 (.tmp 2) (.tmp 32) rfl (g + 1) TL.toArray rfl rfl 38 _ HZ.out (by rw [HST.out, List.size_toArray]) (by rw [List.size_toArray, List.size_toArray]; exact HLE.out) HTO.out ?_))
        | fail)
      exact ret_lof_at rfl (setRow_heap _ _ _ _ _ (0, 0) HZ.out) HST.out (setRow_below _ HB.out (by have := HG.out; omega))

def VWBack (gs gd i D R : Nat) (hq : Bool) (kx : ByteArray) (gx : Bool) (ax nx : Int) (sx : ByteArray) : Nat → World → Value → Prop
  | 9, _, v => v = .int .i64 (i : Int)
  | 10, _, v => v = .int .i64 (D : Int)
  | 11, _, v => v = .int .i64 (i : Int)
  | 12, _, v => v = .int .i64 (R : Int)
  | 13, _, v => v = .int .i64 (i : Int)
  | 14, _, v => v = .int .i64 (D : Int)
  | 15, _, v => v = .int .i64 (i : Int)
  | 16, _, v => v = .int .i64 (R : Int)
  | 17, _, v => v = .pointer (some ⟨gs, 24 * D, none⟩)
  | 18, _, v => v = .pointer (some ⟨gs, 24 * D + 6 * R, none⟩)
  | 19, _, v => v = .pointer (some ⟨gs, 24 * D + 6 * R, none⟩)
  | 20, _, v => v = .bool hq
  | 21, _, v => v = .int .i64 (i : Int)
  | 22, _, v => v = .int .i64 (D : Int)
  | 23, _, v => v = .int .i64 (i : Int)
  | 24, _, v => v = .int .i64 (R : Int)
  | 25, _, v => v = .pointer (some ⟨gs, 24 * D, none⟩)
  | 26, _, v => v = .pointer (some ⟨gs, 24 * D + 6 * R, none⟩)
  | 27, _, v => v = .pointer (some ⟨gs, 24 * D + 6 * R + 1, none⟩)
  | 28, _, v => v = .agg #[.string kx, .bool gx, .int .i64 ax, .int .i64 nx, .string sx]
  | 29, _, v => v = .agg #[.bool hq, .string kx, .bool gx, .int .i64 ax, .int .i64 nx, .string sx]
  | 30, _, v => v = .pointer (some ⟨gd, 24 * D, none⟩)
  | 31, _, v => v = .pointer (some ⟨gd, 24 * D + 6 * R, none⟩)
  | _, _, _ => True
theorem VWBack_below (gs gd i D R : Nat) (hq : Bool) (kx : ByteArray) (gx : Bool) (ax nx : Int) (sx : ByteArray) : ∀ (i' : Nat) (w w' : World) (v : Value), VWBack gs gd i D R hq kx gx ax nx sx i' w v → Below w.heap.size w w' → VWBack gs gd i D R hq kx gx ax nx sx i' w' v := by
  intro i' w w' v h hb
  unfold VWBack at h ⊢
  split at h <;> first | exact h | trivial | exact h

theorem ret_lback_at {w w0 : World} {tmps : Array Value} {TL : List Value} {g : Nat} {fr : Nat × Nat}
    (hp : tmps.getD 2 undef = .pointer (some ⟨g, 0, none⟩)) (hg : w.heap[g]? = some (.cells TL.toArray 33 fr)) (hs : (Try.prog.info? 33).map (·.size) = some TL.length) (hb : Below w0.heap.size w0 w) :
    bodyPost Try.prog Try.f15 (fun e w' => e = .returned (.agg TL.toArray) ∧ Below w0.heap.size w0 w') Exit.ret { tmps := tmps, defers := [] } w :=
  bodyPost_ret (results_cell_row (P := Try.prog) (fn := Try.f15) (p := 2) (ty := 33) rfl tmps w g 33 TL.toArray fr _ hp hg Try.underlying33 rfl (by rw [hs, List.size_toArray])) rfl ⟨rfl, hb⟩

set_option maxHeartbeats 8000000 in
set_option maxRecDepth 100000 in
theorem lback_c (TT : TabT) (w : World) :
    Calls Try.prog 15 #[.agg (tabL TT 32).toArray] w fun e w' => e = .returned (.agg (tabL TT 32).toArray) ∧ Below w.heap.size w w' := by
  have hz := zero_tabRZ
  have HSZ := Go.Lib.hid (sizeTab zeroT)
  have HST := Go.Lib.hid (sizeTab TT)
  have HTO := Go.Lib.hid (tabL_one TT)
  have hT1 := TO.new w TT
  have HLE := Go.Lib.hid (show (tabL zeroT 32).length = (tabL TT 32).length from by rw [tabL_len, tabL_len])
  have HT0 := Go.Lib.hid (fun W => TK.new W zeroT)
  have HCT := Go.Lib.hid (show tabL (cutT TT 32) 32 = tabL TT 32 from tabL_congr 32 (fun q hq => cutT_old TT hq))
  have HRG := Go.Lib.hid (fun (W : World) g (h : TK W g (cutT TT 32)) => h.range)
  rw [HCT.out] at HRG
  have hb1 := below_one w (.cells (tabL TT 32).toArray 38)
  have hs1 : (w.alloc (.cells (tabL TT 32).toArray 38)).heap.size = w.heap.size + 1 := Array.size_push _
  generalize tabL zeroT 32 = ZL at *
  generalize tabL TT 32 = TL at *
  have hb2 := below_one (w.alloc (.cells TL.toArray 38)) (.cells ZL.toArray 33)
  have HT2 := Go.Lib.hid (hT1.below hb2)
  have HZ2 := Go.Lib.hid (heap_alloc_new (w.alloc (.cells TL.toArray 38)) (.cells ZL.toArray 33))
  rw [hs1] at HZ2
  have HB2 := Go.Lib.hid (hb1.trans (hb2.mono hb1.size))
  have HS2 := Go.Lib.hid (show ((w.alloc (.cells TL.toArray 38)).alloc (.cells ZL.toArray 33)).heap.size = w.heap.size + 2 from (Array.size_push _).trans (by rw [hs1]))
  clear hb1 hb2 hs1 hT1 HCT
  go_enter Try.func15, Try.ntmps15
  go_upto_region 1 with (fail)
  generalize (w.alloc (.cells TL.toArray 38)).alloc (.cells ZL.toArray 33) = w2 at *
  obtain ⟨g, hg⟩ : ∃ g, g = w.heap.size := ⟨_, rfl⟩
  rw [← hg] at HT2 HZ2 HS2 ⊢
  have HG := Go.Lib.hid (show w.heap.size ≤ g by omega)
  clear hg
  go_upto_region 2 with (fail)
  have hb3 := below_one w2 (.cells ZL.toArray 33)
  have HT3 := Go.Lib.hid (HT2.out.below hb3)
  have HZ3 := Go.Lib.hid (row_kept HZ2.out hb3)
  have HB3 := Go.Lib.hid (HB2.out.trans (hb3.mono HB2.out.size))
  have HD3 := Go.Lib.hid (HT0.out w2)
  rw [HS2.out] at HD3
  obtain ⟨g3, hg3⟩ : ∃ g3, g3 = w2.heap.size := ⟨_, rfl⟩
  have HG3 := Go.Lib.hid (show g3 = g + 2 by rw [hg3, HS2.out])
  rw [← HG3.out] at HD3
  rw [← hg3]
  clear hb3 HT2 HZ2 HB2 HT0 hg3 HS2
  generalize w2.alloc (.cells ZL.toArray 33) = w3 at *
  have HD3 := Go.Lib.hid (show TK w3 g3 (cutT TT 0) from by
    have : cutT TT 0 = zeroT := by funext q; unfold cutT zeroT; rw [if_neg (by omega)]
    rw [this]
    exact HD3.out)
  go_wp2_with fail
  go_loopw [4] (fun iv wr => ∃ i : Nat, i ≤ 32 ∧ iv = .int .i64 (i : Int) ∧ Hid (TO wr g TT) ∧ Hid (TK wr g3 (cutT TT i)) ∧ Hid (wr.heap[g + 1]? = some (.cells ZL.toArray 33)) ∧ Hid (Below w.heap.size w wr)) (fun iv _ => 32 - (intOf iv).toNat)
  case atStart => exact ⟨0, by omega, rfl, HT3, HD3, HZ3, HB3⟩
  case round =>
    clear HT3 HD3 HZ3 HB3
    obtain ⟨i, hi, rfl, HT, HD, HZ, HB⟩ := hrel
    by_cases hlt : i < 32
    · have hltI : (i : Int) < 32 := by omega
      obtain ⟨D, hD⟩ : ∃ D, D = i / 4 := ⟨_, rfl⟩
      obtain ⟨R, hR⟩ : ∃ R, R = i % 4 := ⟨_, rfl⟩
      have d1 : (i : Int).tdiv 4 = (D : Int) := by rw [Int.tdiv_eq_ediv_of_nonneg (by omega)]; omega
      have r1 : (i : Int).tmod 4 = (R : Int) := by rw [Int.tmod_eq_emod_of_nonneg (by omega)]; omega
      have hD8 : D < 8 := by omega
      have hR4 : R < 4 := by omega
      have hwD : IntKind.i64.wrap (D : Int) = (D : Int) := by rw [IntKind.wrap_i64]; omega
      have HIE := Go.Lib.hid (show 4 * D + R = i by omega)
      have hix1 := idxO g D hD8
      have hix2 := idxO2 g (24 * D) R hR4
      have hjx1 := idxT g3 D hD8
      have hjx2 := idxT2 g3 (24 * D) R hR4
      have HCELL := Go.Lib.hid (fun W (hb : Below wr.heap.size wr W) => by
        have h := (HT.out.below hb).at hD8 hR4
        rw [show 4 * D + R = i by omega] at h
        exact h)
      have HSET := Go.Lib.hid (cutT_set TT i)
      clear hD hR
      go_upto_region 5 with (fail)
      generalize TT i = y at *
      obtain ⟨hq, kx, gx, ax, nx, sx⟩ := y
      simp only [] at HCELL
      refine wp_region_head 23 (by decide) (by kernel_rfl) (VWBack g g3 i D R hq kx gx ax nx sx) (VWBack_below g g3 i D R hq kx gx ax nx sx) (by decide +kernel) (by rfl) [9, 10, 11, 12, 13, 14, 15, 16, 17, 18, 19, 20, 21, 22, 23, 24, 25, 26, 27, 28, 29, 30, 31] (by rfl) ?_ ?_
      · intro i' o hin ho a w8 hb8 hlen hg
        obtain ⟨y0, y1, y2, y3, y4, y5⟩ := HCELL.out w8 hb8
        match i', hin, ho with
        | 0, hin, ho =>
          obtain rfl := Option.some.inj ho
          have h4 := given_old hg 4 (by decide +kernel)
          clear hg
          exact st_yield ho (wanted_none rfl) (.int .i64 (i : Int)) w8 (by simp [execOp, Act.eval, h4, go_sem]) ⟨_, rfl, Below.refl _ _, by rintro t' ⟨⟩; rfl⟩
        | 1, hin, ho =>
          obtain rfl := Option.some.inj ho
          obtain ⟨_, h9, rfl⟩ := given_fed hg 9 (by decide +kernel)
          clear hg
          exact st_yield ho (wanted_none rfl) (.int .i64 (D : Int)) w8 (by simp [execOp, Act.eval, h9, go_sem, d1, hwD]) ⟨_, rfl, Below.refl _ _, by rintro t' ⟨⟩; rfl⟩
        | 2, hin, ho =>
          obtain rfl := Option.some.inj ho
          have h4 := given_old hg 4 (by decide +kernel)
          clear hg
          exact st_yield ho (wanted_none rfl) (.int .i64 (i : Int)) w8 (by simp [execOp, Act.eval, h4, go_sem]) ⟨_, rfl, Below.refl _ _, by rintro t' ⟨⟩; rfl⟩
        | 3, hin, ho =>
          obtain rfl := Option.some.inj ho
          obtain ⟨_, h11, rfl⟩ := given_fed hg 11 (by decide +kernel)
          clear hg
          exact st_yield ho (wanted_none rfl) (.int .i64 (R : Int)) w8 (by simp [execOp, Act.eval, h11, go_sem, r1]) ⟨_, rfl, Below.refl _ _, by rintro t' ⟨⟩; rfl⟩
        | 4, hin, ho =>
          obtain rfl := Option.some.inj ho
          have h4 := given_old hg 4 (by decide +kernel)
          clear hg
          exact st_yield ho (wanted_none rfl) (.int .i64 (i : Int)) w8 (by simp [execOp, Act.eval, h4, go_sem]) ⟨_, rfl, Below.refl _ _, by rintro t' ⟨⟩; rfl⟩
        | 5, hin, ho =>
          obtain rfl := Option.some.inj ho
          obtain ⟨_, h13, rfl⟩ := given_fed hg 13 (by decide +kernel)
          clear hg
          exact st_yield ho (wanted_none rfl) (.int .i64 (D : Int)) w8 (by simp [execOp, Act.eval, h13, go_sem, d1, hwD]) ⟨_, rfl, Below.refl _ _, by rintro t' ⟨⟩; rfl⟩
        | 6, hin, ho =>
          obtain rfl := Option.some.inj ho
          have h4 := given_old hg 4 (by decide +kernel)
          clear hg
          exact st_yield ho (wanted_none rfl) (.int .i64 (i : Int)) w8 (by simp [execOp, Act.eval, h4, go_sem]) ⟨_, rfl, Below.refl _ _, by rintro t' ⟨⟩; rfl⟩
        | 7, hin, ho =>
          obtain rfl := Option.some.inj ho
          obtain ⟨_, h15, rfl⟩ := given_fed hg 15 (by decide +kernel)
          clear hg
          exact st_yield ho (wanted_none rfl) (.int .i64 (R : Int)) w8 (by simp [execOp, Act.eval, h15, go_sem, r1]) ⟨_, rfl, Below.refl _ _, by rintro t' ⟨⟩; rfl⟩
        | 8, hin, ho =>
          obtain rfl := Option.some.inj ho
          have h1 := given_old hg 1 (by decide +kernel)
          obtain ⟨_, h14, rfl⟩ := given_fed hg 14 (by decide +kernel)
          clear hg
          exact st_yield ho (wanted_none rfl) (.pointer (some ⟨g, 24 * D, none⟩)) w8 (by simp [execOp, Act.eval, h1, h14, go_sem, hix1]) ⟨_, rfl, Below.refl _ _, by rintro t' ⟨⟩; rfl⟩
        | 9, hin, ho =>
          obtain rfl := Option.some.inj ho
          obtain ⟨_, h17, rfl⟩ := given_fed hg 17 (by decide +kernel)
          obtain ⟨_, h16, rfl⟩ := given_fed hg 16 (by decide +kernel)
          clear hg
          exact st_yield ho (wanted_none rfl) (.pointer (some ⟨g, 24 * D + 6 * R, none⟩)) w8 (by simp [execOp, Act.eval, h17, h16, go_sem, hix2]) ⟨_, rfl, Below.refl _ _, by rintro t' ⟨⟩; rfl⟩
        | 10, hin, ho =>
          obtain rfl := Option.some.inj ho
          obtain ⟨_, h18, rfl⟩ := given_fed hg 18 (by decide +kernel)
          clear hg
          exact st_yield ho (wanted_none rfl) (.pointer (some ⟨g, 24 * D + 6 * R, none⟩)) w8 (by simp [execOp, Act.eval, h18, go_sem]) ⟨_, rfl, Below.refl _ _, by rintro t' ⟨⟩; rfl⟩
        | 11, hin, ho =>
          obtain rfl := Option.some.inj ho
          obtain ⟨_, h19, rfl⟩ := given_fed hg 19 (by decide +kernel)
          clear hg
          exact st_yield ho (wanted_none rfl) (.bool hq) w8 (by simp [execOp, Act.eval, h19, go_sem, y0]) ⟨_, rfl, Below.refl _ _, by rintro t' ⟨⟩; rfl⟩
        | 12, hin, ho =>
          obtain rfl := Option.some.inj ho
          have h4 := given_old hg 4 (by decide +kernel)
          clear hg
          exact st_yield ho (wanted_none rfl) (.int .i64 (i : Int)) w8 (by simp [execOp, Act.eval, h4, go_sem]) ⟨_, rfl, Below.refl _ _, by rintro t' ⟨⟩; rfl⟩
        | 13, hin, ho =>
          obtain rfl := Option.some.inj ho
          obtain ⟨_, h21, rfl⟩ := given_fed hg 21 (by decide +kernel)
          clear hg
          exact st_yield ho (wanted_none rfl) (.int .i64 (D : Int)) w8 (by simp [execOp, Act.eval, h21, go_sem, d1, hwD]) ⟨_, rfl, Below.refl _ _, by rintro t' ⟨⟩; rfl⟩
        | 14, hin, ho =>
          obtain rfl := Option.some.inj ho
          have h4 := given_old hg 4 (by decide +kernel)
          clear hg
          exact st_yield ho (wanted_none rfl) (.int .i64 (i : Int)) w8 (by simp [execOp, Act.eval, h4, go_sem]) ⟨_, rfl, Below.refl _ _, by rintro t' ⟨⟩; rfl⟩
        | 15, hin, ho =>
          obtain rfl := Option.some.inj ho
          obtain ⟨_, h23, rfl⟩ := given_fed hg 23 (by decide +kernel)
          clear hg
          exact st_yield ho (wanted_none rfl) (.int .i64 (R : Int)) w8 (by simp [execOp, Act.eval, h23, go_sem, r1]) ⟨_, rfl, Below.refl _ _, by rintro t' ⟨⟩; rfl⟩
        | 16, hin, ho =>
          obtain rfl := Option.some.inj ho
          have h1 := given_old hg 1 (by decide +kernel)
          obtain ⟨_, h22, rfl⟩ := given_fed hg 22 (by decide +kernel)
          clear hg
          exact st_yield ho (wanted_none rfl) (.pointer (some ⟨g, 24 * D, none⟩)) w8 (by simp [execOp, Act.eval, h1, h22, go_sem, hix1]) ⟨_, rfl, Below.refl _ _, by rintro t' ⟨⟩; rfl⟩
        | 17, hin, ho =>
          obtain rfl := Option.some.inj ho
          obtain ⟨_, h25, rfl⟩ := given_fed hg 25 (by decide +kernel)
          obtain ⟨_, h24, rfl⟩ := given_fed hg 24 (by decide +kernel)
          clear hg
          exact st_yield ho (wanted_none rfl) (.pointer (some ⟨g, 24 * D + 6 * R, none⟩)) w8 (by simp [execOp, Act.eval, h25, h24, go_sem, hix2]) ⟨_, rfl, Below.refl _ _, by rintro t' ⟨⟩; rfl⟩
        | 18, hin, ho =>
          obtain rfl := Option.some.inj ho
          obtain ⟨_, h26, rfl⟩ := given_fed hg 26 (by decide +kernel)
          clear hg
          exact st_yield ho (wanted_none rfl) (.pointer (some ⟨g, 24 * D + 6 * R + 1, none⟩)) w8 (by simp [execOp, Act.eval, h26, go_sem]) ⟨_, rfl, Below.refl _ _, by rintro t' ⟨⟩; rfl⟩
        | 19, hin, ho =>
          obtain rfl := Option.some.inj ho
          obtain ⟨_, h27, rfl⟩ := given_fed hg 27 (by decide +kernel)
          clear hg
          exact st_yield ho (wanted_none rfl) (.agg #[.string kx, .bool gx, .int .i64 ax, .int .i64 nx, .string sx]) w8 (by simp [execOp, Act.eval, h27, go_sem, y1, y2, y3, y4, y5]) ⟨_, rfl, Below.refl _ _, by rintro t' ⟨⟩; rfl⟩
        | 20, hin, ho =>
          obtain rfl := Option.some.inj ho
          obtain ⟨_, h20, rfl⟩ := given_fed hg 20 (by decide +kernel)
          obtain ⟨_, h28, rfl⟩ := given_fed hg 28 (by decide +kernel)
          clear hg
          exact st_yield ho (wanted_none rfl) (.agg #[.bool hq, .string kx, .bool gx, .int .i64 ax, .int .i64 nx, .string sx]) w8 (by simp [execOp, Act.eval, h20, h28, build_rslot hq kx gx ax nx sx w8]) ⟨_, rfl, Below.refl _ _, by rintro t' ⟨⟩; rfl⟩
        | 21, hin, ho =>
          obtain rfl := Option.some.inj ho
          have h3 := given_old hg 3 (by decide +kernel)
          obtain ⟨_, h10, rfl⟩ := given_fed hg 10 (by decide +kernel)
          clear hg
          exact st_yield ho (wanted_none rfl) (.pointer (some ⟨g3, 24 * D, none⟩)) w8 (by simp [execOp, Act.eval, h3, h10, go_sem, hjx1]) ⟨_, rfl, Below.refl _ _, by rintro t' ⟨⟩; rfl⟩
        | 22, hin, ho =>
          obtain rfl := Option.some.inj ho
          obtain ⟨_, h30, rfl⟩ := given_fed hg 30 (by decide +kernel)
          obtain ⟨_, h12, rfl⟩ := given_fed hg 12 (by decide +kernel)
          clear hg
          exact st_yield ho (wanted_none rfl) (.pointer (some ⟨g3, 24 * D + 6 * R, none⟩)) w8 (by simp [execOp, Act.eval, h30, h12, go_sem, hjx2]) ⟨_, rfl, Below.refl _ _, by rintro t' ⟨⟩; rfl⟩
        | n + 23, hin, ho => omega
      · intro f w8 hb8 hv
        have h29 := hv 29 (by decide)
        have h31 := hv 31 (by decide)
        simp only [VWBack] at h29 h31
        have HT8 := Go.Lib.hid (HT.out.below hb8)
        have HD8 := Go.Lib.hid (HD.out.below hb8)
        have HZ8 := Go.Lib.hid (row_kept HZ.out hb8)
        have HB8 := Go.Lib.hid (HB.out.trans (hb8.mono HB.out.size))
        have HTH := Go.Lib.hid (show w8.there g3 (24 * D + 6 * R) (#[.bool hq, .string kx, .bool gx, .int .i64 ax, .int .i64 nx, .string sx] : Array Value).size from by rw [show 24 * D + 6 * R = 6 * i by have := HIE.out; omega]; exact HD8.out.there (by omega))
        have hgr := setCells_gr (enc6 (hq, kx, gx, ax, nx, sx)) w8 g3 (24 * D + 6 * R)
        have HT9 := Go.Lib.hid (HT8.out.same (hgr.block g HT8.out.lt (fun e => by have := HG3.out; have := Option.some.inj e; omega)))
        have HD9 := Go.Lib.hid (show TK (w8.setCells g3 (24 * D + 6 * R) (enc6 (hq, kx, gx, ax, nx, sx))) g3 (cutT TT (i + 1)) from by
          have := HD8.out.set (q := i) (by omega) (hq, kx, gx, ax, nx, sx)
          rw [show 6 * i = 24 * D + 6 * R by have := HIE.out; omega, HSET.out] at this
          exact this)
        have HZ9 := Go.Lib.hid ((hgr.block (g + 1) (row_lt HZ8.out) (fun e => by have := HG3.out; have := Option.some.inj e; omega)).trans HZ8.out)
        have HB9 := Go.Lib.hid (HB8.out.grown hgr HB8.out.size (fun j e => by have := HG3.out; have := HG.out; have := Option.some.inj e; omega))
        clear hv hb8 hix1 hix2 hjx1 hjx2 HT HD HZ HB HT8 HD8 HZ8 HB8 hgr d1 r1 hwD HCELL
        unfold putAll
        simp only [List.foldl, List.drop]
        simp only [h29, h31]
        clear h29 h31
        go_simp
        go_wp2_with (first
          | (with_reducible show wpList _ _ _ (⟨none, _, _, _, _, _⟩ :: _) _ _; go_loud (refine wpList_store_mid rfl 30 (.tmp 31) (.tmp 29) rfl g3 (24 * D + 6 * R) #[.bool hq, .string kx, .bool gx, .int .i64 ax, .int .i64 nx, .string sx] rfl rfl HTH.out (by kernel_rfl) (six1 hq kx gx ax nx sx) ?_))
          | fail)
        go_roundw
        case rel => exact ⟨i + 1, by omega, by go_num, HT9, HD9, HZ9, HB9⟩
        case measure => simp only [intOf]; omega
    · obtain rfl : i = 32 := by omega
      have HR9 := Go.Lib.hid (HRG.out _ _ HD.out)
      clear HT HD HRG
      go_wp2_with (first
        | (with_reducible show wpList _ _ _ (⟨some 32, _, _, _, _, _⟩ :: _) _ _; go_loud (refine wpList_load_mid rfl 33 (.tmp 3) rfl g3 0 rfl TL _ HR9.out Try.underlying33 rfl HST.out ?_))
        | (with_reducible show wpList _ _ _ (⟨none, Op.store 33 (.tmp 2) (.tmp 32), _, _, _, _⟩ :: _) _ _; go_loud (refine wpList_store_row rfl 33 (.tmp 2) (.tmp 32) rfl (g + 1) TL.toArray rfl rfl 33 _ HZ.out (by rw [HST.out, List.size_toArray]) (by rw [List.size_toArray, List.size_toArray]; exact HLE.out) HTO.out ?_))
        | fail)
      exact ret_lback_at rfl (setRow_heap _ _ _ _ _ (0, 0) HZ.out) HST.out (setRow_below _ HB.out (by have := HG.out; omega))

end Go.Proofs.Ytgalppnpmfpdbaa

namespace Go.Proofs.Ytgalppnpmfpdbaa
open Go.RowKit

/-- A pointer to a slot of the region's own. -/
def SlotAt (B : Nat) (w : World) (v : Value) : Prop := ∃ q X, v = .pointer (some ⟨q, 0, none⟩) ∧ B ≤ q ∧ w.heap[q]? = some (.cells X 30 (0, 0)) ∧ X.size = 6
theorem SlotAt.below {B : Nat} {w w' : World} {v : Value} (h : SlotAt B w v) (hb : Below w.heap.size w w') : SlotAt B w' v := by
  obtain ⟨q, X, h1, h2, h3, h4⟩ := h
  exact ⟨q, X, h1, h2, row_kept h3 hb, h4⟩
theorem SlotAt.set {B q : Nat} {w : World} {v : Value} {X A : Array Value} (h : SlotAt B w v) (hq2 : w.heap[q]? = some (.cells X 30 (0, 0))) (hA : A.size = 6) : SlotAt B (w.setRow q A) v := by
  obtain ⟨r, Y, h1, h2, h3, h4⟩ := h
  by_cases e : r = q
  · subst e; exact ⟨r, A, h1, h2, setRow_heap _ _ _ _ _ (0, 0) hq2, hA⟩
  · exact ⟨r, Y, h1, h2, (setRow_other w q r A e).trans h3, h4⟩
def VQe (B g i D R : Nat) (hq : Bool) (kx : ByteArray) (gx : Bool) (ax nx : Int) (sx : ByteArray) : Nat → World → Value → Prop
  | 12, _, v => v = .int .i64 (i : Int)
  | 13, _, v => v = .int .i64 (D : Int)
  | 14, _, v => v = .int .i64 (i : Int)
  | 15, _, v => v = .int .i64 (R : Int)
  | 16, _, v => v = .pointer (some ⟨g, 24 * D, none⟩)
  | 17, _, v => v = .pointer (some ⟨g, 24 * D + 6 * R, none⟩)
  | 18, _, v => v = .agg #[.bool hq, .string kx, .bool gx, .int .i64 ax, .int .i64 nx, .string sx]
  | 19, _, v => v = .int .i64 (i : Int)
  | 20, _, v => v = .int .i64 (D : Int)
  | 21, _, v => v = .int .i64 (i : Int)
  | 22, _, v => v = .int .i64 (R : Int)
  | 23, _, v => v = .pointer (some ⟨g + 1, 24 * D, none⟩)
  | 24, _, v => v = .pointer (some ⟨g + 1, 24 * D + 6 * R, none⟩)
  | 25, _, v => v = .agg #[.bool hq, .string kx, .bool gx, .int .i64 ax, .int .i64 nx, .string sx]
  | 6, w, v => SlotAt B w v
  | 7, w, v => SlotAt B w v
  | _, _, _ => True
theorem VQe_below (B g i D R : Nat) (hq : Bool) (kx : ByteArray) (gx : Bool) (ax nx : Int) (sx : ByteArray) : ∀ (i' : Nat) (w w' : World) (v : Value), VQe B g i D R hq kx gx ax nx sx i' w v → Below w.heap.size w w' → VQe B g i D R hq kx gx ax nx sx i' w' v := by
  intro i' w w' v h hb
  unfold VQe at h ⊢
  split at h <;> first | exact h | trivial | exact SlotAt.below h hb
theorem VQe_set (B g i D R : Nat) (hq : Bool) (kx : ByteArray) (gx : Bool) (ax nx : Int) (sx : ByteArray) {w : World} {q : Nat} {X A : Array Value} (hq2 : w.heap[q]? = some (.cells X 30 (0, 0))) (hA : A.size = 6) : ∀ (i' : Nat) (v : Value), VQe B g i D R hq kx gx ax nx sx i' w v → VQe B g i D R hq kx gx ax nx sx i' (w.setRow q A) v := by
  intro i' v h
  unfold VQe at h ⊢
  split at h <;> first | exact h | trivial | exact SlotAt.set h hq2 hA
/-- What the region has done. -/
structure IQe (w0 : World) (A : Array Value) (done : Nat → Bool) (a : Act) (w : World) : Prop where
  bel : Below w0.heap.size w0 w
  s6 : done 16 = true → ∃ q, a.tmps[6]? = some (.pointer (some ⟨q, 0, none⟩)) ∧ w.heap[q]? = some (.cells A 30 (0, 0))
  s7 : done 17 = true → ∃ q, a.tmps[7]? = some (.pointer (some ⟨q, 0, none⟩)) ∧ w.heap[q]? = some (.cells A 30 (0, 0))
section
variable {w0 w : World} {A : Array Value} {done : Nat → Bool} {a a' : Act}
theorem IQe.keep (h : IQe w0 A done a w) {i : Nat} (n16 : 16 ≠ i) (n17 : 17 ≠ i) (h6 : a'.tmps[6]? = a.tmps[6]?) (h7 : a'.tmps[7]? = a.tmps[7]?) : IQe w0 A (doneToo done i) a' w := by
  refine ⟨h.bel, fun e => ?_, fun e => ?_⟩
  · rw [doneToo_other n16] at e; rw [h6]; exact h.s6 e
  · rw [doneToo_other n17] at e; rw [h7]; exact h.s7 e
theorem IQe.alloc6 (h : IQe w0 A done a w) {o : Obj} (hnot : done 14 = false) (hsh : done 16 = true → done 14 = true) (h7 : a'.tmps[7]? = a.tmps[7]?) : IQe w0 A (doneToo done 14) a' (w.alloc o) := by
  have hb := below_one w o
  refine ⟨h.bel.trans (hb.mono h.bel.size), fun e => ?_, fun e => ?_⟩
  · rw [doneToo_other (by decide)] at e; rw [hsh e] at hnot; cases hnot
  · rw [doneToo_other (by decide)] at e; rw [h7]
    obtain ⟨q, h1, h2⟩ := h.s7 e
    exact ⟨q, h1, row_kept h2 hb⟩
theorem IQe.alloc7 (h : IQe w0 A done a w) {o : Obj} (hnot : done 15 = false) (hsh : done 17 = true → done 15 = true) (h6 : a'.tmps[6]? = a.tmps[6]?) : IQe w0 A (doneToo done 15) a' (w.alloc o) := by
  have hb := below_one w o
  refine ⟨h.bel.trans (hb.mono h.bel.size), fun e => ?_, fun e => ?_⟩
  · rw [doneToo_other (by decide)] at e; rw [h6]
    obtain ⟨q, h1, h2⟩ := h.s6 e
    exact ⟨q, h1, row_kept h2 hb⟩
  · rw [doneToo_other (by decide)] at e; rw [hsh e] at hnot; cases hnot
theorem row_again {q r : Nat} {X : Array Value} {t : TypeId} (hr : w.heap[r]? = some (.cells X t (0, 0))) (hq : w.heap[q]? = some (.cells A t (0, 0))) : (w.setRow r A).heap[q]? = some (.cells A t (0, 0)) := by
  by_cases e : q = r
  · subst e; exact setRow_heap _ _ _ _ _ (0, 0) hr
  · exact (setRow_other w r q A e).trans hq
theorem IQe.store6 (h : IQe w0 A done a w) {q : Nat} {X : Array Value} (h6 : a.tmps[6]? = some (.pointer (some ⟨q, 0, none⟩))) (hq1 : w0.heap.size ≤ q) (hq2 : w.heap[q]? = some (.cells X 30 (0, 0))) : IQe w0 A (doneToo done 16) (a.put none undef) (w.setRow q A) := by
  refine ⟨setRow_below A h.bel hq1, fun _ => ⟨q, h6, setRow_heap _ _ _ _ _ (0, 0) hq2⟩, fun e => ?_⟩
  rw [doneToo_other (by decide)] at e
  obtain ⟨r, h1, h2⟩ := h.s7 e
  exact ⟨r, h1, row_again hq2 h2⟩
theorem IQe.store7 (h : IQe w0 A done a w) {q : Nat} {X : Array Value} (h7 : a.tmps[7]? = some (.pointer (some ⟨q, 0, none⟩))) (hq1 : w0.heap.size ≤ q) (hq2 : w.heap[q]? = some (.cells X 30 (0, 0))) : IQe w0 A (doneToo done 17) (a.put none undef) (w.setRow q A) := by
  refine ⟨setRow_below A h.bel hq1, fun e => ?_, fun _ => ⟨q, h7, setRow_heap _ _ _ _ _ (0, 0) hq2⟩⟩
  rw [doneToo_other (by decide)] at e
  obtain ⟨r, h1, h2⟩ := h.s6 e
  exact ⟨r, h1, row_again hq2 h2⟩
end
theorem eqRec_self (x : RecT) : eqRec x.1 x.2.1 x.2.2.1 x.2.2.2.1 x.2.2.2.2 x.1 x.2.1 x.2.2.1 x.2.2.2.1 x.2.2.2.2 = true := by rw [eqRec_iff]; exact decide_eq_true rfl

set_option maxHeartbeats 8000000 in
set_option maxRecDepth 100000 in
theorem leq_c (TT : TabT) (w : World) :
    Calls Try.prog 14 #[.agg (tabL TT 32).toArray, .agg (tabL TT 32).toArray] w fun e w' => e = .returned (.bool true) ∧ Below w.heap.size w w' := by
  have hT1 := TK.new w TT
  have hb1 := below_one w (.cells (tabL TT 32).toArray 33)
  have hs1 : (w.alloc (.cells (tabL TT 32).toArray 33)).heap.size = w.heap.size + 1 := Array.size_push _
  have hT2 := TK.new (w.alloc (.cells (tabL TT 32).toArray 33)) TT
  rw [hs1] at hT2
  generalize tabL TT 32 = TL at *
  have hb2 := below_one (w.alloc (.cells TL.toArray 33)) (.cells TL.toArray 33)
  have HT := Go.Lib.hid (hT1.below hb2)
  have HU := Go.Lib.hid hT2
  have HB := Go.Lib.hid (hb1.trans (hb2.mono hb1.size))
  clear hb1 hb2 hs1 hT1 hT2
  go_enter Try.func14, Try.ntmps14
  go_upto_region 1 with (fail)
  generalize (w.alloc (.cells TL.toArray 33)).alloc (.cells TL.toArray 33) = w2 at *
  obtain ⟨g, hg⟩ : ∃ g, g = w.heap.size := ⟨_, rfl⟩
  rw [← hg] at HT HU ⊢
  have HG := Go.Lib.hid (show w.heap.size ≤ g by omega)
  clear hg
  go_wp2_with fail
  go_loopw [5] (fun iv wr => ∃ i : Nat, i ≤ 32 ∧ iv = .int .i64 (i : Int) ∧ Hid (TK wr g TT) ∧ Hid (TK wr (g + 1) TT) ∧ Hid (Below w.heap.size w wr)) (fun iv _ => 32 - (intOf iv).toNat)
  case atStart => exact ⟨0, by omega, rfl, HT, HU, HB⟩
  case round =>
    clear HT HU HB
    obtain ⟨i, hi, rfl, HT, HU, HB⟩ := hrel
    by_cases hlt : i < 32
    · have hltI : (i : Int) < 32 := by omega
      obtain ⟨D, hD⟩ : ∃ D, D = i / 4 := ⟨_, rfl⟩
      obtain ⟨R, hR⟩ : ∃ R, R = i % 4 := ⟨_, rfl⟩
      have d1 : (i : Int).tdiv 4 = (D : Int) := by rw [Int.tdiv_eq_ediv_of_nonneg (by omega)]; omega
      have r1 : (i : Int).tmod 4 = (R : Int) := by rw [Int.tmod_eq_emod_of_nonneg (by omega)]; omega
      have hD8 : D < 8 := by omega
      have hR4 : R < 4 := by omega
      have hwD : IntKind.i64.wrap (D : Int) = (D : Int) := by rw [IntKind.wrap_i64]; omega
      have hix1 := idxT g D hD8
      have hix2 := idxT2 g (24 * D) R hR4
      have hjx1 := idxT (g + 1) D hD8
      have hjx2 := idxT2 (g + 1) (24 * D) R hR4
      have HCELL := Go.Lib.hid (fun W (hb : Below wr.heap.size wr W) => by
        have h := (HT.out.below hb).at hD8 hR4
        have k := (HU.out.below hb).at hD8 hR4
        rw [show 4 * D + R = i by omega] at h k
        exact And.intro h k)
      clear hD hR
      go_upto_region 4 with (fail)
      generalize TT i = y at *
      obtain ⟨hq, kx, gx, ax, nx, sx⟩ := y
      simp only [] at HCELL
      refine wp_region_inv3 (by kernel_rfl) (VQe wr.heap.size g i D R hq kx gx ax nx sx) (IQe wr #[.bool hq, .string kx, .bool gx, .int .i64 ax, .int .i64 nx, .string sx]) (by decide +kernel) (by decide +kernel) (by rfl) [12, 13, 14, 15, 16, 17, 18, 19, 20, 21, 22, 23, 24, 25, 6, 7] (by rfl) ⟨below_drewN (Below.refl _ _) 1, (fun e => by cases e), (fun e => by cases e)⟩ ?_ ?_
      · intro i' o ho a w8 done hI hnot hr hsh0 hlen hg
        obtain ⟨⟨y0, y1, y2, y3, y4, y5⟩, ⟨z0, z1, z2, z3, z4, z5⟩⟩ := HCELL.out w8 hI.bel
        match i', ho with
        | 0, ho =>
          obtain rfl := Option.some.inj ho
          have h5 := given_old hg 5 (by decide +kernel)
          clear hg
          exact st_yield ho (wanted_none rfl) (.int .i64 (i : Int)) w8 (by simp [execOp, Act.eval, h5, go_sem]) ⟨_, rfl, hI.keep (by decide) (by decide) (put_tmps_other (by decide)) (put_tmps_other (by decide)), fun _ _ _ h => h, by rintro t' ⟨⟩; rfl⟩
        | 1, ho =>
          obtain rfl := Option.some.inj ho
          obtain ⟨_, h12, rfl⟩ := given_fed hg 12 (by decide +kernel)
          clear hg
          exact st_yield ho (wanted_none rfl) (.int .i64 (D : Int)) w8 (by simp [execOp, Act.eval, h12, go_sem, d1, hwD]) ⟨_, rfl, hI.keep (by decide) (by decide) (put_tmps_other (by decide)) (put_tmps_other (by decide)), fun _ _ _ h => h, by rintro t' ⟨⟩; rfl⟩
        | 2, ho =>
          obtain rfl := Option.some.inj ho
          have h5 := given_old hg 5 (by decide +kernel)
          clear hg
          exact st_yield ho (wanted_none rfl) (.int .i64 (i : Int)) w8 (by simp [execOp, Act.eval, h5, go_sem]) ⟨_, rfl, hI.keep (by decide) (by decide) (put_tmps_other (by decide)) (put_tmps_other (by decide)), fun _ _ _ h => h, by rintro t' ⟨⟩; rfl⟩
        | 3, ho =>
          obtain rfl := Option.some.inj ho
          obtain ⟨_, h14, rfl⟩ := given_fed hg 14 (by decide +kernel)
          clear hg
          exact st_yield ho (wanted_none rfl) (.int .i64 (R : Int)) w8 (by simp [execOp, Act.eval, h14, go_sem, r1]) ⟨_, rfl, hI.keep (by decide) (by decide) (put_tmps_other (by decide)) (put_tmps_other (by decide)), fun _ _ _ h => h, by rintro t' ⟨⟩; rfl⟩
        | 4, ho =>
          obtain rfl := Option.some.inj ho
          have h2 := given_old hg 2 (by decide +kernel)
          obtain ⟨_, h13, rfl⟩ := given_fed hg 13 (by decide +kernel)
          clear hg
          exact st_yield ho (wanted_none rfl) (.pointer (some ⟨g, 24 * D, none⟩)) w8 (by simp [execOp, Act.eval, h2, h13, go_sem, hix1]) ⟨_, rfl, hI.keep (by decide) (by decide) (put_tmps_other (by decide)) (put_tmps_other (by decide)), fun _ _ _ h => h, by rintro t' ⟨⟩; rfl⟩
        | 5, ho =>
          obtain rfl := Option.some.inj ho
          obtain ⟨_, h16, rfl⟩ := given_fed hg 16 (by decide +kernel)
          obtain ⟨_, h15, rfl⟩ := given_fed hg 15 (by decide +kernel)
          clear hg
          exact st_yield ho (wanted_none rfl) (.pointer (some ⟨g, 24 * D + 6 * R, none⟩)) w8 (by simp [execOp, Act.eval, h16, h15, go_sem, hix2]) ⟨_, rfl, hI.keep (by decide) (by decide) (put_tmps_other (by decide)) (put_tmps_other (by decide)), fun _ _ _ h => h, by rintro t' ⟨⟩; rfl⟩
        | 6, ho =>
          obtain rfl := Option.some.inj ho
          obtain ⟨_, h17, rfl⟩ := given_fed hg 17 (by decide +kernel)
          clear hg
          exact st_yield ho (wanted_none rfl) (.agg #[.bool hq, .string kx, .bool gx, .int .i64 ax, .int .i64 nx, .string sx]) w8 (by simp [execOp, Act.eval, h17, go_sem, y0, y1, y2, y3, y4, y5]) ⟨_, rfl, hI.keep (by decide) (by decide) (put_tmps_other (by decide)) (put_tmps_other (by decide)), fun _ _ _ h => h, by rintro t' ⟨⟩; rfl⟩
        | 7, ho =>
          obtain rfl := Option.some.inj ho
          have h5 := given_old hg 5 (by decide +kernel)
          clear hg
          exact st_yield ho (wanted_none rfl) (.int .i64 (i : Int)) w8 (by simp [execOp, Act.eval, h5, go_sem]) ⟨_, rfl, hI.keep (by decide) (by decide) (put_tmps_other (by decide)) (put_tmps_other (by decide)), fun _ _ _ h => h, by rintro t' ⟨⟩; rfl⟩
        | 8, ho =>
          obtain rfl := Option.some.inj ho
          obtain ⟨_, h19, rfl⟩ := given_fed hg 19 (by decide +kernel)
          clear hg
          exact st_yield ho (wanted_none rfl) (.int .i64 (D : Int)) w8 (by simp [execOp, Act.eval, h19, go_sem, d1, hwD]) ⟨_, rfl, hI.keep (by decide) (by decide) (put_tmps_other (by decide)) (put_tmps_other (by decide)), fun _ _ _ h => h, by rintro t' ⟨⟩; rfl⟩
        | 9, ho =>
          obtain rfl := Option.some.inj ho
          have h5 := given_old hg 5 (by decide +kernel)
          clear hg
          exact st_yield ho (wanted_none rfl) (.int .i64 (i : Int)) w8 (by simp [execOp, Act.eval, h5, go_sem]) ⟨_, rfl, hI.keep (by decide) (by decide) (put_tmps_other (by decide)) (put_tmps_other (by decide)), fun _ _ _ h => h, by rintro t' ⟨⟩; rfl⟩
        | 10, ho =>
          obtain rfl := Option.some.inj ho
          obtain ⟨_, h21, rfl⟩ := given_fed hg 21 (by decide +kernel)
          clear hg
          exact st_yield ho (wanted_none rfl) (.int .i64 (R : Int)) w8 (by simp [execOp, Act.eval, h21, go_sem, r1]) ⟨_, rfl, hI.keep (by decide) (by decide) (put_tmps_other (by decide)) (put_tmps_other (by decide)), fun _ _ _ h => h, by rintro t' ⟨⟩; rfl⟩
        | 11, ho =>
          obtain rfl := Option.some.inj ho
          have h3 := given_old hg 3 (by decide +kernel)
          obtain ⟨_, h20, rfl⟩ := given_fed hg 20 (by decide +kernel)
          clear hg
          exact st_yield ho (wanted_none rfl) (.pointer (some ⟨g + 1, 24 * D, none⟩)) w8 (by simp [execOp, Act.eval, h3, h20, go_sem, hjx1]) ⟨_, rfl, hI.keep (by decide) (by decide) (put_tmps_other (by decide)) (put_tmps_other (by decide)), fun _ _ _ h => h, by rintro t' ⟨⟩; rfl⟩
        | 12, ho =>
          obtain rfl := Option.some.inj ho
          obtain ⟨_, h23, rfl⟩ := given_fed hg 23 (by decide +kernel)
          obtain ⟨_, h22, rfl⟩ := given_fed hg 22 (by decide +kernel)
          clear hg
          exact st_yield ho (wanted_none rfl) (.pointer (some ⟨g + 1, 24 * D + 6 * R, none⟩)) w8 (by simp [execOp, Act.eval, h23, h22, go_sem, hjx2]) ⟨_, rfl, hI.keep (by decide) (by decide) (put_tmps_other (by decide)) (put_tmps_other (by decide)), fun _ _ _ h => h, by rintro t' ⟨⟩; rfl⟩
        | 13, ho =>
          obtain rfl := Option.some.inj ho
          obtain ⟨_, h24, rfl⟩ := given_fed hg 24 (by decide +kernel)
          clear hg
          exact st_yield ho (wanted_none rfl) (.agg #[.bool hq, .string kx, .bool gx, .int .i64 ax, .int .i64 nx, .string sx]) w8 (by simp [execOp, Act.eval, h24, go_sem, z0, z1, z2, z3, z4, z5]) ⟨_, rfl, hI.keep (by decide) (by decide) (put_tmps_other (by decide)) (put_tmps_other (by decide)), fun _ _ _ h => h, by rintro t' ⟨⟩; rfl⟩
        | 14, ho =>
          obtain rfl := Option.some.inj ho
          clear hg
          exact st_yield ho (wanted_none rfl) (.pointer (some ⟨w8.heap.size, 0, none⟩)) (w8.alloc (.cells #[.bool false, .string ⟨#[]⟩, .bool false, .int .i64 0, .int .i64 0, .string ⟨#[]⟩] 30)) (by simp [execOp, go_sem]) ⟨_, rfl, hI.alloc6 hnot (fun e => hsh0 16 14 e (by decide +kernel)) (put_tmps_other (by decide)), fun t u _ h => VQe_below _ _ _ _ _ _ _ _ _ _ _ t w8 _ u h (below_one _ _), by rintro t' ⟨⟩; exact ⟨w8.heap.size, _, rfl, hI.bel.size, heap_alloc_new w8 _, rfl⟩⟩
        | 15, ho =>
          obtain rfl := Option.some.inj ho
          clear hg
          exact st_yield ho (wanted_none rfl) (.pointer (some ⟨w8.heap.size, 0, none⟩)) (w8.alloc (.cells #[.bool false, .string ⟨#[]⟩, .bool false, .int .i64 0, .int .i64 0, .string ⟨#[]⟩] 30)) (by simp [execOp, go_sem]) ⟨_, rfl, hI.alloc7 hnot (fun e => hsh0 17 15 e (by decide +kernel)) (put_tmps_other (by decide)), fun t u _ h => VQe_below _ _ _ _ _ _ _ _ _ _ _ t w8 _ u h (below_one _ _), by rintro t' ⟨⟩; exact ⟨w8.heap.size, _, rfl, hI.bel.size, heap_alloc_new w8 _, rfl⟩⟩
        | 16, ho =>
          obtain rfl := Option.some.inj ho
          obtain ⟨v6, h6, p6⟩ := given_fed hg 6 (by decide +kernel)
          obtain ⟨_, h18, rfl⟩ := given_fed hg 18 (by decide +kernel)
          obtain ⟨q, X, rfl, hq1, hq2, hq3⟩ := p6
          clear hg
          exact st_list ho (wanted_none rfl) fun Q' hQ => wpList_store_row rfl 30 (.tmp 6) (.tmp 18) rfl q #[.bool hq, .string kx, .bool gx, .int .i64 ax, .int .i64 nx, .string sx] (by simp [Act.eval, h6]) (by simp [Act.eval, h18]) 30 X hq2 (by kernel_rfl) hq3 (six1 hq kx gx ax nx sx) (wpList_nil (hQ _ _ ⟨undef, rfl, hI.store6 h6 hq1 hq2, fun t u _ h => VQe_set _ _ _ _ _ _ _ _ _ _ _ hq2 rfl t u h, by rintro t' ⟨⟩⟩))
        | 17, ho =>
          obtain rfl := Option.some.inj ho
          obtain ⟨v7, h7, p7⟩ := given_fed hg 7 (by decide +kernel)
          obtain ⟨_, h25, rfl⟩ := given_fed hg 25 (by decide +kernel)
          obtain ⟨q, X, rfl, hq1, hq2, hq3⟩ := p7
          clear hg
          exact st_list ho (wanted_none rfl) fun Q' hQ => wpList_store_row rfl 30 (.tmp 7) (.tmp 25) rfl q #[.bool hq, .string kx, .bool gx, .int .i64 ax, .int .i64 nx, .string sx] (by simp [Act.eval, h7]) (by simp [Act.eval, h25]) 30 X hq2 (by kernel_rfl) hq3 (six1 hq kx gx ax nx sx) (wpList_nil (hQ _ _ ⟨undef, rfl, hI.store7 h7 hq1 hq2, fun t u _ h => VQe_set _ _ _ _ _ _ _ _ _ _ _ hq2 rfl t u h, by rintro t' ⟨⟩⟩))
        | n + 18, ho => simp at ho
      · intro f w9 done hall hI hv
        obtain ⟨g6, h6, HX6'⟩ := hI.s6 (hall 16 (by decide))
        obtain ⟨g7, h7, HX7⟩ := hI.s7 (hall 17 (by decide))
        have HX6' := Go.Lib.hid HX6'
        have HX7 := Go.Lib.hid HX7
        have HT9 := Go.Lib.hid (HT.out.below hI.bel)
        have HU9 := Go.Lib.hid (HU.out.below hI.bel)
        have HB9 := Go.Lib.hid (HB.out.trans (hI.bel.mono HB.out.size))
        rw [putAll_tmps, if_pos ⟨by decide, by simp⟩] at h6 h7
        have h6 := Option.some.inj h6
        have h7 := Option.some.inj h7
        clear hv hall hI hix1 hix2 hjx1 hjx2 d1 r1 hwD HCELL HT HU HB
        unfold putAll
        simp only [List.foldl]
        simp only [h6, h7]
        go_simp
        obtain ⟨y0, y1, y2, y3, y4, y5⟩ := row6 HX6'.out
        obtain ⟨z0, z1, z2, z3, z4, z5⟩ := row6 HX7.out
        have CE := reqrec_c kx gx ax nx sx kx gx ax nx sx w9
        rw [eqRec_self (kx, gx, ax, nx, sx)] at CE
        unfold recV at CE
        have CE := Go.Lib.hid CE
        have hqq : (hq != hq) = false := by simp
        go_wp2_with fail
        refine CE.out.mono ?_
        rintro e w10 ⟨rfl, hc⟩
        have HT10 := Go.Lib.hid (HT9.out.below hc)
        have HU10 := Go.Lib.hid (HU9.out.below hc)
        have HB10 := Go.Lib.hid (HB9.out.trans (hc.mono HB9.out.size))
        clear hc CE HT9 HU9 HB9 y0 y1 y2 y3 y4 y5 z0 z1 z2 z3 z4 z5
        go_wp2_with fail
        go_roundw
        case rel => exact ⟨i + 1, by omega, by go_num, HT10, HU10, HB10⟩
        case measure => simp only [intOf]; omega
    · obtain rfl : i = 32 := by omega
      go_wp2_with fail
      go_ret
      exact ⟨rfl, HB.out⟩
end Go.Proofs.Ytgalppnpmfpdbaa

namespace Go.Proofs.Ytgalppnpmfpdbaa
open Go.RowKit

def cutR (x : RecT) : RecT := (str ((bl x.1).take 20), x.2.1, x.2.2.1, x.2.2.2.1, str ((bl x.2.2.2.2).take 30))

theorem cut_sizes {l : List RecT} {n : Nat} {x : RecT} (h : x ∈ (l.take n).map cutR) : x.1.size ≤ 20 ∧ x.2.2.2.2.size ≤ 30 := by
  obtain ⟨y, -, rfl⟩ := List.mem_map.1 h
  unfold cutR
  simp only []
  rw [str_size, str_size, List.length_take, List.length_take]
  omega
/-- The reference's May of a record as one letter. -/
theorem rmayT_c (kx : ByteArray) (gx : Bool) (ax nx : Int) (sx : ByteArray) (w : World) (h1 : kx.size ≤ 20) (h2 : sx.size ≤ 30) :
    Calls Try.prog 25 #[.agg #[.string kx, .bool gx, .int .i64 ax, .int .i64 nx, .string sx]] w fun e w' => e = .returned (.bool (mayT (kx, gx, ax, nx, sx))) ∧ Below w.heap.size w w' :=
  rmayrec_c kx gx ax nx sx w (by unfold maxLen; omega) (by unfold maxLen; omega)
end Go.Proofs.Ytgalppnpmfpdbaa

namespace Go.Proofs.Ytgalppnpmfpdbaa
open Go.RowKit

def layB (x : RecT) (t : Bool) : Nat := if t then othN (firstN (hR x)) (tagN (hR x)) else firstN (hR x)
def layK (TT : TabT) (b i : Nat) : Option Nat := (List.range 4).find? fun s => !(TT (4 * b + (s + i) % 4)).1
def layPut (TT : TabT) (b i : Nat) (x : RecT) : TabT := match layK TT b i with
  | some s => setT TT (4 * b + (s + i) % 4) (true, x)
  | none => TT
def lay1 (TT : TabT) (i : Nat) (x : RecT) (t : Bool) : TabT :=
  if (findK keyR (newestR (recsT TT 32)) x.1.toList).isSome || !mayT x then TT else layPut TT (layB x t) i x
def layN (l : List RecT) (turn : List Bool) : Nat → TabT
  | 0 => zeroT
  | n + 1 => lay1 (layN l turn n) n (cutR (l.getD n nullR)) (turn.getD n false)

theorem layB_lt (x : RecT) (t : Bool) : layB x t < 8 := by
  unfold layB
  cases t with
  | true => rw [if_pos rfl]; exact oth_lt (tagN (hR x)) (first_lt _)
  | false => rw [if_neg (by decide)]; exact first_lt _
theorem layK_some {TT : TabT} {b i s : Nat} (hs : s < 4) (hf : (TT (4 * b + (s + i) % 4)).1 = false) (hp : ∀ s', s' < s → (TT (4 * b + (s' + i) % 4)).1 = true) : layK TT b i = some s := by
  unfold layK
  rw [List.find?_range_eq_some]
  refine ⟨by simp [hf], List.mem_range.2 hs, fun j hj => by simp [hp j hj]⟩
theorem layK_none {TT : TabT} {b i : Nat} (hp : ∀ s', s' < 4 → (TT (4 * b + (s' + i) % 4)).1 = true) : layK TT b i = none := by
  unfold layK
  rw [List.find?_range_eq_none]
  intro s hs
  simp [hp s hs]
theorem layK_is {TT : TabT} {b i s : Nat} (h : layK TT b i = some s) : s < 4 ∧ (TT (4 * b + (s + i) % 4)).1 = false := by
  unfold layK at h
  have h1 := List.mem_of_find?_eq_some h
  have h2 := List.find?_some h
  exact ⟨List.mem_range.1 h1, by simpa using h2⟩

/-- One record more, in a slot that had none. -/
theorem recs_set {TT : TabT} {q : Nat} {x : RecT} (hf : (TT q).1 = false) : ∀ n, (q < n → (recsT (setT TT q (true, x)) n).Perm (recsT TT n ++ [x])) ∧ (n ≤ q → recsT (setT TT q (true, x)) n = recsT TT n)
  | 0 => ⟨fun h => absurd h (by omega), fun _ => rfl⟩
  | n + 1 => by
    have ih := recs_set (x := x) hf n
    refine ⟨fun h => ?_, fun h => ?_⟩
    · rw [recsT_succ, recsT_succ]
      rcases Nat.lt_or_ge q n with h2 | h2
      · rw [setT_old TT q _ (by omega : n ≠ q)]
        refine ((ih.1 h2).append_right _).trans ?_
        rw [List.append_assoc, List.append_assoc]
        exact List.perm_append_comm.append_left _
      · obtain rfl : q = n := by omega
        rw [ih.2 (Nat.le_refl _), setT_new, hf]
        simp
    · rw [recsT_succ, recsT_succ, ih.2 (by omega), setT_old TT q _ (by omega : n ≠ q)]
structure LayOk (TT : TabT) : Prop where
  ok : okTo TT 32 = true
  recs : TabOk TT
theorem LayOk.keys {TT : TabT} (h : LayOk TT) : KeysOk (recsT TT 32) := by
  have := h.ok
  rw [ok_split, Bool.and_eq_true] at this
  exact keysB_iff.1 this.2
theorem okTo_sizes {TT : TabT} (h : okTo TT 32 = true) {q : Nat} (hq : q < 32) : (TT q).2.1.size ≤ 1000 ∧ (TT q).2.2.2.2.2.size ≤ 1000 := by
  obtain ⟨h1, h2⟩ := okTo_slot h hq
  cases hh : (TT q).1 with
  | true => have := mayT_short (h1 hh); omega
  | false => rw [h2 hh]; exact recOk_null_size
theorem LayOk.sizes {TT : TabT} (h : LayOk TT) : ∀ q, q < 32 → (TT q).2.1.size ≤ 1000 ∧ (TT q).2.2.2.2.2.size ≤ 1000 := fun _ hq => okTo_sizes h.ok hq
theorem zero_ok : LayOk zeroT := by
  refine ⟨?_, fun q _ => nullOk⟩
  unfold okTo
  rw [List.all_eq_true]
  intro q _
  unfold okSlot zeroT
  simp
theorem LayOk.set {TT : TabT} (h : LayOk TT) {b k : Nat} {x : RecT} (hb : b < 8) (hk : k < 4) (hf : (TT (4 * b + k)).1 = false) (hm : mayT x = true) (hx : RecOk x) (hB : b = firstN (hR x) ∨ b = othN (firstN (hR x)) (tagN (hR x))) (hn : ∀ y ∈ recsT TT 32, keyR y ≠ keyR x) : LayOk (setT TT (4 * b + k) (true, x)) := by
  have h0 := h.ok
  rw [ok_split, Bool.and_eq_true] at h0
  refine ⟨?_, fun q hq => ?_⟩
  · rw [ok_split, Bool.and_eq_true]
    constructor
    · unfold lieTo
      rw [List.all_eq_true]
      intro q hq
      by_cases e : q = 4 * b + k
      · subst e
        rw [setT_new, show (4 * b + k) / 4 = b by omega]
        unfold lieOk
        simp only [if_true]
        rw [hm, Bool.true_and, Bool.or_eq_true, beq_iff_eq, beq_iff_eq]
        exact hB
      · rw [setT_old TT _ _ e]
        have := h0.1
        unfold lieTo at this
        exact List.all_eq_true.1 this q hq
    · rw [keysB_perm ((recs_set hf 32).1 (by omega)), keysB_snoc, h0.2, Bool.true_and, Bool.not_eq_true', List.any_eq_false]
      intro y hy
      obtain ⟨z, hz, rfl⟩ := List.mem_map.1 hy
      have := hn z hz
      simp only [decide_eq_true_eq]
      intro e
      exact this (keyR_eq.2 e)
  · by_cases e : q = 4 * b + k
    · subst e; rw [setT_new]; exact hx
    · rw [setT_old TT _ _ e]; exact h.recs q hq
theorem layPut_ok {TT : TabT} (h : LayOk TT) {b i : Nat} {x : RecT} (hb : b < 8) (hm : mayT x = true) (hx : RecOk x) (hB : b = firstN (hR x) ∨ b = othN (firstN (hR x)) (tagN (hR x))) (hn : ∀ y ∈ recsT TT 32, keyR y ≠ keyR x) : LayOk (layPut TT b i x) := by
  unfold layPut
  cases hk : layK TT b i with
  | none => exact h
  | some s => exact h.set hb (Nat.mod_lt _ (by omega)) (layK_is hk).2 hm hx hB hn
theorem layB_is (x : RecT) (t : Bool) : layB x t = firstN (hR x) ∨ layB x t = othN (firstN (hR x)) (tagN (hR x)) := by
  unfold layB
  cases t <;> simp
theorem lay1_ok {TT : TabT} (h : LayOk TT) (i : Nat) {x : RecT} (t : Bool) (hx : RecOk x) : LayOk (lay1 TT i x t) := by
  unfold lay1
  split
  · exact h
  · rename_i hc
    simp only [Bool.or_eq_true, not_or, Bool.not_eq_true, Bool.not_eq_true', Option.isSome_eq_false_iff, Option.isNone_iff_eq_none, Bool.not_eq_false] at hc
    refine layPut_ok h (layB_lt x t) hc.2 hx (layB_is x t) ?_
    have := hc.1
    rw [newest_find h.keys] at this
    exact (find_none _).1 this
theorem cutR_ok {x : RecT} (h : RecOk x) : RecOk (cutR x) := by
  have hs := fun (s : ByteArray) (n : Nat) => show (str ((bl s).take n)).size ≤ s.size from by
    rw [str_size, List.length_take]
    have : (bl s).length = s.size := by have := str_size (bl s); rw [str_bl] at this; exact this.symm
    omega
  have h1 := hs x.1 20
  have h2 := hs x.2.2.2.2 30
  unfold cutR
  unfold RecOk at h ⊢
  simp only [] at h ⊢
  refine ⟨?_, h.2.1, h.2.2.1, ?_⟩
  · exact Nat.le_trans h1 h.1
  · exact Nat.le_trans h2 h.2.2.2
theorem layN_ok {l : List RecT} (turn : List Bool) (h : ∀ x ∈ l, RecOk x) : ∀ n, LayOk (layN l turn n)
  | 0 => zero_ok
  | n + 1 => by
    refine lay1_ok (layN_ok turn h n) n _ (cutR_ok ?_)
    rw [List.getD_eq_getElem?_getD]
    cases hn : l[n]? with
    | none => exact nullOk
    | some x => exact h x (List.mem_of_getElem? hn)
end Go.Proofs.Ytgalppnpmfpdbaa
