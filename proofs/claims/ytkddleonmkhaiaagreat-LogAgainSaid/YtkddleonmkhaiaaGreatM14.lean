/-
  Stage 17: how entries, hashes, numbers lie; the reference's Near, Room.
  Of the blocks that there were all but one are as they were.
  Stage 17: a *cuckoo.Dir in memory: eight buckets of four slots, three cells each. Plain facts; the small contracts (may, pair, New).
-/
import Derived.Test.YtkddleonmkhaiaaGreatM13
import Derived.Test.YtkddleonmkhaiaaGreatM10
import Derived.LoopTactic
import Derived.Test.YtkddleonmkhaiaaGreatM01
import Derived.Deep.MidRow
namespace Go.Proofs.YtkddleonmkhaiaaGreat
open Go.RowKit

def KI : Lay Int := ⟨fun n => [.int .i64 n], 1, 3, 63, .int .i64 0, 8⟩
theorem KI_ok : KI.Ok Tryz.prog := ⟨by decide, fun _ => rfl, fun x u hu => by rw [List.mem_singleton.1 hu]; rfl, Tryz.underlying63, by kernel_rfl, rfl, by decide⟩

set_option maxRecDepth 100000 in
theorem rnear_c (a b : Nat) (w : World) (ha : a < 18446744073709551616) (hb : b < 18446744073709551616) :
    Calls Tryz.prog 36 #[.int .u64 (a : Int), .int .u64 (b : Int)] w fun e w' => e = .returned (.bool (nearN a b)) ∧ w = w' := by
  have TA := Go.Lib.hid fun W => rtag_c a W ha
  have TB := Go.Lib.hid fun W => rtag_c b W hb
  have FA := Go.Lib.hid fun W => rfirst_c a W ha
  have FB := Go.Lib.hid fun W => rfirst_c b W hb
  have OB := Go.Lib.hid fun W => rother_c (firstN b : Int) (tagN b : Int) W
  rw [otherI_nat (first_lt b) (tag_lt b)] at OB
  have hn : nearN a b = (tagN a == tagN b && (firstN a == firstN b || firstN a == othN (firstN b) (tagN b))) := rfl
  generalize othN (firstN b) (tagN b) = ob at *
  generalize nearN a b = N at *
  generalize tagN a = ta at *
  generalize tagN b = tb at *
  generalize firstN a = fa at *
  generalize firstN b = fb at *
  clear ha hb
  by_cases ht : ta = tb
  · subst ht
    by_cases hf : fa = fb
    · subst hf
      have HN := Go.Lib.hid (show N = true by rw [hn]; simp)
      clear hn
      go_enter Tryz.func36, Tryz.ntmps36
      go_wp2_with fail
      refine (TA.out _).mono ?_
      rintro e w1 ⟨rfl, rfl⟩
      go_wp2_with fail
      refine (TB.out _).mono ?_
      rintro e w1 ⟨rfl, rfl⟩
      go_wp2_with fail
      refine (FA.out _).mono ?_
      rintro e w1 ⟨rfl, rfl⟩
      go_wp2_with fail
      refine (FB.out _).mono ?_
      rintro e w1 ⟨rfl, rfl⟩
      go_wp2_with fail
      go_ret
      exact ⟨ret_of (congrArg Value.bool HN.out.symm), rfl⟩
    · have HN := Go.Lib.hid (show N = (fa == ob) by rw [hn]; simp [hf])
      have hfI : ((fa : Int) == (fb : Int)) = false := by simp only [beq_eq_false_iff_ne, ne_eq]; omega
      have HO := Go.Lib.hid (show ((fa : Int) == (ob : Int)) = (fa == ob) by rw [Bool.eq_iff_iff, beq_iff_eq, beq_iff_eq]; omega)
      clear hn
      go_enter Tryz.func36, Tryz.ntmps36
      go_wp2_with fail
      refine (TA.out _).mono ?_
      rintro e w1 ⟨rfl, rfl⟩
      go_wp2_with fail
      refine (TB.out _).mono ?_
      rintro e w1 ⟨rfl, rfl⟩
      go_wp2_with fail
      refine (FA.out _).mono ?_
      rintro e w1 ⟨rfl, rfl⟩
      go_wp2_with fail
      refine (FB.out _).mono ?_
      rintro e w1 ⟨rfl, rfl⟩
      go_wp2_with fail
      refine (FA.out _).mono ?_
      rintro e w1 ⟨rfl, rfl⟩
      go_wp2_with fail
      refine (FB.out _).mono ?_
      rintro e w1 ⟨rfl, rfl⟩
      go_wp2_with fail
      refine (TB.out _).mono ?_
      rintro e w1 ⟨rfl, rfl⟩
      go_wp2_with fail
      refine (OB.out _).mono ?_
      rintro e w1 ⟨rfl, rfl⟩
      go_wp2_with fail
      go_ret
      exact ⟨ret_of (congrArg Value.bool (HO.out.trans HN.out.symm)), rfl⟩
  · have HN := Go.Lib.hid (show N = false by rw [hn]; simp [ht])
    have htI : ((ta : Int) == (tb : Int)) = false := by simp only [beq_eq_false_iff_ne, ne_eq]; omega
    clear hn
    go_enter Tryz.func36, Tryz.ntmps36
    go_wp2_with fail
    refine (TA.out _).mono ?_
    rintro e w1 ⟨rfl, rfl⟩
    go_wp2_with fail
    refine (TB.out _).mono ?_
    rintro e w1 ⟨rfl, rfl⟩
    go_wp2_with fail
    go_ret
    exact ⟨ret_of (congrArg Value.bool HN.out.symm), rfl⟩

def roomK (S k : Nat) : Nat := ((List.range k).map fun b => 4 * bitN S b).sum
theorem roomK_succ (S k : Nat) : roomK S (k + 1) = roomK S k + 4 * bitN S k := by unfold roomK; rw [List.range_succ, List.map_append, List.sum_append]; simp
theorem bitN_le (S b : Nat) : bitN S b ≤ 1 := by unfold bitN; omega
theorem roomK_le (S : Nat) : ∀ k, roomK S k ≤ 4 * k
  | 0 => by simp [roomK]
  | k + 1 => by have := roomK_le S k; have := bitN_le S k; rw [roomK_succ]; omega

theorem and_one (n : Nat) (h : n < 1024) : bits .and .i64 (n : Int) 1 = ((n % 2 : Nat) : Int) := by
  show IntKind.i64.wrap ((BitVec.ofInt 64 (n : Int) &&& BitVec.ofInt 64 ((1 : Nat) : Int)).toNat : Int) = _
  have e (a : Nat) (h : a < 1024) : (BitVec.ofInt 64 (a : Int)).toNat = a := by
    rw [BitVec.ofInt_natCast, BitVec.toNat_ofNat]; exact Nat.mod_eq_of_lt (by omega)
  rw [BitVec.toNat_and, e n h, e 1 (by omega), Nat.and_one_is_mod, IntKind.wrap_i64]
  omega
theorem bit_and {S k : Nat} (hS : S < 256) : bits .and .i64 ((S : Int) / 2 ^ k) 1 = (bitN S k : Int) := by
  have e1 : (S : Int) / 2 ^ k = ((S / 2 ^ k : Nat) : Int) := by
    rw [Int.natCast_ediv]
    simp
  rw [e1, and_one _ (Nat.lt_of_le_of_lt (Nat.div_le_self _ _) (by omega))]
  rfl
theorem cnt_take (S : Nat) (hs : List Nat) {i : Nat} (hi : i < hs.length) : cntN S (hs.take (i + 1)) = cntN S (hs.take i) + (if inS S hs[i] then 1 else 0) := by
  unfold cntN
  rw [List.take_succ_eq_append_getElem hi, List.countP_append, List.countP_singleton]
theorem cnt_le (S : Nat) (hs : List Nat) : cntN S hs ≤ hs.length := List.countP_le_length
theorem room_all {hs : List Nat} (h : ∀ s, s < 256 → cntN s hs ≤ roomN s) : roomB hs = true := by
  unfold roomB
  rw [List.all_eq_true]
  intro S hS
  rw [decide_eq_true_eq]
  exact h S (List.mem_range.1 hS)
theorem room_not {hs : List Nat} {S : Nat} (hS : S < 256) (h : roomN S < cntN S hs) : roomB hs = false := by
  unfold roomB
  rw [List.all_eq_false]
  refine ⟨S, List.mem_range.2 hS, ?_⟩
  rw [decide_eq_true_eq]
  omega

set_option maxHeartbeats 1000000 in
set_option maxRecDepth 100000 in
theorem rroom_c (v : Value) (hs : List Nat) (w : World) (hv : KU.R w v hs) (hlt : ∀ h ∈ hs, h < 18446744073709551616) (hlen : hs.length ≤ 100000) :
    Calls Tryz.prog 28 #[v] w fun e w' => e = .returned (.bool (roomB hs)) ∧ w = w' := by
  obtain ⟨a, cap, rfl, hm⟩ := hv.form
  have HV := Go.Lib.hid hv
  have HLT := Go.Lib.hid hlt
  clear hv hlt
  go_enter Tryz.func28, Tryz.ntmps28
  go_wp2_with fail
  go_loop [3] (fun i => ∃ S : Nat, S ≤ 256 ∧ i = .int .i64 (S : Int) ∧ Hid (∀ s, s < S → cntN s hs ≤ roomN s)) (fun i => 256 - (intOf i).toNat)
  case atStart => exact ⟨0, by omega, rfl, Go.Lib.hid fun s hs => by omega⟩
  case round =>
    obtain ⟨S, hS, rfl, hall⟩ := hrel
    by_cases hlt : S < 256
    · have hI : (S : Int) < 256 := by omega
      go_wp2_with fail
      go_loop [5, 6] (fun r i => ∃ k : Nat, k ≤ 8 ∧ i = .int .i64 (k : Int) ∧ r = .int .i64 (roomK S k : Int)) (fun _ i => 8 - (intOf i).toNat)
      case atStart => exact ⟨0, by omega, rfl, rfl⟩
      case round =>
        obtain ⟨k, hk, rfl, rfl⟩ := hrel
        by_cases hk8 : k < 8
        · have hkI : (k : Int) < 8 := by omega
          have hb := bit_and (S := S) (k := k) hlt
          have HR := Go.Lib.hid (roomK_succ S k)
          have hl := roomK_le S k
          have hb1 := bitN_le S k
          generalize bitN S k = c at *
          generalize roomK S k = r0 at *
          go_wp2_with fail
          go_round
          case rel => exact ⟨k + 1, by omega, by go_num, by rw [HR.out]; go_num⟩
          case measure => simp only [intOf]; omega
        · obtain rfl : k = 8 := by omega
          have e8 : roomK S 8 = roomN S := rfl
          rw [e8]
          have hrn := roomK_le S 8
          rw [e8] at hrn
          clear e8 hk8
          obtain ⟨rn, hrn2⟩ : ∃ rn, rn = roomN S := ⟨_, rfl⟩
          rw [← hrn2] at hrn ⊢
          have HRN := Go.Lib.hid hrn2
          clear hrn2
          go_wp2_with fail
          go_loop [4, 7] (fun n i => ∃ j : Nat, j ≤ hs.length ∧ i = .int .i64 (j : Int) ∧ n = .int .i64 (cntN S (hs.take j) : Int)) (fun _ i => hs.length - (intOf i).toNat)
          case atStart => exact ⟨0, by omega, rfl, by simp [cntN]⟩
          case round =>
            obtain ⟨j, hj, rfl, rfl⟩ := hrel
            by_cases hjl : j < hs.length
            · obtain ⟨b, o, rfl, -, hbs, hc⟩ := HV.out.at KU_ok j hjl
              have c0 : w.cell? ⟨b, o + j, none⟩ = some (.int .u64 (hs[j] : Int)) := by have := hc 0 _ rfl; simpa [KU] using this
              have hix : (Instr.indexAt 57 (.slice (some ⟨b, o, none⟩) hs.length cap) (.int .i64 (j : Int))).run Tryz.prog w = .ok (.pointer (some ⟨b, o + j, none⟩)) w := by
                have := KU_ok.run_idx b o hs.length cap j hjl w
                simpa [KU] using this
              have hx := HLT.out hs[j] (List.getElem_mem hjl)
              have FA := Go.Lib.hid fun W => rfirst_c hs[j] W hx
              have TA := Go.Lib.hid fun W => rtag_c hs[j] W hx
              have OA := Go.Lib.hid fun W => rother_c (firstN hs[j] : Int) (tagN hs[j] : Int) W
              rw [otherI_nat (first_lt _) (tag_lt _)] at OA
              have hct := cnt_take S hs hjl
              have hle := cnt_le S (hs.take j)
              rw [List.length_take] at hle
              have hfl := first_lt hs[j]
              have hol := oth_lt (tagN hs[j]) hfl
              have hin : inS S hs[j] = (bitN S (firstN hs[j]) == 1 && bitN S (othN (firstN hs[j]) (tagN hs[j])) == 1) := rfl
              have hbf := bit_and (S := S) (k := firstN hs[j]) hlt
              have hbo := bit_and (S := S) (k := othN (firstN hs[j]) (tagN hs[j])) hlt
              generalize cntN S (hs.take j) = n0 at *
              generalize bitN S (firstN hs[j]) = bf at *
              generalize bitN S (othN (firstN hs[j]) (tagN hs[j])) = bo at *
              generalize othN (firstN hs[j]) (tagN hs[j]) = fo at *
              generalize firstN hs[j] = ff at *
              generalize tagN hs[j] = tt at *
              generalize inS S hs[j] = I at *
              generalize hs[j] = x at *
              have hn0 : n0 ≤ 100000 := by omega
              clear hc hx hle
              by_cases h1 : bf = 1
              · have b1 : ((bf : Int) == 1) = true := by rw [h1]; rfl
                by_cases h2 : bo = 1
                · have b2 : ((bo : Int) == 1) = true := by rw [h2]; rfl
                  have HC := Go.Lib.hid (show cntN S (hs.take (j + 1)) = n0 + 1 by rw [hct, hin, h1, h2]; rfl)
                  clear hct hin h1 h2
                  go_wp2_with fail
                  refine (FA.out _).mono ?_
                  rintro e w1 ⟨rfl, rfl⟩
                  go_wp2_with fail
                  refine (TA.out _).mono ?_
                  rintro e w1 ⟨rfl, rfl⟩
                  go_wp2_with fail
                  refine (OA.out _).mono ?_
                  rintro e w1 ⟨rfl, rfl⟩
                  go_wp2_with fail
                  go_round
                  case rel => exact ⟨j + 1, by omega, by go_num, by rw [HC.out]; go_num⟩
                  case measure => simp only [intOf]; omega
                · have b2 : ((bo : Int) == 1) = false := by simp only [beq_eq_false_iff_ne, ne_eq]; omega
                  have HC := Go.Lib.hid (show cntN S (hs.take (j + 1)) = n0 by rw [hct, hin]; simp [h2])
                  clear hct hin h1 h2
                  go_wp2_with fail
                  refine (FA.out _).mono ?_
                  rintro e w1 ⟨rfl, rfl⟩
                  go_wp2_with fail
                  refine (TA.out _).mono ?_
                  rintro e w1 ⟨rfl, rfl⟩
                  go_wp2_with fail
                  refine (OA.out _).mono ?_
                  rintro e w1 ⟨rfl, rfl⟩
                  go_wp2_with fail
                  go_round
                  case rel => exact ⟨j + 1, by omega, by go_num, by rw [HC.out]⟩
                  case measure => simp only [intOf]; omega
              · have b1 : ((bf : Int) == 1) = false := by simp only [beq_eq_false_iff_ne, ne_eq]; omega
                have HC := Go.Lib.hid (show cntN S (hs.take (j + 1)) = n0 by rw [hct, hin]; simp [h1])
                clear hct hin h1
                go_wp2_with fail
                refine (FA.out _).mono ?_
                rintro e w1 ⟨rfl, rfl⟩
                go_wp2_with fail
                refine (TA.out _).mono ?_
                rintro e w1 ⟨rfl, rfl⟩
                go_wp2_with fail
                refine (OA.out _).mono ?_
                rintro e w1 ⟨rfl, rfl⟩
                go_wp2_with fail
                go_round
                case rel => exact ⟨j + 1, by omega, by go_num, by rw [HC.out]⟩
                case measure => simp only [intOf]; omega
            · obtain rfl : j = hs.length := by omega
              rw [List.take_length]
              by_cases hgt : rn < cntN S hs
              · have HN := Go.Lib.hid (room_not (hs := hs) hlt (by rw [← HRN.out]; exact hgt))
                generalize cntN S hs = nn at *
                have hgI : (rn : Int) < (nn : Int) := by omega
                go_wp2_with fail
                go_ret
                exact ⟨ret_of (congrArg Value.bool HN.out.symm), rfl⟩
              · have hall2 : Hid (∀ s, s < S + 1 → cntN s hs ≤ roomN s) := Go.Lib.hid fun s hs1 => by
                  rcases Nat.lt_or_ge s S with h | h
                  · exact hall.out s h
                  · obtain rfl : s = S := by omega
                    rw [← HRN.out]; omega
                generalize cntN S hs = nn at *
                have hgI : ¬ (rn : Int) < (nn : Int) := by omega
                go_wp2_with fail
                go_round
                case rel => exact ⟨S + 1, by omega, by go_num, hall2⟩
                case measure => simp only [intOf]; omega
    · obtain rfl : S = 256 := by omega
      have HN := Go.Lib.hid (room_all hall.out)
      clear hall hlt
      go_wp2_with fail
      go_ret
      exact ⟨ret_of (congrArg Value.bool HN.out.symm), rfl⟩

theorem KI.at' {w : World} {a : Option Addr} {n cap : Nat} {l : List Int} (h : KI.R w (.slice a n cap) l) (i : Nat) (hi : i < l.length) : ∃ b o, a = some ⟨b, o, none⟩ ∧ n = l.length ∧ b < w.heap.size ∧ w.cell? ⟨b, o + i, none⟩ = some (.int .i64 l[i]) := by
  obtain ⟨b, o, h1, h2, h3, h4⟩ := h.at KI_ok i hi
  exact ⟨b, o, h1, h2, h3, by have := h4 0 _ rfl; simpa [KI] using this⟩
theorem idxI (b o n cap j : Nat) (h : j < n) (W : World) : (Instr.indexAt 63 (.slice (some ⟨b, o, none⟩) n cap) (.int .i64 (j : Int))).run Tryz.prog W = .ok (.pointer (some ⟨b, o + j, none⟩)) W := by
  have := KI_ok.run_idx b o n cap j h W
  simpa [KI] using this

end Go.Proofs.YtkddleonmkhaiaaGreat

namespace Go.Proofs.YtkddleonmkhaiaaGreat
open Go.RowKit

/-- Of the blocks that there were all but g are as they were. -/
structure Off1 (g : Nat) (w w' : World) : Prop where
  os : w'.os = w.os
  tape : w'.tape = w.tape
  output : w'.output = w.output
  size : w.heap.size ≤ w'.heap.size
  block : ∀ k, k < w.heap.size → k ≠ g → w'.heap[k]? = w.heap[k]?
section
variable {g : Nat} {w w1 w2 w' : World}
theorem Off1.refl (g : Nat) (w : World) : Off1 g w w := ⟨rfl, rfl, rfl, Nat.le_refl _, fun _ _ _ => rfl⟩
theorem Off1.trans (h : Off1 g w w1) (k : Off1 g w1 w2) : Off1 g w w2 :=
  ⟨k.os.trans h.os, k.tape.trans h.tape, k.output.trans h.output, Nat.le_trans h.size k.size, fun i hi hn => (k.block i (Nat.lt_of_lt_of_le hi h.size) hn).trans (h.block i hi hn)⟩
theorem Off1.of_below (h : Below w.heap.size w w') : Off1 g w w' := ⟨h.os, h.tape, h.output, h.size, fun k hk _ => h.block k hk⟩
theorem Off1.set (h : Off1 g w w') (o : Nat) (u : Value) : Off1 g w (w'.setCell ⟨g, o, none⟩ u) :=
  ⟨h.os, h.tape, h.output, by simpa [World.setCell] using h.size, fun k hk hn => (Below.heap_setCell _ _ _ _ hn).trans (h.block k hk hn)⟩
theorem Off1.below {B : Nat} (h : Off1 g w w') (hg : B ≤ g) (hB : B ≤ w.heap.size) : Below B w w' :=
  ⟨h.os, h.tape, h.output, h.size, fun k hk => h.block k (by omega) (by omega)⟩
/-- What lies elsewhere stays. -/
theorem Off1.cell (h : Off1 g w w') {p : Addr} {u : Value} (hc : w.cell? p = some u) (hp : p.block ≠ g) : w'.cell? p = some u :=
  (World.cell?_of_block (w := w) (h.block p.block (World.block_lt_of_cell? w _ hc) hp)).trans hc
theorem Off1.setRow' (g : Nat) (w : World) (cs : Array Value) : Off1 g w (w.setRow g cs) := ⟨rfl, rfl, rfl, by simp, fun k _ hn => setRow_other w g k cs hn⟩
theorem Off1.above (h : Off1 g w w1) (k : Below w1.heap.size w1 w2) : Off1 g w w2 := h.trans (Off1.of_below k)
end

end Go.Proofs.YtkddleonmkhaiaaGreat

namespace Go.Proofs.YtkddleonmkhaiaaGreat
open Go.RowKit

def hasO (x : Option (Nat × Int)) : Bool := x.isSome
def tagO : Option (Nat × Int) → Nat
  | some x => x.1
  | none => 0
def idO : Option (Nat × Int) → Int
  | some x => x.2
  | none => 0
/-- A slot's cells. -/
def encO (x : Option (Nat × Int)) : List Value := [.bool (hasO x), .int .i64 (tagO x : Int), .int .i64 (idO x)]
/-- A bucket's cells. -/
def rowO (T : SlT) (b : Nat) : List Value := encO (T (4 * b)) ++ (encO (T (4 * b + 1)) ++ (encO (T (4 * b + 2)) ++ encO (T (4 * b + 3))))
theorem rowO_len (T : SlT) (b : Nat) : (rowO T b).length = 12 := rfl
theorem rowO_at (T : SlT) (b s j : Nat) (hs : s < 4) (hj : j < 3) : (rowO T b)[3 * s + j]? = (encO (T (4 * b + s)))[j]? := by
  rcases (by omega : s = 0 ∨ s = 1 ∨ s = 2 ∨ s = 3) with rfl | rfl | rfl | rfl <;> rcases (by omega : j = 0 ∨ j = 1 ∨ j = 2) with rfl | rfl | rfl <;> rfl

/-- Block d is a directory whose slots hold T. -/
structure CK (w : World) (d : Nat) (T : SlT) : Prop where
  row : ∃ cs fr, w.heap[d]? = some (.cells cs 82 fr)
  tok : TOk T
  fr : ∀ o, w.frozen? ⟨d, o, none⟩ = false
  has : ∀ q, q < 32 → w.cell? ⟨d, 3 * q, none⟩ = some (.bool (hasO (T q)))
  tag : ∀ q, q < 32 → w.cell? ⟨d, 3 * q + 1, none⟩ = some (.int .i64 (tagO (T q) : Int))
  id : ∀ q, q < 32 → w.cell? ⟨d, 3 * q + 2, none⟩ = some (.int .i64 (idO (T q)))

section
variable {w w' : World} {d : Nat} {T : SlT}
theorem CK.same (h : CK w d T) (hb : w'.heap[d]? = w.heap[d]?) : CK w' d T := by
  have hc : ∀ o, w'.cell? ⟨d, o, none⟩ = w.cell? ⟨d, o, none⟩ := fun o => World.cell?_of_block (w := w) (a := ⟨d, o, none⟩) hb
  obtain ⟨cs, fr, hr⟩ := h.row
  have hf := h.fr 0
  refine ⟨⟨cs, fr, hb.trans hr⟩, h.tok, fun o => ?_, fun q hq => (hc _).trans (h.has q hq), fun q hq => (hc _).trans (h.tag q hq), fun q hq => (hc _).trans (h.id q hq)⟩
  have e := h.fr o
  unfold World.frozen? at e ⊢
  simp only [] at e ⊢
  rw [hb]
  exact e
theorem CK.lt (h : CK w d T) : d < w.heap.size := World.block_lt_of_cell? w _ (h.has 0 (by omega))
theorem CK.below (h : CK w d T) (hb : Below w.heap.size w w') : CK w' d T := h.same (hb.block d h.lt)
theorem CK.cell (h : CK w d T) (q j : Nat) (hq : q < 32) (hj : j < 3) : w.cell? ⟨d, 3 * q + j, none⟩ = (encO (T q))[j]? := by
  rcases (by omega : j = 0 ∨ j = 1 ∨ j = 2) with rfl | rfl | rfl
  · exact h.has q hq
  · exact h.tag q hq
  · exact h.id q hq
theorem CK.range (h : CK w d T) (b : Nat) (hb : b < 8) : w.rangeAt d (12 * b) (rowO T b) := by
  intro k v hv
  have hk : k < 12 := (List.getElem?_eq_some_iff.1 hv).1
  have e := rowO_at T b (k / 3) (k % 3) (by omega) (by omega)
  rw [show 3 * (k / 3) + k % 3 = k by omega, hv] at e
  have c := h.cell (4 * b + k / 3) (k % 3) (by omega) (by omega)
  rw [show 12 * b + k = 3 * (4 * b + k / 3) + k % 3 by omega, c]
  exact e.symm
theorem CK.rangeS (h : CK w d T) (q : Nat) (hq : q < 32) : w.rangeAt d (3 * q) (encO (T q)) := by
  intro k v hv
  have hk : k < 3 := (List.getElem?_eq_some_iff.1 hv).1
  rw [h.cell q k hq hk]
  exact hv
end

theorem keepC {w w' : World} {p : Addr} {u : Value} (h : w.cell? p = some u) (hb : Below w.heap.size w w') : w'.cell? p = some u := (hb.cell (World.block_lt_of_cell? w _ h)).trans h
def idOk (i : Int) : Bool := decide (0 ≤ i ∧ i ≤ 1099511627776)
theorem idOk_of {i : Int} (h : idOk i = true) : 0 ≤ i ∧ i ≤ 1099511627776 := of_decide_eq_true h

set_option maxRecDepth 100000 in
theorem cmay_c (i : Int) (w : World) : Calls Tryz.prog 52 #[.int .i64 i] w fun e w' => e = .returned (.bool (idOk i)) ∧ w = w' := by
  by_cases h1 : 0 ≤ i
  · have E := Go.Lib.hid (show idOk i = decide (i ≤ 1099511627776) by unfold idOk; simp [h1])
    go_enter Tryz.func52, Tryz.ntmps52
    go_wp2_with fail
    go_ret
    exact ⟨by rw [E.out]; rfl, rfl⟩
  · have E := Go.Lib.hid (show idOk i = false by unfold idOk; simp [h1])
    go_enter Tryz.func52, Tryz.ntmps52
    go_wp2_with fail
    go_ret
    exact ⟨by rw [E.out]; rfl, rfl⟩

set_option maxRecDepth 100000 in
theorem cpair_c (x : Nat) (w : World) (hx : x < 18446744073709551616) : Calls Tryz.prog 54 #[.int .u64 (x : Int)] w fun e w' => e = .returned (.tuple #[.int .i64 (firstN x : Int), .int .i64 (othN (firstN x) (tagN x) : Int)]) ∧ w = w' := by
  have FA := Go.Lib.hid fun W => hfirst_c x W hx
  have TA := Go.Lib.hid fun W => htag_c x W hx
  have OA := Go.Lib.hid fun W => hother_c (firstN x : Int) (tagN x : Int) W (by have := first_lt x; omega) (by have := first_lt x; omega) (by have := tag_lt x; omega) (by have := tag_lt x; omega)
  rw [otherI_nat (first_lt _) (tag_lt _)] at OA
  generalize othN (firstN x) (tagN x) = o at *
  generalize firstN x = f at *
  generalize tagN x = t at *
  clear hx
  go_enter Tryz.func54, Tryz.ntmps54
  go_wp2_with fail
  refine (FA.out _).mono ?_
  rintro e w1 ⟨rfl, rfl⟩
  go_wp2_with fail
  refine (TA.out _).mono ?_
  rintro e w1 ⟨rfl, rfl⟩
  go_wp2_with fail
  refine (OA.out _).mono ?_
  rintro e w1 ⟨rfl, rfl⟩
  go_wp2_with fail
  go_ret2
  exact ⟨rfl, rfl⟩

def zeroC : Array Value := ((List.replicate 32 [Value.bool false, .int .i64 0, .int .i64 0]).flatten).toArray
theorem infoC : (Tryz.prog.info? 82).map (fun i => (i.zero, i.size)) = some (some (.agg zeroC), 96) := by kernel_rfl
theorem zero_run (W : World) : (zeroValue 82).run Tryz.prog W = .ok (.agg zeroC) W := by
  have h := infoC
  cases hi : Tryz.prog.info? 82 with
  | none => rw [hi] at h; cases h
  | some i =>
    rw [hi] at h
    simp only [Option.map_some, Option.some.injEq, Prod.mk.injEq] at h
    simp [zeroValue, typeInfo, hi, h.1]
set_option maxRecDepth 100000 in
theorem cnew_w (w : World) : Calls Tryz.prog 24 #[] w fun e w' => e = .returned (.pointer (some ⟨w.heap.size, 0, none⟩)) ∧ w' = w.alloc (.cells zeroC 82) := by
  have hz := zero_run
  generalize zeroC = Z at *
  go_enter Tryz.func24, Tryz.ntmps24
  go_wp2_with fail
  go_ret
  exact ⟨rfl, rfl⟩
theorem rep3_at {α : Type} (l : List α) (hl : l.length = 3) (j : Nat) (hj : j < 3) : ∀ n q : Nat, q < n → ((List.replicate n l).flatten)[3 * q + j]? = l[j]?
  | 0, q, h => absurd h (by omega)
  | n + 1, 0, _ => by rw [List.replicate_succ, List.flatten_cons, List.getElem?_append_left (by omega)]; congr 1; omega
  | n + 1, q + 1, h => by
    rw [List.replicate_succ, List.flatten_cons, List.getElem?_append_right (by omega), show 3 * (q + 1) + j - l.length = 3 * q + j by omega]
    exact rep3_at l hl j hj n q (by omega)
theorem zeroC_at (q j : Nat) (hq : q < 32) (hj : j < 3) : zeroC[3 * q + j]? = (encO none)[j]? := by
  unfold zeroC
  rw [List.getElem?_toArray]
  exact rep3_at _ rfl j hj 32 q hq
theorem cnew_c (w : World) : Calls Tryz.prog 24 #[] w fun e w' => ∃ d, e = .returned (.pointer (some ⟨d, 0, none⟩)) ∧ w.heap.size ≤ d ∧ CK w' d (fun _ => none) ∧ Below w.heap.size w w' := by
  refine (cnew_w w).mono ?_
  rintro e w' ⟨rfl, rfl⟩
  have hh := heap_alloc_new w (.cells zeroC 82)
  have hc : ∀ o, (w.alloc (.cells zeroC 82)).cell? ⟨w.heap.size, o, none⟩ = zeroC[o]? := fun o => cell_of_row _ _ _ _ _ _ hh
  refine ⟨w.heap.size, rfl, Nat.le_refl _, ⟨⟨_, _, hh⟩, (fun q x h => by cases h), (fun o => frozen_of_row _ _ _ _ _ hh), fun q hq => ?_, fun q hq => ?_, fun q hq => ?_⟩, (Below.refl _ _).alloc (Nat.le_refl _) _⟩
  · rw [hc]; exact zeroC_at q 0 hq (by omega)
  · rw [hc]; exact zeroC_at q 1 hq (by omega)
  · rw [hc]; exact zeroC_at q 2 hq (by omega)

end Go.Proofs.YtkddleonmkhaiaaGreat
