/-
  Stage 17: how entries, hashes, numbers lie; the reference's Near, Room.
-/
import Derived.Test.YtgbaeipemlcbcaaGenS
import Derived.Test.YtgbaeipemlcbcaaCucM
import Derived.LoopTactic
namespace Go.Proofs.Ytgbaeipemlcbcaa
open Go.RowKit

def KU : Lay Nat := ⟨fun n => [.int .u64 (n : Int)], 1, 28, 27, .int .u64 0, 8⟩
theorem KU_ok : KU.Ok Try.prog := ⟨by decide, fun _ => rfl, fun x u hu => by rw [List.mem_singleton.1 hu]; rfl, Try.underlying27, by kernel_rfl, rfl, by decide⟩
def KI : Lay Int := ⟨fun n => [.int .i64 n], 1, 3, 38, .int .i64 0, 8⟩
theorem KI_ok : KI.Ok Try.prog := ⟨by decide, fun _ => rfl, fun x u hu => by rw [List.mem_singleton.1 hu]; rfl, Try.underlying38, by kernel_rfl, rfl, by decide⟩

set_option maxRecDepth 100000 in
theorem rnear_c (a b : Nat) (w : World) (ha : a < 18446744073709551616) (hb : b < 18446744073709551616) :
    Calls Try.prog 11 #[.int .u64 (a : Int), .int .u64 (b : Int)] w fun e w' => e = .returned (.bool (nearN a b)) ∧ w = w' := by
  have TA := Go.Lib.hid fun W => rtag_c a W ha
  have TB := Go.Lib.hid fun W => rtag_c b W hb
  have FA := Go.Lib.hid fun W => rfirst_c a W ha
  have FB := Go.Lib.hid fun W => rfirst_c b W hb
  have OB := Go.Lib.hid fun W => rother_c (firstN b : Int) (tagN b : Int) W
  rw [otherI_nat (first_lt b) (tag_lt b)] at OB
  have hn : nearN a b = (tagN a == tagN b && (firstN a == firstN b || firstN a == othN (firstN b) (tagN b))) := rfl
  generalize othN (firstN b) (tagN b) = ob at *
  generalize nearN a b = N at *
  generalize tagN a = ta at *
  generalize tagN b = tb at *
  generalize firstN a = fa at *
  generalize firstN b = fb at *
  clear ha hb
  by_cases ht : ta = tb
  · subst ht
    by_cases hf : fa = fb
    · subst hf
      have HN := Go.Lib.hid (show N = true by rw [hn]; simp)
      clear hn
      go_enter Try.func11, Try.ntmps11
      go_wp2_with fail
      refine (TA.out _).mono ?_
      rintro e w1 ⟨rfl, rfl⟩
      go_wp2_with fail
      refine (TB.out _).mono ?_
      rintro e w1 ⟨rfl, rfl⟩
      go_wp2_with fail
      refine (FA.out _).mono ?_
      rintro e w1 ⟨rfl, rfl⟩
      go_wp2_with fail
      refine (FB.out _).mono ?_
      rintro e w1 ⟨rfl, rfl⟩
      go_wp2_with fail
      go_ret
      exact ⟨ret_of (congrArg Value.bool HN.out.symm), rfl⟩
    · have HN := Go.Lib.hid (show N = (fa == ob) by rw [hn]; simp [hf])
      have hfI : ((fa : Int) == (fb : Int)) = false := by simp only [beq_eq_false_iff_ne, ne_eq]; omega
      have HO := Go.Lib.hid (show ((fa : Int) == (ob : Int)) = (fa == ob) by rw [Bool.eq_iff_iff, beq_iff_eq, beq_iff_eq]; omega)
      clear hn
      go_enter Try.func11, Try.ntmps11
      go_wp2_with fail
      refine (TA.out _).mono ?_
      rintro e w1 ⟨rfl, rfl⟩
      go_wp2_with fail
      refine (TB.out _).mono ?_
      rintro e w1 ⟨rfl, rfl⟩
      go_wp2_with fail
      refine (FA.out _).mono ?_
      rintro e w1 ⟨rfl, rfl⟩
      go_wp2_with fail
      refine (FB.out _).mono ?_
      rintro e w1 ⟨rfl, rfl⟩
      go_wp2_with fail
      refine (FA.out _).mono ?_
      rintro e w1 ⟨rfl, rfl⟩
      go_wp2_with fail
      refine (FB.out _).mono ?_
      rintro e w1 ⟨rfl, rfl⟩
      go_wp2_with fail
      refine (TB.out _).mono ?_
      rintro e w1 ⟨rfl, rfl⟩
      go_wp2_with fail
      refine (OB.out _).mono ?_
      rintro e w1 ⟨rfl, rfl⟩
      go_wp2_with fail
      go_ret
      exact ⟨ret_of (congrArg Value.bool (HO.out.trans HN.out.symm)), rfl⟩
  · have HN := Go.Lib.hid (show N = false by rw [hn]; simp [ht])
    have htI : ((ta : Int) == (tb : Int)) = false := by simp only [beq_eq_false_iff_ne, ne_eq]; omega
    clear hn
    go_enter Try.func11, Try.ntmps11
    go_wp2_with fail
    refine (TA.out _).mono ?_
    rintro e w1 ⟨rfl, rfl⟩
    go_wp2_with fail
    refine (TB.out _).mono ?_
    rintro e w1 ⟨rfl, rfl⟩
    go_wp2_with fail
    go_ret
    exact ⟨ret_of (congrArg Value.bool HN.out.symm), rfl⟩

def roomK (S k : Nat) : Nat := ((List.range k).map fun b => 4 * bitN S b).sum
theorem roomK_succ (S k : Nat) : roomK S (k + 1) = roomK S k + 4 * bitN S k := by unfold roomK; rw [List.range_succ, List.map_append, List.sum_append]; simp
theorem bitN_le (S b : Nat) : bitN S b ≤ 1 := by unfold bitN; omega
theorem roomK_le (S : Nat) : ∀ k, roomK S k ≤ 4 * k
  | 0 => by simp [roomK]
  | k + 1 => by have := roomK_le S k; have := bitN_le S k; rw [roomK_succ]; omega

theorem and_one (n : Nat) (h : n < 1024) : bits .and .i64 (n : Int) 1 = ((n % 2 : Nat) : Int) := by
  show IntKind.i64.wrap ((BitVec.ofInt 64 (n : Int) &&& BitVec.ofInt 64 ((1 : Nat) : Int)).toNat : Int) = _
  have e (a : Nat) (h : a < 1024) : (BitVec.ofInt 64 (a : Int)).toNat = a := by
    rw [BitVec.ofInt_natCast, BitVec.toNat_ofNat]; exact Nat.mod_eq_of_lt (by omega)
  rw [BitVec.toNat_and, e n h, e 1 (by omega), Nat.and_one_is_mod, IntKind.wrap_i64]
  omega
theorem bit_and {S k : Nat} (hS : S < 256) : bits .and .i64 ((S : Int) / 2 ^ k) 1 = (bitN S k : Int) := by
  have e1 : (S : Int) / 2 ^ k = ((S / 2 ^ k : Nat) : Int) := by
    rw [Int.natCast_ediv]
    simp
  rw [e1, and_one _ (Nat.lt_of_le_of_lt (Nat.div_le_self _ _) (by omega))]
  rfl
theorem cnt_take (S : Nat) (hs : List Nat) {i : Nat} (hi : i < hs.length) : cntN S (hs.take (i + 1)) = cntN S (hs.take i) + (if inS S hs[i] then 1 else 0) := by
  unfold cntN
  rw [List.take_succ_eq_append_getElem hi, List.countP_append, List.countP_singleton]
theorem cnt_le (S : Nat) (hs : List Nat) : cntN S hs ≤ hs.length := List.countP_le_length
theorem room_all {hs : List Nat} (h : ∀ s, s < 256 → cntN s hs ≤ roomN s) : roomB hs = true := by
  unfold roomB
  rw [List.all_eq_true]
  intro S hS
  rw [decide_eq_true_eq]
  exact h S (List.mem_range.1 hS)
theorem room_not {hs : List Nat} {S : Nat} (hS : S < 256) (h : roomN S < cntN S hs) : roomB hs = false := by
  unfold roomB
  rw [List.all_eq_false]
  refine ⟨S, List.mem_range.2 hS, ?_⟩
  rw [decide_eq_true_eq]
  omega

set_option maxHeartbeats 1000000 in
set_option maxRecDepth 100000 in
theorem rroom_c (v : Value) (hs : List Nat) (w : World) (hv : KU.R w v hs) (hlt : ∀ h ∈ hs, h < 18446744073709551616) (hlen : hs.length ≤ 100000) :
    Calls Try.prog 9 #[v] w fun e w' => e = .returned (.bool (roomB hs)) ∧ w = w' := by
  obtain ⟨a, cap, rfl, hm⟩ := hv.form
  have HV := Go.Lib.hid hv
  have HLT := Go.Lib.hid hlt
  clear hv hlt
  go_enter Try.func9, Try.ntmps9
  go_wp2_with fail
  go_loop [3] (fun i => ∃ S : Nat, S ≤ 256 ∧ i = .int .i64 (S : Int) ∧ Hid (∀ s, s < S → cntN s hs ≤ roomN s)) (fun i => 256 - (intOf i).toNat)
  case atStart => exact ⟨0, by omega, rfl, Go.Lib.hid fun s hs => by omega⟩
  case round =>
    obtain ⟨S, hS, rfl, hall⟩ := hrel
    by_cases hlt : S < 256
    · have hI : (S : Int) < 256 := by omega
      go_wp2_with fail
      go_loop [5, 6] (fun r i => ∃ k : Nat, k ≤ 8 ∧ i = .int .i64 (k : Int) ∧ r = .int .i64 (roomK S k : Int)) (fun _ i => 8 - (intOf i).toNat)
      case atStart => exact ⟨0, by omega, rfl, rfl⟩
      case round =>
        obtain ⟨k, hk, rfl, rfl⟩ := hrel
        by_cases hk8 : k < 8
        · have hkI : (k : Int) < 8 := by omega
          have hb := bit_and (S := S) (k := k) hlt
          have HR := Go.Lib.hid (roomK_succ S k)
          have hl := roomK_le S k
          have hb1 := bitN_le S k
          generalize bitN S k = c at *
          generalize roomK S k = r0 at *
          go_wp2_with fail
          go_round
          case rel => exact ⟨k + 1, by omega, by go_num, by rw [HR.out]; go_num⟩
          case measure => simp only [intOf]; omega
        · obtain rfl : k = 8 := by omega
          have e8 : roomK S 8 = roomN S := rfl
          rw [e8]
          have hrn := roomK_le S 8
          rw [e8] at hrn
          clear e8 hk8
          obtain ⟨rn, hrn2⟩ : ∃ rn, rn = roomN S := ⟨_, rfl⟩
          rw [← hrn2] at hrn ⊢
          have HRN := Go.Lib.hid hrn2
          clear hrn2
          go_wp2_with fail
          go_loop [4, 7] (fun n i => ∃ j : Nat, j ≤ hs.length ∧ i = .int .i64 (j : Int) ∧ n = .int .i64 (cntN S (hs.take j) : Int)) (fun _ i => hs.length - (intOf i).toNat)
          case atStart => exact ⟨0, by omega, rfl, by simp [cntN]⟩
          case round =>
            obtain ⟨j, hj, rfl, rfl⟩ := hrel
            by_cases hjl : j < hs.length
            · obtain ⟨b, o, rfl, -, hbs, hc⟩ := HV.out.at KU_ok j hjl
              have c0 : w.cell? ⟨b, o + j, none⟩ = some (.int .u64 (hs[j] : Int)) := by have := hc 0 _ rfl; simpa [KU] using this
              have hix : (Instr.indexAt 27 (.slice (some ⟨b, o, none⟩) hs.length cap) (.int .i64 (j : Int))).run Try.prog w = .ok (.pointer (some ⟨b, o + j, none⟩)) w := by
                have := KU_ok.run_idx b o hs.length cap j hjl w
                simpa [KU] using this
              have hx := HLT.out hs[j] (List.getElem_mem hjl)
              have FA := Go.Lib.hid fun W => rfirst_c hs[j] W hx
              have TA := Go.Lib.hid fun W => rtag_c hs[j] W hx
              have OA := Go.Lib.hid fun W => rother_c (firstN hs[j] : Int) (tagN hs[j] : Int) W
              rw [otherI_nat (first_lt _) (tag_lt _)] at OA
              have hct := cnt_take S hs hjl
              have hle := cnt_le S (hs.take j)
              rw [List.length_take] at hle
              have hfl := first_lt hs[j]
              have hol := oth_lt (tagN hs[j]) hfl
              have hin : inS S hs[j] = (bitN S (firstN hs[j]) == 1 && bitN S (othN (firstN hs[j]) (tagN hs[j])) == 1) := rfl
              have hbf := bit_and (S := S) (k := firstN hs[j]) hlt
              have hbo := bit_and (S := S) (k := othN (firstN hs[j]) (tagN hs[j])) hlt
              generalize cntN S (hs.take j) = n0 at *
              generalize bitN S (firstN hs[j]) = bf at *
              generalize bitN S (othN (firstN hs[j]) (tagN hs[j])) = bo at *
              generalize othN (firstN hs[j]) (tagN hs[j]) = fo at *
              generalize firstN hs[j] = ff at *
              generalize tagN hs[j] = tt at *
              generalize inS S hs[j] = I at *
              generalize hs[j] = x at *
              have hn0 : n0 ≤ 100000 := by omega
              clear hc hx hle
              by_cases h1 : bf = 1
              · have b1 : ((bf : Int) == 1) = true := by rw [h1]; rfl
                by_cases h2 : bo = 1
                · have b2 : ((bo : Int) == 1) = true := by rw [h2]; rfl
                  have HC := Go.Lib.hid (show cntN S (hs.take (j + 1)) = n0 + 1 by rw [hct, hin, h1, h2]; rfl)
                  clear hct hin h1 h2
                  go_wp2_with fail
                  refine (FA.out _).mono ?_
                  rintro e w1 ⟨rfl, rfl⟩
                  go_wp2_with fail
                  refine (TA.out _).mono ?_
                  rintro e w1 ⟨rfl, rfl⟩
                  go_wp2_with fail
                  refine (OA.out _).mono ?_
                  rintro e w1 ⟨rfl, rfl⟩
                  go_wp2_with fail
                  go_round
                  case rel => exact ⟨j + 1, by omega, by go_num, by rw [HC.out]; go_num⟩
                  case measure => simp only [intOf]; omega
                · have b2 : ((bo : Int) == 1) = false := by simp only [beq_eq_false_iff_ne, ne_eq]; omega
                  have HC := Go.Lib.hid (show cntN S (hs.take (j + 1)) = n0 by rw [hct, hin]; simp [h2])
                  clear hct hin h1 h2
                  go_wp2_with fail
                  refine (FA.out _).mono ?_
                  rintro e w1 ⟨rfl, rfl⟩
                  go_wp2_with fail
                  refine (TA.out _).mono ?_
                  rintro e w1 ⟨rfl, rfl⟩
                  go_wp2_with fail
                  refine (OA.out _).mono ?_
                  rintro e w1 ⟨rfl, rfl⟩
                  go_wp2_with fail
                  go_round
                  case rel => exact ⟨j + 1, by omega, by go_num, by rw [HC.out]⟩
                  case measure => simp only [intOf]; omega
              · have b1 : ((bf : Int) == 1) = false := by simp only [beq_eq_false_iff_ne, ne_eq]; omega
                have HC := Go.Lib.hid (show cntN S (hs.take (j + 1)) = n0 by rw [hct, hin]; simp [h1])
                clear hct hin h1
                go_wp2_with fail
                refine (FA.out _).mono ?_
                rintro e w1 ⟨rfl, rfl⟩
                go_wp2_with fail
                refine (TA.out _).mono ?_
                rintro e w1 ⟨rfl, rfl⟩
                go_wp2_with fail
                refine (OA.out _).mono ?_
                rintro e w1 ⟨rfl, rfl⟩
                go_wp2_with fail
                go_round
                case rel => exact ⟨j + 1, by omega, by go_num, by rw [HC.out]⟩
                case measure => simp only [intOf]; omega
            · obtain rfl : j = hs.length := by omega
              rw [List.take_length]
              by_cases hgt : rn < cntN S hs
              · have HN := Go.Lib.hid (room_not (hs := hs) hlt (by rw [← HRN.out]; exact hgt))
                generalize cntN S hs = nn at *
                have hgI : (rn : Int) < (nn : Int) := by omega
                go_wp2_with fail
                go_ret
                exact ⟨ret_of (congrArg Value.bool HN.out.symm), rfl⟩
              · have hall2 : Hid (∀ s, s < S + 1 → cntN s hs ≤ roomN s) := Go.Lib.hid fun s hs1 => by
                  rcases Nat.lt_or_ge s S with h | h
                  · exact hall.out s h
                  · obtain rfl : s = S := by omega
                    rw [← HRN.out]; omega
                generalize cntN S hs = nn at *
                have hgI : ¬ (rn : Int) < (nn : Int) := by omega
                go_wp2_with fail
                go_round
                case rel => exact ⟨S + 1, by omega, by go_num, hall2⟩
                case measure => simp only [intOf]; omega
    · obtain rfl : S = 256 := by omega
      have HN := Go.Lib.hid (room_all hall.out)
      clear hall hlt
      go_wp2_with fail
      go_ret
      exact ⟨ret_of (congrArg Value.bool HN.out.symm), rfl⟩

/-- What a law's argument of hashes reads as. -/
theorem ku_of_row {w : World} {a : Option Addr} {len cap : Nat} {zs : List Int} (h : (a = none ∧ len = 0 ∧ cap = 0 ∧ zs = []) ∨
    ∃ x, a = some x ∧ len ≤ cap ∧ cap ≤ maxLen ∧ zs.length = cap ∧ (∀ i, i < zs.length → w.cell? (x.add i) = some (.int .u64 (zs.getD i 0))) ∧ ∀ n ∈ zs, (Lit.int .u64 n).wf = true) :
    ∃ l : List Nat, KU.R w (.slice a len cap) l ∧ ∀ x ∈ l, x < 18446744073709551616 := by
  rcases h with ⟨rfl, rfl, rfl, rfl⟩ | ⟨x, rfl, hl, hm, hz, hc, hw⟩
  · exact ⟨[], Lay.R.nil _, fun x hx => by cases hx⟩
  · have hlen : ((zs.take len).map Int.toNat).length = len := by simp; omega
    have hb : ∀ (i : Nat) (hi : i < zs.length), 0 ≤ zs[i] ∧ zs[i] < 18446744073709551616 := fun i hi => by
      have h := hw zs[i] (List.getElem_mem hi)
      simp [Lit.wf, IntKind.min, IntKind.max, IntKind.signed, IntKind.bits] at h
      omega
    refine ⟨(zs.take len).map Int.toNat, ⟨some x, cap, by rw [hlen], by rw [hlen]; exact hl, hm, (fun h => by cases h), fun hne => ?_⟩, fun y hy => ?_⟩
    · have hpos : 0 < len := by rw [← hlen]; exact List.length_pos_iff.2 hne
      obtain ⟨b, o, spot⟩ := x
      have hspot : spot = none := by simpa [Addr.add] using World.cell?_spot (hc 0 (by omega))
      subst hspot
      refine ⟨b, o, rfl, fun j u hj => ?_⟩
      have hjl : j < len := by
        have := (List.getElem?_eq_some_iff.1 hj).1
        rw [KU_ok.flat_len, hlen] at this
        simpa [KU] using this
      have h1 := hc j (by omega)
      rw [Addr.add_mid] at h1
      have e := KU_ok.flat_at ((zs.take len).map Int.toNat) j 0 (by rw [hlen]; exact hjl) (by decide)
      rw [show j * KU.size + 0 = j from Nat.mul_one j, hj] at e
      have hi' : j < zs.length := by omega
      obtain ⟨b0, b1⟩ := hb j hi'
      rw [h1, e]
      simp only [KU, List.getElem_map, List.getElem_take, List.getElem?_cons_zero, List.getD_eq_getElem?_getD, List.getElem?_eq_getElem hi', Option.getD_some]
      congr 2
      omega
    · obtain ⟨z, hz', rfl⟩ := List.mem_map.1 hy
      obtain ⟨i, hi, rfl⟩ := List.mem_iff_getElem.1 (List.mem_of_mem_take hz')
      have := hb i hi
      omega
theorem KU.at' {w : World} {a : Option Addr} {n cap : Nat} {l : List Nat} (h : KU.R w (.slice a n cap) l) (i : Nat) (hi : i < l.length) : ∃ b o, a = some ⟨b, o, none⟩ ∧ n = l.length ∧ b < w.heap.size ∧ w.cell? ⟨b, o + i, none⟩ = some (.int .u64 (l[i] : Int)) := by
  obtain ⟨b, o, h1, h2, h3, h4⟩ := h.at KU_ok i hi
  exact ⟨b, o, h1, h2, h3, by have := h4 0 _ rfl; simpa [KU] using this⟩
theorem idxU (b o n cap j : Nat) (h : j < n) (W : World) : (Instr.indexAt 27 (.slice (some ⟨b, o, none⟩) n cap) (.int .i64 (j : Int))).run Try.prog W = .ok (.pointer (some ⟨b, o + j, none⟩)) W := by
  have := KU_ok.run_idx b o n cap j h W
  simpa [KU] using this

end Go.Proofs.Ytgbaeipemlcbcaa
