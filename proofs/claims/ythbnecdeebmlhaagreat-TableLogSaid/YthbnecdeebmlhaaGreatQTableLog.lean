/- TableLog: a log's slots, as they lie, are a table; it has just the log's records: for all records the law returns true. -/
import Derived.Test.YthbnecdeebmlhaaGreatRows
import Derived.WalkKit
import Derived.ProofKit
import Derived.OpenShut
import Derived.ShutString
import Derived.ChangeOld
import Derived.Below
import Derived.Test.YthbnecdeebmlhaaGreatL01
import Derived.Test.YthbnecdeebmlhaaGreatL14
import Derived.Test.YthbnecdeebmlhaaGreatL15
import Derived.Test.YthbnecdeebmlhaaGreatL05
import Derived.Test.YthbnecdeebmlhaaGreatL12
import Derived.Test.YthbnecdeebmlhaaGreatL04
import Derived.Test.YthbnecdeebmlhaaGreatL11
import Derived.Test.YthbnecdeebmlhaaGreatL07
namespace Go.Proofs.YthbnecdeebmlhaaGreat.tableLog
open Go.ChangeShapes Go.WideShapes Go.ChangeAt Go.RowKit
open Go.ChangeMaps (open_string shut_string)
set_option linter.unusedVariables false

theorem own : ownKnob Tryz.prog.godebug = none := by kernel_rfl
theorem laidOut : laidOutB Tryz.prog = true := by kernel_rfl

def VLs (g6 q D R : Nat) (kx : ByteArray) (gx : Bool) (ax nx : Int) (sx : ByteArray) : Nat → World → Value → Prop
  | 49, _, v => v = .int .i64 (q : Int)
  | 50, _, v => v = .int .i64 (D : Int)
  | 51, _, v => v = .int .i64 (q : Int)
  | 52, _, v => v = .int .i64 (R : Int)
  | 53, _, v => v = .agg #[.string kx, .bool gx, .int .i64 ax, .int .i64 nx, .string sx]
  | 54, _, v => v = .agg #[.bool true, .string kx, .bool gx, .int .i64 ax, .int .i64 nx, .string sx]
  | 55, _, v => v = .pointer (some ⟨g6, 24 * D, none⟩)
  | 56, _, v => v = .pointer (some ⟨g6, 24 * D + 6 * R, none⟩)
  | _, _, _ => True

theorem VLs_below (g6 q D R : Nat) (kx : ByteArray) (gx : Bool) (ax nx : Int) (sx : ByteArray) : ∀ (i : Nat) (w w' : World) (v : Value), VLs g6 q D R kx gx ax nx sx i w v → Below w.heap.size w w' → VLs g6 q D R kx gx ax nx sx i w' v := by
  intro i w w' v h hb
  unfold VLs at h ⊢
  split at h <;> first | exact h | trivial

def VLt (p ph n cm b q k m : Nat) (bq : Bool) (kk kx : ByteArray) (gx : Bool) (ax nx : Int) (sx : ByteArray) : Nat → World → Value → Prop
  | 98, _, v => v = .bool bq
  | 99, _, v => v = .bool bq
  | 100, _, v => v = .bool false
  | 101, _, v => v = .bool false
  | 102, _, v => v = .agg #[.string kx, .bool gx, .int .i64 ax, .int .i64 nx, .string sx]
  | 103, _, v => v = .agg #[.string kx, .bool gx, .int .i64 ax, .int .i64 nx, .string sx]
  | 104, _, v => v = .bool true
  | 105, _, v => v = .bool false
  | 106, _, v => v = .bool false
  | 107, _, v => v = .bool false
  | 108, _, v => v = .pointer (some ⟨ph, 0, none⟩)
  | 109, _, v => v = .slice (some ⟨b, q, none⟩) n cm
  | 110, _, v => v = .int .i64 (k : Int)
  | 111, _, v => v = .pointer (some ⟨b, q + k * 5, none⟩)
  | 112, _, v => v = .pointer (some ⟨b, q + k * 5, none⟩)
  | 113, _, v => v = .string kk
  | 114, _, v => v = .int .i64 (m : Int)
  | 115, _, v => v = .pointer (some ⟨p, 0, none⟩)
  | 116, _, v => v = .slice (some ⟨b, q, none⟩) n cm
  | 117, _, v => v = .int .i64 (k : Int)
  | 118, _, v => v = .pointer (some ⟨b, q + k * 5, none⟩)
  | 119, _, v => v = .pointer (some ⟨b, q + k * 5, none⟩)
  | 120, _, v => v = .string kk
  | 121, _, v => v = .int .i64 (m : Int)
  | 122, _, v => v = .bool false
  | 123, _, v => v = .bool false
  | _, _, _ => True

theorem VLt_below (p ph n cm b q k m : Nat) (bq : Bool) (kk kx : ByteArray) (gx : Bool) (ax nx : Int) (sx : ByteArray) : ∀ (i : Nat) (w w' : World) (v : Value), VLt p ph n cm b q k m bq kk kx gx ax nx sx i w v → Below w.heap.size w w' → VLt p ph n cm b q k m bq kk kx gx ax nx sx i w' v := by
  intro i w w' v h hb
  unfold VLt at h ⊢
  split at h <;> first | exact h | trivial

theorem putN_mem {L : List RecT} (hL : KeysOk L) {x y : RecT} (h : y ∈ putN L x) : y = x ∨ y ∈ L := by
  unfold putN at h
  split at h
  · rcases (mem_put hL x y).1 h with h | h
    · exact .inl h
    · exact .inr h.1
  · exact .inr h
theorem logT_lay {T : SlT} {L : List RecT} (hf : Fits T (esL L)) (hL : KeysOk L) (hm : ∀ x ∈ L, mayT x = true) (hok : ∀ x ∈ L, RecOk x) : LayOk (logT T L) := by
  refine ⟨okTo_log hf hL hm, fun q hq => ?_⟩
  unfold logT ofO
  cases hT : T q with
  | none =>
    rw [show slotO T L q = none from by unfold slotO; rw [hT]; rfl]
    exact nullOk
  | some y =>
    obtain ⟨t, z⟩ := y
    obtain ⟨i, hi, -, hs, -⟩ := slot_some hf hq hT
    rw [hs]
    exact hok _ (List.getElem_mem hi)
theorem log_find {T : SlT} {L : List RecT} (hf : Fits T (esL L)) (hL : KeysOk L) (k : List UInt8) : findK keyR (recsT (logT T L) 32) k = findK keyR L k :=
  find_congr (hL.perm (recsT_log hf).symm) hL (fun _ => (recsT_log hf).mem_iff) k
theorem log_reads {T : SlT} {L : List RecT} (hf : Fits T (esL L)) (k : ByteArray) : readsR (recsT (logT T L) 32) k = readsR L k := (recsT_log hf).countP_eq _

set_option maxHeartbeats 16000000 in
set_option maxRecDepth 100000 in
theorem walk (w : World) (a0 : Option Addr) (len0 cap0 : Nat) (l0 : List RecT) (w0 : RRec w (.slice a0 len0 cap0) l0) :
    Calls Tryz.prog 6 #[.slice a0 len0 cap0] w fun e w' => e = .returned (.bool true) ∧ Below w.heap.size w w' := by
  have HW0 := Go.Lib.hid w0
  have CR := Go.Lib.hid fun W (h : RRec W (.slice a0 len0 cap0) l0) => recs_c (.slice a0 len0 cap0) l0 40 W h (by omega)
  have HSZ := Go.Lib.hid fun x (hx : x ∈ (l0.take 40).map cutR) => cut_sizes hx
  have HRO := Go.Lib.hid (show ∀ x ∈ (l0.take 40).map cutR, RecOk x from fun x hx => by
    obtain ⟨y, hy, rfl⟩ := List.mem_map.1 hx
    exact cutR_ok (w0.ok y (List.mem_of_mem_take hy)))
  have HML := Go.Lib.hid (show ((l0.take 40).map cutR).length ≤ 40 from by rw [List.length_map]; exact List.length_take_le _ _)
  clear w0
  generalize (l0.take 40).map cutR = M at *
  have hz := zero_tabZ
  go_enter Tryz.func6, Tryz.ntmps6
  go_wp2_with fail
  refine (begun20_c _).mono ?_
  rintro e w1 ⟨rfl, hb⟩
  have HB := Go.Lib.hid hb
  have HC := Go.Lib.hid (CR.out w1 (HW0.out.below hb))
  clear hb CR HW0
  go_wp2_with fail
  refine HC.out.mono ?_
  rintro e w2 ⟨vm, rfl, ho, hb⟩
  have HM := Go.Lib.hid ho.rs
  obtain ⟨am, cm, rfl, -⟩ := ho.rs.form
  have HB := Go.Lib.hid (HB.out.trans (hb.mono HB.out.size))
  clear ho hb HC
  have hml := HML.out
  obtain ⟨n, hn⟩ : ∃ n, n = M.length := ⟨_, rfl⟩
  have HN := Go.Lib.hid hn
  rw [← hn] at hml HM ⊢
  clear hn HML
  go_wp2_with fail
  refine (lnew_c _).mono ?_
  rintro e w3 ⟨p, d, rfl, hl, hb⟩
  obtain ⟨g, hg⟩ : ∃ g, g = w2.heap.size := ⟨_, rfl⟩
  have HG := Go.Lib.hid hg
  have HL := Go.Lib.hid (show LG w3 g p d (.slice none 0 0) [] by rw [hg]; exact hl)
  have HBg := Go.Lib.hid (show Below g w2 w3 by rw [hg]; exact hb)
  have HMW := Go.Lib.hid (show ∀ W, Below g w2 W → RS W (.slice am n cm) M from fun W h => HM.out.below (by rw [← hg]; exact h))
  clear hb hl hg HM
  go_wp2_with fail
  go_loopw [5] (fun ki wr => ∃ (k : Nat) (v : Value) (L : List RecT), k ≤ n ∧ ki = .int .i64 (k : Int) ∧ Hid (LG wr g p d v L) ∧ Hid (∀ x ∈ L, RecOk x) ∧ Hid (Below g w2 wr)) (fun ki _ => n - (intOf ki).toNat)
  case atStart => exact ⟨0, _, [], by omega, rfl, HL, Go.Lib.hid (fun x h => by cases h), HBg⟩
  case round =>
    clear HL HBg
    obtain ⟨k, v, L, hk, rfl, HL, HOL, HBg⟩ := hrel
    by_cases hlt : k < n
    · have hltI : (k : Int) < (n : Int) := by omega
      have hlt2 : k < M.length := by rw [← HN.out]; exact hlt
      obtain ⟨b, q, rfl, -, -, c0, c1, c2, c3, c4⟩ := (HMW.out _ HBg.out).at k hlt2
      have hix := run_idx5 b q n cm k hlt
      have hsz := HSZ.out _ (List.getElem_mem hlt2)
      have hro := HRO.out _ (List.getElem_mem hlt2)
      generalize M[k] = x at *
      obtain ⟨kx, gx, ax, nx, sx⟩ := x
      simp only [] at c0 c1 c2 c3 c4 hsz
      have CP := lput_w HL.out kx gx ax nx sx (by unfold maxLen; omega) (by unfold maxLen; omega)
      have HOL5 := Go.Lib.hid (show ∀ y ∈ putN L (kx, gx, ax, nx, sx), RecOk y from fun y hy => by
        rcases putN_mem HL.out.keys hy with h | h
        · rw [h]; exact hro
        · exact HOL.out y h)
      unfold recV at CP
      have CP := Go.Lib.hid CP
      clear hsz hro hlt2
      go_wp2_with fail
      refine CP.out.mono ?_
      rintro e w5 ⟨rfl, ⟨v5, hl, hn⟩, ho⟩
      have HB5 := Go.Lib.hid (HBg.out.trans (HL.out.offBelow ho))
      have HL5 := Go.Lib.hid hl
      clear hl hn ho CP c0 c1 c2 c3 c4 hix
      go_wp2_with fail
      exact ⟨⟨k + 1, _, _, by omega, by go_num, HL5, HOL5, HB5⟩, by simp only [intOf]; omega⟩
    · obtain rfl : k = n := by omega
      obtain ⟨w5, hw5⟩ : ∃ W, W = wr := ⟨_, rfl⟩
      subst hw5
      obtain ⟨T, hck, hf⟩ := HL.out.ck
      have HLW := Go.Lib.hid (show ∀ W, Below w5.heap.size w5 W → LG W g p d v L ∧ CK W d T from fun W h => ⟨HL.out.below h, hck.below h⟩)
      have HF := Go.Lib.hid hf
      have HLAY := Go.Lib.hid (logT_lay hf HL.out.keys HL.out.may HOL.out)
      have HNL := Go.Lib.hid (newest_log hf HL.out.keys)
      have HFI := Go.Lib.hid (log_find hf HL.out.keys)
      have HRE := Go.Lib.hid (log_reads hf)
      have HTT := Go.Lib.hid (show ∀ q, logT T L q = ofO (slotO T L q) from fun q => rfl)
      have HB := Go.Lib.hid (HB.out.trans (HBg.out.mono (by rw [HG.out]; exact HB.out.size)))
      have HMW := Go.Lib.hid (show ∀ W, Below w5.heap.size w5 W → RS W (.slice am k cm) M from fun W h => HMW.out W (HBg.out.trans (h.mono (by have := HBg.out.size; have := HG.out; omega))))
      clear hck hf HL HOL HBg HRO HG hlt
      generalize logT T L = TT at *
      have HST := Go.Lib.hid (sizeTabO TT)
      have HT0 := Go.Lib.hid (show TO (w5.alloc (.cells (tabL zeroT 32).toArray 43)) w5.heap.size (cutT TT 0) from tab_slot_congr (TO.new w5 zeroT) (fun q _ => (show zeroT q = cutT TT 0 q from by unfold cutT zeroT; rw [if_neg (by omega)])))
      have HCT := Go.Lib.hid (show ∀ q, q < 32 → cutT TT 32 q = TT q from fun q hq => cutT_old TT hq)
      have HBA := Go.Lib.hid (below_one w5 (.cells (tabL zeroT 32).toArray 43))
      have HTL := Go.Lib.hid (show tabL (cutT TT 32) 32 = tabL TT 32 from tabL_congr 32 HCT.out)
      have HRG := Go.Lib.hid (fun (W : World) g (h : TO W g (cutT TT 32)) => h.range)
      rw [HTL.out] at HRG
      have CN := Go.Lib.hid (fun W => new_ok HLAY.out W)
      generalize tabL zeroT 32 = ZL at *
      generalize tabL TT 32 = TL at *
      clear HCT HTL
      obtain ⟨g6, hg6⟩ : ∃ g, g = w5.heap.size := ⟨_, rfl⟩
      have HG6 := Go.Lib.hid hg6
      rw [← hg6] at HT0 HBA HLW HMW
      clear hg6
      go_upto_region 11 with (fail)
      rw [← HG6.out]
      have hnn : k ≤ 40 := hml
      clear hml
      obtain ⟨w6, hw6⟩ : ∃ W, W = w5.alloc (.cells ZL.toArray 43) := ⟨_, rfl⟩
      rw [← hw6] at HT0 HBA ⊢
      clear hw6
      go_wp2_with fail
      go_loopw [7] (fun iv w7 => ∃ q : Nat, q ≤ 32 ∧ iv = .int .i64 (q : Int) ∧ Hid (TO w7 g6 (cutT TT q)) ∧ Hid (Below g6 w5 w7)) (fun iv _ => 32 - (intOf iv).toNat)
      case atStart => exact ⟨0, by omega, rfl, HT0, HBA⟩
      case round =>
        clear HT0 HBA
        obtain ⟨q, hq, rfl, HT, HBr⟩ := hrel
        have HLr := Go.Lib.hid (HLW.out _ HBr.out)
        by_cases hlt : q < 32
        · have hltI : (q : Int) < 32 := by omega
          obtain ⟨D, hD⟩ : ∃ D, D = q / 4 := ⟨_, rfl⟩
          obtain ⟨R, hR⟩ : ∃ R, R = q % 4 := ⟨_, rfl⟩
          have d1 : (q : Int).tdiv 4 = (D : Int) := by rw [Int.tdiv_eq_ediv_of_nonneg (by omega)]; omega
          have r1 : (q : Int).tmod 4 = (R : Int) := by rw [Int.tmod_eq_emod_of_nonneg (by omega)]; omega
          have hD8 : D < 8 := by omega
          have hR4 : R < 4 := by omega
          have HIE := Go.Lib.hid (show 4 * D + R = q by omega)
          have hwD : IntKind.i64.wrap (D : Int) = (D : Int) := by rw [IntKind.wrap_i64]; omega
          have CS := lslot_c HLr.out.1 HLr.out.2 HF.out hD8 hR4
          rw [HIE.out] at CS
          have HTQ := Go.Lib.hid (HTT.out q)
          clear HLr
          cases hs : slotO T L q with
          | none =>
            rw [hs] at CS HTQ
            rw [outR_none] at CS
            have CS := Go.Lib.hid CS
            have HSK := Go.Lib.hid (show cutT TT q = cutT TT (q + 1) from cutT_skip TT q HTQ.out)
            clear hs HTQ hD hR
            go_wp2_with fail
            refine CS.out.mono ?_
            rintro e w8 ⟨rfl, hc⟩
            have hbA := below_one w8 (.cells #[.string ⟨#[]⟩, .bool false, .int .i64 0, .int .i64 0, .string ⟨#[]⟩] 28)
            have hcA := hc.trans (hbA.mono hc.size)
            have HT9 := Go.Lib.hid (HT.out.below hcA)
            have HB9 := Go.Lib.hid (HBr.out.trans (hcA.mono (by have := HBr.out.size; have := HG6.out; omega)))
            rw [HSK.out] at HT9
            clear hc hbA hcA CS HT HBr
            go_wp2_with fail
            exact ⟨⟨q + 1, by omega, by go_num, HT9, HB9⟩, by simp only [intOf]; omega⟩
          | some x =>
            rw [hs] at CS HTQ
            rw [outR_some] at CS
            have HSE := Go.Lib.hid (show setT (cutT TT q) q (true, x) = cutT TT (q + 1) from by rw [← cutT_set TT q, HTQ.out]; rfl)
            clear hs HTQ
            obtain ⟨kx, gx, ax, nx, sx⟩ := x
            unfold recOf recV at CS
            simp only [] at CS
            have CS := Go.Lib.hid CS
            clear hD hR
            go_wp2_with fail
            refine CS.out.mono ?_
            rintro e w8 ⟨rfl, hc⟩
            have hbA := below_one w8 (.cells #[.string kx, .bool gx, .int .i64 ax, .int .i64 nx, .string sx] 28)
            have HX8 := Go.Lib.hid (heap_alloc_new w8 (.cells #[.string kx, .bool gx, .int .i64 ax, .int .i64 nx, .string sx] 28))
            have hcA := hc.trans (hbA.mono hc.size)
            have HT9 := Go.Lib.hid (HT.out.below hcA)
            have HB9 := Go.Lib.hid (HBr.out.trans (hcA.mono (by have := HBr.out.size; have := HG6.out; omega)))
            clear hc hbA hcA CS HT HBr
            go_upto_region 16 with (fail)
            obtain ⟨g8, hg8⟩ : ∃ g, g = w8.heap.size := ⟨_, rfl⟩
            rw [← hg8] at HX8 ⊢
            clear hg8
            generalize w8.alloc (.cells #[.string kx, .bool gx, .int .i64 ax, .int .i64 nx, .string sx] 28) = w9 at *
            have hix1 := idxO g6 D hD8
            have hix2 := idxO2 g6 (24 * D) R hR4
            refine wp_region_head 8 (by decide) (by kernel_rfl) (VLs g6 q D R kx gx ax nx sx) (VLs_below g6 q D R kx gx ax nx sx) (by decide +kernel) (by rfl) [49, 50, 51, 52, 53, 54, 55, 56] (by rfl) ?_ ?_
            · intro i o hin ho a w6 hb6 hlen hg
              obtain ⟨y0, y1, y2, y3, y4⟩ := row5 (row_kept HX8.out hb6)
              match i, hin, ho with
              | 0, hin, ho =>
                obtain rfl := Option.some.inj ho
                have h7 := given_old hg 7 (by decide +kernel)
                clear hg
                exact st_yield ho (wanted_none rfl) (.int .i64 (q : Int)) w6 (by simp [execOp, Act.eval, h7, go_sem]) ⟨_, rfl, Below.refl _ _, by rintro t' ⟨⟩; rfl⟩
              | 1, hin, ho =>
                obtain rfl := Option.some.inj ho
                obtain ⟨_, h49, rfl⟩ := given_fed hg 49 (by decide +kernel)
                clear hg
                exact st_yield ho (wanted_none rfl) (.int .i64 (D : Int)) w6 (by simp [execOp, Act.eval, h49, go_sem, d1, hwD]) ⟨_, rfl, Below.refl _ _, by rintro t' ⟨⟩; rfl⟩
              | 2, hin, ho =>
                obtain rfl := Option.some.inj ho
                have h7 := given_old hg 7 (by decide +kernel)
                clear hg
                exact st_yield ho (wanted_none rfl) (.int .i64 (q : Int)) w6 (by simp [execOp, Act.eval, h7, go_sem]) ⟨_, rfl, Below.refl _ _, by rintro t' ⟨⟩; rfl⟩
              | 3, hin, ho =>
                obtain rfl := Option.some.inj ho
                obtain ⟨_, h51, rfl⟩ := given_fed hg 51 (by decide +kernel)
                clear hg
                exact st_yield ho (wanted_none rfl) (.int .i64 (R : Int)) w6 (by simp [execOp, Act.eval, h51, go_sem, r1]) ⟨_, rfl, Below.refl _ _, by rintro t' ⟨⟩; rfl⟩
              | 4, hin, ho =>
                obtain rfl := Option.some.inj ho
                have h8 := given_old hg 8 (by decide +kernel)
                clear hg
                exact st_yield ho (wanted_none rfl) (.agg #[.string kx, .bool gx, .int .i64 ax, .int .i64 nx, .string sx]) w6 (by simp [execOp, Act.eval, h8, go_sem, y0, y1, y2, y3, y4]) ⟨_, rfl, Below.refl _ _, by rintro t' ⟨⟩; rfl⟩
              | 5, hin, ho =>
                obtain rfl := Option.some.inj ho
                obtain ⟨_, h53, rfl⟩ := given_fed hg 53 (by decide +kernel)
                clear hg
                exact st_yield ho (wanted_none rfl) (.agg #[.bool true, .string kx, .bool gx, .int .i64 ax, .int .i64 nx, .string sx]) w6 (by simp [execOp, Act.eval, h53, build_oslot true kx gx ax nx sx w6]) ⟨_, rfl, Below.refl _ _, by rintro t' ⟨⟩; rfl⟩
              | 6, hin, ho =>
                obtain rfl := Option.some.inj ho
                have h6 := given_old hg 6 (by decide +kernel)
                obtain ⟨_, h50, rfl⟩ := given_fed hg 50 (by decide +kernel)
                clear hg
                exact st_yield ho (wanted_none rfl) (.pointer (some ⟨g6, 24 * D, none⟩)) w6 (by simp [execOp, Act.eval, h6, h50, go_sem, hix1]) ⟨_, rfl, Below.refl _ _, by rintro t' ⟨⟩; rfl⟩
              | 7, hin, ho =>
                obtain rfl := Option.some.inj ho
                obtain ⟨_, h55, rfl⟩ := given_fed hg 55 (by decide +kernel)
                obtain ⟨_, h52, rfl⟩ := given_fed hg 52 (by decide +kernel)
                clear hg
                exact st_yield ho (wanted_none rfl) (.pointer (some ⟨g6, 24 * D + 6 * R, none⟩)) w6 (by simp [execOp, Act.eval, h55, h52, go_sem, hix2]) ⟨_, rfl, Below.refl _ _, by rintro t' ⟨⟩; rfl⟩
              | n + 8, hin, ho => omega
            · intro f w10 hb10 hv
              have h54 := hv 54 (by decide)
              have h56 := hv 56 (by decide)
              simp only [VLs] at h54 h56
              have HT10 := Go.Lib.hid (HT9.out.below hb10)
              have HB10 := Go.Lib.hid (HB9.out.trans (hb10.mono (by have := HB9.out.size; have := HG6.out; omega)))
              have HTH := Go.Lib.hid (show w10.there g6 (24 * D + 6 * R) (#[.bool true, .string kx, .bool gx, .int .i64 ax, .int .i64 nx, .string sx] : Array Value).size from by rw [show 24 * D + 6 * R = 6 * q by have := HIE.out; omega]; exact HT10.out.there hlt)
              have hgr := setCells_gr (enc6 (true, kx, gx, ax, nx, sx)) w10 g6 (24 * D + 6 * R)
              have HT11 := Go.Lib.hid (show TO (w10.setCells g6 (24 * D + 6 * R) (enc6 (true, kx, gx, ax, nx, sx))) g6 (cutT TT (q + 1)) from by
                have := HT10.out.set hlt (true, kx, gx, ax, nx, sx)
                rw [show 6 * q = 24 * D + 6 * R by have := HIE.out; omega, HSE.out] at this
                exact this)
              have HB11 := Go.Lib.hid (show Below g6 w5 (w10.setCells g6 (24 * D + 6 * R) (enc6 (true, kx, gx, ax, nx, sx))) from HB10.out.grown hgr (by have := HB10.out.size; have := HG6.out; omega) (fun j e => by have := Option.some.inj e; omega))
              clear hv hb10 HT9 HB9 HT10 HB10 hgr d1 r1 hwD hix1 hix2 HX8
              unfold putAll
              simp only [List.foldl, List.drop]
              simp only [h54, h56]
              clear h54 h56
              go_simp
              go_wp2_with (first
                | (with_reducible show wpList _ _ _ (⟨none, _, _, _, _, _⟩ :: _) _ _; go_loud (refine wpList_store_mid rfl 40 (.tmp 56) (.tmp 54) rfl g6 (24 * D + 6 * R) #[.bool true, .string kx, .bool gx, .int .i64 ax, .int .i64 nx, .string sx] rfl rfl HTH.out (by kernel_rfl) (six1 true kx gx ax nx sx) ?_))
                | fail)
              go_roundw
              case rel => exact ⟨q + 1, by omega, by go_num, HT11, HB11⟩
              case measure => simp only [intOf]; omega
        · obtain rfl : q = 32 := by omega
          have HR6 := Go.Lib.hid (HRG.out _ _ HT.out)
          clear HT HRG
          go_wp2_with (first
            | (with_reducible show wpList _ _ _ (⟨some 58, _, _, _, _, _⟩ :: _) _ _; go_loud (refine wpList_load_mid rfl 43 (.tmp 6) rfl g6 0 rfl TL _ HR6.out Tryz.underlying43 rfl HST.out ?_))
            | fail)
          refine (CN.out _).mono ?_
          rintro e w9 ⟨ph, u, r, rfl, hw, hc⟩
          have H := Go.Lib.hid hw
          have HBr := Go.Lib.hid (HBr.out.trans (hc.mono (by have := HBr.out.size; have := HG6.out; omega)))
          clear hw hc CN HLr HR6
          have CH := hlist_c H.out
          rw [HNL.out] at CH
          have CH := Go.Lib.hid CH
          go_wp2_with fail
          refine CH.out.mono ?_
          rintro e w10 ⟨v1, rfl, ho, hc⟩
          have HR1 := Go.Lib.hid ho.rs
          have H := Go.Lib.hid (H.out.below hc)
          have HBr := Go.Lib.hid (HBr.out.trans (hc.mono (by have := HBr.out.size; have := HG6.out; omega)))
          have CL := Go.Lib.hid (llist_c (HLW.out _ HBr.out).1)
          clear ho hc CH
          go_wp2_with fail
          refine CL.out.mono ?_
          rintro e w11 ⟨v2, rfl, ho, hc⟩
          have CE := reqrecs_c v1 v2 _ _ w11 (HR1.out.below hc) ho.rs
          rw [decide_eq_true rfl] at CE
          have CE := Go.Lib.hid CE
          have H := Go.Lib.hid (H.out.below hc)
          have HBr := Go.Lib.hid (HBr.out.trans (hc.mono (by have := HBr.out.size; have := HG6.out; omega)))
          clear ho hc CL HR1
          go_wp2_with fail
          refine CE.out.mono ?_
          rintro e w12 ⟨rfl, hc⟩
          have H := Go.Lib.hid (H.out.below hc)
          have HBr := Go.Lib.hid (HBr.out.trans (hc.mono (by have := HBr.out.size; have := HG6.out; omega)))
          clear hc CE
          have HLW := Go.Lib.hid (show ∀ W, Below w12.heap.size w12 W → LG W g p d v L from fun W h => (HLW.out W (HBr.out.trans (h.mono (by have := HBr.out.size; have := HG6.out; omega)))).1)
          have HMW := Go.Lib.hid (show ∀ W, Below w12.heap.size w12 W → RS W (.slice am k cm) M from fun W h => HMW.out W (HBr.out.trans (h.mono (by have := HBr.out.size; have := HG6.out; omega))))
          have HB := Go.Lib.hid (HB.out.trans (HBr.out.mono (by rw [HG6.out]; exact HB.out.size)))
          have CG1 := Go.Lib.hid (show ∀ W key, Below w12.heap.size w12 W → key.size ≤ 1000000 → Calls Tryz.prog 29 #[.pointer (some ⟨p, 0, none⟩), .string key] W fun e w' => e = .returned (outR (findK keyR L key.toList)) ∧ Below W.heap.size W w' from fun W key h hk => lget_c (HLW.out W h) key hk)
          have CG2 := Go.Lib.hid (show ∀ W key, Below w12.heap.size w12 W → key.size ≤ 1000000 → Calls Tryz.prog 19 #[.pointer (some ⟨ph, 0, none⟩), .string key] W fun e w' => e = .returned (outR (findK keyR L key.toList)) ∧ Below W.heap.size W w' from fun W key h hk => by
            have := hget_c (H.out.below h) key hk
            rw [HFI.out] at this
            exact this)
          have CR1 := Go.Lib.hid (show ∀ W key, Below w12.heap.size w12 W → key.size ≤ 1000000 → Calls Tryz.prog 31 #[.pointer (some ⟨p, 0, none⟩), .string key] W fun e w' => e = .returned (.int .i64 (readsR L key : Int)) ∧ Below W.heap.size W w' from fun W key h hk => lreads_c (HLW.out W h) key hk)
          have CR2 := Go.Lib.hid (show ∀ W key, Below w12.heap.size w12 W → key.size ≤ 1000000 → Calls Tryz.prog 20 #[.pointer (some ⟨ph, 0, none⟩), .string key] W fun e w' => e = .returned (.int .i64 (readsR L key : Int)) ∧ Below W.heap.size W w' from fun W key h hk => by
            have := hreads_c (H.out.below h) key hk
            rw [HRE.out] at this
            exact this)
          clear H HLW HFI HRE HNL HLAY HTT HST HF HBr HG6
          obtain ⟨n, hn⟩ : ∃ n, n = k := ⟨_, rfl⟩
          subst hn
          go_wp2_with fail
          go_loopw [12] (fun iv w13 => ∃ k : Nat, k ≤ n ∧ iv = .int .i64 (k : Int) ∧ Hid (Below w12.heap.size w12 w13)) (fun iv _ => n - (intOf iv).toNat)
          case atStart => exact ⟨0, by omega, rfl, Go.Lib.hid (Below.refl _ _)⟩
          case round =>
            obtain ⟨k, hk, rfl, HBr⟩ := hrel
            by_cases hlt : k < n
            · have hltI : (k : Int) < (n : Int) := by omega
              have hlt2 : k < M.length := by rw [← HN.out]; exact hlt
              obtain ⟨b, q, rfl, -, -, c0, -⟩ := (HMW.out _ HBr.out).at k hlt2
              have hix := run_idx5 b q n cm k hlt
              have hsz := HSZ.out _ (List.getElem_mem hlt2)
              generalize M[k] = x at *
              obtain ⟨kk, gk, ak, nk, sk⟩ := x
              simp only [] at c0 hsz
              have C1 := Go.Lib.hid (fun W h => CG1.out W kk h (by omega))
              have C2 := Go.Lib.hid (CG2.out _ kk HBr.out (by omega))
              have CR1 := Go.Lib.hid (fun W h => CR1.out W kk h (by omega))
              have CR2 := Go.Lib.hid (fun W h => CR2.out W kk h (by omega))
              have HEQ := Go.Lib.hid (eqRec_same ((findK keyR L kk.toList).getD nullR))
              unfold outR at C1 C2
              generalize (findK keyR L kk.toList).isSome = bq at *
              generalize (findK keyR L kk.toList).getD nullR = x at *
              generalize readsR L kk = m at *
              obtain ⟨kx, gx, ax, nx, sx⟩ := x
              unfold recOf recV at C1 C2
              simp only [] at C1 C2 HEQ
              have CE := fun W => reqrec_c kx gx ax nx sx kx gx ax nx sx W
              unfold recV at CE
              rw [HEQ.out] at CE
              have CE := Go.Lib.hid CE
              clear HEQ hsz hlt2
              go_wp2_with fail
              refine C2.out.mono ?_
              rintro e w14 ⟨rfl, hc⟩
              have hbA := below_one w14 (.cells #[.string kx, .bool gx, .int .i64 ax, .int .i64 nx, .string sx] 28)
              have HXA := Go.Lib.hid (heap_alloc_new w14 (.cells #[.string kx, .bool gx, .int .i64 ax, .int .i64 nx, .string sx] 28))
              have hcA := hc.trans (hbA.mono hc.size)
              have HBA := Go.Lib.hid (HBr.out.trans (hcA.mono HBr.out.size))
              have c0 := keepC c0 hcA
              clear hc hbA hcA C2 HBr
              go_upto_region 24 with (fail)
              obtain ⟨g13, hg13⟩ : ∃ g, g = w14.heap.size := ⟨_, rfl⟩
              rw [← hg13] at HXA ⊢
              clear hg13
              generalize w14.alloc (.cells #[.string kx, .bool gx, .int .i64 ax, .int .i64 nx, .string sx] 28) = w15 at *
              have C1 := Go.Lib.hid (C1.out _ HBA.out)
              go_wp2_with fail
              refine C1.out.mono ?_
              rintro e w16 ⟨rfl, hc⟩
              have hbA := below_one w16 (.cells #[.string kx, .bool gx, .int .i64 ax, .int .i64 nx, .string sx] 28)
              have HXB := Go.Lib.hid (heap_alloc_new w16 (.cells #[.string kx, .bool gx, .int .i64 ax, .int .i64 nx, .string sx] 28))
              have hcA := hc.trans (hbA.mono hc.size)
              have HB9 := Go.Lib.hid (HBA.out.trans (hcA.mono HBA.out.size))
              have HXA := Go.Lib.hid (row_kept HXA.out hcA)
              have c0 := keepC c0 hcA
              clear hc hbA hcA C1 HBA
              go_upto_region 25 with (fail)
              obtain ⟨g15, hg15⟩ : ∃ g, g = w16.heap.size := ⟨_, rfl⟩
              rw [← hg15] at HXB ⊢
              clear hg15
              generalize w16.alloc (.cells #[.string kx, .bool gx, .int .i64 ax, .int .i64 nx, .string sx] 28) = w17 at *
              have HC := Go.Lib.hid (fun W (hb : Below w17.heap.size w17 W) => keepC c0 hb)
              clear c0
              refine wp_region_each (by kernel_rfl) (VLt p ph n cm b q k m bq kk kx gx ax nx sx) (VLt_below p ph n cm b q k m bq kk kx gx ax nx sx) (by decide +kernel) (by decide +kernel) (by rfl) [98, 99, 100, 101, 102, 103, 104, 105, 106, 107, 108, 109, 110, 111, 112, 113, 114, 115, 116, 117, 118, 119, 120, 121, 122, 123] (by rfl) ?_ ?_
              · intro i o ho a w6 hb6 hlen hg
                obtain ⟨y0, y1, y2, y3, y4⟩ := row5 (row_kept HXA.out hb6)
                obtain ⟨z0, z1, z2, z3, z4⟩ := row5 (row_kept HXB.out hb6)
                have c0 := HC.out w6 hb6
                match i, ho with
                | 0, ho =>
                  obtain rfl := Option.some.inj ho
                  have h14 := given_old hg 14 (by decide +kernel)
                  clear hg
                  exact st_yield ho (wanted_none rfl) (.bool bq) w6 (by simp [execOp, Act.eval, h14, go_sem]) ⟨_, rfl, Below.refl _ _, by rintro t' ⟨⟩; rfl⟩
                | 1, ho =>
                  obtain rfl := Option.some.inj ho
                  have h16 := given_old hg 16 (by decide +kernel)
                  clear hg
                  exact st_yield ho (wanted_none rfl) (.bool bq) w6 (by simp [execOp, Act.eval, h16, go_sem]) ⟨_, rfl, Below.refl _ _, by rintro t' ⟨⟩; rfl⟩
                | 2, ho =>
                  obtain rfl := Option.some.inj ho
                  obtain ⟨_, h98, rfl⟩ := given_fed hg 98 (by decide +kernel)
                  obtain ⟨_, h99, rfl⟩ := given_fed hg 99 (by decide +kernel)
                  clear hg
                  exact st_yield ho (wanted_none rfl) (.bool false) w6 (by simp [execOp, Act.eval, h98, h99, go_sem]) ⟨_, rfl, Below.refl _ _, by rintro t' ⟨⟩; rfl⟩
                | 3, ho =>
                  obtain rfl := Option.some.inj ho
                  obtain ⟨_, h100, rfl⟩ := given_fed hg 100 (by decide +kernel)
                  clear hg
                  exact st_yield ho (wanted_none rfl) (.bool false) w6 (by simp [execOp, Act.eval, h100, go_sem]) ⟨_, rfl, Below.refl _ _, by rintro t' ⟨⟩; rfl⟩
                | 4, ho =>
                  obtain rfl := Option.some.inj ho
                  have h13 := given_old hg 13 (by decide +kernel)
                  obtain ⟨_, h101, rfl⟩ := given_fed hg 101 (by decide +kernel)
                  clear hg
                  exact st_yield ho (wanted_some rfl rfl h101 rfl) (.agg #[.string kx, .bool gx, .int .i64 ax, .int .i64 nx, .string sx]) w6 (by simp [execOp, Act.eval, h13, go_sem, y0, y1, y2, y3, y4]) ⟨_, rfl, Below.refl _ _, by rintro t' ⟨⟩; rfl⟩
                | 5, ho =>
                  obtain rfl := Option.some.inj ho
                  have h15 := given_old hg 15 (by decide +kernel)
                  obtain ⟨_, h101, rfl⟩ := given_fed hg 101 (by decide +kernel)
                  clear hg
                  exact st_yield ho (wanted_some rfl rfl h101 rfl) (.agg #[.string kx, .bool gx, .int .i64 ax, .int .i64 nx, .string sx]) w6 (by simp [execOp, Act.eval, h15, go_sem, z0, z1, z2, z3, z4]) ⟨_, rfl, Below.refl _ _, by rintro t' ⟨⟩; rfl⟩
                | 6, ho =>
                  obtain rfl := Option.some.inj ho
                  obtain ⟨_, h102, rfl⟩ := given_fed hg 102 (by decide +kernel)
                  obtain ⟨_, h103, rfl⟩ := given_fed hg 103 (by decide +kernel)
                  obtain ⟨_, h101, rfl⟩ := given_fed hg 101 (by decide +kernel)
                  clear hg
                  exact st_enter (w1 := w6) ho (wanted_some rfl rfl h101 rfl) 30 #[.agg #[.string kx, .bool gx, .int .i64 ax, .int .i64 nx, .string sx], .agg #[.string kx, .bool gx, .int .i64 ax, .int .i64 nx, .string sx]] (by simp [execOp, Act.eval, h102, h103, resolve, go_sem]) ((CE.out w6).mono (by rintro e w7 ⟨rfl, hb7⟩; exact ⟨_, rfl, _, rfl, hb7, by rintro t' ⟨⟩; rfl⟩))
                | 7, ho =>
                  obtain rfl := Option.some.inj ho
                  obtain ⟨_, h104, rfl⟩ := given_fed hg 104 (by decide +kernel)
                  obtain ⟨_, h101, rfl⟩ := given_fed hg 101 (by decide +kernel)
                  clear hg
                  exact st_yield ho (wanted_some rfl rfl h101 rfl) (.bool false) w6 (by simp [execOp, Act.eval, h104, go_sem]) ⟨_, rfl, Below.refl _ _, by rintro t' ⟨⟩; rfl⟩
                | 8, ho =>
                  obtain rfl := Option.some.inj ho
                  obtain ⟨_, h101, rfl⟩ := given_fed hg 101 (by decide +kernel)
                  obtain ⟨_, h105, rfl⟩ := given_fed hg 105 (by decide +kernel)
                  clear hg
                  exact st_yield ho (wanted_none rfl) (.bool false) w6 (by simp [execOp, Act.eval, h101, h105, go_sem]) ⟨_, rfl, Below.refl _ _, by rintro t' ⟨⟩; rfl⟩
                | 9, ho =>
                  obtain rfl := Option.some.inj ho
                  obtain ⟨_, h106, rfl⟩ := given_fed hg 106 (by decide +kernel)
                  clear hg
                  exact st_yield ho (wanted_none rfl) (.bool false) w6 (by simp [execOp, Act.eval, h106, go_sem]) ⟨_, rfl, Below.refl _ _, by rintro t' ⟨⟩; rfl⟩
                | 10, ho =>
                  obtain rfl := Option.some.inj ho
                  have h10 := given_old hg 10 (by decide +kernel)
                  obtain ⟨_, h107, rfl⟩ := given_fed hg 107 (by decide +kernel)
                  clear hg
                  exact st_yield ho (wanted_some rfl rfl h107 rfl) (.pointer (some ⟨ph, 0, none⟩)) w6 (by simp [execOp, Act.eval, h10, go_sem]) ⟨_, rfl, Below.refl _ _, by rintro t' ⟨⟩; rfl⟩
                | 11, ho =>
                  obtain rfl := Option.some.inj ho
                  have h0 := given_old hg 0 (by decide +kernel)
                  obtain ⟨_, h107, rfl⟩ := given_fed hg 107 (by decide +kernel)
                  clear hg
                  exact st_yield ho (wanted_some rfl rfl h107 rfl) (.slice (some ⟨b, q, none⟩) n cm) w6 (by simp [execOp, Act.eval, h0, go_sem]) ⟨_, rfl, Below.refl _ _, by rintro t' ⟨⟩; rfl⟩
                | 12, ho =>
                  obtain rfl := Option.some.inj ho
                  have h12 := given_old hg 12 (by decide +kernel)
                  obtain ⟨_, h107, rfl⟩ := given_fed hg 107 (by decide +kernel)
                  clear hg
                  exact st_yield ho (wanted_some rfl rfl h107 rfl) (.int .i64 (k : Int)) w6 (by simp [execOp, Act.eval, h12, go_sem]) ⟨_, rfl, Below.refl _ _, by rintro t' ⟨⟩; rfl⟩
                | 13, ho =>
                  obtain rfl := Option.some.inj ho
                  obtain ⟨_, h109, rfl⟩ := given_fed hg 109 (by decide +kernel)
                  obtain ⟨_, h110, rfl⟩ := given_fed hg 110 (by decide +kernel)
                  obtain ⟨_, h107, rfl⟩ := given_fed hg 107 (by decide +kernel)
                  clear hg
                  exact st_yield ho (wanted_some rfl rfl h107 rfl) (.pointer (some ⟨b, q + k * 5, none⟩)) w6 (by simp [execOp, Act.eval, h109, h110, go_sem, hix]) ⟨_, rfl, Below.refl _ _, by rintro t' ⟨⟩; rfl⟩
                | 14, ho =>
                  obtain rfl := Option.some.inj ho
                  obtain ⟨_, h111, rfl⟩ := given_fed hg 111 (by decide +kernel)
                  obtain ⟨_, h107, rfl⟩ := given_fed hg 107 (by decide +kernel)
                  clear hg
                  exact st_yield ho (wanted_some rfl rfl h107 rfl) (.pointer (some ⟨b, q + k * 5, none⟩)) w6 (by simp [execOp, Act.eval, h111, go_sem]) ⟨_, rfl, Below.refl _ _, by rintro t' ⟨⟩; rfl⟩
                | 15, ho =>
                  obtain rfl := Option.some.inj ho
                  obtain ⟨_, h112, rfl⟩ := given_fed hg 112 (by decide +kernel)
                  obtain ⟨_, h107, rfl⟩ := given_fed hg 107 (by decide +kernel)
                  clear hg
                  exact st_yield ho (wanted_some rfl rfl h107 rfl) (.string kk) w6 (by simp [execOp, Act.eval, h112, go_sem, c0]) ⟨_, rfl, Below.refl _ _, by rintro t' ⟨⟩; rfl⟩
                | 16, ho =>
                  obtain rfl := Option.some.inj ho
                  obtain ⟨_, h108, rfl⟩ := given_fed hg 108 (by decide +kernel)
                  obtain ⟨_, h113, rfl⟩ := given_fed hg 113 (by decide +kernel)
                  obtain ⟨_, h107, rfl⟩ := given_fed hg 107 (by decide +kernel)
                  clear hg
                  exact st_enter (w1 := w6) ho (wanted_some rfl rfl h107 rfl) 20 #[.pointer (some ⟨ph, 0, none⟩), .string kk] (by simp [execOp, Act.eval, h108, h113, resolve, go_sem]) ((CR2.out w6 (HB9.out.trans (hb6.mono HB9.out.size))).mono (by rintro e w7 ⟨rfl, hb7⟩; exact ⟨_, rfl, _, rfl, hb7, by rintro t' ⟨⟩; rfl⟩))
                | 17, ho =>
                  obtain rfl := Option.some.inj ho
                  have h4 := given_old hg 4 (by decide +kernel)
                  obtain ⟨_, h107, rfl⟩ := given_fed hg 107 (by decide +kernel)
                  clear hg
                  exact st_yield ho (wanted_some rfl rfl h107 rfl) (.pointer (some ⟨p, 0, none⟩)) w6 (by simp [execOp, Act.eval, h4, go_sem]) ⟨_, rfl, Below.refl _ _, by rintro t' ⟨⟩; rfl⟩
                | 18, ho =>
                  obtain rfl := Option.some.inj ho
                  have h0 := given_old hg 0 (by decide +kernel)
                  obtain ⟨_, h107, rfl⟩ := given_fed hg 107 (by decide +kernel)
                  clear hg
                  exact st_yield ho (wanted_some rfl rfl h107 rfl) (.slice (some ⟨b, q, none⟩) n cm) w6 (by simp [execOp, Act.eval, h0, go_sem]) ⟨_, rfl, Below.refl _ _, by rintro t' ⟨⟩; rfl⟩
                | 19, ho =>
                  obtain rfl := Option.some.inj ho
                  have h12 := given_old hg 12 (by decide +kernel)
                  obtain ⟨_, h107, rfl⟩ := given_fed hg 107 (by decide +kernel)
                  clear hg
                  exact st_yield ho (wanted_some rfl rfl h107 rfl) (.int .i64 (k : Int)) w6 (by simp [execOp, Act.eval, h12, go_sem]) ⟨_, rfl, Below.refl _ _, by rintro t' ⟨⟩; rfl⟩
                | 20, ho =>
                  obtain rfl := Option.some.inj ho
                  obtain ⟨_, h116, rfl⟩ := given_fed hg 116 (by decide +kernel)
                  obtain ⟨_, h117, rfl⟩ := given_fed hg 117 (by decide +kernel)
                  obtain ⟨_, h107, rfl⟩ := given_fed hg 107 (by decide +kernel)
                  clear hg
                  exact st_yield ho (wanted_some rfl rfl h107 rfl) (.pointer (some ⟨b, q + k * 5, none⟩)) w6 (by simp [execOp, Act.eval, h116, h117, go_sem, hix]) ⟨_, rfl, Below.refl _ _, by rintro t' ⟨⟩; rfl⟩
                | 21, ho =>
                  obtain rfl := Option.some.inj ho
                  obtain ⟨_, h118, rfl⟩ := given_fed hg 118 (by decide +kernel)
                  obtain ⟨_, h107, rfl⟩ := given_fed hg 107 (by decide +kernel)
                  clear hg
                  exact st_yield ho (wanted_some rfl rfl h107 rfl) (.pointer (some ⟨b, q + k * 5, none⟩)) w6 (by simp [execOp, Act.eval, h118, go_sem]) ⟨_, rfl, Below.refl _ _, by rintro t' ⟨⟩; rfl⟩
                | 22, ho =>
                  obtain rfl := Option.some.inj ho
                  obtain ⟨_, h119, rfl⟩ := given_fed hg 119 (by decide +kernel)
                  obtain ⟨_, h107, rfl⟩ := given_fed hg 107 (by decide +kernel)
                  clear hg
                  exact st_yield ho (wanted_some rfl rfl h107 rfl) (.string kk) w6 (by simp [execOp, Act.eval, h119, go_sem, c0]) ⟨_, rfl, Below.refl _ _, by rintro t' ⟨⟩; rfl⟩
                | 23, ho =>
                  obtain rfl := Option.some.inj ho
                  obtain ⟨_, h115, rfl⟩ := given_fed hg 115 (by decide +kernel)
                  obtain ⟨_, h120, rfl⟩ := given_fed hg 120 (by decide +kernel)
                  obtain ⟨_, h107, rfl⟩ := given_fed hg 107 (by decide +kernel)
                  clear hg
                  exact st_enter (w1 := w6) ho (wanted_some rfl rfl h107 rfl) 31 #[.pointer (some ⟨p, 0, none⟩), .string kk] (by simp [execOp, Act.eval, h115, h120, resolve, go_sem]) ((CR1.out w6 (HB9.out.trans (hb6.mono HB9.out.size))).mono (by rintro e w7 ⟨rfl, hb7⟩; exact ⟨_, rfl, _, rfl, hb7, by rintro t' ⟨⟩; rfl⟩))
                | 24, ho =>
                  obtain rfl := Option.some.inj ho
                  obtain ⟨_, h114, rfl⟩ := given_fed hg 114 (by decide +kernel)
                  obtain ⟨_, h121, rfl⟩ := given_fed hg 121 (by decide +kernel)
                  obtain ⟨_, h107, rfl⟩ := given_fed hg 107 (by decide +kernel)
                  clear hg
                  exact st_yield ho (wanted_some rfl rfl h107 rfl) (.bool false) w6 (by simp [execOp, Act.eval, h114, h121, go_sem]) ⟨_, rfl, Below.refl _ _, by rintro t' ⟨⟩; rfl⟩
                | 25, ho =>
                  obtain rfl := Option.some.inj ho
                  obtain ⟨_, h107, rfl⟩ := given_fed hg 107 (by decide +kernel)
                  obtain ⟨_, h122, rfl⟩ := given_fed hg 122 (by decide +kernel)
                  clear hg
                  exact st_yield ho (wanted_none rfl) (.bool false) w6 (by simp [execOp, Act.eval, h107, h122, go_sem]) ⟨_, rfl, Below.refl _ _, by rintro t' ⟨⟩; rfl⟩
                | n + 26, ho => simp at ho
              · intro f w18 hb18 hv
                have h123 := hv 123 (by decide)
                simp only [VLt] at h123
                have HB18 := Go.Lib.hid (HB9.out.trans (hb18.mono HB9.out.size))
                clear hv hb18 HXA HXB HC HB9 CE CR1 CR2 hix
                unfold putAll
                simp only [List.foldl]
                simp only [h123]
                clear h123
                go_simp
                go_wp2_with fail
                go_roundw
                case rel => exact ⟨k + 1, by omega, by go_num, HB18⟩
                case measure => simp only [intOf]; omega
            · obtain rfl : k = n := by omega
              have HBf := Go.Lib.hid (HB.out.trans (HBr.out.mono HB.out.size))
              clear HBr HB
              go_wp2_with fail
              go_ret
              exact ⟨rfl, HBf.out⟩

/-! ### THE ROW -/
set_option maxRecDepth 100000 in
theorem lifted (os : Os) (started : os.Started) (H : Type) (enc : TypeId × Value → H) :
    ReturnsInHanded {} Tryz.checked os 6 .any (Rows.tableLogSpec.pre6 enc Tryz.prog Tryz.f6 Rows.tableLogRow.domain false) (Rows.tableLogSpec.post enc Tryz.prog Tryz.f6 false true false false) := by
  refine returnsInHanded_of_change (C := Tryz.checked) own started (by kernel_rfl) Tryz.func6
    (ChangeSpec.witness6 (enc := enc) (C := Tryz.checked) false ⟨#[], #[.slice none 0 0], []⟩ 8 (by kernel_rfl) (by kernel_rfl) (by kernel_rfl) (by kernel_rfl)) ?_
  intro W base args ds gs before hval0 hW hcnd _
  have hval : ∀ (j : Nat) t v, Tryz.f6.params[j]? = some t → args[j]? = some v → Value.okWide Tryz.prog W .any base t v := hval0
  have hW' := hW
  obtain ⟨p, q, hA0, hV, rfl, hfz, hnd⟩ := hW
  have hA : DataW.TrodAll enc Tryz.prog W 0 (fun _ => true) true Tryz.f6.params.toList args.toList ds p := hA0
  rw [Tryz.params6] at hA hval
  obtain ⟨v0, vs0, d0, ds0, p0, q0, hargs, rfl, rfl, h0, r0⟩ := trodAll_cons hA
  obtain ⟨rfl, rfl, rfl⟩ := trodAll_nil r0
  obtain rfl : args = #[v0] := by cases args; simp_all
  obtain ⟨rfl, rfl⟩ := trodVars_none hV
  have kk0 := h0
  have lt0 : ∀ x ∈ p0, x.block < W.heap.size := by obtain ⟨m, hm⟩ := kk0; exact DataW.trod_lt m _ _ _ hm
  obtain ⟨a0, len0, cap0, rfl⟩ := okWide_slice Tryz.underlying22 (hval 0 22 v0 rfl rfl)
  obtain ⟨l0, w0⟩ := open_recs h0
  clear hA0 hval0
  refine (walk W a0 len0 cap0 l0 w0).mono fun e W' ⟨he, bel⟩ => ?_
  subst he
  exact ⟨_, rfl, _, _, _, [], _, [], hW', trodAll_mk1 (shut_bool Tryz.underlying4 _), (trodAll_cons_mk (Below.trod laidOut (by kernel_rfl) (of_decide_eq_true (by kernel_rfl)) kk0 bel lt0) trodAll_mk0), rfl, bel.frame _, fun h => by cases h⟩

theorem over : Rows.tableLogRow.holds Tryz.pinned (OpenSpec.ofChange Rows.tableLogSpec) :=
  OpenClaim.holds_of_wide 6 Tryz.f6 rfl rfl rfl rfl rfl rfl rfl ⟨rfl, rfl, rfl, rfl, rfl⟩ rfl rfl rfl rfl rfl (by kernel_rfl) Tryz.func6 (by kernel_rfl)
    (of_decide_eq_true (by kernel_rfl)) (by unfold Func.isWrapper; first | (rw [if_pos (by decide +kernel)]; kernel_rfl) | (rw [if_neg (by decide +kernel)]; exact ⟨rfl, rfl⟩))
    (fun os started H enc _ => lifted os started H enc)

theorem proved : Rows.TableLogSaid := over
#print axioms proved
end Go.Proofs.YthbnecdeebmlhaaGreat.tableLog
