/- LogSame: of keys that are one by their runes eight find a place, whatever other bytes they have; each is found by itself: for every text and number the law returns true. -/
import Derived.Test.YtkddleonmkhaiaaRows
import Derived.WalkKit
import Derived.ProofKit
import Derived.OpenShut
import Derived.ShutString
import Derived.Test.YtkddleonmkhaiaaM34
import Derived.Test.YtkddleonmkhaiaaM03
import Derived.Deep.CutBlock
import Derived.Laws.Small
import Derived.Deep.DeepCutAuto
namespace Go.Proofs.Ytkddleonmkhaiaa.logSame
open Go.ChangeShapes Go.WideShapes Go.ChangeAt Go.RowKit
open Go.ChangeMaps (open_string shut_string)
set_option linter.unusedVariables false      -- a walk need not use every 'w<i>' (that an integer argument fits its kind)

theorem own : ownKnob Try.prog.godebug = none := by kernel_rfl

set_option maxHeartbeats 4000000 in
set_option maxRecDepth 100000 in
theorem walk (a0 : ByteArray) (a1 : Int) (w0 : a0.size ≤ maxLen) (w1 : (Lit.int .i64 a1).wf = true) (w : World) :
    Calls Try.prog 4 #[.string a0, .int .i64 a1] w fun e w' => e = .returned (.bool true) ∧ Below w.heap.size w w' := by
  have CC := Go.Lib.hid fun W => lcut_c a0 12 W w0 (by omega)
  have HPS := Go.Lib.hid (show (str ((bl a0).take 12)).size ≤ 12 from by rw [str_size, List.length_take]; omega)
  clear w0 w1
  by_cases h0 : a1 < 1
  · go_enter Try.func4, Try.ntmps4
    go_wp2_with fail
    refine (begun_c _).mono ?_
    rintro e w1 ⟨rfl, hb⟩
    have HB := Go.Lib.hid hb
    clear hb
    go_wp2_with fail
    refine (CC.out _).mono ?_
    rintro e w2 ⟨rfl, rfl⟩
    go_wp2_with fail
    go_ret
    exact ⟨rfl, HB.out⟩
  by_cases h1 : 12 < a1
  · go_enter Try.func4, Try.ntmps4
    go_wp2_with fail
    refine (begun_c _).mono ?_
    rintro e w1 ⟨rfl, hb⟩
    have HB := Go.Lib.hid hb
    clear hb
    go_wp2_with fail
    refine (CC.out _).mono ?_
    rintro e w2 ⟨rfl, rfl⟩
    go_wp2_with fail
    go_ret
    exact ⟨rfl, HB.out⟩
  obtain ⟨n, rfl⟩ : ∃ n : Nat, a1 = (n : Int) := ⟨a1.toNat, by omega⟩
  have hn1 : 1 ≤ n := by omega
  have hn : n ≤ 12 := by omega
  generalize str ((bl a0).take 12) = s at *
  go_enter Try.func4, Try.ntmps4
  go_wp2_with fail
  refine (begun_c _).mono ?_
  rintro e w1 ⟨rfl, hb⟩
  have HB := Go.Lib.hid hb
  clear hb
  go_wp2_with fail
  refine (CC.out _).mono ?_
  rintro e w2 ⟨rfl, rfl⟩
  clear h0 h1 CC
  go_wp2_with fail
  refine (lnew_c _).mono ?_
  rintro e w2 ⟨p, d, rfl, hl, hb⟩
  have HL := Go.Lib.hid (hl.mono HB.out.size)
  have HB := Go.Lib.hid (HB.out.trans (hb.mono HB.out.size))
  clear hb hl
  go_wp2_with fail
  go_loopw [7] (fun ki wr => ∃ (k : Nat) (v : Value), k ≤ n ∧ ki = .int .i64 (k : Int) ∧ Hid (LG wr w.heap.size p d v (sL s (min k 8))) ∧ Hid (Below w.heap.size w wr)) (fun ki _ => n - (intOf ki).toNat)
  case atStart => exact ⟨0, _, by omega, rfl, HL, HB⟩
  case round =>
    obtain ⟨k, v, hk, rfl, HL, HB⟩ := hrel
    by_cases hlt : k < n
    · have hltI : (k : Int) < (n : Int) := by omega
      obtain ⟨X, hX⟩ : ∃ X : Int, X = ((k % 8 : Nat) : Int) := ⟨_, rfl⟩
      obtain ⟨Y, hY⟩ : ∃ Y : Int, Y = ((k / 8 : Nat) : Int) := ⟨_, rfl⟩
      have r1 : (k : Int).tmod 8 = X := by rw [hX, Int.tmod_eq_emod_of_nonneg (by omega)]; omega
      have r2 : (k : Int).tdiv 8 = Y := by rw [hY, Int.tdiv_eq_ediv_of_nonneg (by omega)]; omega
      have x1 : 0 ≤ X := by omega
      have x2 : X ≤ 7 := by omega
      have y1 : 0 ≤ Y := by omega
      have y2 : Y ≤ 1 := by omega
      have HX := Go.Lib.hid hX
      have HY := Go.Lib.hid hY
      have HBY := Go.Lib.hid (RB.lits wr 5 (0, 0) (nm2 k) #[.int .u8 (248 + X), .int .u8 (248 + Y)] 2 (by
        have e1 : ((UInt8.ofNat (248 + k % 8)).toNat : Int) = 248 + X := by rw [UInt8.toNat_ofNat', HX.out]; omega
        have e2 : ((UInt8.ofNat (248 + k / 8)).toNat : Int) = 248 + Y := by rw [UInt8.toNat_ofNat', HY.out]; omega
        unfold nm2 cells
        simp only [List.map_cons, List.map_nil, e1, e2]) rfl (by simp [nm2]))
      have hadd : s.size + (str (nm2 k)).size ≤ 9223372036854775807 := by have := HPS.out; rw [nm2_size]; omega
      have hbA := below_one wr (.cells #[.int .u8 (248 + X), .int .u8 (248 + Y)] 5)
      have HL3 := Go.Lib.hid (HL.out.below hbA)
      have HB3 := Go.Lib.hid (HB.out.trans (hbA.mono HB.out.size))
      have HM := Go.Lib.hid (may_num (keyS2 s k) (k : Int) (by rw [keyS2_size]; omega) (by have := HPS.out; rw [keyS2_size]; omega))
      have CP := lput_w HL3.out (keyS2 s k) false 1 (k : Int) ⟨#[]⟩ (by have := HPS.out; rw [keyS2_size]; unfold maxLen; omega) (by decide)
      rw [putE_zero HM.out] at CP
      simp only [] at CP
      rw [sL_room s (by omega) (by omega) (by omega)] at CP
      have CP2 : Calls Try.prog 10 #[.pointer (some ⟨p, 0, none⟩), .agg #[.string (keyS2 s k), .bool false, .int .i64 1, .int .i64 (k : Int), .string ⟨#[]⟩]] (wr.alloc (.cells #[.int .u8 (248 + X), .int .u8 (248 + Y)] 5)) fun e w' => e = .returned (.int .i64 (if k < 8 then 0 else 5)) ∧ (∃ v', LG w' w.heap.size p d v' (sL s (min (k + 1) 8))) ∧ Below w.heap.size w w' := by
        refine CP.mono ?_
        rintro e w' ⟨rfl, ⟨v', hl, -⟩, ho⟩
        refine ⟨?_, ⟨v', ?_⟩, HB3.out.trans (HL3.out.offBelow ho)⟩
        · by_cases h8 : k < 8
          · rw [if_pos h8, show decide (min k 8 < 8) = true from decide_eq_true (by omega)]; rfl
          · rw [if_neg h8, show decide (min k 8 < 8) = false from decide_eq_false (by omega)]; rfl
        · by_cases h8 : k < 8
          · rw [show min k 8 = k by omega] at hl
            have h1 : putN (sL s k) (keyS2 s k, false, 1, (k : Int), ⟨#[]⟩) = sL s (k + 1) := by
              rw [putN_zero HM.out (by rw [sL_room s (Nat.le_refl k) (by omega) (by omega)]; simp [h8])]
              exact sL_put s (by omega)
            rw [h1] at hl
            rw [show min (k + 1) 8 = k + 1 by omega]
            exact hl
          · rw [show min k 8 = 8 by omega] at hl
            rw [putN_same (by rw [sL_room s (by omega) (by omega) (by omega)]; simp)] at hl
            rw [show min (k + 1) 8 = 8 by omega]
            exact hl
      have CP := Go.Lib.hid CP2
      have HKN := Go.Lib.hid (show s ++ str (nm2 k) = keyS2 s k from rfl)
      clear CP2 hbA hX hY HL HB HL3 HB3
      go_upto_region 12 with (first
        | (with_reducible show wpList _ _ _ (⟨some 41, _, _, _, _, _⟩ :: _) _ _; go_loud (refine wpList_string_RB rfl (.tmp 40) 39 9 rfl 5 Try.underlying39 Try.underlying5 Try.underlying9 (.slice (some ⟨wr.heap.size, 0, none⟩) 2 2) (nm2 k) rfl HBY.out ?_))
        | fail)
      rw [HKN.out]
      refine CP.out.mono ?_
      rintro e w6 ⟨rfl, ⟨v6, hl⟩, hb⟩
      have HL6 := Go.Lib.hid hl
      have HB6 := Go.Lib.hid hb
      clear hl hb CP HBY HKN hadd r1 r2 x1 x2 y1 y2
      by_cases h8 : k < 8
      · rw [if_pos h8]
        have h8I : (k : Int) < 8 := by omega
        go_wp2_with fail
        exact ⟨⟨k + 1, _, by omega, by go_num, HL6, HB6⟩, by simp only [intOf]; omega⟩
      · rw [if_neg h8]
        have h8I : ¬ (k : Int) < 8 := by omega
        go_wp2_with fail
        exact ⟨⟨k + 1, _, by omega, by go_num, HL6, HB6⟩, by simp only [intOf]; omega⟩
    · obtain rfl : k = n := by omega
      obtain ⟨m, hm⟩ : ∃ m, m = min k 8 := ⟨_, rfl⟩
      rw [← hm] at HL
      have hm8 : m ≤ 8 := by omega
      have hmk : m ≤ k := by omega
      have hm2 : min (k : Int) 8 = (m : Int) := by omega
      have HMM := Go.Lib.hid hm
      clear hm
      go_wp2_with fail
      go_loopw [9] (fun ki wr => ∃ i : Nat, i ≤ k ∧ ki = .int .i64 (i : Int) ∧ Hid (LG wr w.heap.size p d v (sL s m)) ∧ Hid (Below w.heap.size w wr)) (fun ki _ => k - (intOf ki).toNat)
      case atStart => exact ⟨0, by omega, rfl, HL, HB⟩
      case round =>
        obtain ⟨i, hi, rfl, HL, HB⟩ := hrel
        by_cases hlt : i < k
        · have hltI : (i : Int) < (k : Int) := by omega
          obtain ⟨X, hX⟩ : ∃ X : Int, X = ((i % 8 : Nat) : Int) := ⟨_, rfl⟩
          obtain ⟨Y, hY⟩ : ∃ Y : Int, Y = ((i / 8 : Nat) : Int) := ⟨_, rfl⟩
          have r1 : (i : Int).tmod 8 = X := by rw [hX, Int.tmod_eq_emod_of_nonneg (by omega)]; omega
          have r2 : (i : Int).tdiv 8 = Y := by rw [hY, Int.tdiv_eq_ediv_of_nonneg (by omega)]; omega
          have x1 : 0 ≤ X := by omega
          have x2 : X ≤ 7 := by omega
          have y1 : 0 ≤ Y := by omega
          have y2 : Y ≤ 1 := by omega
          have HX := Go.Lib.hid hX
          have HY := Go.Lib.hid hY
          have HBY := Go.Lib.hid (RB.lits wr 5 (0, 0) (nm2 i) #[.int .u8 (248 + X), .int .u8 (248 + Y)] 2 (by
            have e1 : ((UInt8.ofNat (248 + i % 8)).toNat : Int) = 248 + X := by rw [UInt8.toNat_ofNat', HX.out]; omega
            have e2 : ((UInt8.ofNat (248 + i / 8)).toNat : Int) = 248 + Y := by rw [UInt8.toNat_ofNat', HY.out]; omega
            unfold nm2 cells
            simp only [List.map_cons, List.map_nil, e1, e2]) rfl (by simp [nm2]))
          have hadd : s.size + (str (nm2 i)).size ≤ 9223372036854775807 := by have := HPS.out; rw [nm2_size]; omega
          have hbA := below_one wr (.cells #[.int .u8 (248 + X), .int .u8 (248 + Y)] 5)
          have HL3 := Go.Lib.hid (HL.out.below hbA)
          have HB3 := Go.Lib.hid (HB.out.trans (hbA.mono HB.out.size))
          have HKN := Go.Lib.hid (show s ++ str (nm2 i) = keyS2 s i from rfl)
          have HKZ := Go.Lib.hid (show (keyS2 s i).size ≤ 1000000 from by have := HPS.out; rw [keyS2_size]; omega)
          have CR := Go.Lib.hid fun W (h : LG W w.heap.size p d v (sL s m)) => by
            have C := lreads_c h (keyS2 s i) HKZ.out
            rw [sL_reads s (by omega) (by omega)] at C
            exact C
          have CG := lget_c HL3.out (keyS2 s i) HKZ.out
          clear hX hY HL HB hbA
          by_cases h8 : i < 8
          · have him : i < m := by have := HMM.out; omega
            rw [sL_in s (by omega) him, outR_some] at CG
            unfold recOf recV recS at CG
            simp only [] at CG
            have h8I : (i : Int) < 8 := by omega
            have CG := Go.Lib.hid CG
            go_upto_region 18 with (first
              | (with_reducible show wpList _ _ _ (⟨some 75, _, _, _, _, _⟩ :: _) _ _; go_loud (refine wpList_string_RB rfl (.tmp 74) 39 9 rfl 5 Try.underlying39 Try.underlying5 Try.underlying9 (.slice (some ⟨wr.heap.size, 0, none⟩) 2 2) (nm2 i) rfl HBY.out ?_))
              | fail)
            rw [HKN.out]
            clear HBY hadd r1 r2 x1 x2 y1 y2 HKN
            go_wp2_with fail
            refine CG.out.mono ?_
            rintro e w6 ⟨rfl, hc⟩
            have hc2 := hc.trans ((below_one w6 (.cells #[.string (keyS2 s i), .bool false, .int .i64 1, .int .i64 (i : Int), .string ⟨#[]⟩] 26)).mono hc.size)
            have HX7 := Go.Lib.hid (heap_alloc_new w6 (.cells #[.string (keyS2 s i), .bool false, .int .i64 1, .int .i64 (i : Int), .string ⟨#[]⟩] 26))
            have HL7 := Go.Lib.hid (HL3.out.below hc2)
            have HB7 := Go.Lib.hid (HB3.out.trans (hc2.mono HB3.out.size))
            clear hc hc2 CG HL3 HB3
            go_upto_region 19 with (fail)
            obtain ⟨g7, hg7⟩ : ∃ g, g = w6.heap.size := ⟨_, rfl⟩
            rw [← hg7] at HX7 ⊢
            clear hg7
            generalize w6.alloc (.cells #[.string (keyS2 s i), .bool false, .int .i64 1, .int .i64 (i : Int), .string ⟨#[]⟩] 26) = w7 at *
            obtain ⟨z0, z1, z2, z3, z4⟩ := row5 HX7.out
            go_wp2_with fail
            refine (CR.out _ HL7.out).mono ?_
            rintro e w8 ⟨rfl, hc⟩
            have HL8 := Go.Lib.hid (HL7.out.below hc)
            have HB8 := Go.Lib.hid (HB7.out.trans (hc.mono HB7.out.size))
            clear hc CR z0 z1 z2 z3 z4
            go_wp2_with fail
            exact ⟨⟨i + 1, by omega, by go_num, HL8, HB8⟩, by simp only [intOf]; omega⟩
          · have him : m ≤ i := by have := HMM.out; omega
            rw [sL_out s him (by omega), outR_none] at CG
            have h8I : ¬ (i : Int) < 8 := by omega
            have CG := Go.Lib.hid CG
            go_upto_region 18 with (first
              | (with_reducible show wpList _ _ _ (⟨some 75, _, _, _, _, _⟩ :: _) _ _; go_loud (refine wpList_string_RB rfl (.tmp 74) 39 9 rfl 5 Try.underlying39 Try.underlying5 Try.underlying9 (.slice (some ⟨wr.heap.size, 0, none⟩) 2 2) (nm2 i) rfl HBY.out ?_))
              | fail)
            rw [HKN.out]
            clear HBY hadd r1 r2 x1 x2 y1 y2 HKN
            go_wp2_with fail
            refine CG.out.mono ?_
            rintro e w6 ⟨rfl, hc⟩
            have hc2 := hc.trans ((below_one w6 (.cells #[.string ⟨#[]⟩, .bool false, .int .i64 0, .int .i64 0, .string ⟨#[]⟩] 26)).mono hc.size)
            have HX7 := Go.Lib.hid (heap_alloc_new w6 (.cells #[.string ⟨#[]⟩, .bool false, .int .i64 0, .int .i64 0, .string ⟨#[]⟩] 26))
            have HL7 := Go.Lib.hid (HL3.out.below hc2)
            have HB7 := Go.Lib.hid (HB3.out.trans (hc2.mono HB3.out.size))
            clear hc hc2 CG HL3 HB3
            go_upto_region 19 with (fail)
            obtain ⟨g7, hg7⟩ : ∃ g, g = w6.heap.size := ⟨_, rfl⟩
            rw [← hg7] at HX7 ⊢
            clear hg7
            generalize w6.alloc (.cells #[.string ⟨#[]⟩, .bool false, .int .i64 0, .int .i64 0, .string ⟨#[]⟩] 26) = w7 at *
            obtain ⟨z0, z1, z2, z3, z4⟩ := row5 HX7.out
            go_wp2_with fail
            refine (CR.out _ HL7.out).mono ?_
            rintro e w8 ⟨rfl, hc⟩
            have HL8 := Go.Lib.hid (HL7.out.below hc)
            have HB8 := Go.Lib.hid (HB7.out.trans (hc.mono HB7.out.size))
            clear hc CR z0 z1 z2 z3 z4
            go_wp2_with fail
            exact ⟨⟨i + 1, by omega, by go_num, HL8, HB8⟩, by simp only [intOf]; omega⟩
        · obtain rfl : i = k := by omega
          have CN := llen_c HL.out
          rw [sL_len] at CN
          have CN := Go.Lib.hid CN
          go_wp2_with fail
          refine CN.out.mono ?_
          rintro e w7 ⟨rfl, rfl⟩
          go_wp2_with fail
          go_ret
          exact ⟨rfl, HB.out⟩

/-! ### THE ROW's STEP: WRITTEN OUT: LEAVE IT -/
set_option maxRecDepth 100000 in
theorem lifted (os : Os) (started : os.Started) (H : Type) (enc : TypeId × Value → H) :
    ReturnsInHanded {} Try.checked os 4 .any (Rows.logSameSpec.pre6 enc Try.prog Try.f4 Rows.logSameRow.domain false) (Rows.logSameSpec.post enc Try.prog Try.f4 false true false false) := by
  refine returnsInHanded_of_change (C := Try.checked) own started (by kernel_rfl) Try.func4
    (ChangeSpec.witness6 (enc := enc) (C := Try.checked) false ⟨#[], #[.string ByteArray.empty, .int .i64 0], []⟩ 8 (by kernel_rfl) (by kernel_rfl) (by kernel_rfl) (by kernel_rfl)) ?_
  intro W base args ds gs before hval0 hW hcnd _
  have hval : ∀ (j : Nat) t v, Try.f4.params[j]? = some t → args[j]? = some v → Value.okWide Try.prog W .any base t v := hval0
  have hW' := hW
  obtain ⟨p, q, hA0, hV, rfl, hfz, hnd⟩ := hW
  have hA : DataW.TrodAll enc Try.prog W 0 (fun _ => true) true Try.f4.params.toList args.toList ds p := hA0
  rw [Try.params4] at hA hval
  obtain ⟨v0, vs0, d0, ds0, p0, q0, hargs, rfl, rfl, h0, r0⟩ := trodAll_cons hA
  obtain ⟨v1, vs1, d1, ds1, p1, q1, rfl, rfl, rfl, h1, r1⟩ := trodAll_cons r0
  obtain ⟨rfl, rfl, rfl⟩ := trodAll_nil r1
  obtain rfl : args = #[v0, v1] := by cases args; simp_all
  obtain ⟨rfl, rfl⟩ := trodVars_none hV
  obtain ⟨a0, rfl, rfl, rfl, w0⟩ := open_string Try.underlying9 (hval 0 9 v0 rfl rfl) h0
  obtain ⟨a1, rfl, rfl, rfl, w1⟩ := open_int Try.underlying3 (hval 1 3 v1 rfl rfl) h1
  clear hA0 hval0
  refine (walk a0 a1 w0 w1 W).mono fun e W' ⟨he, hg⟩ => ?_
  subst he
  exact ⟨_, rfl, _, _, _, [], _, [], hW', (trodAll_cons_mk (shut_bool Try.underlying4 _) trodAll_mk0), (trodAll_cons_mk (shut_string Try.underlying9 w0) (trodAll_cons_mk (shut_int Try.underlying3 w1) trodAll_mk0)), rfl, hg.frame _, fun h => by cases h⟩

theorem over : Rows.logSameRow.holds Try.pinned (OpenSpec.ofChange Rows.logSameSpec) :=
  OpenClaim.holds_of_wide 4 Try.f4 rfl rfl rfl rfl rfl rfl rfl ⟨rfl, rfl, rfl, rfl, rfl⟩ rfl rfl rfl rfl rfl (by kernel_rfl) Try.func4 (by kernel_rfl)
    (of_decide_eq_true (by kernel_rfl)) (by unfold Func.isWrapper; first | (rw [if_pos (by decide +kernel)]; kernel_rfl) | (rw [if_neg (by decide +kernel)]; exact ⟨rfl, rfl⟩))
    (fun os started H enc _ => lifted os started H enc)

/-- ████ THE STATEMENT ████ -/
theorem proved : Rows.LogSameSaid :=
  over
#print axioms proved
end Go.Proofs.Ytkddleonmkhaiaa.logSame
