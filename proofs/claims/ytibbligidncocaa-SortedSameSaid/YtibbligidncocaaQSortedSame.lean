/- SortedSame: keys of one hash are told apart by themselves: for every text and number the law returns true. -/
import Derived.Test.YtibbligidncocaaRows
import Derived.WalkKit
import Derived.ProofKit
import Derived.OpenShut
import Derived.ShutString
import Derived.Test.YtibbligidncocaaM50
import Derived.Test.YtibbligidncocaaM05
import Derived.Laws.Small
namespace Go.Proofs.Ytibbligidncocaa.sortedSame
open Go.ChangeShapes Go.WideShapes Go.ChangeAt Go.RowKit
open Go.ChangeMaps (open_string shut_string)
set_option linter.unusedVariables false      -- a walk need not use every 'w<i>' (that an integer argument fits its kind)

theorem own : ownKnob Try.prog.godebug = none := by kernel_rfl

set_option maxHeartbeats 8000000 in
set_option maxRecDepth 100000 in
theorem walk (a0 : ByteArray) (a1 : Int) (w0 : a0.size ≤ maxLen) (w1 : (Lit.int .i64 a1).wf = true) (w : World) :
    Calls Try.prog 6 #[.string a0, .int .i64 a1] w fun e w' => e = .returned (.bool true) ∧ Below w.heap.size w w' := by
  have CC := Go.Lib.hid fun W => lcut_c a0 12 W w0 (by omega)
  have HPS := Go.Lib.hid (show (str ((bl a0).take 12)).size ≤ 12 from by rw [str_size, List.length_take]; omega)
  clear w0 w1
  by_cases h0 : a1 < 2
  · go_enter Try.func6, Try.ntmps6
    go_wp2_with fail
    refine (begun22_c _).mono ?_
    rintro e w1 ⟨rfl, hb⟩
    have HB := Go.Lib.hid hb
    clear hb
    go_wp2_with fail
    refine (CC.out _).mono ?_
    rintro e w2 ⟨rfl, rfl⟩
    go_wp2_with fail
    go_ret
    exact ⟨rfl, HB.out⟩
  by_cases h1 : 20 < a1
  · go_enter Try.func6, Try.ntmps6
    go_wp2_with fail
    refine (begun22_c _).mono ?_
    rintro e w1 ⟨rfl, hb⟩
    have HB := Go.Lib.hid hb
    clear hb
    go_wp2_with fail
    refine (CC.out _).mono ?_
    rintro e w2 ⟨rfl, rfl⟩
    go_wp2_with fail
    go_ret
    exact ⟨rfl, HB.out⟩
  obtain ⟨n, rfl⟩ : ∃ n : Nat, a1 = (n : Int) := ⟨a1.toNat, by omega⟩
  have hn1 : 2 ≤ n := by omega
  have hn : n ≤ 20 := by omega
  generalize str ((bl a0).take 12) = s at *
  have hbr := fun (a k : Int) W => (show (Instr.build 37 #[(0, .int .i64 a), (1, .int .i64 k)]).run Try.prog W = .ok (.agg #[.int .i64 a, .int .i64 k, .string ⟨#[]⟩]) W from run_build W _ _ _ (by kernel_rfl))
  have hb2 := fun (y : ByteArray) (a k : Int) W => build_rec y a k ⟨#[]⟩ W
  go_enter Try.func6, Try.ntmps6
  go_wp2_with fail
  refine (begun22_c _).mono ?_
  rintro e w1 ⟨rfl, hb⟩
  have HB := Go.Lib.hid hb
  clear hb
  go_wp2_with fail
  refine (CC.out _).mono ?_
  rintro e w2 ⟨rfl, rfl⟩
  clear h0 h1 CC
  go_wp2_with fail
  go_loopw [6, 7] (fun lv ki wr => ∃ (k : Nat) (v : Value), v = lv ∧ k ≤ n ∧ ki = .int .i64 (k : Int) ∧ Hid (OwnRec wr w.heap.size v (tL s k)) ∧ Hid (Below w.heap.size w wr)) (fun _ ki _ => n - (intOf ki).toNat)
  case atStart => exact ⟨0, _, rfl, by omega, rfl, Go.Lib.hid (OwnRec.nil _ _), HB⟩
  case round =>
    clear HB
    obtain ⟨k, v, rfl, hk, rfl, HO, HB⟩ := hrel
    by_cases hlt : k < n
    · have hltI : (k : Int) < (n : Int) := by omega
      obtain ⟨X, hX⟩ : ∃ X : Int, X = ((k % 8 : Nat) : Int) := ⟨_, rfl⟩
      obtain ⟨Y, hY⟩ : ∃ Y : Int, Y = ((k / 8 : Nat) : Int) := ⟨_, rfl⟩
      have r1 : (k : Int).tmod 8 = X := by rw [hX, Int.tmod_eq_emod_of_nonneg (by omega)]; omega
      have r2 : (k : Int).tdiv 8 = Y := by rw [hY, Int.tdiv_eq_ediv_of_nonneg (by omega)]; omega
      have x1 : 0 ≤ X := by omega
      have x2 : X ≤ 7 := by omega
      have y1 : 0 ≤ Y := by omega
      have y2 : Y ≤ 2 := by omega
      have HX := Go.Lib.hid hX
      have HY := Go.Lib.hid hY
      have HBY := Go.Lib.hid (RB.lits wr 5 (0, 0) (nm3 k) #[.int .u8 (248 + X), .int .u8 (248 + Y)] 2 (by
        have e1 : ((UInt8.ofNat (248 + k % 8)).toNat : Int) = 248 + X := by rw [UInt8.toNat_ofNat', HX.out]; omega
        have e2 : ((UInt8.ofNat (248 + k / 8)).toNat : Int) = 248 + Y := by rw [UInt8.toNat_ofNat', HY.out]; omega
        unfold nm3 cells
        simp only [List.map_cons, List.map_nil, e1, e2]) rfl (by simp [nm3]))
      have hadd : s.size + (str (nm3 k)).size ≤ 9223372036854775807 := by have := HPS.out; rw [nm3_size]; omega
      have hbA := below_one wr (.cells #[.int .u8 (248 + X), .int .u8 (248 + Y)] 5)
      have hbC := below_two wr (.cells #[.int .u8 (248 + X), .int .u8 (248 + Y)] 5) (.cells #[.string (s ++ str (nm3 k)), .bool false, .int .i64 1, .int .i64 (k : Int), .string ⟨#[]⟩] 39)
      have HO3 := Go.Lib.hid (HO.out.below hbC)
      have HB3 := Go.Lib.hid (HB.out.trans (hbC.mono HB.out.size))
      have hone := RS.one (wr.alloc (.cells #[.int .u8 (248 + X), .int .u8 (248 + Y)] 5)) (s ++ str (nm3 k), false, 1, (k : Int), ⟨#[]⟩)
      rw [show (wr.alloc (.cells #[.int .u8 (248 + X), .int .u8 (248 + Y)] 5)).heap.size = wr.heap.size + 1 by simp] at hone
      simp only [] at hone
      have HON := Go.Lib.hid hone
      have HLN := Go.Lib.hid (show (tL s k).length + [((s ++ str (nm3 k), false, 1, (k : Int), ⟨#[]⟩) : RecT)].length ≤ 1000000 by rw [tL_len]; simp; omega)
      clear hbA hbC hone hX hY HB HO
      go_wp2_with (first
        | (with_reducible show wpList _ _ _ (⟨some 43, _, _, _, _, _⟩ :: _) _ _; go_loud (refine wpList_string_RB rfl (.tmp 42) 33 9 rfl 5 Try.underlying33 Try.underlying5 Try.underlying9 (.slice (some ⟨wr.heap.size, 0, none⟩) 2 2) (nm3 k) rfl HBY.out ?_))
        | (with_reducible show wpList _ _ _ (⟨some 49, _, _, _, _, _⟩ :: _) _ _; go_loud (refine wpList_append_recs rfl (.tmp 32) (.tmp 48) rfl w.heap.size v (.slice (some ⟨wr.heap.size + 1, 0, none⟩) 1 1) (tL s k) [(s ++ str (nm3 k), false, 1, (k : Int), ⟨#[]⟩)] rfl rfl HO3.out HON.out HLN.out HB3.out.size ?_); intro v8 w8 ho8 hg8; have HO8 := Go.Lib.hid ho8; have HB8 := Go.Lib.hid (HB3.out.grown hg8 HB3.out.size HO3.out.row); clear ho8 hg8)
        | fail)
      exact ⟨⟨k + 1, _, rfl, by omega, by go_num, Go.Lib.hid (by rw [tL_succ]; exact HO8.out), HB8⟩, by simp only [intOf]; omega⟩
    · obtain rfl : k = n := by omega
      have CP := Go.Lib.hid (spairs_c v (tL s k) wr (rrec_of HO.out.rs (tL_ok HPS.out k (by omega))))
      obtain ⟨av, cap, hv, -⟩ := HO.out.rs.form
      rw [tL_len] at hv
      subst hv
      have HRS := Go.Lib.hid (show ∀ W, Below wr.heap.size wr W → RS W (.slice av k cap) (tL s k) from fun W hb => (HO.out.below hb).rs)
      obtain ⟨b, o, rfl, -⟩ := (HRS.out wr (Below.refl _ _)).at 0 (by rw [tL_len]; omega)
      have HCELL := Go.Lib.hid (show ∀ W i, Below wr.heap.size wr W → i < k → W.cell? ⟨b, o + i * 5, none⟩ = some (.string (keyT s i)) from fun W i hb hi => by
        have hil : i < (tL s k).length := by rw [tL_len]; exact hi
        obtain ⟨b', o', e, -, -, c0, -⟩ := (HRS.out W hb).at i hil
        cases e
        rw [tL_at] at c0
        exact c0)
      clear HO HRS
      go_wp2_with fail
      refine CP.out.mono ?_
      rintro e w2 ⟨v2, P, rfl, hp, ho, hc⟩
      have HP := Go.Lib.hid hp
      have HC := Go.Lib.hid hc
      have CN := Go.Lib.hid (snew_ok hp.may v2 w2 ho.r)
      clear hp ho hc CP
      go_wp2_with fail
      refine CN.out.mono ?_
      rintro e w3 ⟨p, rfl, hw, hc⟩
      have H := Go.Lib.hid hw
      have HC := Go.Lib.hid (HC.out.trans (hc.mono HC.out.size))
      clear hw hc CN
      have CLN := slen_c H.out
      rw [tL_plen HPS.out hn HP.out] at CLN
      have CLN := Go.Lib.hid CLN
      go_wp2_with fail
      refine CLN.out.mono ?_
      rintro e w4 ⟨rfl, rfl⟩
      clear CLN
      have CG := Go.Lib.hid (show ∀ W i, Below w3.heap.size w3 W → i < k → Calls Try.prog 25 #[.pointer (some ⟨p, 0, none⟩), .string (keyT s i)] W fun e w' => e = .returned (.tuple #[.agg #[.int .i64 1, .int .i64 (i : Int), .string ⟨#[]⟩], .bool true]) ∧ Below W.heap.size W w' from fun W i hb hi => by
        have := sget_c (H.out.below hb) (keyT s i) (by have := HPS.out; rw [keyT_size]; omega)
        rw [tL_find HPS.out hn HP.out hi] at this
        exact this)
      have CR := Go.Lib.hid (show ∀ W y, Below w3.heap.size w3 W → y.size ≤ 1000000 → Calls Try.prog 26 #[.pointer (some ⟨p, 0, none⟩), .string y] W fun e w' => e = .returned (.int .i64 (k : Int)) ∧ Below W.heap.size W w' from fun W y hb hy => by
        have := sreads_c (H.out.below hb) y hy
        rw [tL_reads HPS.out (by omega) hn HP.out] at this
        exact this)
      have CGN := Go.Lib.hid (show ∀ W, Below w3.heap.size w3 W → Calls Try.prog 25 #[.pointer (some ⟨p, 0, none⟩), .string (s ++ ⟨#[192, 192]⟩)] W fun e w' => e = .returned (.tuple #[.agg #[.int .i64 0, .int .i64 0, .string ⟨#[]⟩], .bool false]) ∧ Below W.heap.size W w' from fun W hb => by
        have := sget_c (H.out.below hb) (s ++ ⟨#[192, 192]⟩) (by have := HPS.out; rw [ByteArray.size_append]; show s.size + 2 ≤ 1000000; omega)
        rw [show (s ++ ⟨#[192, 192]⟩ : ByteArray) = s ++ str [192, 192] from rfl, tL_none HPS.out hn HP.out] at this
        exact this)
      have HSZ := Go.Lib.hid (show (s ++ ⟨#[192, 192]⟩ : ByteArray).size ≤ 1000000 from by have := HPS.out; rw [ByteArray.size_append]; show s.size + 2 ≤ 1000000; omega)
      have hadd : s.size + (⟨#[192, 192]⟩ : ByteArray).size ≤ 9223372036854775807 := by have := HPS.out; show s.size + 2 ≤ _; omega
      have HHADD := Go.Lib.hid hadd
      clear H HP hadd
      go_wp2_with fail
      go_loopw [11] (fun ki wr' => ∃ (i : Nat), i ≤ k ∧ ki = .int .i64 (i : Int) ∧ Hid (Below w3.heap.size w3 wr')) (fun ki _ => k - (intOf ki).toNat)
      case atStart => exact ⟨0, by omega, rfl, Go.Lib.hid (Below.refl _ _)⟩
      case round =>
        obtain ⟨i, hi, rfl, HW⟩ := hrel
        by_cases hlt : i < k
        · have hltI : (i : Int) < (k : Int) := by omega
          have c0 := HCELL.out _ i (HC.out.trans (HW.out.mono HC.out.size)) hlt
          have hix := run_idx5 b o k cap i hlt
          have HKS := Go.Lib.hid (show (keyT s i).size ≤ 1000000 from by have := HPS.out; rw [keyT_size]; omega)
          have CGX := Go.Lib.hid (CG.out _ i HW.out hlt)
          generalize keyT s i = ky at *
          go_wp2_with fail
          refine CGX.out.mono ?_
          rintro e w5 ⟨rfl, hc⟩
          have hbA := below_one w5 (.cells #[.int .i64 1, .int .i64 (i : Int), .string ⟨#[]⟩] 37)
          have HX := Go.Lib.hid (heap_alloc_new w5 (.cells #[.int .i64 1, .int .i64 (i : Int), .string ⟨#[]⟩] 37))
          have hcA := hc.trans (hbA.mono hc.size)
          have HW5 := Go.Lib.hid (HW.out.trans (hcA.mono HW.out.size))
          have c0 := cell_kept c0 hcA
          clear hc hbA hcA CGX HW
          go_upto_region 20 with (fail)
          obtain ⟨g5, hg5⟩ : ∃ g, g = w5.heap.size := ⟨_, rfl⟩
          rw [← hg5] at HX ⊢
          clear hg5
          generalize w5.alloc (.cells #[.int .i64 1, .int .i64 (i : Int), .string ⟨#[]⟩] 37) = w6 at *
          obtain ⟨y0, y1, y2⟩ := raw3 HX.out
          have CRX := Go.Lib.hid (CR.out w6 ky HW5.out HKS.out)
          go_wp2_with fail
          refine CRX.out.mono ?_
          rintro e w7 ⟨rfl, hc⟩
          have HW7 := Go.Lib.hid (HW5.out.trans (hc.mono HW5.out.size))
          clear hc CRX HW5 HX y0 y1 y2 c0
          go_wp2_with fail
          exact ⟨⟨i + 1, by omega, by go_num, HW7⟩, by simp only [intOf]; omega⟩
        · obtain rfl : i = k := by omega
          have hadd := HHADD.out
          have CGX := Go.Lib.hid (CGN.out _ HW.out)
          go_wp2_with fail
          refine CGX.out.mono ?_
          rintro e w5 ⟨rfl, hc⟩
          have hbA := below_one w5 (.cells #[.int .i64 0, .int .i64 0, .string ⟨#[]⟩] 37)
          have hcA := hc.trans (hbA.mono hc.size)
          have HW5 := Go.Lib.hid (HW.out.trans (hcA.mono HW.out.size))
          clear hc hbA hcA CGX HW
          go_upto_region 23 with (fail)
          generalize w5.alloc (.cells #[.int .i64 0, .int .i64 0, .string ⟨#[]⟩] 37) = w6 at *
          have CRX := Go.Lib.hid (CR.out w6 (s ++ ⟨#[192, 192]⟩) HW5.out HSZ.out)
          go_wp2_with fail
          refine CRX.out.mono ?_
          rintro e w7 ⟨rfl, hc⟩
          have HF := Go.Lib.hid (HB.out.trans ((HC.out.trans ((HW5.out.trans (hc.mono HW5.out.size)).mono HC.out.size)).mono HB.out.size))
          clear hc CRX HW5
          go_wp2_with fail
          go_ret
          exact ⟨rfl, HF.out⟩

/-! ### THE ROW's STEP: WRITTEN OUT: LEAVE IT -/
set_option maxRecDepth 100000 in
theorem lifted (os : Os) (started : os.Started) (H : Type) (enc : TypeId × Value → H) :
    ReturnsInHanded {} Try.checked os 6 .any (Rows.sortedSameSpec.pre6 enc Try.prog Try.f6 Rows.sortedSameRow.domain false) (Rows.sortedSameSpec.post enc Try.prog Try.f6 false true false false) := by
  refine returnsInHanded_of_change (C := Try.checked) own started (by kernel_rfl) Try.func6
    (ChangeSpec.witness6 (enc := enc) (C := Try.checked) false ⟨#[], #[.string ByteArray.empty, .int .i64 0], []⟩ 8 (by kernel_rfl) (by kernel_rfl) (by kernel_rfl) (by kernel_rfl)) ?_
  intro W base args ds gs before hval0 hW hcnd _
  have hval : ∀ (j : Nat) t v, Try.f6.params[j]? = some t → args[j]? = some v → Value.okWide Try.prog W .any base t v := hval0
  have hW' := hW
  obtain ⟨p, q, hA0, hV, rfl, hfz, hnd⟩ := hW
  have hA : DataW.TrodAll enc Try.prog W 0 (fun _ => true) true Try.f6.params.toList args.toList ds p := hA0
  rw [Try.params6] at hA hval
  obtain ⟨v0, vs0, d0, ds0, p0, q0, hargs, rfl, rfl, h0, r0⟩ := trodAll_cons hA
  obtain ⟨v1, vs1, d1, ds1, p1, q1, rfl, rfl, rfl, h1, r1⟩ := trodAll_cons r0
  obtain ⟨rfl, rfl, rfl⟩ := trodAll_nil r1
  obtain rfl : args = #[v0, v1] := by cases args; simp_all
  obtain ⟨rfl, rfl⟩ := trodVars_none hV
  obtain ⟨a0, rfl, rfl, rfl, w0⟩ := open_string Try.underlying9 (hval 0 9 v0 rfl rfl) h0
  obtain ⟨a1, rfl, rfl, rfl, w1⟩ := open_int Try.underlying3 (hval 1 3 v1 rfl rfl) h1
  clear hA0 hval0
  refine (walk a0 a1 w0 w1 W).mono fun e W' ⟨he, hg⟩ => ?_
  subst he
  exact ⟨_, rfl, _, _, _, [], _, [], hW', (trodAll_cons_mk (shut_bool Try.underlying4 _) trodAll_mk0), (trodAll_cons_mk (shut_string Try.underlying9 w0) (trodAll_cons_mk (shut_int Try.underlying3 w1) trodAll_mk0)), rfl, hg.frame _, fun h => by cases h⟩

theorem over : Rows.sortedSameRow.holds Try.pinned (OpenSpec.ofChange Rows.sortedSameSpec) :=
  OpenClaim.holds_of_wide 6 Try.f6 rfl rfl rfl rfl rfl rfl rfl ⟨rfl, rfl, rfl, rfl, rfl⟩ rfl rfl rfl rfl rfl (by kernel_rfl) Try.func6 (by kernel_rfl)
    (of_decide_eq_true (by kernel_rfl)) (by unfold Func.isWrapper; first | (rw [if_pos (by decide +kernel)]; kernel_rfl) | (rw [if_neg (by decide +kernel)]; exact ⟨rfl, rfl⟩))
    (fun os started H enc _ => lifted os started H enc)

/-- ████ THE STATEMENT ████ -/
theorem proved : Rows.SortedSameSaid :=
  over
#print axioms proved
end Go.Proofs.Ytibbligidncocaa.sortedSame
