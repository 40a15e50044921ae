/- DirMany: a list has at most thirty-two entries, by rising names; each is found where it stands: for every input the law returns true. -/
import Derived.Test.YteickihofbkbkaaRows
import Derived.WalkKit
import Derived.ProofKit
import Derived.OpenShut
import Derived.ShutString
import Derived.Test.YteickihofbkbkaaBegun14
import Derived.Test.YteickihofbkbkaaEntN
namespace Go.Proofs.Yteickihofbkbkaa.dirMany
open Go.ChangeShapes Go.WideShapes Go.ChangeAt Go.RowKit
open Go.ChangeMaps (open_string shut_string)
set_option linter.unusedVariables false      -- a walk need not use every 'w<i>' (that an integer argument fits its kind)

theorem own : ownKnob Try.prog.godebug = none := by kernel_rfl

set_option maxHeartbeats 4000000 in
set_option maxRecDepth 100000 in
theorem walk (a0 : Int) (a1 : Int) (w0 : (Lit.int .i64 a0).wf = true) (w1 : (Lit.int .i64 a1).wf = true) (w : World) :
    Calls Try.prog 5 #[.int .i64 a0, .int .i64 a1] w fun e w' => e = .returned (.bool true) ∧ Below w.heap.size w w' := by
  clear w0 w1
  by_cases h : a0 < 0
  · go_enter Try.func5, Try.ntmps5
    go_wp2_with fail
    refine (begun_c _).mono ?_
    rintro e w1 ⟨rfl, hc⟩
    go_wp2_with fail
    go_ret
    exact ⟨rfl, hc⟩
  have ha0 := h; clear h
  by_cases h : 40 < a0
  · go_enter Try.func5, Try.ntmps5
    go_wp2_with fail
    refine (begun_c _).mono ?_
    rintro e w1 ⟨rfl, hc⟩
    go_wp2_with fail
    go_ret
    exact ⟨rfl, hc⟩
  have hb0 := h; clear h
  by_cases h : a1 < 0
  · go_enter Try.func5, Try.ntmps5
    go_wp2_with fail
    refine (begun_c _).mono ?_
    rintro e w1 ⟨rfl, hc⟩
    go_wp2_with fail
    go_ret
    exact ⟨rfl, hc⟩
  have ha1 := h; clear h
  by_cases h : 65536 < a1
  · go_enter Try.func5, Try.ntmps5
    go_wp2_with fail
    refine (begun_c _).mono ?_
    rintro e w1 ⟨rfl, hc⟩
    go_wp2_with fail
    go_ret
    exact ⟨rfl, hc⟩
  have hb1 := h; clear h
  obtain ⟨n, rfl⟩ : ∃ n : Nat, a0 = (n : Int) := ⟨a0.toNat, by omega⟩
  have hn40 : n ≤ 40 := by omega
  have k1 : IntKind.i64.wrap (a1 + 63) = a1 + 63 := IntWalk.i64_in _ (by omega)
  have k2 : (a1 + 63).tdiv 64 = (a1 + 63) / 64 := Int.tdiv_eq_ediv_of_nonneg (by omega)
  obtain ⟨q, hq⟩ : ∃ q, q = (a1 + 63) / 64 := ⟨_, rfl⟩
  have hq0 : 0 ≤ q := by omega
  have hq1 : q ≤ 2000 := by omega
  have HENT := Go.Lib.hid (fun i => show entN a1 i = (str (nmM i), a1, if a1 = 0 then 0 else ((i + 1 : Nat) : Int), q) from by rw [hq]; rfl)
  have HA1 := Go.Lib.hid (And.intro ha1 hb1)
  rw [← hq] at k2
  clear hq
  go_enter Try.func5, Try.ntmps5
  go_wp2_with fail
  refine (begun_c _).mono ?_
  rintro e w1 ⟨rfl, hc⟩
  have HB1 := Go.Lib.hid hc
  clear hc
  go_wp2_with fail
  go_loopw [6, 7] (fun sv i wr => ∃ (k : Nat) (u : Value), u = sv ∧ k ≤ n ∧ i = .int .i64 (k : Int) ∧ OwnE wr w.heap.size u (lM a1 k) ∧ Below w.heap.size w wr) (fun _ i _ => n - (intOf i).toNat)
  case atStart => exact ⟨0, _, rfl, by omega, rfl, OwnE.nil _ _, HB1.out⟩
  case round =>
    obtain ⟨k, u, rfl, hk, rfl, hown, hbc⟩ := hrel
    by_cases hlt : k < n
    · have hltI : (k : Int) < (n : Int) := by omega
      obtain ⟨D, hD⟩ : ∃ D : Int, D = ((k / 10 : Nat) : Int) := ⟨_, rfl⟩
      obtain ⟨R, hR⟩ : ∃ R : Int, R = ((k % 10 : Nat) : Int) := ⟨_, rfl⟩
      have d1 : (k : Int).tdiv 10 = D := by rw [hD, Int.tdiv_eq_ediv_of_nonneg (by omega)]; omega
      have r1 : (k : Int).tmod 10 = R := by rw [hR, Int.tmod_eq_emod_of_nonneg (by omega)]; omega
      have d2 : 0 ≤ D := by omega
      have d3 : D ≤ 4 := by omega
      have r2 : 0 ≤ R := by omega
      have r3 : R ≤ 9 := by omega
      have Hlt := Go.Lib.hid hlt
      have HO := Go.Lib.hid hown
      have HB := Go.Lib.hid hbc
      have HD := Go.Lib.hid hD
      have HR := Go.Lib.hid hR
      clear hD hR hown hbc hlt
      have HBY := Go.Lib.hid (RB.lits wr 5 (0, 0) (nmM k) #[.int .u8 102, .int .u8 (48 + D), .int .u8 (48 + R)] 3 (by
        have e1 : ((UInt8.ofNat (48 + k / 10)).toNat : Int) = 48 + D := by rw [UInt8.toNat_ofNat', HD.out]; omega
        have e2 : ((UInt8.ofNat (48 + k % 10)).toNat : Int) = 48 + R := by rw [UInt8.toNat_ofNat', HR.out]; omega
        unfold nmM cells
        simp only [List.map_cons, List.map_nil, e1, e2]
        rfl) rfl (by simp [nmM]))
      obtain ⟨nm, hnm⟩ : ∃ nm, nm = str (nmM k) := ⟨_, rfl⟩
      have Hnm := Go.Lib.hid hnm.symm
      by_cases hz : a1 = 0
      · have bz : (a1 == 0) = true := by simp [hz]
        have HSn := Go.Lib.hid (show lM a1 (k + 1) = lM a1 k ++ [(nm, a1, 0, q)] by rw [lM_succ, HENT.out, if_pos hz, hnm])
        clear hz hnm
        have hbA := newB wr (.cells #[.int .u8 102, .int .u8 (48 + D), .int .u8 (48 + R)] 5)
        have hsA : (wr.alloc (.cells #[.int .u8 102, .int .u8 (48 + D), .int .u8 (48 + R)] 5)).heap.size = wr.heap.size + 1 := by simp
        have hnB := heap_alloc_new (wr.alloc (.cells #[.int .u8 102, .int .u8 (48 + D), .int .u8 (48 + R)] 5)) (entO nm a1 0 q)
        have hnB0 := heap_alloc_new (wr.alloc (.cells #[.int .u8 102, .int .u8 (48 + D), .int .u8 (48 + R)] 5)) (entO nm a1 ((k : Int) + 1) q)
        have hbB := newB (wr.alloc (.cells #[.int .u8 102, .int .u8 (48 + D), .int .u8 (48 + R)] 5)) (entO nm a1 0 q)
        have hsB : ((wr.alloc (.cells #[.int .u8 102, .int .u8 (48 + D), .int .u8 (48 + R)] 5)).alloc (entO nm a1 0 q)).heap.size = wr.heap.size + 2 := by simp
        have hone := RE.one ((wr.alloc (.cells #[.int .u8 102, .int .u8 (48 + D), .int .u8 (48 + R)] 5)).alloc (entO nm a1 0 q)) nm a1 0 q
        have hbC := newB ((wr.alloc (.cells #[.int .u8 102, .int .u8 (48 + D), .int .u8 (48 + R)] 5)).alloc (entO nm a1 0 q)) (entO nm a1 0 q)
        rw [hsA] at hnB hnB0
        rw [hsB] at hone
        have hb3 := below_to (below_to (below_to HB.out (Nat.le_refl _) hbA) (Nat.le_refl _) hbB) (Nat.le_refl _) hbC
        have ho3 := ((HO.out.below hbA).below hbB).below hbC
        obtain ⟨y0, y1, y2, y3⟩ := row4 hnB
        obtain ⟨x0, x1, x2, x3⟩ := row4 hnB0
        have f2 : ((wr.alloc (.cells #[.int .u8 102, .int .u8 (48 + D), .int .u8 (48 + R)] 5)).alloc (entO nm a1 ((k : Int) + 1) q)).frozen? ⟨wr.heap.size + 1, 2, none⟩ = false := frozen_of_row _ _ 2 _ _ hnB0
        have HX := Go.Lib.hid hone
        have HO3 := Go.Lib.hid ho3
        have HB3 := Go.Lib.hid hb3
        have HL3 := Go.Lib.hid (show (lM a1 k).length + ([(nm, a1, 0, q)] : List EntT).length ≤ 1000000 by rw [lM_len]; simp; omega)
        unfold entO at y0 y1 y2 y3 x0 x1 x2 x3 f2 HX HO3 HB3
        clear hbA hsA hnB hnB0 hbB hsB hone hbC hb3 ho3 HO HB
        go_upto_region 13 with (first
          | (with_reducible show wpList _ _ _ (⟨some 44, _, _, _, _, _⟩ :: _) _ _; go_loud (refine wpList_string_RB rfl (.tmp 43) 26 9 rfl 5 Try.underlying26 Try.underlying5 Try.underlying9 (.slice (some ⟨wr.heap.size, 0, none⟩) 3 3) (nmM k) rfl HBY.out ?_); rw [Hnm.out])
          | fail)
        go_wp2_with (first
          | (with_reducible show wpList _ _ _ (⟨some 60, _, _, _, _, _⟩ :: _) _ _; go_loud (refine wpList_append_ents rfl (.tmp 57) (.tmp 59) rfl w.heap.size u (.slice (some ⟨wr.heap.size + 2, 0, none⟩) 1 1) (lM a1 k) [(nm, a1, 0, q)] rfl rfl HO3.out HX.out HL3.out HB3.out.size ?_); intro v6 w6 hown6 hg6)
          | fail)
        rw [← HSn.out] at hown6
        have HB6 := Go.Lib.hid (HB3.out.grown hg6 HB3.out.size HO3.out.row)
        have HO6 := Go.Lib.hid hown6
        clear hown6 hg6 y0 y1 y2 y3 x0 x1 x2 x3 f2 HX HO3 HB3 HL3
        go_roundw
        case rel => exact ⟨k + 1, _, rfl, by have := Hlt.out; omega, by go_num, HO6.out, HB6.out⟩
        case measure => simp only [intOf]; have := Hlt.out; omega
      · have bz : (a1 == 0) = false := by simp [hz]
        have HSn := Go.Lib.hid (show lM a1 (k + 1) = lM a1 k ++ [(nm, a1, (k : Int) + 1, q)] by rw [lM_succ, HENT.out, if_neg hz, hnm]; rfl)
        clear hz hnm
        have hbA := newB wr (.cells #[.int .u8 102, .int .u8 (48 + D), .int .u8 (48 + R)] 5)
        have hsA : (wr.alloc (.cells #[.int .u8 102, .int .u8 (48 + D), .int .u8 (48 + R)] 5)).heap.size = wr.heap.size + 1 := by simp
        have hnB := heap_alloc_new (wr.alloc (.cells #[.int .u8 102, .int .u8 (48 + D), .int .u8 (48 + R)] 5)) (entO nm a1 ((k : Int) + 1) q)
        have hnB0 := heap_alloc_new (wr.alloc (.cells #[.int .u8 102, .int .u8 (48 + D), .int .u8 (48 + R)] 5)) (entO nm a1 ((k : Int) + 1) q)
        have hbB := newB (wr.alloc (.cells #[.int .u8 102, .int .u8 (48 + D), .int .u8 (48 + R)] 5)) (entO nm a1 ((k : Int) + 1) q)
        have hsB : ((wr.alloc (.cells #[.int .u8 102, .int .u8 (48 + D), .int .u8 (48 + R)] 5)).alloc (entO nm a1 ((k : Int) + 1) q)).heap.size = wr.heap.size + 2 := by simp
        have hone := RE.one ((wr.alloc (.cells #[.int .u8 102, .int .u8 (48 + D), .int .u8 (48 + R)] 5)).alloc (entO nm a1 ((k : Int) + 1) q)) nm a1 ((k : Int) + 1) q
        have hbC := newB ((wr.alloc (.cells #[.int .u8 102, .int .u8 (48 + D), .int .u8 (48 + R)] 5)).alloc (entO nm a1 ((k : Int) + 1) q)) (entO nm a1 ((k : Int) + 1) q)
        rw [hsA] at hnB hnB0
        rw [hsB] at hone
        have hb3 := below_to (below_to (below_to HB.out (Nat.le_refl _) hbA) (Nat.le_refl _) hbB) (Nat.le_refl _) hbC
        have ho3 := ((HO.out.below hbA).below hbB).below hbC
        obtain ⟨y0, y1, y2, y3⟩ := row4 hnB
        obtain ⟨x0, x1, x2, x3⟩ := row4 hnB0
        have f2 : ((wr.alloc (.cells #[.int .u8 102, .int .u8 (48 + D), .int .u8 (48 + R)] 5)).alloc (entO nm a1 ((k : Int) + 1) q)).frozen? ⟨wr.heap.size + 1, 2, none⟩ = false := frozen_of_row _ _ 2 _ _ hnB0
        have HX := Go.Lib.hid hone
        have HO3 := Go.Lib.hid ho3
        have HB3 := Go.Lib.hid hb3
        have HL3 := Go.Lib.hid (show (lM a1 k).length + [(nm, a1, ((k : Int) + 1), q)].length ≤ 1000000 by rw [lM_len]; simp; omega)
        unfold entO at y0 y1 y2 y3 x0 x1 x2 x3 f2 HX HO3 HB3
        clear hbA hsA hnB hnB0 hbB hsB hone hbC hb3 ho3 HO HB
        go_upto_region 13 with (first
          | (with_reducible show wpList _ _ _ (⟨some 44, _, _, _, _, _⟩ :: _) _ _; go_loud (refine wpList_string_RB rfl (.tmp 43) 26 9 rfl 5 Try.underlying26 Try.underlying5 Try.underlying9 (.slice (some ⟨wr.heap.size, 0, none⟩) 3 3) (nmM k) rfl HBY.out ?_); rw [Hnm.out])
          | fail)
        go_wp2_with (first
          | (with_reducible show wpList _ _ _ (⟨some 60, _, _, _, _, _⟩ :: _) _ _; go_loud (refine wpList_append_ents rfl (.tmp 57) (.tmp 59) rfl w.heap.size u (.slice (some ⟨wr.heap.size + 2, 0, none⟩) 1 1) (lM a1 k) [(nm, a1, ((k : Int) + 1), q)] rfl rfl HO3.out HX.out HL3.out HB3.out.size ?_); intro v6 w6 hown6 hg6)
          | fail)
        rw [← HSn.out] at hown6
        have HB6 := Go.Lib.hid (HB3.out.grown hg6 HB3.out.size HO3.out.row)
        have HO6 := Go.Lib.hid hown6
        clear hown6 hg6 y0 y1 y2 y3 x0 x1 x2 x3 f2 HX HO3 HB3 HL3
        go_roundw
        case rel => exact ⟨k + 1, _, rfl, by have := Hlt.out; omega, by go_num, HO6.out, HB6.out⟩
        case measure => simp only [intOf]; have := Hlt.out; omega
    · obtain rfl : k = n := by omega
      have HO := Go.Lib.hid hown.re
      have HB := Go.Lib.hid hbc
      have hlen := lM_len a1 k
      have HLEN := Go.Lib.hid hlen
      clear hown hbc hlt hlen k1 k2
      by_cases h32 : 32 < k
      · have K := Go.Lib.hid (mayL_no (l := lM a1 k) (fun h => by have := h.1; rw [HLEN.out] at this; omega))
        have h32I : (32 : Int) < (k : Int) := by omega
        go_wp2_with fail
        refine (encode_no _ _ _ HO.out K.out).mono ?_
        rintro e w3 ⟨rfl, hc⟩
        have HO3 := Go.Lib.hid (HO.out.below hc)
        have HB3 := Go.Lib.hid (below_to HB.out (Nat.le_refl _) hc)
        clear hc HO HB
        have CM := may_c _ _ _ HO3.out
        rw [K.out] at CM
        have CM2 := Go.Lib.hid CM
        clear CM
        go_wp2_with fail
        refine CM2.out.mono ?_
        rintro e w4 ⟨rfl, hc⟩
        have HB4 := Go.Lib.hid (below_to HB3.out (Nat.le_refl _) hc)
        clear hc HO3 HB3 CM2
        go_wp2_with fail
        go_ret
        exact ⟨rfl, HB4.out⟩
      · have h32I : ¬ (32 : Int) < (k : Int) := by omega
        have hml := lM_may (by have := HA1.out.1; omega) (by have := HA1.out.2; omega) (show k ≤ 32 by omega)
        have K := Go.Lib.hid (mayL_iff.2 hml)
        have KD := Go.Lib.hid (decB_put hml)
        have HF := Go.Lib.hid (fun i (hi : i < k) => lM_find (by have := HA1.out.1; omega) (by have := HA1.out.2; omega) (show k ≤ 32 by omega) hi)
        have HFN := Go.Lib.hid (lM_none a1 k)
        have HAT := Go.Lib.hid (fun i (h : i < (lM a1 k).length) => show (lM a1 k)[i].1 = str (nmM i) from by rw [lM_at]; rfl)
        clear hml
        generalize lM a1 k = L at *
        go_wp2_with fail
        refine (encode_c _ _ _ HO.out K.out).mono ?_
        rintro e w3 ⟨v3, rfl, hown3, hc⟩
        have HR3 := Go.Lib.hid hown3.rb
        have HO3 := Go.Lib.hid (HO.out.below hc)
        have HB3 := Go.Lib.hid (below_to HB.out (Nat.le_refl _) hc)
        clear hc HO HB hown3
        go_wp2_with fail
        refine (decode_c HR3.out KD.out).mono ?_
        rintro e w4 ⟨v4, rfl, hown4, hc⟩
        have HM4 := Go.Lib.hid hown4.re
        have HO4 := Go.Lib.hid (HO3.out.below hc)
        have HB4 := Go.Lib.hid (below_to HB3.out (Nat.le_refl _) hc)
        clear hc HO3 HB3 HR3 hown4
        go_wp2_with fail
        have CE := eq_c _ _ _ _ _ HM4.out HO4.out
        rw [decide_eq_true rfl] at CE
        refine CE.mono ?_
        rintro e w5 ⟨rfl, hc⟩
        have HM5 := Go.Lib.hid (HM4.out.below hc)
        have HO5 := Go.Lib.hid (HO4.out.below hc)
        have HB5 := Go.Lib.hid (below_to HB4.out (Nat.le_refl _) hc)
        clear hc HM4 HO4 HB4 CE
        go_wp2_with fail
        obtain ⟨ua, uc, rfl, hul⟩ := HO5.out.form
        go_loopw [12] (fun i wr => ∃ j : Nat, j ≤ k ∧ i = .int .i64 (j : Int) ∧ Below w5.heap.size w5 wr) (fun i _ => k - (intOf i).toNat)
        case atStart => exact ⟨0, by omega, rfl, Below.refl _ _⟩
        case round =>
          obtain ⟨j, hj, rfl, hbr⟩ := hrel
          have HBR := Go.Lib.hid hbr
          by_cases hjk : j < k
          · have hjI : (j : Int) < (k : Int) := by omega
            have hjL : j < L.length := by rw [HLEN.out]; exact hjk
            obtain ⟨b, o, rfl, -, -, c0, -, -, -⟩ := (HO5.out.below hbr).at j hjL
            rw [HAT.out j hjL] at c0
            have CF := find_c v4 L (str (nmM j)) wr (HM5.out.below hbr)
            rw [HF.out j hjk] at CF
            have CF2 := Go.Lib.hid CF
            have Hjk := Go.Lib.hid hjk
            have bj : ((j : Int) == (j : Int)) = true := by simp
            generalize str (nmM j) = nm at *
            clear CF hbr hjk
            go_wp2_with fail
            refine CF2.out.mono ?_
            rintro e w7 ⟨rfl, hc⟩
            have HB7 := Go.Lib.hid (HBR.out.trans (hc.mono HBR.out.size))
            clear hc HBR CF2
            go_wp2_with fail
            go_roundw
            case rel => exact ⟨j + 1, by have := Hjk.out; omega, by go_num, HB7.out⟩
            case measure => simp only [intOf]; have := Hjk.out; omega
          · obtain rfl : j = k := by omega
            have CF := find_c v4 L ⟨#[102]⟩ wr (HM5.out.below hbr)
            rw [HFN.out] at CF
            have CF2 := Go.Lib.hid CF
            clear CF hbr hjk
            go_wp2_with fail
            refine CF2.out.mono ?_
            rintro e w7 ⟨rfl, hc⟩
            have HB7 := Go.Lib.hid (below_to HB5.out (Nat.le_refl _) (HBR.out.trans (hc.mono HBR.out.size)))
            clear hc HBR CF2
            go_wp2_with fail
            go_ret
            exact ⟨rfl, HB7.out⟩

/-! ### THE ROW's STEP: WRITTEN OUT: LEAVE IT -/
set_option maxRecDepth 100000 in
theorem lifted (os : Os) (started : os.Started) (H : Type) (enc : TypeId × Value → H) :
    ReturnsInHanded {} Try.checked os 5 .any (Rows.dirManySpec.pre6 enc Try.prog Try.f5 Rows.dirManyRow.domain false) (Rows.dirManySpec.post enc Try.prog Try.f5 false true false false) := by
  refine returnsInHanded_of_change (C := Try.checked) own started (by kernel_rfl) Try.func5
    (ChangeSpec.witness6 (enc := enc) (C := Try.checked) false ⟨#[], #[.int .i64 0, .int .i64 0], []⟩ 8 (by kernel_rfl) (by kernel_rfl) (by kernel_rfl) (by kernel_rfl)) ?_
  intro W base args ds gs before hval0 hW hcnd _
  have hval : ∀ (j : Nat) t v, Try.f5.params[j]? = some t → args[j]? = some v → Value.okWide Try.prog W .any base t v := hval0
  have hW' := hW
  obtain ⟨p, q, hA0, hV, rfl, hfz, hnd⟩ := hW
  have hA : DataW.TrodAll enc Try.prog W 0 (fun _ => true) true Try.f5.params.toList args.toList ds p := hA0
  rw [Try.params5] at hA hval
  obtain ⟨v0, vs0, d0, ds0, p0, q0, hargs, rfl, rfl, h0, r0⟩ := trodAll_cons hA
  obtain ⟨v1, vs1, d1, ds1, p1, q1, rfl, rfl, rfl, h1, r1⟩ := trodAll_cons r0
  obtain ⟨rfl, rfl, rfl⟩ := trodAll_nil r1
  obtain rfl : args = #[v0, v1] := by cases args; simp_all
  obtain ⟨rfl, rfl⟩ := trodVars_none hV
  obtain ⟨a0, rfl, rfl, rfl, w0⟩ := open_int Try.underlying3 (hval 0 3 v0 rfl rfl) h0
  obtain ⟨a1, rfl, rfl, rfl, w1⟩ := open_int Try.underlying3 (hval 1 3 v1 rfl rfl) h1
  clear hA0 hval0
  refine (walk a0 a1 w0 w1 W).mono fun e W' ⟨he, hg⟩ => ?_
  subst he
  exact ⟨_, rfl, _, _, _, [], _, [], hW', (trodAll_cons_mk (shut_bool Try.underlying4 _) trodAll_mk0), (trodAll_cons_mk (shut_int Try.underlying3 w0) (trodAll_cons_mk (shut_int Try.underlying3 w1) trodAll_mk0)), rfl, hg.frame _, fun h => by cases h⟩

theorem over : Rows.dirManyRow.holds Try.pinned (OpenSpec.ofChange Rows.dirManySpec) :=
  OpenClaim.holds_of_wide 5 Try.f5 rfl rfl rfl rfl rfl rfl rfl ⟨rfl, rfl, rfl, rfl, rfl⟩ rfl rfl rfl rfl rfl (by kernel_rfl) Try.func5 (by kernel_rfl)
    (of_decide_eq_true (by kernel_rfl)) (by unfold Func.isWrapper; first | (rw [if_pos (by decide +kernel)]; kernel_rfl) | (rw [if_neg (by decide +kernel)]; exact ⟨rfl, rfl⟩))
    (fun os started H enc _ => lifted os started H enc)

/-- ████ THE STATEMENT ████ -/
theorem proved : Rows.DirManySaid :=
  over
#print axioms proved
end Go.Proofs.Yteickihofbkbkaa.dirMany
