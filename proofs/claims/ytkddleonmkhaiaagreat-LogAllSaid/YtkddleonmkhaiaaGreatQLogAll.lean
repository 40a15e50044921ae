/- LogAll: of each key the last record is kept; a new key is refused just if it finds no place; all is found again: for all records and texts the law returns true. -/
import Derived.Test.YtkddleonmkhaiaaGreatRows
import Derived.WalkKit
import Derived.ProofKit
import Derived.OpenShut
import Derived.ShutString
import Derived.ChangeOld
import Derived.Below
import Derived.Test.YtkddleonmkhaiaaGreatM01
import Derived.Test.YtkddleonmkhaiaaGreatM35
import Derived.Test.YtkddleonmkhaiaaGreatM36
import Derived.Test.YtkddleonmkhaiaaGreatM03
import Derived.Deep.DeepCutAuto
namespace Go.Proofs.YtkddleonmkhaiaaGreat.logAll
open Go.ChangeShapes Go.WideShapes Go.ChangeAt Go.RowKit
open Go.ChangeMaps (open_string shut_string)
set_option linter.unusedVariables false

theorem own : ownKnob Tryz.prog.godebug = none := by kernel_rfl
theorem laidOut : laidOutB Tryz.prog = true := by kernel_rfl

set_option maxHeartbeats 8000000 in
set_option maxRecDepth 100000 in
theorem walk (w : World) (a0 : Option Addr) (len0 cap0 : Nat) (l0 : List RecT) (w0 : RRec w (.slice a0 len0 cap0) l0) (a1 : ByteArray) (w1 : a1.size ≤ maxLen) :
    Calls Tryz.prog 3 #[.slice a0 len0 cap0, .string a1] w fun e w' => e = .returned (.bool true) ∧ Below w.heap.size w w' := by
  have HW0 := Go.Lib.hid w0
  have CR := Go.Lib.hid fun W (h : RRec W (.slice a0 len0 cap0) l0) => recs_c (.slice a0 len0 cap0) l0 60 W h (by omega)
  have CC := Go.Lib.hid fun W => lcut_c a1 20 W w1 (by omega)
  have HAK := Go.Lib.hid (show (str ((bl a1).take 20)).size ≤ 20 from by rw [str_size, List.length_take]; omega)
  have HSZ := Go.Lib.hid fun x (hx : x ∈ (l0.take 60).map cutR) => cut_sizes hx
  have HML := Go.Lib.hid (show ((l0.take 60).map cutR).length ≤ 60 from by rw [List.length_map]; exact List.length_take_le _ _)
  clear w0 w1
  generalize (l0.take 60).map cutR = M at *
  generalize str ((bl a1).take 20) = ask at *
  go_enter Tryz.func3, Tryz.ntmps3
  go_wp2_with fail
  refine (begun_c _).mono ?_
  rintro e w1 ⟨rfl, hb⟩
  have HB := Go.Lib.hid hb
  have HC := Go.Lib.hid (CR.out w1 (HW0.out.below hb))
  clear hb CR HW0
  go_wp2_with fail
  refine HC.out.mono ?_
  rintro e w2 ⟨vm, rfl, ho, hb⟩
  obtain ⟨am, cm, rfl, -⟩ := ho.rs.form
  have HM := Go.Lib.hid (ho.mono HB.out.size)
  have HB := Go.Lib.hid (HB.out.trans (hb.mono HB.out.size))
  clear ho hb HC
  go_wp2_with fail
  refine (CC.out _).mono ?_
  rintro e w3 ⟨rfl, rfl⟩
  have hml := HML.out
  clear CC
  go_wp2_with fail
  refine (lnew_c _).mono ?_
  rintro e w3 ⟨p, d, rfl, hl, hb⟩
  have HL := Go.Lib.hid (hl.mono HB.out.size)
  have HM := Go.Lib.hid (show OwnRec w3 w.heap.size (.slice am M.length cm) M ∧ Apart (.slice am M.length cm) (.slice none 0 0) from ⟨HM.out.below hb, Apart.right _⟩)
  have HB := Go.Lib.hid (HB.out.trans (hb.mono HB.out.size))
  clear hb hl
  go_wp2_with fail
  go_loopw [7, 8] (fun uv ki wr => ∃ (k : Nat) (v u : Value) (L : List RecT), u = uv ∧ k ≤ M.length ∧ ki = .int .i64 (k : Int) ∧ Hid (LG wr w.heap.size p d v L) ∧ Hid (OwnRec wr w.heap.size u (newestR L) ∧ Apart u v) ∧ Hid (OwnRec wr w.heap.size (.slice am M.length cm) M ∧ Apart (.slice am M.length cm) v) ∧ Hid (Below w.heap.size w wr)) (fun _ ki _ => M.length - (intOf ki).toNat)
  case atStart => exact ⟨0, _, _, [], rfl, by omega, rfl, HL, Go.Lib.hid ⟨OwnRec.nil _ _, Apart.nil _⟩, HM, HB⟩
  case round =>
    obtain ⟨k, v, u, L, rfl, hk, rfl, HL, HU, HM, HB⟩ := hrel
    by_cases hlt : k < M.length
    · have hltI : (k : Int) < (M.length : Int) := by omega
      obtain ⟨b, o, rfl, -, -, c0, c1, c2, c3, c4⟩ := HM.out.1.rs.at k hlt
      have hix := run_idx5 b o M.length cm k hlt
      have hsz := HSZ.out _ (List.getElem_mem hlt)
      obtain ⟨x, hx⟩ : ∃ x, x = M[k] := ⟨_, rfl⟩
      have HXE0 := Go.Lib.hid hx.symm
      rw [← hx] at c0 c1 c2 c3 c4 hsz
      clear hx
      obtain ⟨kx, gx, ax, nx, sx⟩ := x
      have HXE : Hid (M[k] = (kx, gx, ax, nx, sx)) := HXE0
      simp only [] at c0 c1 c2 c3 c4 hsz
      have CM := Go.Lib.hid fun W => rmayT_c kx gx ax nx sx W hsz.1 hsz.2
      have HKS := Go.Lib.hid hsz.1
      have HSS := Go.Lib.hid hsz.2
      clear hsz HXE0
      go_wp2_with fail
      refine (CM.out _).mono ?_
      rintro e w3 ⟨rfl, hb3⟩
      have HL3 := Go.Lib.hid (HL.out.below hb3)
      have HM3 := Go.Lib.hid (And.intro (HM.out.1.below hb3) HM.out.2)
      have HU3 := Go.Lib.hid (And.intro (HU.out.1.below hb3) HU.out.2)
      have HB3 := Go.Lib.hid (HB.out.trans (hb3.mono HB.out.size))
      clear c0 c1 c2 c3 c4 CM hb3
      obtain ⟨b', o', hbo, -, -, d0, d1, d2, d3, d4⟩ := HM3.out.1.rs.at k hlt
      cases hbo
      rw [HXE.out] at d0 d1 d2 d3 d4
      simp only [] at d0 d1 d2 d3 d4
      cases hm : mayT (kx, gx, ax, nx, sx) with
      | false =>
        as_aux_lemma =>
          have HMF := Go.Lib.hid hm
          clear hm
          have HG5 := Go.Lib.hid HL3.out.good
          have CP := lput_w HL3.out kx gx ax nx sx (by have := HKS.out; unfold maxLen; omega) (by have := HSS.out; unfold maxLen; omega)
          rw [putE_bad HMF.out] at CP
          unfold recV at CP
          have CP := Go.Lib.hid CP
          go_wp2_with fail
          refine CP.out.mono ?_
          rintro e w5 ⟨rfl, ⟨v5, hl5, hn5⟩, ho5⟩
          have HM5 := Go.Lib.hid (kept_put HL3.out ho5 hn5 HM3.out.1 HM3.out.2)
          have HU5 := Go.Lib.hid (kept_put HL3.out ho5 hn5 HU3.out.1 HU3.out.2)
          have HB5 := Go.Lib.hid (HB3.out.trans (HL3.out.offBelow ho5))
          have HL5 : Hid (LG w5 w.heap.size p d v5 L) := by rw [putN_same (by rw [HMF.out]; rfl)] at hl5; exact hl5
          clear hl5 hn5 ho5 CP d0 d1 d2 d3 d4
          obtain ⟨b', o', hbo, -, -, e0, e1, e2, e3, e4⟩ := HM5.out.1.rs.at k hlt
          cases hbo
          rw [HXE.out] at e0 e1 e2 e3 e4
          simp only [] at e0 e1 e2 e3 e4
          have CG := lget_c HL5.out kx (by have := HKS.out; omega)
          have CF := fun W (h : RS W u (newestR L)) => rfind_c u (newestR L) kx W h
          rw [newest_find HL5.out.keys] at CF
          unfold outR recOf recV at CG CF
          generalize findK keyR L kx.toList = fo at *
          obtain ⟨ob, hob⟩ : ∃ ob, ob = fo.isSome := ⟨_, rfl⟩
          rw [← hob] at CG CF
          generalize fo.getD nullR = y at *
          obtain ⟨ky, gy, ay, ny, sy⟩ := y
          simp only [] at CG CF
          have CG := Go.Lib.hid CG
          have CF := Go.Lib.hid CF
          clear hob
          go_wp2_with fail
          refine CG.out.mono ?_
          rintro e w7 ⟨rfl, hc⟩
          have hc2 := hc.trans ((below_one w7 (.cells #[.string ky, .bool gy, .int .i64 ay, .int .i64 ny, .string sy] 33)).mono hc.size)
          have HX8 := Go.Lib.hid (heap_alloc_new w7 (.cells #[.string ky, .bool gy, .int .i64 ay, .int .i64 ny, .string sy] 33))
          have HL8 := Go.Lib.hid (HL5.out.below hc2)
          have HU8 := Go.Lib.hid (And.intro (HU5.out.1.below hc2) HU5.out.2)
          have HM8 := Go.Lib.hid (And.intro (HM5.out.1.below hc2) HM5.out.2)
          have HB8 := Go.Lib.hid (HB5.out.trans (hc2.mono HB5.out.size))
          clear hc hc2 CG e0 e1 e2 e3 e4
          go_upto_region 20 with (fail)
          obtain ⟨g8, hg8⟩ : ∃ g, g = w7.heap.size := ⟨_, rfl⟩
          rw [← hg8] at HX8 ⊢
          clear hg8
          generalize w7.alloc (.cells #[.string ky, .bool gy, .int .i64 ay, .int .i64 ny, .string sy] 33) = w8 at *
          obtain ⟨b', o', hbo, -, -, e0, e1, e2, e3, e4⟩ := HM8.out.1.rs.at k hlt
          cases hbo
          rw [HXE.out] at e0 e1 e2 e3 e4
          simp only [] at e0 e1 e2 e3 e4
          have CF8 := Go.Lib.hid (CF.out w8 HU8.out.1.rs)
          clear CF
          go_wp2_with fail
          refine CF8.out.mono ?_
          rintro e w9 ⟨rfl, hc⟩
          have hc2 := hc.trans ((below_one w9 (.cells #[.string ky, .bool gy, .int .i64 ay, .int .i64 ny, .string sy] 33)).mono hc.size)
          have HXa := Go.Lib.hid (heap_alloc_new w9 (.cells #[.string ky, .bool gy, .int .i64 ay, .int .i64 ny, .string sy] 33))
          have HXb := Go.Lib.hid (row_kept HX8.out hc2)
          have HLa := Go.Lib.hid (HL8.out.below hc2)
          have HUa := Go.Lib.hid (And.intro (HU8.out.1.below hc2) HU8.out.2)
          have HMa := Go.Lib.hid (And.intro (HM8.out.1.below hc2) HM8.out.2)
          have HBa := Go.Lib.hid (HB8.out.trans (hc2.mono HB8.out.size))
          clear hc hc2 CF8 e0 e1 e2 e3 e4 HX8
          go_upto_region 21 with (fail)
          obtain ⟨g9, hg9⟩ : ∃ g, g = w9.heap.size := ⟨_, rfl⟩
          rw [← hg9] at HXa ⊢
          clear hg9
          generalize w9.alloc (.cells #[.string ky, .bool gy, .int .i64 ay, .int .i64 ny, .string sy] 33) = wa at *
          obtain ⟨y0, y1, y2, y3, y4⟩ := row5 HXa.out
          obtain ⟨z0, z1, z2, z3, z4⟩ := row5 HXb.out
          have CE := reqrec_c ky gy ay ny sy ky gy ay ny sy wa
          rw [show eqRec ky gy ay ny sy ky gy ay ny sy = true from (eqRec_iff (ky, gy, ay, ny, sy) (ky, gy, ay, ny, sy)).trans (decide_eq_true rfl)] at CE
          unfold recV at CE
          have CE := Go.Lib.hid CE
          have hobb : (ob != ob) = false := by simp
          go_wp2_with fail
          refine CE.out.mono ?_
          rintro e wb ⟨rfl, hc⟩
          have HLb := Go.Lib.hid (HLa.out.below hc)
          have HUb := Go.Lib.hid (And.intro (HUa.out.1.below hc) HUa.out.2)
          have HMb := Go.Lib.hid (And.intro (HMa.out.1.below hc) HMa.out.2)
          have HBb := Go.Lib.hid (HBa.out.trans (hc.mono HBa.out.size))
          clear hc CE y0 y1 y2 y3 y4 z0 z1 z2 z3 z4 HXa HXb hobb
          go_wp2_with fail
          exact ⟨⟨k + 1, _, _, _, rfl, by omega, by go_num, HLb, HUb, HMb, HBb⟩, by simp only [intOf]; omega⟩
      | true =>
        have HMT := Go.Lib.hid hm
        have CO := Go.Lib.hid (rroomG_c u HL3.out.good (by omega) kx w3 HU3.out.1.rs HKS.out)
        clear hm
        go_wp2_with fail
        refine CO.out.mono ?_
        rintro e w4 ⟨rfl, hb4⟩
        have HL4 := Go.Lib.hid (HL3.out.below hb4)
        have HM4 := Go.Lib.hid (And.intro (HM3.out.1.below hb4) HM3.out.2)
        have HU4 := Go.Lib.hid (And.intro (HU3.out.1.below hb4) HU3.out.2)
        have HB4 := Go.Lib.hid (HB3.out.trans (hb4.mono HB3.out.size))
        clear d0 d1 d2 d3 d4 CO hb4
        obtain ⟨b', o', hbo, -, -, d0, d1, d2, d3, d4⟩ := HM4.out.1.rs.at k hlt
        cases hbo
        rw [HXE.out] at d0 d1 d2 d3 d4
        simp only [] at d0 d1 d2 d3 d4
        cases hr : roomR L kx with
        | false =>
          as_aux_lemma =>
            have HRF := Go.Lib.hid hr
            clear hr
            have HG5 := Go.Lib.hid HL4.out.good
            have CP := lput_w HL4.out kx gx ax nx sx (by have := HKS.out; unfold maxLen; omega) (by have := HSS.out; unfold maxLen; omega)
            rw [putE_full HMT.out HRF.out] at CP
            unfold recV at CP
            have CP := Go.Lib.hid CP
            go_wp2_with fail
            refine CP.out.mono ?_
            rintro e w5 ⟨rfl, ⟨v5, hl5, hn5⟩, ho5⟩
            have HM5 := Go.Lib.hid (kept_put HL4.out ho5 hn5 HM4.out.1 HM4.out.2)
            have HU5 := Go.Lib.hid (kept_put HL4.out ho5 hn5 HU4.out.1 HU4.out.2)
            have HB5 := Go.Lib.hid (HB4.out.trans (HL4.out.offBelow ho5))
            have HL5 : Hid (LG w5 w.heap.size p d v5 L) := by rw [putN_same (by rw [HRF.out, Bool.and_false])] at hl5; exact hl5
            clear hl5 hn5 ho5 CP d0 d1 d2 d3 d4
            obtain ⟨b', o', hbo, -, -, e0, e1, e2, e3, e4⟩ := HM5.out.1.rs.at k hlt
            cases hbo
            rw [HXE.out] at e0 e1 e2 e3 e4
            simp only [] at e0 e1 e2 e3 e4
            have CG := lget_c HL5.out kx (by have := HKS.out; omega)
            have CF := fun W (h : RS W u (newestR L)) => rfind_c u (newestR L) kx W h
            rw [newest_find HL5.out.keys] at CF
            unfold outR recOf recV at CG CF
            generalize findK keyR L kx.toList = fo at *
            obtain ⟨ob, hob⟩ : ∃ ob, ob = fo.isSome := ⟨_, rfl⟩
            rw [← hob] at CG CF
            generalize fo.getD nullR = y at *
            obtain ⟨ky, gy, ay, ny, sy⟩ := y
            simp only [] at CG CF
            have CG := Go.Lib.hid CG
            have CF := Go.Lib.hid CF
            clear hob
            go_wp2_with fail
            refine CG.out.mono ?_
            rintro e w7 ⟨rfl, hc⟩
            have hc2 := hc.trans ((below_one w7 (.cells #[.string ky, .bool gy, .int .i64 ay, .int .i64 ny, .string sy] 33)).mono hc.size)
            have HX8 := Go.Lib.hid (heap_alloc_new w7 (.cells #[.string ky, .bool gy, .int .i64 ay, .int .i64 ny, .string sy] 33))
            have HL8 := Go.Lib.hid (HL5.out.below hc2)
            have HU8 := Go.Lib.hid (And.intro (HU5.out.1.below hc2) HU5.out.2)
            have HM8 := Go.Lib.hid (And.intro (HM5.out.1.below hc2) HM5.out.2)
            have HB8 := Go.Lib.hid (HB5.out.trans (hc2.mono HB5.out.size))
            clear hc hc2 CG e0 e1 e2 e3 e4
            go_upto_region 20 with (fail)
            obtain ⟨g8, hg8⟩ : ∃ g, g = w7.heap.size := ⟨_, rfl⟩
            rw [← hg8] at HX8 ⊢
            clear hg8
            generalize w7.alloc (.cells #[.string ky, .bool gy, .int .i64 ay, .int .i64 ny, .string sy] 33) = w8 at *
            obtain ⟨b', o', hbo, -, -, e0, e1, e2, e3, e4⟩ := HM8.out.1.rs.at k hlt
            cases hbo
            rw [HXE.out] at e0 e1 e2 e3 e4
            simp only [] at e0 e1 e2 e3 e4
            have CF8 := Go.Lib.hid (CF.out w8 HU8.out.1.rs)
            clear CF
            go_wp2_with fail
            refine CF8.out.mono ?_
            rintro e w9 ⟨rfl, hc⟩
            have hc2 := hc.trans ((below_one w9 (.cells #[.string ky, .bool gy, .int .i64 ay, .int .i64 ny, .string sy] 33)).mono hc.size)
            have HXa := Go.Lib.hid (heap_alloc_new w9 (.cells #[.string ky, .bool gy, .int .i64 ay, .int .i64 ny, .string sy] 33))
            have HXb := Go.Lib.hid (row_kept HX8.out hc2)
            have HLa := Go.Lib.hid (HL8.out.below hc2)
            have HUa := Go.Lib.hid (And.intro (HU8.out.1.below hc2) HU8.out.2)
            have HMa := Go.Lib.hid (And.intro (HM8.out.1.below hc2) HM8.out.2)
            have HBa := Go.Lib.hid (HB8.out.trans (hc2.mono HB8.out.size))
            clear hc hc2 CF8 e0 e1 e2 e3 e4 HX8
            go_upto_region 21 with (fail)
            obtain ⟨g9, hg9⟩ : ∃ g, g = w9.heap.size := ⟨_, rfl⟩
            rw [← hg9] at HXa ⊢
            clear hg9
            generalize w9.alloc (.cells #[.string ky, .bool gy, .int .i64 ay, .int .i64 ny, .string sy] 33) = wa at *
            obtain ⟨y0, y1, y2, y3, y4⟩ := row5 HXa.out
            obtain ⟨z0, z1, z2, z3, z4⟩ := row5 HXb.out
            have CE := reqrec_c ky gy ay ny sy ky gy ay ny sy wa
            rw [show eqRec ky gy ay ny sy ky gy ay ny sy = true from (eqRec_iff (ky, gy, ay, ny, sy) (ky, gy, ay, ny, sy)).trans (decide_eq_true rfl)] at CE
            unfold recV at CE
            have CE := Go.Lib.hid CE
            have hobb : (ob != ob) = false := by simp
            go_wp2_with fail
            refine CE.out.mono ?_
            rintro e wb ⟨rfl, hc⟩
            have HLb := Go.Lib.hid (HLa.out.below hc)
            have HUb := Go.Lib.hid (And.intro (HUa.out.1.below hc) HUa.out.2)
            have HMb := Go.Lib.hid (And.intro (HMa.out.1.below hc) HMa.out.2)
            have HBb := Go.Lib.hid (HBa.out.trans (hc.mono HBa.out.size))
            clear hc CE y0 y1 y2 y3 y4 z0 z1 z2 z3 z4 HXa HXb hobb
            go_wp2_with fail
            exact ⟨⟨k + 1, _, _, _, rfl, by omega, by go_num, HLb, HUb, HMb, HBb⟩, by simp only [intOf]; omega⟩
        | true =>
          as_aux_lemma =>
            have HRM := Go.Lib.hid hr
            clear hr
            have HG5 := Go.Lib.hid HL4.out.good
            have CP := lput_w HL4.out kx gx ax nx sx (by have := HKS.out; unfold maxLen; omega) (by have := HSS.out; unfold maxLen; omega)
            rw [putE_ok HMT.out HRM.out] at CP
            unfold recV at CP
            have CP := Go.Lib.hid CP
            go_wp2_with fail
            refine CP.out.mono ?_
            rintro e w5 ⟨rfl, ⟨v5, hl5, hn5⟩, ho5⟩
            have HM5 := Go.Lib.hid (kept_put HL4.out ho5 hn5 HM4.out.1 HM4.out.2)
            have HU5 := Go.Lib.hid (kept_put HL4.out ho5 hn5 HU4.out.1 HU4.out.2)
            have HB5 := Go.Lib.hid (HB4.out.trans (HL4.out.offBelow ho5))
            have HL5 := Go.Lib.hid hl5
            clear hl5 hn5 ho5 CP d0 d1 d2 d3 d4
            obtain ⟨b', o', hbo, -, -, e0, e1, e2, e3, e4⟩ := HM5.out.1.rs.at k hlt
            cases hbo
            rw [HXE.out] at e0 e1 e2 e3 e4
            simp only [] at e0 e1 e2 e3 e4
            have CS := Go.Lib.hid (rsetG_c u HG5.out (by omega) kx gx ax nx sx HMT.out HRM.out w5 HU5.out.1.rs)
            go_wp2_with fail
            refine CS.out.mono ?_
            rintro e w6 ⟨v6, rfl, ho6, hb6⟩
            have HU6 := Go.Lib.hid (And.intro (ho6.mono HB5.out.size) (apart_new HL5.out (fun g hg => (World.ownsRow.lt ho6 g hg).1)))
            have HL6 := Go.Lib.hid (HL5.out.below hb6)
            have HM6 := Go.Lib.hid (And.intro (HM5.out.1.below hb6) HM5.out.2)
            have HB6 := Go.Lib.hid (HB5.out.trans (hb6.mono HB5.out.size))
            clear ho6 hb6 CS e0 e1 e2 e3 e4
            obtain ⟨b', o', hbo, -, -, e0, e1, e2, e3, e4⟩ := HM6.out.1.rs.at k hlt
            cases hbo
            rw [HXE.out] at e0 e1 e2 e3 e4
            simp only [] at e0 e1 e2 e3 e4
            have CG := lget_c HL6.out kx (by have := HKS.out; omega)
            have CF := fun W (h : RS W v6 (newestR (putN L (kx, gx, ax, nx, sx)))) => rfind_c v6 (newestR (putN L (kx, gx, ax, nx, sx))) kx W h
            rw [newest_find HL6.out.keys] at CF
            unfold outR recOf recV at CG CF
            generalize findK keyR (putN L (kx, gx, ax, nx, sx)) kx.toList = fo at *
            obtain ⟨ob, hob⟩ : ∃ ob, ob = fo.isSome := ⟨_, rfl⟩
            rw [← hob] at CG CF
            generalize fo.getD nullR = y at *
            obtain ⟨ky, gy, ay, ny, sy⟩ := y
            simp only [] at CG CF
            have CG := Go.Lib.hid CG
            have CF := Go.Lib.hid CF
            clear hob
            go_wp2_with fail
            refine CG.out.mono ?_
            rintro e w7 ⟨rfl, hc⟩
            have hc2 := hc.trans ((below_one w7 (.cells #[.string ky, .bool gy, .int .i64 ay, .int .i64 ny, .string sy] 33)).mono hc.size)
            have HX8 := Go.Lib.hid (heap_alloc_new w7 (.cells #[.string ky, .bool gy, .int .i64 ay, .int .i64 ny, .string sy] 33))
            have HL8 := Go.Lib.hid (HL6.out.below hc2)
            have HU8 := Go.Lib.hid (And.intro (HU6.out.1.below hc2) HU6.out.2)
            have HM8 := Go.Lib.hid (And.intro (HM6.out.1.below hc2) HM6.out.2)
            have HB8 := Go.Lib.hid (HB6.out.trans (hc2.mono HB6.out.size))
            clear hc hc2 CG e0 e1 e2 e3 e4
            go_upto_region 20 with (fail)
            obtain ⟨g8, hg8⟩ : ∃ g, g = w7.heap.size := ⟨_, rfl⟩
            rw [← hg8] at HX8 ⊢
            clear hg8
            generalize w7.alloc (.cells #[.string ky, .bool gy, .int .i64 ay, .int .i64 ny, .string sy] 33) = w8 at *
            obtain ⟨b', o', hbo, -, -, e0, e1, e2, e3, e4⟩ := HM8.out.1.rs.at k hlt
            cases hbo
            rw [HXE.out] at e0 e1 e2 e3 e4
            simp only [] at e0 e1 e2 e3 e4
            have CF8 := Go.Lib.hid (CF.out w8 HU8.out.1.rs)
            clear CF
            go_wp2_with fail
            refine CF8.out.mono ?_
            rintro e w9 ⟨rfl, hc⟩
            have hc2 := hc.trans ((below_one w9 (.cells #[.string ky, .bool gy, .int .i64 ay, .int .i64 ny, .string sy] 33)).mono hc.size)
            have HXa := Go.Lib.hid (heap_alloc_new w9 (.cells #[.string ky, .bool gy, .int .i64 ay, .int .i64 ny, .string sy] 33))
            have HXb := Go.Lib.hid (row_kept HX8.out hc2)
            have HLa := Go.Lib.hid (HL8.out.below hc2)
            have HUa := Go.Lib.hid (And.intro (HU8.out.1.below hc2) HU8.out.2)
            have HMa := Go.Lib.hid (And.intro (HM8.out.1.below hc2) HM8.out.2)
            have HBa := Go.Lib.hid (HB8.out.trans (hc2.mono HB8.out.size))
            clear hc hc2 CF8 e0 e1 e2 e3 e4 HX8
            go_upto_region 21 with (fail)
            obtain ⟨g9, hg9⟩ : ∃ g, g = w9.heap.size := ⟨_, rfl⟩
            rw [← hg9] at HXa ⊢
            clear hg9
            generalize w9.alloc (.cells #[.string ky, .bool gy, .int .i64 ay, .int .i64 ny, .string sy] 33) = wa at *
            obtain ⟨y0, y1, y2, y3, y4⟩ := row5 HXa.out
            obtain ⟨z0, z1, z2, z3, z4⟩ := row5 HXb.out
            have CE := reqrec_c ky gy ay ny sy ky gy ay ny sy wa
            rw [show eqRec ky gy ay ny sy ky gy ay ny sy = true from (eqRec_iff (ky, gy, ay, ny, sy) (ky, gy, ay, ny, sy)).trans (decide_eq_true rfl)] at CE
            unfold recV at CE
            have CE := Go.Lib.hid CE
            have hobb : (ob != ob) = false := by simp
            go_wp2_with fail
            refine CE.out.mono ?_
            rintro e wb ⟨rfl, hc⟩
            have HLb := Go.Lib.hid (HLa.out.below hc)
            have HUb := Go.Lib.hid (And.intro (HUa.out.1.below hc) HUa.out.2)
            have HMb := Go.Lib.hid (And.intro (HMa.out.1.below hc) HMa.out.2)
            have HBb := Go.Lib.hid (HBa.out.trans (hc.mono HBa.out.size))
            clear hc CE y0 y1 y2 y3 y4 z0 z1 z2 z3 z4 HXa HXb hobb
            go_wp2_with fail
            exact ⟨⟨k + 1, _, _, _, rfl, by omega, by go_num, HLb, HUb, HMb, HBb⟩, by simp only [intOf]; omega⟩
    · obtain rfl : k = M.length := by omega
      as_aux_lemma =>
        have CG := lget_c HL.out ask (by have := HAK.out; omega)
        have CF := fun W (h : RS W u (newestR L)) => rfind_c u (newestR L) ask W h
        rw [newest_find HL.out.keys] at CF
        have CA := fun W (h : LG W w.heap.size p d v L) => lreads_c h ask (by have := HAK.out; omega)
        have CB := fun W (h : RS W u (newestR L)) => rreads_c u (newestR L) ask W h (by have := HL.out.good.nlen; omega) HL.out.good.nsize (by have := HAK.out; omega)
        rw [readsR_newest HL.out.keys] at CB
        have hrl : readsR L ask ≤ 32 := Nat.le_trans List.countP_le_length HL.out.len
        generalize readsR L ask = nr at *
        unfold outR recOf recV at CG CF
        generalize findK keyR L ask.toList = fo at *
        obtain ⟨ob, hob⟩ : ∃ ob, ob = fo.isSome := ⟨_, rfl⟩
        rw [← hob] at CG CF
        generalize fo.getD nullR = y at *
        obtain ⟨ky, gy, ay, ny, sy⟩ := y
        simp only [] at CG CF
        have CG := Go.Lib.hid CG
        have CF := Go.Lib.hid CF
        have CA := Go.Lib.hid CA
        have CB := Go.Lib.hid CB
        clear hob
        go_wp2_with fail
        refine CG.out.mono ?_
        rintro e w7 ⟨rfl, hc⟩
        have hc2 := hc.trans ((below_one w7 (.cells #[.string ky, .bool gy, .int .i64 ay, .int .i64 ny, .string sy] 33)).mono hc.size)
        have HX8 := Go.Lib.hid (heap_alloc_new w7 (.cells #[.string ky, .bool gy, .int .i64 ay, .int .i64 ny, .string sy] 33))
        have HL8 := Go.Lib.hid (HL.out.below hc2)
        have HU8 := Go.Lib.hid (HU.out.1.below hc2)
        have HB8 := Go.Lib.hid (HB.out.trans (hc2.mono HB.out.size))
        clear hc hc2 CG
        go_upto_region 24 with (fail)
        obtain ⟨g8, hg8⟩ : ∃ g, g = w7.heap.size := ⟨_, rfl⟩
        rw [← hg8] at HX8 ⊢
        clear hg8
        generalize w7.alloc (.cells #[.string ky, .bool gy, .int .i64 ay, .int .i64 ny, .string sy] 33) = w8 at *
        have CF8 := Go.Lib.hid (CF.out w8 HU8.out.rs)
        clear CF
        go_wp2_with fail
        refine CF8.out.mono ?_
        rintro e w9 ⟨rfl, hc⟩
        have hc2 := hc.trans ((below_one w9 (.cells #[.string ky, .bool gy, .int .i64 ay, .int .i64 ny, .string sy] 33)).mono hc.size)
        have HXa := Go.Lib.hid (heap_alloc_new w9 (.cells #[.string ky, .bool gy, .int .i64 ay, .int .i64 ny, .string sy] 33))
        have HXb := Go.Lib.hid (row_kept HX8.out hc2)
        have HLa := Go.Lib.hid (HL8.out.below hc2)
        have HUa := Go.Lib.hid (HU8.out.below hc2)
        have HBa := Go.Lib.hid (HB8.out.trans (hc2.mono HB8.out.size))
        clear hc hc2 CF8 HX8
        go_upto_region 25 with (fail)
        obtain ⟨g9, hg9⟩ : ∃ g, g = w9.heap.size := ⟨_, rfl⟩
        rw [← hg9] at HXa ⊢
        clear hg9
        generalize w9.alloc (.cells #[.string ky, .bool gy, .int .i64 ay, .int .i64 ny, .string sy] 33) = wa at *
        obtain ⟨y0, y1, y2, y3, y4⟩ := row5 HXa.out
        obtain ⟨z0, z1, z2, z3, z4⟩ := row5 HXb.out
        have CE := reqrec_c ky gy ay ny sy ky gy ay ny sy wa
        rw [show eqRec ky gy ay ny sy ky gy ay ny sy = true from (eqRec_iff (ky, gy, ay, ny, sy) (ky, gy, ay, ny, sy)).trans (decide_eq_true rfl)] at CE
        unfold recV at CE
        have CE := Go.Lib.hid CE
        have hobb : (ob == ob) = true := beq_self_eq_true ob
        go_wp2_with fail
        refine CE.out.mono ?_
        rintro e wb ⟨rfl, hc⟩
        have HLb := Go.Lib.hid (HLa.out.below hc)
        have HUb := Go.Lib.hid (HUa.out.below hc)
        have HBb := Go.Lib.hid (HBa.out.trans (hc.mono HBa.out.size))
        clear hc CE y0 y1 y2 y3 y4 z0 z1 z2 z3 z4 HXa HXb hobb
        go_wp2_with fail
        refine (CA.out _ HLb.out).mono ?_
        rintro e wc ⟨rfl, hc⟩
        have HLc := Go.Lib.hid (HLb.out.below hc)
        have HUc := Go.Lib.hid (HUb.out.below hc)
        have HBc := Go.Lib.hid (HBb.out.trans (hc.mono HBb.out.size))
        clear hc CA
        go_wp2_with fail
        refine (CB.out _ HUc.out.rs).mono ?_
        rintro e wd ⟨rfl, hc⟩
        have HLd := Go.Lib.hid (HLc.out.below hc)
        have HUd := Go.Lib.hid (HUc.out.below hc)
        have HBd := Go.Lib.hid (HBc.out.trans (hc.mono HBc.out.size))
        clear hc CB
        have CS := Go.Lib.hid (same_c HLd.out u HUd.out.rs)
        have hnn : ((nr : Int) == (nr : Int)) = true := beq_self_eq_true _
        go_wp2_with fail
        refine CS.out.mono ?_
        rintro e we ⟨rfl, hc⟩
        have HBe := Go.Lib.hid (HBd.out.trans (hc.mono HBd.out.size))
        clear hc CS
        go_wp2_with fail
        go_ret
        exact ⟨rfl, HBe.out⟩

/-! ### THE ROW -/
set_option maxRecDepth 100000 in
theorem lifted (os : Os) (started : os.Started) (H : Type) (enc : TypeId × Value → H) :
    ReturnsInHanded {} Tryz.checked os 3 .any (Rows.logAllSpec.pre6 enc Tryz.prog Tryz.f3 Rows.logAllRow.domain false) (Rows.logAllSpec.post enc Tryz.prog Tryz.f3 false true false false) := by
  refine returnsInHanded_of_change (C := Tryz.checked) own started (by kernel_rfl) Tryz.func3
    (ChangeSpec.witness6 (enc := enc) (C := Tryz.checked) false ⟨#[], #[.slice none 0 0, .string ByteArray.empty], []⟩ 8 (by kernel_rfl) (by kernel_rfl) (by kernel_rfl) (by kernel_rfl)) ?_
  intro W base args ds gs before hval0 hW hcnd _
  have hval : ∀ (j : Nat) t v, Tryz.f3.params[j]? = some t → args[j]? = some v → Value.okWide Tryz.prog W .any base t v := hval0
  have hW' := hW
  obtain ⟨p, q, hA0, hV, rfl, hfz, hnd⟩ := hW
  have hA : DataW.TrodAll enc Tryz.prog W 0 (fun _ => true) true Tryz.f3.params.toList args.toList ds p := hA0
  rw [Tryz.params3] at hA hval
  obtain ⟨v0, vs0, d0, ds0, p0, q0, hargs, rfl, rfl, h0, r0⟩ := trodAll_cons hA
  obtain ⟨v1, vs1, d1, ds1, p1, q1, rfl, rfl, rfl, h1, r1⟩ := trodAll_cons r0
  obtain ⟨rfl, rfl, rfl⟩ := trodAll_nil r1
  obtain rfl : args = #[v0, v1] := by cases args; simp_all
  obtain ⟨rfl, rfl⟩ := trodVars_none hV
  have kk0 := h0
  have lt0 : ∀ x ∈ p0, x.block < W.heap.size := by obtain ⟨m, hm⟩ := kk0; exact DataW.trod_lt m _ _ _ hm
  have kk1 := h1
  have lt1 : ∀ x ∈ p1, x.block < W.heap.size := by obtain ⟨m, hm⟩ := kk1; exact DataW.trod_lt m _ _ _ hm
  obtain ⟨a0, len0, cap0, rfl⟩ := okWide_slice Tryz.underlying22 (hval 0 22 v0 rfl rfl)
  obtain ⟨l0, w0⟩ := open_recs h0
  obtain ⟨a1, rfl, rfl, rfl, w1⟩ := open_string Tryz.underlying9 (hval 1 9 v1 rfl rfl) h1
  clear hA0 hval0
  refine (walk W a0 len0 cap0 l0 w0 a1 w1).mono fun e W' ⟨he, bel⟩ => ?_
  subst he
  exact ⟨_, rfl, _, _, _, [], _, [], hW', trodAll_mk1 (shut_bool Tryz.underlying4 _), (trodAll_cons_mk (Below.trod laidOut (by kernel_rfl) (of_decide_eq_true (by kernel_rfl)) kk0 bel lt0) (trodAll_cons_mk (Below.trod laidOut (by kernel_rfl) (of_decide_eq_true (by kernel_rfl)) kk1 bel lt1) trodAll_mk0)), rfl, bel.frame _, fun h => by cases h⟩

theorem over : Rows.logAllRow.holds Tryz.pinned (OpenSpec.ofChange Rows.logAllSpec) :=
  OpenClaim.holds_of_wide 3 Tryz.f3 rfl rfl rfl rfl rfl rfl rfl ⟨rfl, rfl, rfl, rfl, rfl⟩ rfl rfl rfl rfl rfl (by kernel_rfl) Tryz.func3 (by kernel_rfl)
    (of_decide_eq_true (by kernel_rfl)) (by unfold Func.isWrapper; first | (rw [if_pos (by decide +kernel)]; kernel_rfl) | (rw [if_neg (by decide +kernel)]; exact ⟨rfl, rfl⟩))
    (fun os started H enc _ => lifted os started H enc)

theorem proved : Rows.LogAllSaid := over
#print axioms proved
end Go.Proofs.YtkddleonmkhaiaaGreat.logAll
