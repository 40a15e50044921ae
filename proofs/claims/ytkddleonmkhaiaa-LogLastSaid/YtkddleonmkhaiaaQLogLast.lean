/- LogLast: a key's last record counts, however often it was put; it takes one place: for all numbers and Booleans the law returns true. -/
import Derived.Test.YtkddleonmkhaiaaRows
import Derived.WalkKit
import Derived.ProofKit
import Derived.OpenShut
import Derived.ShutString
import Derived.ChangeOld
import Derived.Below
import Derived.Test.YtkddleonmkhaiaaM32
import Derived.Test.YtkddleonmkhaiaaM33
import Derived.Deep.CutBlock
import Derived.Deep.DeepCutAuto
namespace Go.Proofs.Ytkddleonmkhaiaa.logLast
open Go.ChangeShapes Go.WideShapes Go.ChangeAt Go.RowKit
open Go.ChangeMaps (open_string shut_string)
set_option linter.unusedVariables false

theorem own : ownKnob Try.prog.godebug = none := by kernel_rfl
theorem laidOut : laidOutB Try.prog = true := by kernel_rfl

def IsRow (k : IntKind) (w : World) (a : Option Addr) (len cap : Nat) (zs : List Int) : Prop :=
  (a = none ∧ len = 0 ∧ cap = 0 ∧ zs = []) ∨
  ∃ x, a = some x ∧ len ≤ cap ∧ cap ≤ maxLen ∧ zs.length = cap ∧ (∀ i, i < zs.length → w.cell? (x.add i) = some (.int k (zs.getD i 0))) ∧ ∀ n ∈ zs, (Lit.int k n).wf = true

theorem below_setq {w0 w : World} {B q : Nat} (h : Below B w0 w) (hq : B ≤ q) (o : Nat) (u : Value) : Below B w0 (w.setCell ⟨q, o, none⟩ u) :=
  h.trans ⟨rfl, rfl, rfl, by simp [World.setCell], fun k hk => Below.heap_setCell _ _ _ _ (by show k ≠ q; omega)⟩
theorem updA_twice (A : Nat → Int) (j : Nat) (y z : Int) : updA (updA A j y) j z = updA A j z := by
  funext k
  unfold updA
  split <;> rfl

set_option maxHeartbeats 4000000 in
set_option maxRecDepth 100000 in
theorem walk (w : World) (a0 : Option Addr) (len0 cap0 : Nat) (z0 : List Int) (w0 : IsRow .i64 w a0 len0 cap0 z0) (a1 : Option Addr) (len1 cap1 : Nat) (l1 : List Bool) (w1 : RV w (.slice a1 len1 cap1) (zb l1)) :
    Calls Try.prog 5 #[.slice a0 len0 cap0, .slice a1 len1 cap1] w fun e w' => e = .returned (.bool true) ∧ Below w.heap.size w w' := by
  obtain ⟨Z, hZ, hrv, hl63, hwf⟩ := rv_of_row w0
  obtain ⟨ad, cp, hv, hm63, -⟩ := w1.zbForm
  simp only [Value.slice.injEq] at hv
  obtain ⟨rfl, rfl, rfl⟩ := hv
  clear w0
  have HV1 := Go.Lib.hid w1; clear w1
  have HZ := Go.Lib.hid hZ; clear hZ
  have HRV := Go.Lib.hid hrv; clear hrv
  clear hwf
  go_enter Try.func5, Try.ntmps5
  go_wp2_with fail
  refine (begun_c _).mono ?_
  rintro e w2 ⟨rfl, hb⟩
  have HB := Go.Lib.hid hb
  clear hb
  go_wp2_with fail
  refine (lnew_c _).mono ?_
  rintro e w3 ⟨p, d, rfl, hl, hb⟩
  have hbA := below_one w3 (.cells #[.int .i64 0, .int .i64 0, .int .i64 0, .int .i64 0, .int .i64 0, .int .i64 0, .int .i64 0, .int .i64 0] 43)
  have HL := Go.Lib.hid ((hl.mono HB.out.size).below hbA)
  have HB0 := Go.Lib.hid (HB.out.trans (hb.mono HB.out.size))
  have HB := Go.Lib.hid (HB0.out.trans (hbA.mono HB0.out.size))
  have HQ := Go.Lib.hid (show (w3.alloc (.cells #[.int .i64 0, .int .i64 0, .int .i64 0, .int .i64 0, .int .i64 0, .int .i64 0, .int .i64 0, .int .i64 0] 43)).heap[w3.heap.size]? = some (.cells (rowA fun _ => 0) 43 (0, 0)) from heap_alloc_new w3 _)
  clear hb hl hbA
  obtain ⟨q, hq⟩ : ∃ q, q = w3.heap.size := ⟨_, rfl⟩
  rw [← hq] at HQ
  have HQB := Go.Lib.hid (show w.heap.size ≤ q from by have := HB0.out.size; omega)
  go_upto_block 0 with fail
  rw [← hq]
  clear hq
  generalize w3.alloc (.cells #[.int .i64 0, .int .i64 0, .int .i64 0, .int .i64 0, .int .i64 0, .int .i64 0, .int .i64 0, .int .i64 0] 43) = w4 at *
  go_cut [8, 9] (fun nv _ wx => ∃ (v : Value) (L : List RecT) (A : Nat → Int), nv = .int .i64 (L.length : Int) ∧ Hid (LG wx w.heap.size p d v L) ∧ Hid (wx.heap[q]? = some (.cells (rowA A) 43 (0, 0))) ∧ Hid (LS A L) ∧ Hid (Below w.heap.size w wx))
  case first =>
    go_wp2_with fail
    go_loopw [8, 9] (fun nv ki wr => ∃ (i : Nat) (v : Value) (L : List RecT) (A : Nat → Int), i ≤ len0 ∧ i ≤ 40 ∧ ki = .int .i64 (i : Int) ∧ nv = .int .i64 (cntA A : Int) ∧ Hid (LG wr w.heap.size p d v L) ∧ Hid (wr.heap[q]? = some (.cells (rowA A) 43 (0, 0))) ∧ Hid (LS A L) ∧ Hid (Below w.heap.size w wr)) (fun _ ki _ => len0 - (intOf ki).toNat)
    case atStart => exact ⟨0, _, [], fun _ => 0, by omega, by omega, rfl, by rfl, HL, HQ, Go.Lib.hid LS.start, HB⟩
    case round =>
      obtain ⟨i, v, L, A, hi, hi40, rfl, rfl, HL, HQ, HLS, HB⟩ := hrel
      by_cases hin : i < len0 ∧ i < 40
      · obtain ⟨hil, hi3⟩ := hin
        have hilI : (i : Int) < (len0 : Int) := by omega
        have hi3I : (i : Int) < 40 := by omega
        obtain ⟨zb', zo, rfl, hzc, -⟩ := (HRV.out.below HB.out).at i (by rw [List.length_map, HZ.out]; exact hil)
        rw [List.getElem_map] at hzc
        obtain ⟨z, hz⟩ : ∃ z, z = Z[i]'(by rw [HZ.out]; exact hil) := ⟨_, rfl⟩
        rw [← hz] at hzc
        clear hz
        obtain ⟨T, x, t1, t2, t3, t4, hx8⟩ := mod8 z
        have hcn := cntA_le A
        have HBY := Go.Lib.hid (RB.lits wr 5 (0, 0) (nmK x) #[.int .u8 (97 + (x : Int))] 1 (by
          have e1 : ((UInt8.ofNat (97 + x)).toNat : Int) = 97 + (x : Int) := by rw [UInt8.toNat_ofNat']; omega
          unfold nmK cells
          simp only [List.map_cons, List.map_nil, e1]) rfl (by simp [nmK]))
        have HW := Go.Lib.hid hzc
        go_upto_region 12 with (first
          | (with_reducible show wpList _ _ _ (⟨some 40, _, _, _, _, _⟩ :: _) _ _; go_loud (refine wpList_string_RB rfl (.tmp 39) 39 9 rfl 5 Try.underlying39 Try.underlying5 Try.underlying9 (.slice (some ⟨wr.heap.size, 0, none⟩) 1 1) (nmK x) rfl HBY.out ?_))
          | fail)
        have hbA := below_one wr (.cells #[.int .u8 (97 + (x : Int))] 5)
        have HL3 := Go.Lib.hid (HL.out.below hbA)
        have HQ3 := Go.Lib.hid (row_kept HQ.out hbA)
        have HB3 := Go.Lib.hid (HB.out.trans (hbA.mono HB.out.size))
        have HKS := Go.Lib.hid (nmK_size x)
        have HRM := Go.Lib.hid (HLS.out.room hx8)
        obtain ⟨g4, hg4⟩ : ∃ g, g = wr.heap.size + 1 := ⟨_, rfl⟩
        have hsz : g4 = (wr.alloc (.cells #[.int .u8 (97 + (x : Int))] 5)).heap.size := by rw [hg4]; simp
        rw [← hg4]
        obtain ⟨ks, hks⟩ : ∃ ks, ks = str (nmK x) := ⟨_, rfl⟩
        have HKN := Go.Lib.hid hks.symm
        rw [← hks] at HKS HRM ⊢
        clear hg4 hbA hks HBY HW hzc HL HQ HB t1 t2 t3 t4
        generalize wr.alloc (.cells #[.int .u8 (97 + (x : Int))] 5) = w3 at *
        have hbA := below_one w3 (.cells #[.string ks, .bool false, .int .i64 1, .int .i64 (i : Int), .string ⟨#[]⟩] 26)
        have HX4 := Go.Lib.hid (heap_alloc_new w3 (.cells #[.string ks, .bool false, .int .i64 1, .int .i64 (i : Int), .string ⟨#[]⟩] 26))
        have HL4 := Go.Lib.hid (HL3.out.below hbA)
        have HQ4 := Go.Lib.hid (row_kept HQ3.out hbA)
        have HB4 := Go.Lib.hid (HB3.out.trans (hbA.mono HB3.out.size))
        rw [← hsz] at HX4
        have HG4 := Go.Lib.hid (show w.heap.size ≤ g4 from by have := HB3.out.size; omega)
        have HGV := Go.Lib.hid (show g4 ≠ p ∧ g4 ≠ d ∧ v.ownBlock ≠ some g4 from by
          have h1 := HL3.out.plt
          have h2 := HL3.out.dlt
          exact ⟨by omega, by omega, fun e => by have := HL3.out.vlt g4 e; omega⟩)
        have HGQ := Go.Lib.hid (show q ≠ g4 from by have := row_lt HQ3.out; omega)
        clear hbA hsz HL3 HQ3 HB3
        generalize w3.alloc (.cells #[.string ks, .bool false, .int .i64 1, .int .i64 (i : Int), .string ⟨#[]⟩] 26) = w4 at *
        have CPF := fun (h : LG w4 w.heap.size p d v L) => lput_small h ks false 1 (i : Int) ⟨#[]⟩ (may_num ks _ (by have := HKS.out; omega) (by have := HKS.out; omega)) HRM.out
        by_cases hgi : i < l1.length
        · obtain ⟨gb, go, rfl, gc, -⟩ := ((HV1.out.below HB4.out).zbAt i hgi)
          have hgI : (i : Int) < (l1.length : Int) := by omega
          cases hg : l1[i] with
          | false =>
            rw [hg] at gc
            have CP := Go.Lib.hid (CPF HL4.out)
            clear hg CPF
            obtain ⟨y0, y1, y2, y3, y4⟩ := row5 HX4.out
            go_wp2_with fail
            refine CP.out.mono ?_
            rintro e w6 ⟨rfl, ⟨v6, hl, hn⟩, ho⟩
            have HQ6 := Go.Lib.hid (HL4.out.keptBlk ho HQ4.out (HL4.out.other HQ4.out t8Log))
            have HX6 := Go.Lib.hid (HL4.out.keptBlk ho HX4.out HGV.out)
            have HB6 := Go.Lib.hid (HB4.out.trans (HL4.out.offBelow ho))
            have HL6 := Go.Lib.hid hl
            have HO6 := Go.Lib.hid (HL6.out.other HQ6.out t8Log)
            have hS := HLS.out.put HL4.out.keys hx8 (z := (i : Int) + 1) (by omega) (by omega)
            have hR : recA x ((i : Int) + 1) = (ks, false, 1, (i : Int), ⟨#[]⟩) := by
              unfold recA
              rw [if_pos (by omega), HKN.out]
              rw [show (i : Int) + 1 - 1 = (i : Int) from by omega]
            rw [hR] at hS
            have HS := Go.Lib.hid hS
            clear hl hn ho CP hS hR
            obtain ⟨y0, y1, y2, y3, y4⟩ := row5 HX6.out
            have q0 : w6.cell? ⟨q, x, none⟩ = some (.int .i64 (A x)) := by rw [cell_of_row _ _ _ _ _ _ HQ6.out]; exact rowA_at A x hx8
            have qf := frozen_of_row w6 q x _ _ HQ6.out
            have hix := idxA8 q x hx8
            have HL7 := Go.Lib.hid (HL6.out.aside HO6.out x (.int .i64 ((i : Int) + 1)))
            have HQ7 := Go.Lib.hid (rowA_store HQ6.out hx8 ((i : Int) + 1))
            have HB7 := Go.Lib.hid (show Below w.heap.size w (w6.setCell ⟨q, x, none⟩ (.int .i64 ((i : Int) + 1))) from below_setq HB6.out HQB.out _ _)
            have y1b : (w6.setCell ⟨q, x, none⟩ (.int .i64 ((i : Int) + 1))).cell? ⟨g4, 1, none⟩ = some (.bool false) := (World.cell?_of_block (w := w6) (a := ⟨g4, 1, none⟩) (Below.heap_setCell _ _ _ _ (Ne.symm HGQ.out))).trans y1
            have hcnt := cntA_upd A hx8 (z := (i : Int) + 1) (by omega)
            by_cases h0 : A x = 0
            · rw [if_pos h0] at hcnt
              have HCN := Go.Lib.hid hcnt
              clear hcnt
              rw [h0] at q0
              clear h0
              go_wp2_with fail
              exact ⟨⟨i + 1, _, _, _, by omega, by omega, by go_num, by rw [HCN.out]; go_num, HL7, HQ7, HS, HB7⟩, by simp only [intOf]; omega⟩
            · rw [if_neg h0] at hcnt
              have HCN := Go.Lib.hid hcnt
              clear hcnt
              have h0b : (A x == 0) = false := beq_eq_false_iff_ne.2 h0
              go_wp2_with fail
              exact ⟨⟨i + 1, _, _, _, by omega, by omega, by go_num, by rw [HCN.out], HL7, HQ7, HS, HB7⟩, by simp only [intOf]; omega⟩
          | true =>
            rw [hg] at gc
            clear hg CPF
            obtain ⟨y0, y1, y2, y3, y4⟩ := row5 HX4.out
            go_upto_region 14 with (first
              | (with_reducible show wpList _ _ _ (⟨none, Op.store 26 (.tmp 11) (.tmp 56), _, _, _, _⟩ :: _) _ _; go_loud (refine wpList_store_row rfl 26 (.tmp 11) (.tmp 56) rfl g4 #[.string ks, .bool true, .int .i64 0, .int .i64 0, .string ⟨#[]⟩] rfl rfl 26 _ HX4.out (by kernel_rfl) rfl (rec_cells_one ..) ?_))
              | fail)
            have HX4 := Go.Lib.hid (setRow_heap w4 g4 _ #[.string ks, .bool true, .int .i64 0, .int .i64 0, .string ⟨#[]⟩] _ (0, 0) HX4.out)
            have HL4 := Go.Lib.hid (show LG (w4.setRow g4 #[.string ks, .bool true, .int .i64 0, .int .i64 0, .string ⟨#[]⟩]) w.heap.size p d v L from HL4.out.same (setRow_other _ _ _ _ (Ne.symm HGV.out.1)) (setRow_other _ _ _ _ (Ne.symm HGV.out.2.1)) fun g hg => setRow_other _ _ _ _ (by rintro rfl; exact HGV.out.2.2 hg))
            have HQ4 := Go.Lib.hid ((setRow_other w4 g4 q #[.string ks, .bool true, .int .i64 0, .int .i64 0, .string ⟨#[]⟩] HGQ.out).trans HQ4.out)
            have HB4 := Go.Lib.hid (show Below w.heap.size w (w4.setRow g4 #[.string ks, .bool true, .int .i64 0, .int .i64 0, .string ⟨#[]⟩]) from setRow_below _ HB4.out HG4.out)
            clear y0 y1 y2 y3 y4 gc
            generalize w4.setRow g4 #[.string ks, .bool true, .int .i64 0, .int .i64 0, .string ⟨#[]⟩] = w4 at *
            obtain ⟨y0, y1, y2, y3, y4⟩ := row5 HX4.out
            have CP := Go.Lib.hid (lput_small HL4.out ks true 0 0 ⟨#[]⟩ (may_gone ks (by have := HKS.out; omega) (by have := HKS.out; omega)) HRM.out)
            go_wp2_with fail
            refine CP.out.mono ?_
            rintro e w6 ⟨rfl, ⟨v6, hl, hn⟩, ho⟩
            have HQ6 := Go.Lib.hid (HL4.out.keptBlk ho HQ4.out (HL4.out.other HQ4.out t8Log))
            have HX6 := Go.Lib.hid (HL4.out.keptBlk ho HX4.out HGV.out)
            have HB6 := Go.Lib.hid (HB4.out.trans (HL4.out.offBelow ho))
            have HL6 := Go.Lib.hid hl
            have HO6 := Go.Lib.hid (HL6.out.other HQ6.out t8Log)
            have hS := HLS.out.put HL4.out.keys hx8 (z := -(i : Int) - 1) (by omega) (by omega)
            have hR : recA x (-(i : Int) - 1) = (ks, true, 0, 0, ⟨#[]⟩) := by
              unfold recA
              rw [if_neg (by omega), HKN.out]
            rw [hR] at hS
            have HS := Go.Lib.hid hS
            clear hl hn ho CP hS hR
            obtain ⟨y0, y1, y2, y3, y4⟩ := row5 HX6.out
            have q0 : w6.cell? ⟨q, x, none⟩ = some (.int .i64 (A x)) := by rw [cell_of_row _ _ _ _ _ _ HQ6.out]; exact rowA_at A x hx8
            have qf := frozen_of_row w6 q x _ _ HQ6.out
            have hix := idxA8 q x hx8
            have HL7 := Go.Lib.hid ((HL6.out.aside HO6.out x (.int .i64 ((i : Int) + 1))).aside HO6.out x (.int .i64 (-(i : Int) - 1)))
            have HQ7 := Go.Lib.hid (rowA_store (rowA_store HQ6.out hx8 ((i : Int) + 1)) hx8 (-(i : Int) - 1))
            rw [updA_twice] at HQ7
            have HB7 := Go.Lib.hid (show Below w.heap.size w ((w6.setCell ⟨q, x, none⟩ (.int .i64 ((i : Int) + 1))).setCell ⟨q, x, none⟩ (.int .i64 (-(i : Int) - 1))) from below_setq (below_setq HB6.out HQB.out _ _) HQB.out _ _)
            have y1b : (w6.setCell ⟨q, x, none⟩ (.int .i64 ((i : Int) + 1))).cell? ⟨g4, 1, none⟩ = some (.bool true) := (World.cell?_of_block (w := w6) (a := ⟨g4, 1, none⟩) (Below.heap_setCell _ _ _ _ (Ne.symm HGQ.out))).trans y1
            have hrq := rowA_store HQ6.out hx8 ((i : Int) + 1)
            have q0b : (w6.setCell ⟨q, x, none⟩ (.int .i64 ((i : Int) + 1))).cell? ⟨q, x, none⟩ = some (.int .i64 (updA A x ((i : Int) + 1) x)) := by rw [cell_of_row _ _ _ _ _ _ hrq]; exact rowA_at _ x hx8
            have qfb := frozen_of_row (w6.setCell ⟨q, x, none⟩ (.int .i64 ((i : Int) + 1))) q x _ _ hrq
            clear hrq
            have hcnt := cntA_upd A hx8 (z := -(i : Int) - 1) (by omega)
            by_cases h0 : A x = 0
            · rw [if_pos h0] at hcnt
              have HCN := Go.Lib.hid hcnt
              clear hcnt
              rw [h0] at q0
              clear h0
              go_wp2_with fail
              exact ⟨⟨i + 1, _, _, _, by omega, by omega, by go_num, by rw [HCN.out]; go_num, HL7, HQ7, HS, HB7⟩, by simp only [intOf]; omega⟩
            · rw [if_neg h0] at hcnt
              have HCN := Go.Lib.hid hcnt
              clear hcnt
              have h0b : (A x == 0) = false := beq_eq_false_iff_ne.2 h0
              go_wp2_with fail
              exact ⟨⟨i + 1, _, _, _, by omega, by omega, by go_num, by rw [HCN.out], HL7, HQ7, HS, HB7⟩, by simp only [intOf]; omega⟩
        · have hgI : ¬ (i : Int) < (l1.length : Int) := by omega
          have CP := Go.Lib.hid (CPF HL4.out)
          clear CPF
          obtain ⟨y0, y1, y2, y3, y4⟩ := row5 HX4.out
          go_wp2_with fail
          refine CP.out.mono ?_
          rintro e w6 ⟨rfl, ⟨v6, hl, hn⟩, ho⟩
          have HQ6 := Go.Lib.hid (HL4.out.keptBlk ho HQ4.out (HL4.out.other HQ4.out t8Log))
          have HX6 := Go.Lib.hid (HL4.out.keptBlk ho HX4.out HGV.out)
          have HB6 := Go.Lib.hid (HB4.out.trans (HL4.out.offBelow ho))
          have HL6 := Go.Lib.hid hl
          have HO6 := Go.Lib.hid (HL6.out.other HQ6.out t8Log)
          have hS := HLS.out.put HL4.out.keys hx8 (z := (i : Int) + 1) (by omega) (by omega)
          have hR : recA x ((i : Int) + 1) = (ks, false, 1, (i : Int), ⟨#[]⟩) := by
            unfold recA
            rw [if_pos (by omega), HKN.out]
            rw [show (i : Int) + 1 - 1 = (i : Int) from by omega]
          rw [hR] at hS
          have HS := Go.Lib.hid hS
          clear hl hn ho CP hS hR
          obtain ⟨y0, y1, y2, y3, y4⟩ := row5 HX6.out
          have q0 : w6.cell? ⟨q, x, none⟩ = some (.int .i64 (A x)) := by rw [cell_of_row _ _ _ _ _ _ HQ6.out]; exact rowA_at A x hx8
          have qf := frozen_of_row w6 q x _ _ HQ6.out
          have hix := idxA8 q x hx8
          have HL7 := Go.Lib.hid (HL6.out.aside HO6.out x (.int .i64 ((i : Int) + 1)))
          have HQ7 := Go.Lib.hid (rowA_store HQ6.out hx8 ((i : Int) + 1))
          have HB7 := Go.Lib.hid (show Below w.heap.size w (w6.setCell ⟨q, x, none⟩ (.int .i64 ((i : Int) + 1))) from below_setq HB6.out HQB.out _ _)
          have y1b : (w6.setCell ⟨q, x, none⟩ (.int .i64 ((i : Int) + 1))).cell? ⟨g4, 1, none⟩ = some (.bool false) := (World.cell?_of_block (w := w6) (a := ⟨g4, 1, none⟩) (Below.heap_setCell _ _ _ _ (Ne.symm HGQ.out))).trans y1
          have hcnt := cntA_upd A hx8 (z := (i : Int) + 1) (by omega)
          by_cases h0 : A x = 0
          · rw [if_pos h0] at hcnt
            have HCN := Go.Lib.hid hcnt
            clear hcnt
            rw [h0] at q0
            clear h0
            go_wp2_with fail
            exact ⟨⟨i + 1, _, _, _, by omega, by omega, by go_num, by rw [HCN.out]; go_num, HL7, HQ7, HS, HB7⟩, by simp only [intOf]; omega⟩
          · rw [if_neg h0] at hcnt
            have HCN := Go.Lib.hid hcnt
            clear hcnt
            have h0b : (A x == 0) = false := beq_eq_false_iff_ne.2 h0
            go_wp2_with fail
            exact ⟨⟨i + 1, _, _, _, by omega, by omega, by go_num, by rw [HCN.out], HL7, HQ7, HS, HB7⟩, by simp only [intOf]; omega⟩
      · have HCN := Go.Lib.hid HLS.out.cnt
        by_cases hil : i < len0
        · obtain rfl : i = 40 := by omega
          have hilI : ((40 : Nat) : Int) < (len0 : Int) := by omega
          clear hin hi hi40
          go_wp2_with fail
          go_meet
          exact ⟨_, _, A, by rw [HCN.out], HL, HQ, HLS, HB⟩
        · obtain rfl : i = len0 := by omega
          clear hin hi hil
          go_wp2_with fail
          go_meet
          exact ⟨_, _, A, by rw [HCN.out], HL, HQ, HLS, HB⟩
  case rest =>
    obtain ⟨v, L, A, rfl, HL, HQ, HLS, HB⟩ := hcut
    go_wp2_with fail
    go_loopw [12] (fun ki wr => ∃ k : Nat, k ≤ 8 ∧ ki = .int .i64 (k : Int) ∧ Hid (LG wr w.heap.size p d v L) ∧ Hid (wr.heap[q]? = some (.cells (rowA A) 43 (0, 0))) ∧ Hid (Below w.heap.size w wr)) (fun ki _ => 8 - (intOf ki).toNat)
    case atStart => exact ⟨0, by omega, rfl, HL, HQ, HB⟩
    case round =>
      obtain ⟨k, hk, rfl, HL, HQ, HB⟩ := hrel
      by_cases hlt : k < 8
      · have hltI : (k : Int) < 8 := by omega
        have HBY := Go.Lib.hid (RB.lits wr 5 (0, 0) (nmK k) #[.int .u8 (97 + (k : Int))] 1 (by
          have e1 : ((UInt8.ofNat (97 + k)).toNat : Int) = 97 + (k : Int) := by rw [UInt8.toNat_ofNat']; omega
          unfold nmK cells
          simp only [List.map_cons, List.map_nil, e1]) rfl (by simp [nmK]))
        have hbA := below_one wr (.cells #[.int .u8 (97 + (k : Int))] 5)
        have HL3 := Go.Lib.hid (HL.out.below hbA)
        have HQ3 := Go.Lib.hid (row_kept HQ.out hbA)
        have HB3 := Go.Lib.hid (HB.out.trans (hbA.mono HB.out.size))
        have CG := lget_c HL3.out (str (nmK k)) (by rw [nmK_size]; omega)
        rw [HLS.out.has k hlt] at CG
        have hbn := HLS.out.bnd k
        have hra : recA k (A k) = if 0 < A k then (str (nmK k), false, 1, A k - 1, ⟨#[]⟩) else (str (nmK k), true, 0, 0, ⟨#[]⟩) := rfl
        have HRA := Go.Lib.hid (rowA_at A k hlt)
        clear hbA HL HQ HB
        obtain ⟨z, hz⟩ : ∃ z, z = A k := ⟨_, rfl⟩
        rw [← hz] at CG hbn hra HRA
        obtain ⟨hb1, hb2⟩ := hbn
        have hix := idxA8 q k hlt
        clear hz
        rcases (by omega : z = 0 ∨ 0 < z ∨ z < 0) with rfl | hz | hz
        · rw [if_pos rfl, outR_none] at CG
          have CG := Go.Lib.hid CG
          clear hra hb1 hb2
          go_upto_region 25 with (first
            | (with_reducible show wpList _ _ _ (⟨some 88, _, _, _, _, _⟩ :: _) _ _; go_loud (refine wpList_string_RB rfl (.tmp 87) 39 9 rfl 5 Try.underlying39 Try.underlying5 Try.underlying9 (.slice (some ⟨wr.heap.size, 0, none⟩) 1 1) (nmK k) rfl HBY.out ?_))
            | fail)
          refine CG.out.mono ?_
          rintro e w5 ⟨rfl, hc⟩
          have hc2 := hc.trans ((below_one w5 (.cells #[.string ⟨#[]⟩, .bool false, .int .i64 0, .int .i64 0, .string ⟨#[]⟩] 26)).mono hc.size)
          have HX6 := Go.Lib.hid (heap_alloc_new w5 (.cells #[.string ⟨#[]⟩, .bool false, .int .i64 0, .int .i64 0, .string ⟨#[]⟩] 26))
          have HL6 := Go.Lib.hid (HL3.out.below hc2)
          have HQ6 := Go.Lib.hid (row_kept HQ3.out hc2)
          have HB6 := Go.Lib.hid (HB3.out.trans (hc2.mono HB3.out.size))
          clear hc hc2 CG HBY HL3 HQ3 HB3
          go_upto_region 25 with (fail)
          obtain ⟨g5, hg5⟩ : ∃ g, g = w5.heap.size := ⟨_, rfl⟩
          rw [← hg5] at HX6 ⊢
          clear hg5
          generalize w5.alloc (.cells #[.string ⟨#[]⟩, .bool false, .int .i64 0, .int .i64 0, .string ⟨#[]⟩] 26) = w6 at *
          obtain ⟨y0, y1, y2, y3, y4⟩ := row5 HX6.out
          have q0 : w6.cell? ⟨q, k, none⟩ = some (.int .i64 0) := by rw [cell_of_row _ _ _ _ _ _ HQ6.out]; exact HRA.out
          go_quiet (fail)
          have HL7 := Go.Lib.hid (HL6.out.below (below_drewN (Below.refl _ _) nq))
          have HQ7 := Go.Lib.hid (row_kept HQ6.out (below_drewN (Below.refl _ _) nq))
          have HB7 := Go.Lib.hid (HB6.out.trans ((below_drewN (Below.refl _ _) nq).mono HB6.out.size))
          clear y0 y1 y2 y3 y4 q0 HL6 HQ6 HB6 HX6 hix
          generalize w6.drewN nq = w8 at *
          go_wp2_with fail
          exact ⟨⟨k + 1, by omega, by go_num, HL7, HQ7, HB7⟩, by simp only [intOf]; omega⟩
        · have z0 : (z == 0) = false := beq_eq_false_iff_ne.2 (by omega)
          have z3 : (z != 0) = true := by simp [bne, z0]
          have z1 : decide (z < 0) = false := decide_eq_false (by omega)
          have z2 : decide (0 < z) = true := decide_eq_true hz
          rw [if_neg (by omega), hra, if_pos hz, outR_some] at CG
          unfold recOf recV at CG
          simp only [] at CG
          have CG := Go.Lib.hid CG
          clear hra
          obtain ⟨y, hy⟩ : ∃ y, y = z - 1 := ⟨_, rfl⟩
          rw [← hy] at CG
          obtain ⟨ks, hks⟩ : ∃ ks, ks = str (nmK k) := ⟨_, rfl⟩
          have HKS := Go.Lib.hid hks
          have HY := Go.Lib.hid hy
          clear hy hks
          go_upto_region 25 with (first
            | (with_reducible show wpList _ _ _ (⟨some 88, _, _, _, _, _⟩ :: _) _ _; go_loud (refine wpList_string_RB rfl (.tmp 87) 39 9 rfl 5 Try.underlying39 Try.underlying5 Try.underlying9 (.slice (some ⟨wr.heap.size, 0, none⟩) 1 1) (nmK k) rfl HBY.out ?_))
            | fail)
          refine CG.out.mono ?_
          rintro e w5 ⟨rfl, hc⟩
          have hc2 := hc.trans ((below_one w5 (.cells #[.string (str (nmK k)), .bool false, .int .i64 1, .int .i64 y, .string ⟨#[]⟩] 26)).mono hc.size)
          have HX6 := Go.Lib.hid (heap_alloc_new w5 (.cells #[.string (str (nmK k)), .bool false, .int .i64 1, .int .i64 y, .string ⟨#[]⟩] 26))
          have HL6 := Go.Lib.hid (HL3.out.below hc2)
          have HQ6 := Go.Lib.hid (row_kept HQ3.out hc2)
          have HB6 := Go.Lib.hid (HB3.out.trans (hc2.mono HB3.out.size))
          clear hc hc2 CG HBY HL3 HQ3 HB3
          go_upto_region 25 with (fail)
          obtain ⟨g5, hg5⟩ : ∃ g, g = w5.heap.size := ⟨_, rfl⟩
          rw [← hg5] at HX6 ⊢
          clear hg5
          generalize w5.alloc (.cells #[.string (str (nmK k)), .bool false, .int .i64 1, .int .i64 y, .string ⟨#[]⟩] 26) = w6 at *
          obtain ⟨y0, y1, y2, y3, y4⟩ := row5 HX6.out
          have q0 : w6.cell? ⟨q, k, none⟩ = some (.int .i64 z) := by rw [cell_of_row _ _ _ _ _ _ HQ6.out]; exact HRA.out
          have hyz : z - 1 = y := HY.out.symm
          have hyb : (y != y) = false := by simp
          go_quiet (fail)
          have HL7 := Go.Lib.hid (HL6.out.below (below_drewN (Below.refl _ _) nq))
          have HQ7 := Go.Lib.hid (row_kept HQ6.out (below_drewN (Below.refl _ _) nq))
          have HB7 := Go.Lib.hid (HB6.out.trans ((below_drewN (Below.refl _ _) nq).mono HB6.out.size))
          clear hyz hyb y0 y1 y2 y3 y4 q0 HL6 HQ6 HB6 HX6 hix
          generalize w6.drewN nq = w8 at *
          go_wp2_with fail
          exact ⟨⟨k + 1, by omega, by go_num, HL7, HQ7, HB7⟩, by simp only [intOf]; omega⟩
        · have z0 : (z == 0) = false := beq_eq_false_iff_ne.2 (by omega)
          have z3 : (z != 0) = true := by simp [bne, z0]
          have z1 : decide (z < 0) = true := decide_eq_true hz
          have z2 : decide (0 < z) = false := decide_eq_false (by omega)
          rw [if_neg (by omega), hra, if_neg (by omega), outR_some] at CG
          unfold recOf recV at CG
          simp only [] at CG
          have CG := Go.Lib.hid CG
          clear hra
          go_upto_region 25 with (first
            | (with_reducible show wpList _ _ _ (⟨some 88, _, _, _, _, _⟩ :: _) _ _; go_loud (refine wpList_string_RB rfl (.tmp 87) 39 9 rfl 5 Try.underlying39 Try.underlying5 Try.underlying9 (.slice (some ⟨wr.heap.size, 0, none⟩) 1 1) (nmK k) rfl HBY.out ?_))
            | fail)
          refine CG.out.mono ?_
          rintro e w5 ⟨rfl, hc⟩
          have hc2 := hc.trans ((below_one w5 (.cells #[.string (str (nmK k)), .bool true, .int .i64 0, .int .i64 0, .string ⟨#[]⟩] 26)).mono hc.size)
          have HX6 := Go.Lib.hid (heap_alloc_new w5 (.cells #[.string (str (nmK k)), .bool true, .int .i64 0, .int .i64 0, .string ⟨#[]⟩] 26))
          have HL6 := Go.Lib.hid (HL3.out.below hc2)
          have HQ6 := Go.Lib.hid (row_kept HQ3.out hc2)
          have HB6 := Go.Lib.hid (HB3.out.trans (hc2.mono HB3.out.size))
          clear hc hc2 CG HBY HL3 HQ3 HB3
          go_upto_region 25 with (fail)
          obtain ⟨g5, hg5⟩ : ∃ g, g = w5.heap.size := ⟨_, rfl⟩
          rw [← hg5] at HX6 ⊢
          clear hg5
          generalize w5.alloc (.cells #[.string (str (nmK k)), .bool true, .int .i64 0, .int .i64 0, .string ⟨#[]⟩] 26) = w6 at *
          obtain ⟨y0, y1, y2, y3, y4⟩ := row5 HX6.out
          have q0 : w6.cell? ⟨q, k, none⟩ = some (.int .i64 z) := by rw [cell_of_row _ _ _ _ _ _ HQ6.out]; exact HRA.out
          go_quiet (fail)
          have HL7 := Go.Lib.hid (HL6.out.below (below_drewN (Below.refl _ _) nq))
          have HQ7 := Go.Lib.hid (row_kept HQ6.out (below_drewN (Below.refl _ _) nq))
          have HB7 := Go.Lib.hid (HB6.out.trans ((below_drewN (Below.refl _ _) nq).mono HB6.out.size))
          clear y0 y1 y2 y3 y4 q0 HL6 HQ6 HB6 HX6 hix
          generalize w6.drewN nq = w8 at *
          go_wp2_with fail
          exact ⟨⟨k + 1, by omega, by go_num, HL7, HQ7, HB7⟩, by simp only [intOf]; omega⟩
      · obtain rfl : k = 8 := by omega
        have CN := Go.Lib.hid (llen_c HL.out)
        go_wp2_with fail
        refine CN.out.mono ?_
        rintro e w7 ⟨rfl, rfl⟩
        go_wp2_with fail
        go_ret
        exact ⟨rfl, HB.out⟩

/-! ### THE ROW -/
set_option maxRecDepth 100000 in
theorem lifted (os : Os) (started : os.Started) (H : Type) (enc : TypeId × Value → H) :
    ReturnsInHanded {} Try.checked os 5 .any (Rows.logLastSpec.pre6 enc Try.prog Try.f5 Rows.logLastRow.domain false) (Rows.logLastSpec.post enc Try.prog Try.f5 false true false false) := by
  refine returnsInHanded_of_change (C := Try.checked) own started (by kernel_rfl) Try.func5
    (ChangeSpec.witness6 (enc := enc) (C := Try.checked) false ⟨#[], #[.slice none 0 0, .slice none 0 0], []⟩ 8 (by kernel_rfl) (by kernel_rfl) (by kernel_rfl) (by kernel_rfl)) ?_
  intro W base args ds gs before hval0 hW hcnd _
  have hval : ∀ (j : Nat) t v, Try.f5.params[j]? = some t → args[j]? = some v → Value.okWide Try.prog W .any base t v := hval0
  have hW' := hW
  obtain ⟨p, q, hA0, hV, rfl, hfz, hnd⟩ := hW
  have hA : DataW.TrodAll enc Try.prog W 0 (fun _ => true) true Try.f5.params.toList args.toList ds p := hA0
  rw [Try.params5] at hA hval
  obtain ⟨v0, vs0, d0, ds0, p0, q0, hargs, rfl, rfl, h0, r0⟩ := trodAll_cons hA
  obtain ⟨v1, vs1, d1, ds1, p1, q1, rfl, rfl, rfl, h1, r1⟩ := trodAll_cons r0
  obtain ⟨rfl, rfl, rfl⟩ := trodAll_nil r1
  obtain rfl : args = #[v0, v1] := by cases args; simp_all
  obtain ⟨rfl, rfl⟩ := trodVars_none hV
  have kk0 := h0
  have lt0 : ∀ x ∈ p0, x.block < W.heap.size := by obtain ⟨m, hm⟩ := kk0; exact DataW.trod_lt m _ _ _ hm
  have kk1 := h1
  have lt1 : ∀ x ∈ p1, x.block < W.heap.size := by obtain ⟨m, hm⟩ := kk1; exact DataW.trod_lt m _ _ _ hm
  obtain ⟨a0, len0, cap0, rfl⟩ := okWide_slice Try.underlying41 (hval 0 41 v0 rfl rfl)
  obtain ⟨z0, w0⟩ : ∃ zs, IsRow .i64 W a0 len0 cap0 zs := by
    obtain ⟨fuel, hf⟩ := h0
    rcases open_ints Try.underlying41 Try.underlying3 (by kernel_rfl) hf with ⟨hcs, _⟩ | ⟨x, l, c, zs, hcs, _, hl, hm, hz, _, hcell, hwz⟩
    · simp [Value.cells] at hcs
      obtain ⟨rfl, rfl, rfl⟩ := hcs
      exact ⟨[], .inl ⟨rfl, rfl, rfl, rfl⟩⟩
    · simp [Value.cells] at hcs
      obtain ⟨rfl, rfl, rfl⟩ := hcs
      exact ⟨zs, .inr ⟨_, rfl, hl, hm, by simpa using hz, hcell, hwz⟩⟩
  obtain ⟨a1, len1, cap1, rfl⟩ := okWide_slice Try.underlying42 (hval 1 42 v1 rfl rfl)
  obtain ⟨l1, w1⟩ := open_zb Try.underlying42 Try.underlying4 (by kernel_rfl) h1
  clear hA0 hval0
  refine (walk W a0 len0 cap0 z0 w0 a1 len1 cap1 l1 w1).mono fun e W' ⟨he, bel⟩ => ?_
  subst he
  exact ⟨_, rfl, _, _, _, [], _, [], hW', trodAll_mk1 (shut_bool Try.underlying4 _), (trodAll_cons_mk (Below.trod laidOut (by kernel_rfl) (of_decide_eq_true (by kernel_rfl)) kk0 bel lt0) (trodAll_cons_mk (Below.trod laidOut (by kernel_rfl) (of_decide_eq_true (by kernel_rfl)) kk1 bel lt1) trodAll_mk0)), rfl, bel.frame _, fun h => by cases h⟩

theorem over : Rows.logLastRow.holds Try.pinned (OpenSpec.ofChange Rows.logLastSpec) :=
  OpenClaim.holds_of_wide 5 Try.f5 rfl rfl rfl rfl rfl rfl rfl ⟨rfl, rfl, rfl, rfl, rfl⟩ rfl rfl rfl rfl rfl (by kernel_rfl) Try.func5 (by kernel_rfl)
    (of_decide_eq_true (by kernel_rfl)) (by unfold Func.isWrapper; first | (rw [if_pos (by decide +kernel)]; kernel_rfl) | (rw [if_neg (by decide +kernel)]; exact ⟨rfl, rfl⟩))
    (fun os started H enc _ => lifted os started H enc)

theorem proved : Rows.LogLastSaid := over
#print axioms proved
end Go.Proofs.Ytkddleonmkhaiaa.logLast
