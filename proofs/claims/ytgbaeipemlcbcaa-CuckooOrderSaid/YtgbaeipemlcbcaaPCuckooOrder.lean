/- CuckooOrder: whether all find a place does not hang on the order in which they come: for every input the law returns true. -/
import Derived.Test.YtgbaeipemlcbcaaRows
import Derived.WalkKit
import Derived.ProofKit
import Derived.OpenShut
import Derived.ShutString
import Derived.ChangeOld
import Derived.Below
import Derived.Test.YtgbaeipemlcbcaaBegun17
import Derived.Test.YtgbaeipemlcbcaaCucO
namespace Go.Proofs.Ytgbaeipemlcbcaa.cuckooOrder
open Go.ChangeShapes Go.WideShapes Go.ChangeAt Go.RowKit
open Go.ChangeMaps (open_string shut_string)
set_option linter.unusedVariables false

theorem own : ownKnob Try.prog.godebug = none := by kernel_rfl
theorem laidOut : laidOutB Try.prog = true := by kernel_rfl

/-- WHAT THE WALK IS TOLD OF A SLICE OF INTEGERS THAT CAME IN: it is nil; or it leads to a row of 'cap' cells, the numbers 'zs' (the first 'len' are its elements, the rest its spare room), each fitting its kind. -/
def IsRow (k : IntKind) (w : World) (a : Option Addr) (len cap : Nat) (zs : List Int) : Prop :=
  (a = none ∧ len = 0 ∧ cap = 0 ∧ zs = []) ∨
  ∃ x, a = some x ∧ len ≤ cap ∧ cap ≤ maxLen ∧ zs.length = cap ∧ (∀ i, i < zs.length → w.cell? (x.add i) = some (.int k (zs.getD i 0))) ∧ ∀ n ∈ zs, (Lit.int k n).wf = true

set_option maxHeartbeats 4000000 in
set_option maxRecDepth 100000 in
theorem walk (a0 : Option Addr) (len0 cap0 : Nat) (z0 : List Int) (a1 : Int) (w : World) (w0 : IsRow .u64 w a0 len0 cap0 z0) (w1 : (Lit.int .i64 a1).wf = true) :
    Calls Try.prog 4 #[.slice a0 len0 cap0, .int .i64 a1] w fun e w' => e = .returned (.bool true) ∧ Below w.heap.size w w' := by
  obtain ⟨L0, hv0, hlt0⟩ := ku_of_row w0
  obtain ⟨q1, q2⟩ := bounds_i64 w1
  obtain ⟨a', cap', hva, hle, hcm, -, -⟩ := id hv0
  cases hva
  clear w0 w1
  have Q2 := Go.Lib.hid q2
  clear q1 q2
  by_cases hcut : 34 < L0.length
  · have hcI : (34 : Int) < (L0.length : Int) := by omega
    have hv := hv0.cut KU_ok 0 34 cap0 (by omega) (by omega) (by omega) (Nat.le_refl _)
    rw [List.drop_zero] at hv
    have hsl : ∀ W : World, (Instr.slice 27 (.slice a0 L0.length cap0) none (some (.int .i64 34)) none).run Try.prog W = .ok (sliced a0 0 34 cap0 KU.size) W := fun W => KU_ok.run_h a0 L0.length cap0 34 (by omega) .i64 W
    obtain ⟨aa, cc, hsv⟩ : ∃ aa cc, sliced a0 0 34 cap0 KU.size = .slice aa 34 cc := ⟨_, _, rfl⟩
    rw [hsv] at hv hsl
    have hlt : ∀ x ∈ L0.take 34, x < 18446744073709551616 := fun x hx => hlt0 x (List.mem_of_mem_take hx)
    have hLn : (L0.take 34).length = 34 := by rw [List.length_take]; omega
    generalize L0.take 34 = L at *
    have HV := Go.Lib.hid hv
    have HLT := Go.Lib.hid hlt
    clear hv0 hlt0 hv hlt hsv hcut hle hcm
    generalize L0.length = n0 at *
    go_enter Try.func4, Try.ntmps4
    go_wp2_with fail
    refine (begun_c _).mono ?_
    rintro e w1 ⟨rfl, hc⟩
    have HB := Go.Lib.hid hc
    clear hc
    obtain ⟨nn, hnn⟩ : ∃ nn, nn = 34 := ⟨_, rfl⟩
    by_cases hneg : a1 < 0
    · go_wp2_with fail
      go_ret
      exact ⟨rfl, HB.out⟩
    · obtain ⟨t, rfl⟩ : ∃ t : Nat, a1 = (t : Int) := ⟨a1.toNat, by omega⟩
      have hn34 : nn ≤ 34 := by omega
      have hn0 : 0 < nn := by omega
      go_wp2_with fail
      rw [← hnn] at hLn HV ⊢
      clear hnn
      refine (cnew_c _).mono ?_
      rintro e w2 ⟨d1, rfl, hd1, hck1, hc⟩
      have HD1 := Go.Lib.hid (Nat.le_trans HB.out.size hd1)
      have HB := Go.Lib.hid (below_to HB.out (Nat.le_refl _) hc)
      have HC1 := Go.Lib.hid hck1
      clear hc hck1 hd1
      go_wp2_with fail
      refine (cnew_c _).mono ?_
      rintro e w3 ⟨d2, rfl, hd2, hck2, hc⟩
      have HD2 := Go.Lib.hid (Nat.le_trans HB.out.size hd2)
      have HNE := Go.Lib.hid (show d1 ≠ d2 by have := HC1.out.lt; omega)
      have HB := Go.Lib.hid (below_to HB.out (Nat.le_refl _) hc)
      have HC1 := Go.Lib.hid (HC1.out.below hc)
      have HC2 := Go.Lib.hid hck2
      clear hc hck2 hd2
      go_wp2_with fail
      go_loopw [8, 9, 10] (fun o1v o2v iv wr => ∃ (j : Nat) (T1 T2 : SlT) (es1 es2 : List EnT) (o1 o2 : Bool), j ≤ nn ∧ iv = .int .i64 (j : Int) ∧ o1v = .bool o1 ∧ o2v = .bool o2 ∧ CK wr d1 T1 ∧ CK wr d2 T2 ∧ Hid ((Fits T1 es1 ∧ GoodI es1 (L.take j) o1) ∧ (Fits T2 es2 ∧ GoodI es2 (gB L t j) o2)) ∧ Below w.heap.size w wr) (fun _ _ iv _ => nn - (intOf iv).toNat)
      case atStart => exact ⟨0, _, _, [], [], true, true, by omega, rfl, rfl, rfl, HC1.out, HC2.out, Go.Lib.hid ⟨⟨Fits.empty fun _ _ => rfl, GoodI.nil⟩, ⟨Fits.empty fun _ _ => rfl, GoodI.nil⟩⟩, HB.out⟩
      case round =>
        obtain ⟨j, T1, T2, es1, es2, o1, o2, hj, rfl, rfl, rfl, hck1, hck2, hg, hbc⟩ := hrel
        by_cases hjn : j < nn
        · have hjI : (j : Int) < (nn : Int) := by omega
          have hjL : j < L.length := by omega
          obtain ⟨s, hs⟩ : ∃ s, s = t % nn := ⟨_, rfl⟩
          have hsn : s < nn := by rw [hs]; exact Nat.mod_lt _ hn0
          have hsm : (t : Int).tmod (nn : Int) = (s : Int) := by rw [hs, Int.tmod_eq_emod_of_nonneg (by omega)]; omega
          obtain ⟨k, hk⟩ : ∃ k, k = kI nn t j := ⟨_, rfl⟩
          have hkn : k < nn := by rw [hk]; exact kI_lt t j hn0
          have hkL : k < L.length := by omega
          have hkm : ((nn : Int) - 1 - (j : Int) + (s : Int)).tmod (nn : Int) = (k : Int) := by
            rw [hk, Int.tmod_eq_emod_of_nonneg (by omega)]
            unfold kI
            rw [← hs, show (nn : Int) - 1 - (j : Int) + (s : Int) = ((nn - 1 - j + s : Nat) : Int) by omega]
            omega
          have hnz : (nn : Int) ≠ 0 := by omega
          have hnz2 : nn ≠ 0 := by omega
          obtain ⟨b, o, rfl, -, -, cj⟩ := KU.at' HV.out j hjL
          obtain ⟨b', o', he', -, -, ck⟩ := KU.at' HV.out k hkL
          cases he'
          have HCJ := Go.Lib.hid (fun W (hW : Below w.heap.size w W) => (hW.cell (World.block_lt_of_cell? w _ cj)).trans cj)
          have HCK := Go.Lib.hid (fun W (hW : Below w.heap.size w W) => (hW.cell (World.block_lt_of_cell? w _ ck)).trans ck)
          have hixj := idxU b o nn cc j hjn
          have hixk := idxU b o nn cc k hkn
          have htk : L.take (j + 1) = L.take j ++ [L[j]] := List.take_succ_eq_append_getElem hjL
          have hgb : gB L t (j + 1) = gB L t j ++ [L[k]] := by
            rw [gB_succ, hLn, ← hk, List.getD_eq_getElem?_getD, List.getElem?_eq_getElem hkL]
            rfl
          have hxj := HLT.out L[j] (List.getElem_mem hjL)
          have hxk := HLT.out L[k] (List.getElem_mem hkL)
          generalize L[j] = xj at *
          generalize L[k] = xk at *
          clear cj ck hs hk hjL hkL
          have hc1 := HCJ.out wr hbc
          have HTK := Go.Lib.hid htk
          have HGB := Go.Lib.hid hgb
          have HXK := Go.Lib.hid hxk
          have HJN := Go.Lib.hid hjn
          have HKN := Go.Lib.hid (show idOk (k : Int) = true ∧ (Lit.int .i64 (k : Int)).wf = true from ⟨by unfold idOk; exact decide_eq_true (by omega), bounds_wf (by omega) (by omega)⟩)
          have C1 : Go.RowKit.Hid (Calls Try.prog 10 #[.pointer (some ⟨d1, 0, none⟩), .int .u64 (xj : Int), .int .i64 (j : Int)] wr fun e w' => ∃ (r : Bool) (T' : SlT) (es' : List EnT), e = .returned (.bool r) ∧ CK w' d1 T' ∧ Fits T' es' ∧ GoodI es' (L.take (j + 1)) (r && o1) ∧ Off1 d1 wr w') := by
            cases hr : roomB (es1.map Prod.fst ++ [xj]) with
            | true => exact (cinsert_yes hck1 hg.out.1.1 hxj (by unfold idOk; exact decide_eq_true (by omega)) hr).mono fun e w' ⟨he, ⟨T', h1, h2⟩, h3⟩ => ⟨true, T', _, he, h1, h2, by rw [HTK.out]; exact hg.out.1.2.yes xj j, h3⟩
            | false => exact (cinsert_no hck1 hg.out.1.1 hxj (bounds_wf (by omega) (by omega)) (by rw [hr, Bool.and_false])).mono fun e w' ⟨he, h1⟩ => ⟨false, T1, es1, he, hck1.below h1, hg.out.1.1, by rw [HTK.out]; exact hg.out.1.2.no hr, Off1.of_below h1⟩
          have HG2 := Go.Lib.hid hg.out.2
          have HC2 := Go.Lib.hid hck2
          have HB := Go.Lib.hid hbc
          clear hg hck1 hck2 hbc htk hgb hxj hxk hjn
          go_wp2_with fail
          refine C1.out.mono ?_
          rintro e w4 ⟨r1, T1', es1', rfl, hck1, hf1, hg1, ho⟩
          have HC1 := Go.Lib.hid hck1
          have HG1 := Go.Lib.hid (And.intro hf1 hg1)
          have HC2 := Go.Lib.hid (HC2.out.same (ho.block d2 HC2.out.lt (fun e => HNE.out e.symm)))
          have HB := Go.Lib.hid (HB.out.trans (ho.below HD1.out HB.out.size))
          clear hck1 hf1 hg1 ho C1 hc1
          have C2 : Go.RowKit.Hid (Calls Try.prog 10 #[.pointer (some ⟨d2, 0, none⟩), .int .u64 (xk : Int), .int .i64 (k : Int)] w4 fun e w' => ∃ (r : Bool) (T' : SlT) (es' : List EnT), e = .returned (.bool r) ∧ CK w' d2 T' ∧ Fits T' es' ∧ GoodI es' (gB L t (j + 1)) (r && o2) ∧ Off1 d2 w4 w') := by
            cases hr : roomB (es2.map Prod.fst ++ [xk]) with
            | true => exact (cinsert_yes HC2.out HG2.out.1 HXK.out HKN.out.1 hr).mono fun e w' ⟨he, ⟨T', h1, h2⟩, h3⟩ => ⟨true, T', _, he, h1, h2, by rw [HGB.out]; exact HG2.out.2.yes xk k, h3⟩
            | false => exact (cinsert_no HC2.out HG2.out.1 HXK.out HKN.out.2 (by rw [hr, Bool.and_false])).mono fun e w' ⟨he, h1⟩ => ⟨false, T2, es2, he, HC2.out.below h1, HG2.out.1, by rw [HGB.out]; exact HG2.out.2.no hr, Off1.of_below h1⟩
          have hc2 := HCK.out w4 HB.out
          obtain ⟨p1, hp1⟩ : ∃ p, (r1 && o1) = p := ⟨_, rfl⟩
          rw [hp1] at HG1
          cases r1 with
          | true =>
            obtain rfl : o1 = p1 := by simpa using hp1
            clear hp1
            go_wp2_with fail
            refine C2.out.mono ?_
            rintro e w5 ⟨r2, T2', es2', rfl, hck2, hf2, hg2, ho⟩
            have HC2 := Go.Lib.hid hck2
            have HC1 := Go.Lib.hid (HC1.out.same (ho.block d1 HC1.out.lt HNE.out))
            have HB := Go.Lib.hid (HB.out.trans (ho.below HD2.out HB.out.size))
            cases r2 with
            | true =>
              have HG2 := Go.Lib.hid (And.intro hf2 hg2)
              simp only [Bool.true_and] at HG2
              clear hck2 hf2 hg2 ho C2 hc2
              go_wp2_with fail
              go_roundw
              case rel => exact ⟨j + 1, T1', T2', es1', es2', _, _, by have := HJN.out; omega, by go_num, rfl, rfl, HC1.out, HC2.out, Go.Lib.hid ⟨HG1.out, HG2.out⟩, HB.out⟩
              case measure => simp only [intOf]; have := HJN.out; omega
            | false =>
              have HG2 := Go.Lib.hid (And.intro hf2 hg2)
              simp only [Bool.false_and] at HG2
              clear hck2 hf2 hg2 ho C2 hc2
              go_wp2_with fail
              go_roundw
              case rel => exact ⟨j + 1, T1', T2', es1', es2', _, false, by have := HJN.out; omega, by go_num, rfl, rfl, HC1.out, HC2.out, Go.Lib.hid ⟨HG1.out, HG2.out⟩, HB.out⟩
              case measure => simp only [intOf]; have := HJN.out; omega
          | false =>
            obtain rfl : false = p1 := by simpa using hp1
            clear hp1
            go_wp2_with fail
            refine C2.out.mono ?_
            rintro e w5 ⟨r2, T2', es2', rfl, hck2, hf2, hg2, ho⟩
            have HC2 := Go.Lib.hid hck2
            have HC1 := Go.Lib.hid (HC1.out.same (ho.block d1 HC1.out.lt HNE.out))
            have HB := Go.Lib.hid (HB.out.trans (ho.below HD2.out HB.out.size))
            cases r2 with
            | true =>
              have HG2 := Go.Lib.hid (And.intro hf2 hg2)
              simp only [Bool.true_and] at HG2
              clear hck2 hf2 hg2 ho C2 hc2
              go_wp2_with fail
              go_roundw
              case rel => exact ⟨j + 1, T1', T2', es1', es2', false, _, by have := HJN.out; omega, by go_num, rfl, rfl, HC1.out, HC2.out, Go.Lib.hid ⟨HG1.out, HG2.out⟩, HB.out⟩
              case measure => simp only [intOf]; have := HJN.out; omega
            | false =>
              have HG2 := Go.Lib.hid (And.intro hf2 hg2)
              simp only [Bool.false_and] at HG2
              clear hck2 hf2 hg2 ho C2 hc2
              go_wp2_with fail
              go_roundw
              case rel => exact ⟨j + 1, T1', T2', es1', es2', false, false, by have := HJN.out; omega, by go_num, rfl, rfl, HC1.out, HC2.out, Go.Lib.hid ⟨HG1.out, HG2.out⟩, HB.out⟩
              case measure => simp only [intOf]; have := HJN.out; omega
        · obtain rfl : j = nn := by omega
          have e1 := hg.out.1.2.end hg.out.1.1
          have e2 := hg.out.2.2.end hg.out.2.1
          rw [List.take_of_length_le (by omega)] at e1
          rw [← hLn, room_perm (gB_perm t (by omega))] at e2
          have HLEN1 := Go.Lib.hid (fun h : o1 = true => show (slL T1).length = j from by
            have h1 := hg.out.1.2.1 h
            have h2 := congrArg List.length h1
            rw [List.length_map, List.take_of_length_le (by omega), hLn] at h2
            rw [hg.out.1.1.length, h2])
          have HLEN2 := Go.Lib.hid (fun h : o2 = true => show (slL T2).length = j from by
            have h1 := hg.out.2.2.1 h
            have h2 := congrArg List.length h1
            rw [List.length_map] at h2
            have h3 : (gB L t j).length = j := by unfold gB; simp
            rw [hg.out.2.1.length, h2, h3])
          have CR := Go.Lib.hid (fun W (hW : Below w.heap.size w W) => rroom_c _ L W (HV.out.below (hW.mono (Nat.le_refl _))) HLT.out (by omega))
          obtain ⟨R, hR⟩ : ∃ R, roomB L = R := ⟨_, rfl⟩
          rw [hR] at e1 e2 CR
          subst e1
          obtain rfl : o2 = o1 := e2
          have HC1 := Go.Lib.hid hck1
          have HC2 := Go.Lib.hid hck2
          have HB := Go.Lib.hid hbc
          clear hg hck1 hck2 hbc hR hjn
          cases o2 with
          | false =>
            go_wp2_with fail
            refine (CR.out _ HB.out).mono ?_
            rintro e w4 ⟨rfl, rfl⟩
            go_wp2_with fail
            go_ret
            exact ⟨rfl, HB.out⟩
          | true =>
            have CL1 := Go.Lib.hid (fun W (hW : Below wr.heap.size wr W) => clen_c (HC1.out.below hW))
            have CL2 := Go.Lib.hid (fun W (hW : Below wr.heap.size wr W) => clen_c (HC2.out.below hW))
            rw [HLEN1.out rfl] at CL1
            rw [HLEN2.out rfl] at CL2
            go_wp2_with fail
            refine (CR.out _ HB.out).mono ?_
            rintro e w4 ⟨rfl, rfl⟩
            go_wp2_with fail
            refine (CL1.out _ (Below.refl _ _)).mono ?_
            rintro e w5 ⟨rfl, hc⟩
            have HBR := Go.Lib.hid hc
            clear hc
            go_wp2_with fail
            refine (CL2.out _ HBR.out).mono ?_
            rintro e w6 ⟨rfl, hc⟩
            have HBR := Go.Lib.hid (below_to HBR.out (Nat.le_refl _) hc)
            clear hc
            go_wp2_with fail
            go_ret
            exact ⟨rfl, below_to HB.out (Nat.le_refl _) HBR.out⟩
  · have hcI : ¬ (34 : Int) < (L0.length : Int) := by omega
    have HV := Go.Lib.hid hv0
    have HLT := Go.Lib.hid hlt0
    obtain ⟨nn, hnn⟩ : ∃ nn, nn = L0.length := ⟨_, rfl⟩
    have hLn : L0.length = nn := hnn.symm
    rw [hLn] at HV hcI ⊢
    have hn34 : nn ≤ 34 := by omega
    generalize hL : L0 = L at *
    generalize haa : a0 = aa at *
    generalize hcc : cap0 = cc at *
    clear hv0 hlt0 hle hnn hL haa hcc hcut hcm
    go_enter Try.func4, Try.ntmps4
    go_wp2_with fail
    refine (begun_c _).mono ?_
    rintro e w1 ⟨rfl, hc⟩
    have HB := Go.Lib.hid hc
    clear hc
    by_cases hz : nn = 0
    · have hzI : ((nn : Int) == 0) = true := by simp [hz]
      clear hz
      go_wp2_with fail
      go_ret
      exact ⟨rfl, HB.out⟩
    · have hzI : ((nn : Int) == 0) = false := by simp only [beq_eq_false_iff_ne, ne_eq]; omega
      have hn0 : 0 < nn := by omega
      clear hz
      by_cases hneg : a1 < 0
      · go_wp2_with fail
        go_ret
        exact ⟨rfl, HB.out⟩
      · obtain ⟨t, rfl⟩ : ∃ t : Nat, a1 = (t : Int) := ⟨a1.toNat, by omega⟩
        go_wp2_with fail
        refine (cnew_c _).mono ?_
        rintro e w2 ⟨d1, rfl, hd1, hck1, hc⟩
        have HD1 := Go.Lib.hid (Nat.le_trans HB.out.size hd1)
        have HB := Go.Lib.hid (below_to HB.out (Nat.le_refl _) hc)
        have HC1 := Go.Lib.hid hck1
        clear hc hck1 hd1
        go_wp2_with fail
        refine (cnew_c _).mono ?_
        rintro e w3 ⟨d2, rfl, hd2, hck2, hc⟩
        have HD2 := Go.Lib.hid (Nat.le_trans HB.out.size hd2)
        have HNE := Go.Lib.hid (show d1 ≠ d2 by have := HC1.out.lt; omega)
        have HB := Go.Lib.hid (below_to HB.out (Nat.le_refl _) hc)
        have HC1 := Go.Lib.hid (HC1.out.below hc)
        have HC2 := Go.Lib.hid hck2
        clear hc hck2 hd2
        go_wp2_with fail
        go_loopw [8, 9, 10] (fun o1v o2v iv wr => ∃ (j : Nat) (T1 T2 : SlT) (es1 es2 : List EnT) (o1 o2 : Bool), j ≤ nn ∧ iv = .int .i64 (j : Int) ∧ o1v = .bool o1 ∧ o2v = .bool o2 ∧ CK wr d1 T1 ∧ CK wr d2 T2 ∧ Hid ((Fits T1 es1 ∧ GoodI es1 (L.take j) o1) ∧ (Fits T2 es2 ∧ GoodI es2 (gB L t j) o2)) ∧ Below w.heap.size w wr) (fun _ _ iv _ => nn - (intOf iv).toNat)
        case atStart => exact ⟨0, _, _, [], [], true, true, by omega, rfl, rfl, rfl, HC1.out, HC2.out, Go.Lib.hid ⟨⟨Fits.empty fun _ _ => rfl, GoodI.nil⟩, ⟨Fits.empty fun _ _ => rfl, GoodI.nil⟩⟩, HB.out⟩
        case round =>
          obtain ⟨j, T1, T2, es1, es2, o1, o2, hj, rfl, rfl, rfl, hck1, hck2, hg, hbc⟩ := hrel
          by_cases hjn : j < nn
          · have hjI : (j : Int) < (nn : Int) := by omega
            have hjL : j < L.length := by omega
            obtain ⟨s, hs⟩ : ∃ s, s = t % nn := ⟨_, rfl⟩
            have hsn : s < nn := by rw [hs]; exact Nat.mod_lt _ hn0
            have hsm : (t : Int).tmod (nn : Int) = (s : Int) := by rw [hs, Int.tmod_eq_emod_of_nonneg (by omega)]; omega
            obtain ⟨k, hk⟩ : ∃ k, k = kI nn t j := ⟨_, rfl⟩
            have hkn : k < nn := by rw [hk]; exact kI_lt t j hn0
            have hkL : k < L.length := by omega
            have hkm : ((nn : Int) - 1 - (j : Int) + (s : Int)).tmod (nn : Int) = (k : Int) := by
              rw [hk, Int.tmod_eq_emod_of_nonneg (by omega)]
              unfold kI
              rw [← hs, show (nn : Int) - 1 - (j : Int) + (s : Int) = ((nn - 1 - j + s : Nat) : Int) by omega]
              omega
            have hnz : (nn : Int) ≠ 0 := by omega
            have hnz2 : nn ≠ 0 := by omega
            obtain ⟨b, o, rfl, -, -, cj⟩ := KU.at' HV.out j hjL
            obtain ⟨b', o', he', -, -, ck⟩ := KU.at' HV.out k hkL
            cases he'
            have HCJ := Go.Lib.hid (fun W (hW : Below w.heap.size w W) => (hW.cell (World.block_lt_of_cell? w _ cj)).trans cj)
            have HCK := Go.Lib.hid (fun W (hW : Below w.heap.size w W) => (hW.cell (World.block_lt_of_cell? w _ ck)).trans ck)
            have hixj := idxU b o nn cc j hjn
            have hixk := idxU b o nn cc k hkn
            have htk : L.take (j + 1) = L.take j ++ [L[j]] := List.take_succ_eq_append_getElem hjL
            have hgb : gB L t (j + 1) = gB L t j ++ [L[k]] := by
              rw [gB_succ, hLn, ← hk, List.getD_eq_getElem?_getD, List.getElem?_eq_getElem hkL]
              rfl
            have hxj := HLT.out L[j] (List.getElem_mem hjL)
            have hxk := HLT.out L[k] (List.getElem_mem hkL)
            generalize L[j] = xj at *
            generalize L[k] = xk at *
            clear cj ck hs hk hjL hkL
            have hc1 := HCJ.out wr hbc
            have HTK := Go.Lib.hid htk
            have HGB := Go.Lib.hid hgb
            have HXK := Go.Lib.hid hxk
            have HJN := Go.Lib.hid hjn
            have HKN := Go.Lib.hid (show idOk (k : Int) = true ∧ (Lit.int .i64 (k : Int)).wf = true from ⟨by unfold idOk; exact decide_eq_true (by omega), bounds_wf (by omega) (by omega)⟩)
            have C1 : Go.RowKit.Hid (Calls Try.prog 10 #[.pointer (some ⟨d1, 0, none⟩), .int .u64 (xj : Int), .int .i64 (j : Int)] wr fun e w' => ∃ (r : Bool) (T' : SlT) (es' : List EnT), e = .returned (.bool r) ∧ CK w' d1 T' ∧ Fits T' es' ∧ GoodI es' (L.take (j + 1)) (r && o1) ∧ Off1 d1 wr w') := by
              cases hr : roomB (es1.map Prod.fst ++ [xj]) with
              | true => exact (cinsert_yes hck1 hg.out.1.1 hxj (by unfold idOk; exact decide_eq_true (by omega)) hr).mono fun e w' ⟨he, ⟨T', h1, h2⟩, h3⟩ => ⟨true, T', _, he, h1, h2, by rw [HTK.out]; exact hg.out.1.2.yes xj j, h3⟩
              | false => exact (cinsert_no hck1 hg.out.1.1 hxj (bounds_wf (by omega) (by omega)) (by rw [hr, Bool.and_false])).mono fun e w' ⟨he, h1⟩ => ⟨false, T1, es1, he, hck1.below h1, hg.out.1.1, by rw [HTK.out]; exact hg.out.1.2.no hr, Off1.of_below h1⟩
            have HG2 := Go.Lib.hid hg.out.2
            have HC2 := Go.Lib.hid hck2
            have HB := Go.Lib.hid hbc
            clear hg hck1 hck2 hbc htk hgb hxj hxk hjn
            go_wp2_with fail
            refine C1.out.mono ?_
            rintro e w4 ⟨r1, T1', es1', rfl, hck1, hf1, hg1, ho⟩
            have HC1 := Go.Lib.hid hck1
            have HG1 := Go.Lib.hid (And.intro hf1 hg1)
            have HC2 := Go.Lib.hid (HC2.out.same (ho.block d2 HC2.out.lt (fun e => HNE.out e.symm)))
            have HB := Go.Lib.hid (HB.out.trans (ho.below HD1.out HB.out.size))
            clear hck1 hf1 hg1 ho C1 hc1
            have C2 : Go.RowKit.Hid (Calls Try.prog 10 #[.pointer (some ⟨d2, 0, none⟩), .int .u64 (xk : Int), .int .i64 (k : Int)] w4 fun e w' => ∃ (r : Bool) (T' : SlT) (es' : List EnT), e = .returned (.bool r) ∧ CK w' d2 T' ∧ Fits T' es' ∧ GoodI es' (gB L t (j + 1)) (r && o2) ∧ Off1 d2 w4 w') := by
              cases hr : roomB (es2.map Prod.fst ++ [xk]) with
              | true => exact (cinsert_yes HC2.out HG2.out.1 HXK.out HKN.out.1 hr).mono fun e w' ⟨he, ⟨T', h1, h2⟩, h3⟩ => ⟨true, T', _, he, h1, h2, by rw [HGB.out]; exact HG2.out.2.yes xk k, h3⟩
              | false => exact (cinsert_no HC2.out HG2.out.1 HXK.out HKN.out.2 (by rw [hr, Bool.and_false])).mono fun e w' ⟨he, h1⟩ => ⟨false, T2, es2, he, HC2.out.below h1, HG2.out.1, by rw [HGB.out]; exact HG2.out.2.no hr, Off1.of_below h1⟩
            have hc2 := HCK.out w4 HB.out
            obtain ⟨p1, hp1⟩ : ∃ p, (r1 && o1) = p := ⟨_, rfl⟩
            rw [hp1] at HG1
            cases r1 with
            | true =>
              obtain rfl : o1 = p1 := by simpa using hp1
              clear hp1
              go_wp2_with fail
              refine C2.out.mono ?_
              rintro e w5 ⟨r2, T2', es2', rfl, hck2, hf2, hg2, ho⟩
              have HC2 := Go.Lib.hid hck2
              have HC1 := Go.Lib.hid (HC1.out.same (ho.block d1 HC1.out.lt HNE.out))
              have HB := Go.Lib.hid (HB.out.trans (ho.below HD2.out HB.out.size))
              cases r2 with
              | true =>
                have HG2 := Go.Lib.hid (And.intro hf2 hg2)
                simp only [Bool.true_and] at HG2
                clear hck2 hf2 hg2 ho C2 hc2
                go_wp2_with fail
                go_roundw
                case rel => exact ⟨j + 1, T1', T2', es1', es2', _, _, by have := HJN.out; omega, by go_num, rfl, rfl, HC1.out, HC2.out, Go.Lib.hid ⟨HG1.out, HG2.out⟩, HB.out⟩
                case measure => simp only [intOf]; have := HJN.out; omega
              | false =>
                have HG2 := Go.Lib.hid (And.intro hf2 hg2)
                simp only [Bool.false_and] at HG2
                clear hck2 hf2 hg2 ho C2 hc2
                go_wp2_with fail
                go_roundw
                case rel => exact ⟨j + 1, T1', T2', es1', es2', _, false, by have := HJN.out; omega, by go_num, rfl, rfl, HC1.out, HC2.out, Go.Lib.hid ⟨HG1.out, HG2.out⟩, HB.out⟩
                case measure => simp only [intOf]; have := HJN.out; omega
            | false =>
              obtain rfl : false = p1 := by simpa using hp1
              clear hp1
              go_wp2_with fail
              refine C2.out.mono ?_
              rintro e w5 ⟨r2, T2', es2', rfl, hck2, hf2, hg2, ho⟩
              have HC2 := Go.Lib.hid hck2
              have HC1 := Go.Lib.hid (HC1.out.same (ho.block d1 HC1.out.lt HNE.out))
              have HB := Go.Lib.hid (HB.out.trans (ho.below HD2.out HB.out.size))
              cases r2 with
              | true =>
                have HG2 := Go.Lib.hid (And.intro hf2 hg2)
                simp only [Bool.true_and] at HG2
                clear hck2 hf2 hg2 ho C2 hc2
                go_wp2_with fail
                go_roundw
                case rel => exact ⟨j + 1, T1', T2', es1', es2', false, _, by have := HJN.out; omega, by go_num, rfl, rfl, HC1.out, HC2.out, Go.Lib.hid ⟨HG1.out, HG2.out⟩, HB.out⟩
                case measure => simp only [intOf]; have := HJN.out; omega
              | false =>
                have HG2 := Go.Lib.hid (And.intro hf2 hg2)
                simp only [Bool.false_and] at HG2
                clear hck2 hf2 hg2 ho C2 hc2
                go_wp2_with fail
                go_roundw
                case rel => exact ⟨j + 1, T1', T2', es1', es2', false, false, by have := HJN.out; omega, by go_num, rfl, rfl, HC1.out, HC2.out, Go.Lib.hid ⟨HG1.out, HG2.out⟩, HB.out⟩
                case measure => simp only [intOf]; have := HJN.out; omega
          · obtain rfl : j = nn := by omega
            have e1 := hg.out.1.2.end hg.out.1.1
            have e2 := hg.out.2.2.end hg.out.2.1
            rw [List.take_of_length_le (by omega)] at e1
            rw [← hLn, room_perm (gB_perm t (by omega))] at e2
            have HLEN1 := Go.Lib.hid (fun h : o1 = true => show (slL T1).length = j from by
              have h1 := hg.out.1.2.1 h
              have h2 := congrArg List.length h1
              rw [List.length_map, List.take_of_length_le (by omega), hLn] at h2
              rw [hg.out.1.1.length, h2])
            have HLEN2 := Go.Lib.hid (fun h : o2 = true => show (slL T2).length = j from by
              have h1 := hg.out.2.2.1 h
              have h2 := congrArg List.length h1
              rw [List.length_map] at h2
              have h3 : (gB L t j).length = j := by unfold gB; simp
              rw [hg.out.2.1.length, h2, h3])
            have CR := Go.Lib.hid (fun W (hW : Below w.heap.size w W) => rroom_c _ L W (HV.out.below (hW.mono (Nat.le_refl _))) HLT.out (by omega))
            obtain ⟨R, hR⟩ : ∃ R, roomB L = R := ⟨_, rfl⟩
            rw [hR] at e1 e2 CR
            subst e1
            obtain rfl : o2 = o1 := e2
            have HC1 := Go.Lib.hid hck1
            have HC2 := Go.Lib.hid hck2
            have HB := Go.Lib.hid hbc
            clear hg hck1 hck2 hbc hR hjn
            cases o2 with
            | false =>
              go_wp2_with fail
              refine (CR.out _ HB.out).mono ?_
              rintro e w4 ⟨rfl, rfl⟩
              go_wp2_with fail
              go_ret
              exact ⟨rfl, HB.out⟩
            | true =>
              have CL1 := Go.Lib.hid (fun W (hW : Below wr.heap.size wr W) => clen_c (HC1.out.below hW))
              have CL2 := Go.Lib.hid (fun W (hW : Below wr.heap.size wr W) => clen_c (HC2.out.below hW))
              rw [HLEN1.out rfl] at CL1
              rw [HLEN2.out rfl] at CL2
              go_wp2_with fail
              refine (CR.out _ HB.out).mono ?_
              rintro e w4 ⟨rfl, rfl⟩
              go_wp2_with fail
              refine (CL1.out _ (Below.refl _ _)).mono ?_
              rintro e w5 ⟨rfl, hc⟩
              have HBR := Go.Lib.hid hc
              clear hc
              go_wp2_with fail
              refine (CL2.out _ HBR.out).mono ?_
              rintro e w6 ⟨rfl, hc⟩
              have HBR := Go.Lib.hid (below_to HBR.out (Nat.le_refl _) hc)
              clear hc
              go_wp2_with fail
              go_ret
              exact ⟨rfl, below_to HB.out (Nat.le_refl _) HBR.out⟩

/-! ### THE ROW's STEP: WRITTEN OUT: LEAVE IT -/
set_option maxRecDepth 100000 in
theorem lifted (os : Os) (started : os.Started) (H : Type) (enc : TypeId × Value → H) :
    ReturnsInHanded {} Try.checked os 4 .any (Rows.cuckooOrderSpec.pre6 enc Try.prog Try.f4 Rows.cuckooOrderRow.domain false) (Rows.cuckooOrderSpec.post enc Try.prog Try.f4 false true false false) := by
  refine returnsInHanded_of_change (C := Try.checked) own started (by kernel_rfl) Try.func4
    (ChangeSpec.witness6 (enc := enc) (C := Try.checked) false ⟨#[], #[.slice none 0 0, .int .i64 0], []⟩ 8 (by kernel_rfl) (by kernel_rfl) (by kernel_rfl) (by kernel_rfl)) ?_
  intro W base args ds gs before hval0 hW hcnd _
  have hval : ∀ (j : Nat) t v, Try.f4.params[j]? = some t → args[j]? = some v → Value.okWide Try.prog W .any base t v := hval0
  have hW' := hW
  obtain ⟨p, q, hA0, hV, rfl, hfz, hnd⟩ := hW
  have hA : DataW.TrodAll enc Try.prog W 0 (fun _ => true) true Try.f4.params.toList args.toList ds p := hA0
  rw [Try.params4] at hA hval
  obtain ⟨v0, vs0, d0, ds0, p0, q0, hargs, rfl, rfl, h0, r0⟩ := trodAll_cons hA
  obtain ⟨v1, vs1, d1, ds1, p1, q1, rfl, rfl, rfl, h1, r1⟩ := trodAll_cons r0
  obtain ⟨rfl, rfl, rfl⟩ := trodAll_nil r1
  obtain rfl : args = #[v0, v1] := by cases args; simp_all
  obtain ⟨rfl, rfl⟩ := trodVars_none hV
  obtain ⟨a0, len0, cap0, rfl⟩ := okWide_slice Try.underlying27 (hval 0 27 v0 rfl rfl)
  have k0 := h0
  have lt0 : ∀ x ∈ p0, x.block < W.heap.size := by obtain ⟨m, hm⟩ := k0; exact DataW.trod_lt m _ _ _ hm
  obtain ⟨z0, w0⟩ : ∃ zs, IsRow .u64 W a0 len0 cap0 zs := by
    obtain ⟨fuel, hf⟩ := h0
    rcases open_ints Try.underlying27 Try.underlying28 (by kernel_rfl) hf with ⟨hcs, _⟩ | ⟨x, l, c, zs, hcs, _, hl, hm, hz, _, hcell, hwz⟩
    · simp [Value.cells] at hcs
      obtain ⟨rfl, rfl, rfl⟩ := hcs
      exact ⟨[], .inl ⟨rfl, rfl, rfl, rfl⟩⟩
    · simp [Value.cells] at hcs
      obtain ⟨rfl, rfl, rfl⟩ := hcs
      exact ⟨zs, .inr ⟨_, rfl, hl, hm, by simpa using hz, hcell, hwz⟩⟩
  obtain ⟨a1, rfl, rfl, rfl, w1⟩ := open_int Try.underlying3 (hval 1 3 v1 rfl rfl) h1
  clear hA0 hval0
  refine (walk a0 len0 cap0 z0 a1 W w0 w1).mono fun e W' ⟨he, bel⟩ => ?_
  subst he
  exact ⟨_, rfl, _, _, _, [], _, [], hW', trodAll_mk1 (shut_bool Try.underlying4 _), (trodAll_cons_mk (Below.trod laidOut (by kernel_rfl) (of_decide_eq_true (by kernel_rfl)) k0 bel lt0) (trodAll_cons_mk (shut_int Try.underlying3 w1) trodAll_mk0)), rfl, bel.frame _, fun h => by cases h⟩

theorem over : Rows.cuckooOrderRow.holds Try.pinned (OpenSpec.ofChange Rows.cuckooOrderSpec) :=
  OpenClaim.holds_of_wide 4 Try.f4 rfl rfl rfl rfl rfl rfl rfl ⟨rfl, rfl, rfl, rfl, rfl⟩ rfl rfl rfl rfl rfl (by kernel_rfl) Try.func4 (by kernel_rfl)
    (of_decide_eq_true (by kernel_rfl)) (by unfold Func.isWrapper; first | (rw [if_pos (by decide +kernel)]; kernel_rfl) | (rw [if_neg (by decide +kernel)]; exact ⟨rfl, rfl⟩))
    (fun os started H enc _ => lifted os started H enc)

/-- ████ THE STATEMENT ████ -/
theorem proved : Rows.CuckooOrderSaid := over
#print axioms proved
end Go.Proofs.Ytgbaeipemlcbcaa.cuckooOrder
