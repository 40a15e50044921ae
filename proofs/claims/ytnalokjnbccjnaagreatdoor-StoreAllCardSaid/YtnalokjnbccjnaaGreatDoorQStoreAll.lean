/- StoreAll: many files are changed at once; behind a crash, at any call of the device, whatever of the loose sectors stays, they are as behind the last change that was OK, or the one that was not, whole: for every input the law returns true. -/
import Derived.Test.YtnalokjnbccjnaaGreatDoorCards
import Derived.Test.YtnalokjnbccjnaaGreatDoorTie
import Derived.WalkKit
import Derived.ProofKit
import Derived.OpenShut
import Derived.ShutString
import Derived.ChangeOld
import Derived.Below
import Derived.Test.YtnalokjnbccjnaaGreatDoorM15
import Derived.Deep.DeepHandedRow
import Derived.SevenTiedAt
import Derived.LaidMore
import Derived.Stop.Joined
namespace Go.Proofs.YtnalokjnbccjnaaGreatDoor.storeAll
open Go.ChangeShapes Go.WideShapes Go.ChangeAt Go.RowKit
open Go.ChangeMaps (open_string shut_string)
set_option linter.unusedVariables false

theorem own : ownKnob Tryz.prog.godebug = none := by kernel_rfl
theorem laidOut : laidOutB Tryz.prog = true := by kernel_rfl

theorem tab_of {w : World} (L : laidMetH Tryz.prog Rows.storeAllRow.laid w) : Tab w := Tab.of (Lib.tabIs_of_head (rest := []) gNib (by kernel_rfl) Tryz.underlying199 Tryz.underlying155 (by kernel_rfl) (by kernel_rfl) L)

set_option maxHeartbeats 16000000 in
set_option maxRecDepth 100000 in
theorem walk (w : World) (L : laidMetH Tryz.prog Rows.storeAllRow.laid w) (a0 : Int) (w0 : (Lit.int .i64 a0).wf = true) (a1 : Option Addr) (len1 cap1 : Nat) (l1 : List OpS) (w1 : ROpS w (.slice a1 len1 cap1) l1) :
    Calls Tryz.prog 3 #[.int .i64 a0, .slice a1 len1 cap1] w fun e w' => e = .returned (.bool true) ∧ Below w.heap.size w w' := by
  have hT := tab_of L
  clear L w0
  have C0 := Go.Lib.hid (begun_c w hT)
  have HT := Go.Lib.hid hT; clear hT
  have HL := Go.Lib.hid w1
  have hlen := w1.len
  have HLEN := Go.Lib.hid hlen.1
  have hl63 := hlen.2
  clear w1 hlen
  obtain ⟨N, hN⟩ : ∃ N : Nat, (N : Int) = max 64 (min a0 300) := ⟨(max 64 (min a0 300)).toNat, by omega⟩
  have HN := Go.Lib.hid (show 64 ≤ N ∧ N ≤ 300 by omega)
  have hNe : max (64 : Int) (min a0 300) = (N : Int) := hN.symm
  clear hN
  go_enter Tryz.func3, Tryz.ntmps3
  go_wp2_with fail
  refine C0.out.mono ?_
  rintro e w1 ⟨rfl, hb1⟩
  have HB1 := Go.Lib.hid hb1
  have C1 := Go.Lib.hid (snew_c (N : Int) w1)
  clear hb1 C0
  go_wp2_with fail
  refine C1.out.mono ?_
  rintro e w2 ⟨d, g, rfl, hd2, hb2⟩
  rw [show lenD (N : Int) = N from by unfold lenD; have := HN.out; omega] at hd2
  have HB2 := Go.Lib.hid (HB1.out.trans (hb2.mono HB1.out.size))
  have C2 := Go.Lib.hid (make_ok (hd2.mono HB1.out.size) (HT.out.below HB2.out) HN.out.1 HT.out.low HB2.out.size)
  clear hd2 hb2 C1 HB1 hNe
  go_wp2_with fail
  refine C2.out.mono ?_
  rintro e w3 ⟨s, p, rfl, hw3, ht3, hb3, -⟩
  have HB3 := Go.Lib.hid (HB2.out.trans hb3)
  have HW3 := Go.Lib.hid (show StS w3 w.heap.size N 0 (.pointer (some ⟨d, 0, none⟩)) (.pointer (some ⟨s, 0, none⟩)) (.slice none 0 0) (.slice none 0 0) (.bool false) from .inl ⟨s, d, g, p, _, [], rfl, rfl, rfl, hw3, by show (4 : Int) ≤ _; omega, OwnF.nil _ _⟩)
  clear hw3 ht3 hb3 C2 HB2
  go_wp2_with fail
  go_loopw [6, 7, 9, 10, 11, 12] (fun v6 v7 v9 v10 v11 iv wr => ∃ (k : Nat) (dv sv nv mv bv : Value), dv = v6 ∧ sv = v7 ∧ nv = v9 ∧ mv = v10 ∧ bv = v11 ∧ k ≤ 40 ∧ iv = .int .i64 (k : Int) ∧ Hid (StS wr w.heap.size N k dv sv nv mv bv) ∧ Below w.heap.size w wr) (fun _ _ _ _ _ iv _ => 40 - (intOf iv).toNat)
  case atStart => exact ⟨0, _, _, _, _, _, rfl, rfl, rfl, rfl, rfl, by omega, rfl, HW3, HB3.out⟩
  case round =>
    obtain ⟨k, dv, sv, nv, mv, bv, rfl, rfl, rfl, rfl, rfl, hk, rfl, HS, hbw⟩ := hrel
    by_cases hin : k < len1 ∧ k < 40
    · obtain ⟨hkl, hk4⟩ := hin
      have hkI : (k : Int) < (len1 : Int) := by omega
      have hkI4 : (k : Int) < 40 := by omega
      have HK := Go.Lib.hid hk4
      obtain ⟨b, o, x, rfl, hok, -, c0, c1, c2, c3⟩ := (HL.out.below hbw).get k hkl
      obtain ⟨kd, nn, lv, ps, kv, ks⟩ := x
      simp only at c0 c1 c2 c3
      have bn := bounds_i64 hok.wn
      have hrp := hok.rp
      have hrk := hok.rk
      simp only at bn hrp hrk
      obtain ⟨al, ql, rfl, -⟩ := id hrp
      obtain ⟨ak, qk, rfl, -⟩ := hrk.zbForm
      have hal := newB wr (.cells #[.int .i64 kd, .int .i64 nn, .slice al ps.length ql, .slice ak ks.length qk] 34)
      obtain ⟨z0, z1, z2, z3⟩ := cell_of4 (heap_alloc_new wr (.cells #[.int .i64 kd, .int .i64 nn, .slice al ps.length ql, .slice ak ks.length qk] 34))
      have HSA := Go.Lib.hid (HS.out.below hal)
      have HBW := Go.Lib.hid (below_to hbw (Nat.le_refl _) hal)
      have HRP := Go.Lib.hid (hrp.below hal)
      have HRK := Go.Lib.hid (hrk.below hal)
      have HBN := Go.Lib.hid bn
      clear hk hkl hk4 hok bn hrp hrk hal hbw HS
      by_cases hk0 : kd = 0
      · subst hk0
        have CC := Go.Lib.hid (cutl_c (.slice al ps.length ql) ps HRP.out)
        go_wp2_with fail
        clear c0 c1 c2 c3 z0 z1 z2 z3
        refine CC.out.mono ?_
        rintro e w4 ⟨v14, rfl, ⟨O, hO⟩, hb4⟩
        have HB4 := Go.Lib.hid (below_to HBW.out (Nat.le_refl _) hb4)
        have HO4 := Go.Lib.hid hO
        have hS4 := HSA.out.below hb4
        clear hO hb4 CC HSA HRP HRK
        have HO5 := Go.Lib.hid (HO4.out.mono HBW.out.size)
        obtain ⟨p14, c14, rfl⟩ := HO4.out.1.form
        clear HO4
        rcases hS4 with hA | hD
        · as_aux_lemma => --ARM A
          obtain ⟨s4, d4, g4, p4, L4, X4, rfl, rfl, rfl, hlw, hcl, hof⟩ := hA
          have CD := Go.Lib.hid (done_c nv (.slice p14 O.length c14) X4 O hof hlw.size hlw.len HO5.out.1.rpt HO5.out.2.1 (fun x hx => by have := (HO5.out.2.2 x hx).1; omega))
          have HLW := Go.Lib.hid (And.intro hlw (And.intro hcl hof))
          clear hlw hcl hof
          go_wp2_with fail
          refine CD.out.mono ?_
          rintro e w5 ⟨v15, r16, rfl, hdn⟩
          have hb5 := hdn.bel
          have HB5 := Go.Lib.hid (below_to HB4.out (Nat.le_refl _) hb5)
          have CN := Go.Lib.hid (down_no (HLW.out.1.below hb5))
          have CA := Go.Lib.hid (apply_s (HLW.out.1.below hb5) HLW.out.2.1 (by have := HK.out; omega) (HLW.out.2.2.below hb5) (HT.out.below HB5.out) HT.out.low (HO5.out.below hb5) hdn)
          clear hdn hb5 CD HLW HO5
          go_wp2_with fail
          refine CN.out.mono ?_
          rintro e w5' ⟨rfl, rfl⟩
          clear CN
          go_wp2_with fail
          refine CA.out.mono ?_
          rintro e w6 ⟨r, rfl, hap⟩
          clear CA
          rcases hap with ⟨-, rfl, h15, hal6, hb6⟩ | ⟨rfl, rfl, hal6, hb6⟩ | ⟨rfl, rfl, hal6, hb6⟩ | ⟨rfl, rfl, hdw6, hb6⟩
          · rcases h15 with rfl | rfl
            · as_aux_lemma => --ARM A1
              have HB6 := Go.Lib.hid (HB5.out.trans hb6)
              have HA6 := Go.Lib.hid hal6
              have CQ1 := Go.Lib.hid (has_s hal6).1
              have CQ2 := Go.Lib.hid (has_s hal6).2
              clear hal6 hb6
              go_wp2_with fail
              refine CQ1.out.mono ?_
              rintro e w7 ⟨rfl, rfl⟩
              go_wp2_with fail
              refine CQ2.out.mono ?_
              rintro e w7 ⟨rfl, hb7⟩
              have HF := Go.Lib.hid (And.intro (HA6.out.below hb7) (below_to HB6.out (Nat.le_refl _) hb7))
              clear hb7 CQ1 CQ2
              go_wp2_with fail
              go_roundw
              case rel => exact ⟨k + 1, _, _, _, _, _, rfl, rfl, rfl, rfl, rfl, by have := HK.out; omega, by go_num, Go.Lib.hid (.inl HF.out.1), HF.out.2⟩
              case measure => simp only [intOf]; have := HK.out; omega
            · as_aux_lemma => --ARM A5
              have HB6 := Go.Lib.hid (HB5.out.trans hb6)
              have HA6 := Go.Lib.hid hal6
              have CQ1 := Go.Lib.hid (has_s hal6).1
              have CQ2 := Go.Lib.hid (has_s hal6).2
              clear hal6 hb6
              go_wp2_with fail
              refine CQ1.out.mono ?_
              rintro e w7 ⟨rfl, rfl⟩
              go_wp2_with fail
              refine CQ2.out.mono ?_
              rintro e w7 ⟨rfl, hb7⟩
              have HF := Go.Lib.hid (And.intro (HA6.out.below hb7) (below_to HB6.out (Nat.le_refl _) hb7))
              clear hb7 CQ1 CQ2
              go_wp2_with fail
              go_roundw
              case rel => exact ⟨k + 1, _, _, _, _, _, rfl, rfl, rfl, rfl, rfl, by have := HK.out; omega, by go_num, Go.Lib.hid (.inl HF.out.1), HF.out.2⟩
              case measure => simp only [intOf]; have := HK.out; omega
          · as_aux_lemma => --ARM A0
            have HB6 := Go.Lib.hid (HB5.out.trans hb6)
            have HA6 := Go.Lib.hid hal6
            have CQ1 := Go.Lib.hid (has_s hal6).1
            have CQ2 := Go.Lib.hid (has_s hal6).2
            clear hal6 hb6
            go_wp2_with fail
            refine CQ1.out.mono ?_
            rintro e w7 ⟨rfl, rfl⟩
            go_wp2_with fail
            refine CQ2.out.mono ?_
            rintro e w7 ⟨rfl, hb7⟩
            have HF := Go.Lib.hid (And.intro (HA6.out.below hb7) (below_to HB6.out (Nat.le_refl _) hb7))
            clear hb7 CQ1 CQ2
            go_wp2_with fail
            go_roundw
            case rel => exact ⟨k + 1, _, _, _, _, _, rfl, rfl, rfl, rfl, rfl, by have := HK.out; omega, by go_num, Go.Lib.hid (.inl HF.out.1), HF.out.2⟩
            case measure => simp only [intOf]; have := HK.out; omega
          · as_aux_lemma => --ARM A4
            have HB6 := Go.Lib.hid (HB5.out.trans hb6)
            have HA6 := Go.Lib.hid hal6
            have CQ1 := Go.Lib.hid (has_s hal6).1
            have CQ2 := Go.Lib.hid (has_s hal6).2
            clear hal6 hb6
            go_wp2_with fail
            refine CQ1.out.mono ?_
            rintro e w7 ⟨rfl, rfl⟩
            go_wp2_with fail
            refine CQ2.out.mono ?_
            rintro e w7 ⟨rfl, hb7⟩
            have HF := Go.Lib.hid (And.intro (HA6.out.below hb7) (below_to HB6.out (Nat.le_refl _) hb7))
            clear hb7 CQ1 CQ2
            go_wp2_with fail
            go_roundw
            case rel => exact ⟨k + 1, _, _, _, _, _, rfl, rfl, rfl, rfl, rfl, by have := HK.out; omega, by go_num, Go.Lib.hid (.inl HF.out.1), HF.out.2⟩
            case measure => simp only [intOf]; have := HK.out; omega
          · as_aux_lemma => --ARM A7
            have HB6 := Go.Lib.hid (HB5.out.trans hb6)
            have HD6 := Go.Lib.hid hdw6
            have CQ1 := Go.Lib.hid (down_s hdw6).1
            clear hdw6 hb6
            go_wp2_with fail
            refine CQ1.out.mono ?_
            rintro e w7 ⟨rfl, rfl⟩
            go_wp2_with fail
            refine CQ1.out.mono ?_
            rintro e w7 ⟨rfl, rfl⟩
            clear CQ1
            go_wp2_with fail
            go_roundw
            case rel => exact ⟨k + 1, _, _, _, _, _, rfl, rfl, rfl, rfl, rfl, by have := HK.out; omega, by go_num, Go.Lib.hid (.inr HD6.out), HB6.out⟩
            case measure => simp only [intOf]; have := HK.out; omega
        · as_aux_lemma => --ARM D
          have HD := Go.Lib.hid hD
          obtain ⟨s4, d4, g4, p4, X4, Y4, rfl, rfl, rfl, hlx, hof, hXl, -⟩ := hD
          have CD := Go.Lib.hid (done_c nv (.slice p14 O.length c14) X4 O hof hlx.size hXl HO5.out.1.rpt HO5.out.2.1 (fun x hx => by have := (HO5.out.2.2 x hx).1; omega))
          clear hlx hof hXl
          go_wp2_with fail
          refine CD.out.mono ?_
          rintro e w5 ⟨v15, r16, rfl, hdn⟩
          have hb5 := hdn.bel
          have HB5 := Go.Lib.hid (below_to HB4.out (Nat.le_refl _) hb5)
          have HD5 := Go.Lib.hid (HD.out.below hb5)
          have CN := Go.Lib.hid (down_s HD5.out).1
          have CA := Go.Lib.hid ((down_s HD5.out).2 (.slice p14 O.length c14))
          clear hdn hb5 CD HD HO5
          go_wp2_with fail
          refine CN.out.mono ?_
          rintro e w6 ⟨rfl, rfl⟩
          go_wp2_with fail
          refine CA.out.mono ?_
          rintro e w6 ⟨rfl, rfl⟩
          clear CA
          go_wp2_with fail
          refine CN.out.mono ?_
          rintro e w6 ⟨rfl, rfl⟩
          go_wp2_with fail
          refine CN.out.mono ?_
          rintro e w6 ⟨rfl, rfl⟩
          clear CN
          go_wp2_with fail
          go_roundw
          case rel => exact ⟨k + 1, _, _, _, _, _, rfl, rfl, rfl, rfl, rfl, by have := HK.out; omega, by go_num, Go.Lib.hid (StS.more (.inr HD5.out)), HB5.out⟩
          case measure => simp only [intOf]; have := HK.out; omega
      · have hb0 : (kd == 0) = false := by rw [beq_eq_false_iff_ne]; exact hk0
        by_cases hk2 : kd = 2
        · as_aux_lemma => --ARM F
          subst hk2
          have CF := Go.Lib.hid (fuse_any HSA.out nn HBN.out.1 HBN.out.2)
          clear hb0 hk0 HSA
          go_wp2_with fail
          clear c0 c1 c2 c3 z0 z1 z2 z3
          refine CF.out.mono ?_
          rintro e w4 ⟨rfl, hs4, hb4⟩
          have HF := Go.Lib.hid (And.intro hs4.more (HBW.out.trans hb4))
          clear hs4 hb4 CF
          go_wp2_with fail
          go_roundw
          case rel => exact ⟨k + 1, _, _, _, _, _, rfl, rfl, rfl, rfl, rfl, by have := HK.out; omega, by go_num, Go.Lib.hid HF.out.1, HF.out.2⟩
          case measure => simp only [intOf]; have := HK.out; omega
        · as_aux_lemma => --ARM C
          have hb2 : (kd == 2) = false := by rw [beq_eq_false_iff_ne]; exact hk2
          have CC := Go.Lib.hid (crash_any HSA.out (.slice ak ks.length qk) ks HRK.out)
          clear HSA HRK HRP
          go_wp2_with fail
          clear c0 c1 c2 c3 z0 z1 z2 z3 hb0 hb2 hk0 hk2
          refine CC.out.mono ?_
          rintro e w4 ⟨d', g', Z, rfl, hld, hcr, hb4⟩
          have HB4 := Go.Lib.hid (below_to HBW.out (Nat.le_refl _) hb4)
          have CO := Go.Lib.hid (open_ok hld (HT.out.below HB4.out) hb4.size)
          have HCR := Go.Lib.hid hcr
          clear hld hcr hb4 CC
          go_wp2_with fail
          refine CO.out.mono ?_
          rintro e w5 ⟨s', p', rfl, hlw, hb5, -⟩
          have hlw5 := hlw.mono HBW.out.size
          have HB5 := Go.Lib.hid (below_to HB4.out (Nat.le_refl _) hb5)
          have HCR5 := Go.Lib.hid (HCR.out.below hb5)
          have HLW5 := Go.Lib.hid hlw5
          have CN := Go.Lib.hid (down_no hlw5)
          have CL := Go.Lib.hid hlw5.loose
          clear hlw hlw5 hb5 CO HCR
          go_wp2_with fail
          refine CN.out.mono ?_
          rintro e w6 ⟨rfl, rfl⟩
          clear CN
          go_wp2_with fail
          refine CL.out.mono ?_
          rintro e w6 ⟨av, cv, rfl, hb6⟩
          have HB6 := Go.Lib.hid (below_to HB5.out (Nat.le_refl _) hb6)
          have HLW6 := Go.Lib.hid (HLW5.out.below hb6)
          obtain ⟨X, hX, hXl, hor⟩ := HCR5.out.below hb6
          have CH := Go.Lib.hid (has_c HLW6.out nv X hX (by omega))
          have HX := Go.Lib.hid (And.intro hX hor)
          clear hb6 CL HLW5 HCR5 hX hXl hor
          go_wp2_with fail
          refine CH.out.mono ?_
          rintro e w7 ⟨r, rfl, hr, hb7⟩
          have HB7 := Go.Lib.hid (below_to HB6.out (Nat.le_refl _) hb7)
          have HLW7 := Go.Lib.hid (HLW6.out.below hb7)
          clear CH
          cases r with
          | true =>
            have hZ := hr.1 rfl
            have HF := Go.Lib.hid (show AliveS w7 w.heap.size N (k + 1) (.pointer (some ⟨d', 0, none⟩)) (.pointer (some ⟨s', 0, none⟩)) nv (.bool false) from ⟨s', d', g', p', _, Z, rfl, rfl, rfl, HLW7.out.turn (by omega), by show (0 : Int) ≤ _; omega, by rw [hZ]; exact HX.out.1.below hb7⟩)
            clear hr hb7 hZ HX HLW6 HLW7
            go_wp2_with fail
            go_roundw
            case rel => exact ⟨k + 1, _, _, _, _, _, rfl, rfl, rfl, rfl, rfl, by have := HK.out; omega, by go_num, Go.Lib.hid (.inl HF.out), HB7.out⟩
            case measure => simp only [intOf]; have := HK.out; omega
          | false =>
            have hZ : Z ≠ X := fun h => by have := hr.2 h; cases this
            obtain ⟨rfl, hmv, hZl⟩ := HX.out.2.resolve_left hZ
            have CH := Go.Lib.hid (has_c HLW7.out mv Z (hmv.below hb7) (by omega))
            have HMV := Go.Lib.hid (hmv.below hb7)
            clear hr hb7 hZ hmv hZl HX HLW6
            go_wp2_with fail
            refine CH.out.mono ?_
            rintro e w8 ⟨r, rfl, hr, hb8⟩
            obtain rfl : r = true := by simpa using hr
            have HF := Go.Lib.hid (show AliveS w8 w.heap.size N (k + 1) (.pointer (some ⟨d', 0, none⟩)) (.pointer (some ⟨s', 0, none⟩)) mv (.bool false) from ⟨s', d', g', p', _, Z, rfl, rfl, rfl, (HLW7.out.below hb8).turn (by omega), by show (0 : Int) ≤ _; omega, HMV.out.below hb8⟩)
            have HB8 := Go.Lib.hid (below_to HB7.out (Nat.le_refl _) hb8)
            clear hr hb8 CH HMV HLW7
            go_wp2_with fail
            go_roundw
            case rel => exact ⟨k + 1, _, _, _, _, _, rfl, rfl, rfl, rfl, rfl, by have := HK.out; omega, by go_num, Go.Lib.hid (.inl HF.out), HB8.out⟩
            case measure => simp only [intOf]; have := HK.out; omega
    · have HBW := Go.Lib.hid hbw
      clear hbw HS
      by_cases hkl : k < len1
      · have hkI : (k : Int) < (len1 : Int) := by omega
        have hkI4 : ¬ (k : Int) < 40 := by omega
        clear hin
        go_wp2_with fail
        go_ret
        exact ⟨rfl, HBW.out⟩
      · have hkI : ¬ (k : Int) < (len1 : Int) := by omega
        clear hin
        go_wp2_with fail
        go_ret
        exact ⟨rfl, HBW.out⟩

/-! ### THE ROW -/
noncomputable def laidWorld (os : Os) : World := World.doorLaid Tryz.prog 400 os
theorem laid_met (os : Os) : laidMetH Tryz.prog Rows.storeAllRow.laid ((laidWorld os).forCall (fun _ _ => 0) ⟨#[], #[.int .i64 0, .slice none 0 0], []⟩).memory :=
  laidMetH_of_parts3 (fuel := 8) (laidMet_of_run' 8 (by kernel_rfl) (by kernel_rfl)) (by kernel_rfl) (by kernel_rfl)
theorem reads (os : Os) {H : Type} (enc : TypeId × Value → H) : ∃ places, DataW.whole enc Tryz.prog ((laidWorld os).forCall (fun _ _ => 0) ⟨#[], #[.int .i64 0, .slice none 0 0], []⟩).memory Tryz.f3.params.toList Rows.storeAllSpec.vars false (Array.toList #[.int .i64 0, .slice none 0 0]) 8 = some ([.lit (.int .i64 0), .nil], [], places) :=
  ⟨[], by kernel_rfl⟩

set_option maxRecDepth 100000 in
theorem lifted (os : Os) (started : os.Started) (H : Type) (enc : TypeId × Value → H) (F : Stop.Interp) :
    ReturnsInHanded {} Tryz.checked os 3 .any ((OpenSpec.ofChange Rows.storeAllSpec).preRow enc Tryz.prog Tryz.f3 Rows.storeAllRow.domain false Rows.storeAllRow.laid) (((OpenSpec.ofChange Rows.storeAllSpec).at F).post enc Tryz.prog Tryz.f3 false true false false) := by
  obtain ⟨places, hx⟩ := reads os enc
  refine returnsInHanded_of_row (C := Tryz.checked) (s := OpenSpec.ofChange Rows.storeAllSpec) own started (by kernel_rfl) Tryz.func3
    (witness_row_at (enc := enc) (C := Tryz.checked) false (laidWorld os) #[.int .i64 0, .slice none 0 0] rfl (by kernel_rfl) (by kernel_rfl) (by kernel_rfl)
      (OpenSpec.preRow_of_cond 8 hx (by kernel_rfl) (fun k hk => by cases hk) (by kernel_rfl) (laid_met os))) ?_
  intro W base args ds gs before hval0 hW _ _ _ hL _ _
  have hval : ∀ (j : Nat) t v, Tryz.f3.params[j]? = some t → args[j]? = some v → Value.okWide Tryz.prog W .any base t v := hval0
  have hW' := hW
  obtain ⟨p, q, hA0, hV, rfl, hfz, hnd⟩ := hW
  have hA : DataW.TrodAll enc Tryz.prog W 0 (fun _ => true) true Tryz.f3.params.toList args.toList ds p := hA0
  rw [Tryz.params3] at hA hval
  obtain ⟨v0, vs0, d0, ds0, p0, q0, hargs, rfl, rfl, h0, r0⟩ := trodAll_cons hA
  obtain ⟨v1, vs1, d1, ds1, p1, q1, rfl, rfl, rfl, h1, r1⟩ := trodAll_cons r0
  obtain ⟨rfl, rfl, rfl⟩ := trodAll_nil r1
  obtain rfl : args = #[v0, v1] := by cases args; simp_all
  obtain ⟨rfl, rfl⟩ := trodVars_none hV
  have kk0 := h0
  have lt0 : ∀ x ∈ p0, x.block < W.heap.size := by obtain ⟨m, hm⟩ := kk0; exact DataW.trod_lt m _ _ _ hm
  have kk1 := h1
  have lt1 : ∀ x ∈ p1, x.block < W.heap.size := by obtain ⟨m, hm⟩ := kk1; exact DataW.trod_lt m _ _ _ hm
  obtain ⟨a0, rfl, rfl, rfl, w0⟩ := open_int Tryz.underlying3 (hval 0 3 v0 rfl rfl) h0
  obtain ⟨a1, len1, cap1, rfl⟩ := okWide_slice Tryz.underlying22 (hval 1 22 v1 rfl rfl)
  obtain ⟨l1, w1⟩ := open_opss h1
  clear hA0 hval0
  refine (walk W hL a0 w0 a1 len1 cap1 l1 w1).mono fun e W' ⟨he, bel⟩ => ?_
  subst he
  exact ⟨_, rfl, _, _, _, [], _, [], hW', trodAll_mk1 (shut_bool Tryz.underlying4 _), (trodAll_cons_mk (Below.trod laidOut (by kernel_rfl) (of_decide_eq_true (by kernel_rfl)) kk0 bel lt0) (trodAll_cons_mk (Below.trod laidOut (by kernel_rfl) (of_decide_eq_true (by kernel_rfl)) kk1 bel lt1) trodAll_mk0)), rfl, bel.frame _, fun h => by cases h⟩

theorem said : Rows.StoreAllSaid :=
  OpenClaim.holds_of_cond 3 Tryz.f3 rfl rfl rfl rfl rfl rfl rfl ⟨rfl, rfl, rfl, rfl, rfl⟩ rfl rfl rfl rfl rfl (by kernel_rfl) Tryz.func3 (by kernel_rfl)
    (of_decide_eq_true (by kernel_rfl)) (by unfold Func.isWrapper; first | (rw [if_pos (by decide +kernel)]; kernel_rfl) | (rw [if_neg (by decide +kernel)]; exact ⟨rfl, rfl⟩))
    (fun os started H enc _ F => by rw [OpenClaim.pre_eq_preRow]; exact lifted os started H enc F)

/-- No parameter wants a stand-in; the program's own looks are off: what the card asks. -/
theorem plain (f : FuncId) (fn : Func) (hf : Tryz.pinned.checked.prog.funcNamed "loess/loesslaw15.StoreAll" = some f) (hfn : Tryz.pinned.checked.prog.funcs[f]? = some fn) :
    false = Tryz.pinned.checked.prog.looks [] ∧ ∀ (j : Nat) t, fn.params[j]? = some t → Tryz.pinned.checked.prog.wantsStandIn t = false := by
  obtain rfl : f = 3 := Option.some.inj ((show Tryz.prog.funcNamed "loess/loesslaw15.StoreAll" = some 3 by kernel_rfl).symm.trans hf) |>.symm
  obtain rfl : fn = Tryz.f3 := (Option.some.inj (Tryz.func3.symm.trans hfn)).symm
  refine ⟨by kernel_rfl, fun j t ht => ?_⟩
  rw [Tryz.params3] at ht
  have hm : t ∈ [3, 22] := by simpa using Array.mem_of_getElem? ht
  have hall : ([3, 22].all fun u => !Tryz.prog.wantsStandIn u) = true := by kernel_rfl
  exact (show Tryz.prog.wantsStandIn t = false by simpa using List.all_eq_true.1 hall t hm)

/-- THE CARD. -/
theorem proved : Rows.StoreAllCardSaid :=
  Claim7.holds_tied_plain_at .later [] _ _ _ _ said (fun _ h => by cases h) (by kernel_rfl) (fun _ h => by cases h) storeAll_row_tie rfl ⟨rfl, rfl⟩ (by kernel_rfl) rfl plain (by kernel_rfl)
end Go.Proofs.YtnalokjnbccjnaaGreatDoor.storeAll
