/- LogRoom: what finds no place changes nothing; a key that is there can always be put again: for every number the law returns true. -/
import Derived.Test.YtkddleonmkhaiaaRows
import Derived.WalkKit
import Derived.ProofKit
import Derived.OpenShut
import Derived.ShutString
import Derived.Test.YtkddleonmkhaiaaM31
import Derived.Deep.CutBlock
import Derived.Deep.DeepCutAuto
namespace Go.Proofs.Ytkddleonmkhaiaa.logRoom
open Go.ChangeShapes Go.WideShapes Go.ChangeAt Go.RowKit
open Go.ChangeMaps (open_string shut_string)
set_option linter.unusedVariables false      -- a walk need not use every 'w<i>' (that an integer argument fits its kind)

theorem own : ownKnob Try.prog.godebug = none := by kernel_rfl

set_option maxHeartbeats 4000000 in
set_option maxRecDepth 100000 in
theorem walk (a0 : Int) (w0 : (Lit.int .i64 a0).wf = true) (w : World) :
    Calls Try.prog 6 #[.int .i64 a0] w fun e w' => e = .returned (.bool true) ∧ Below w.heap.size w w' := by
  clear w0
  obtain ⟨c, hc, hc15⟩ := and15 a0
  have HC := Go.Lib.hid hc
  clear hc
  go_enter Try.func6, Try.ntmps6
  go_wp2_with fail
  refine (begun_c _).mono ?_
  rintro e w1 ⟨rfl, hb⟩
  have HB := Go.Lib.hid hb
  clear hb
  go_wp2_with fail
  refine (lnew_c _).mono ?_
  rintro e w2 ⟨p, d, rfl, hl, hb⟩
  have HL := Go.Lib.hid (hl.mono HB.out.size)
  have HB := Go.Lib.hid (HB.out.trans (hb.mono HB.out.size))
  clear hb hl
  go_upto_block 0 with fail
  go_cut [6] (fun _ wx => ∃ (v : Value) (L : List RecT), Hid (LG wx w.heap.size p d v L) ∧ Hid (Below w.heap.size w wx))
  case first =>
    go_wp2_with fail
    go_loopw [5, 6] (fun uv ki wr => ∃ (k : Nat) (v u : Value) (L : List RecT), u = uv ∧ k ≤ 60 ∧ ki = .int .i64 (k : Int) ∧ Hid (LG wr w.heap.size p d v L) ∧ Hid (OwnRec wr w.heap.size u (newestR L) ∧ Apart u v) ∧ Hid (Below w.heap.size w wr)) (fun _ ki _ => 60 - (intOf ki).toNat)
    case atStart => exact ⟨0, _, _, [], rfl, by omega, rfl, HL, Go.Lib.hid ⟨OwnRec.nil _ _, Apart.nil _⟩, HB⟩
    case round =>
      obtain ⟨k, v, u, L, rfl, hk, rfl, HL, HU, HB⟩ := hrel
      by_cases hlt : k < 60
      · obtain ⟨X, hX⟩ : ∃ X : Int, X = (((k * 7 + c) % 26 : Nat) : Int) := ⟨_, rfl⟩
        obtain ⟨Y, hY⟩ : ∃ Y : Int, Y = ((k % 25 : Nat) : Int) := ⟨_, rfl⟩
        have r1 : ((k : Int) * 7 + (c : Int)).tmod 26 = X := by rw [hX, Int.tmod_eq_emod_of_nonneg (by omega)]; omega
        have r2 : (k : Int).tmod 25 = Y := by rw [hY, Int.tmod_eq_emod_of_nonneg (by omega)]; omega
        have x1 : 0 ≤ X := by omega
        have x2 : X ≤ 25 := by omega
        have y1 : 0 ≤ Y := by omega
        have y2 : Y ≤ 24 := by omega
        have HX := Go.Lib.hid hX
        have HY := Go.Lib.hid hY
        have hc := HC.out
        have HBY := Go.Lib.hid (RB.lits wr 5 (0, 0) (nmR c k) #[.int .u8 (97 + X), .int .u8 (97 + Y)] 2 (by
          have e1 : ((UInt8.ofNat (97 + (k * 7 + c) % 26)).toNat : Int) = 97 + X := by rw [UInt8.toNat_ofNat', HX.out]; omega
          have e2 : ((UInt8.ofNat (97 + k % 25)).toNat : Int) = 97 + Y := by rw [UInt8.toNat_ofNat', HY.out]; omega
          unfold nmR cells
          simp only [List.map_cons, List.map_nil, e1, e2]) rfl (by simp [nmR]))
        clear hX hY
        go_upto_region 10 with (first
          | (with_reducible show wpList _ _ _ (⟨some 34, _, _, _, _, _⟩ :: _) _ _; go_loud (refine wpList_string_RB rfl (.tmp 33) 39 9 rfl 5 Try.underlying39 Try.underlying5 Try.underlying9 (.slice (some ⟨wr.heap.size, 0, none⟩) 2 2) (nmR c k) rfl HBY.out ?_))
          | fail)
        have hbA := below_one wr (.cells #[.int .u8 (97 + X), .int .u8 (97 + Y)] 5)
        have HL2 := Go.Lib.hid (HL.out.below hbA)
        have HU2 := Go.Lib.hid (And.intro (HU.out.1.below hbA) HU.out.2)
        have HB2 := Go.Lib.hid (HB.out.trans (hbA.mono HB.out.size))
        have HKS := Go.Lib.hid (nmR_size c k)
        clear hbA HBY HX HY x1 x2 y1 y2 r1 r2 hc HL HU HB
        generalize wr.alloc (.cells #[.int .u8 (97 + X), .int .u8 (97 + Y)] 5) = w3 at *
        generalize str (nmR c k) = ks at *
        go_upto_region 11 with (fail)
        have hbA := below_one w3 (.cells #[.string ks, .bool false, .int .i64 1, .int .i64 (k : Int), .string ⟨#[]⟩] 26)
        have HX := Go.Lib.hid (heap_alloc_new w3 (.cells #[.string ks, .bool false, .int .i64 1, .int .i64 (k : Int), .string ⟨#[]⟩] 26))
        have HL4 := Go.Lib.hid (HL2.out.below hbA)
        have HU4 := Go.Lib.hid (And.intro (HU2.out.1.below hbA) HU2.out.2)
        have HB4 := Go.Lib.hid (HB2.out.trans (hbA.mono HB2.out.size))
        obtain ⟨g4, hg4⟩ : ∃ g, g = w3.heap.size := ⟨_, rfl⟩
        rw [← hg4] at HX ⊢
        have HG4 := Go.Lib.hid (show w.heap.size ≤ g4 from by have := HB2.out.size; omega)
        have HGV := Go.Lib.hid (show v.ownBlock ≠ some g4 ∧ g4 ≠ p ∧ g4 ≠ d from by
          have h1 := HL2.out.plt
          have h2 := HL2.out.dlt
          exact ⟨fun e => by have := HL2.out.vlt g4 e; omega, by omega, by omega⟩)
        clear hbA hg4 HL2 HU2 HB2
        generalize w3.alloc (.cells #[.string ks, .bool false, .int .i64 1, .int .i64 (k : Int), .string ⟨#[]⟩] 26) = w4 at *
        have HLEN := Go.Lib.hid (show (newestR L).length ≤ 1000 from by have := newestR_len L; have := HL4.out.len; omega)
        have CR := Go.Lib.hid (rroomR_c u (newestR L) ks w4 HU4.out.1.rs HLEN.out (fun x hx => by have := mayT_short (HL4.out.may x ((newest_mem HL4.out.keys x).1 hx)); omega) (by have := HKS.out; omega))
        rw [roomR_newest HL4.out.keys] at CR
        have HM := Go.Lib.hid (may_num ks (k : Int) (by have := HKS.out; omega) (by have := HKS.out; omega))
        go_wp2_with fail
        refine CR.out.mono ?_
        rintro e w5 ⟨rfl, hb⟩
        have HL5 := Go.Lib.hid (HL4.out.below hb)
        have HU5 := Go.Lib.hid (And.intro (HU4.out.1.below hb) HU4.out.2)
        have HB5 := Go.Lib.hid (HB4.out.trans (hb.mono HB4.out.size))
        have HX5 := Go.Lib.hid (row_kept HX.out hb)
        obtain ⟨y0, y1, y2, y3, y4⟩ := row5 HX5.out
        have CP := lput_w HL5.out ks false 1 (k : Int) ⟨#[]⟩ (by have := HKS.out; unfold maxLen; omega) (by decide)
        rw [putE_zero HM.out] at CP
        simp only [] at CP
        unfold recV at CP
        have CP := Go.Lib.hid CP
        clear hb CR HL4 HU4 HB4 HX
        go_wp2_with fail
        refine CP.out.mono ?_
        rintro e w6 ⟨rfl, ⟨v6, hl, hn⟩, ho⟩
        have HK6 := Go.Lib.hid (kept_put HL5.out ho hn HU5.out.1 HU5.out.2)
        have HB6 := Go.Lib.hid (HB5.out.trans (HL5.out.offBelow ho))
        have HX6 := Go.Lib.hid (show w6.heap[g4]? = some (.cells #[.string ks, .bool false, .int .i64 1, .int .i64 (k : Int), .string ⟨#[]⟩] 26 (0, 0)) from (ho.block g4 (row_lt HX5.out) HGV.out.2.1 HGV.out.2.2 (fun e => HGV.out.1 e.symm)).trans HX5.out)
        have HL6 := Go.Lib.hid hl
        clear hl hn ho CP y0 y1 y2 y3 y4
        obtain ⟨y0, y1, y2, y3, y4⟩ := row5 HX6.out
        cases hr : roomR L ks with
        | true =>
          have HN := Go.Lib.hid (show putN L (ks, false, 1, (k : Int), ⟨#[]⟩) = putL L (ks, false, 1, (k : Int), ⟨#[]⟩) from putN_zero HM.out hr)
          rw [HN.out] at HL6
          have CS := rset_c u (newestR L) ks false 1 (k : Int) ⟨#[]⟩ w6 HK6.out.1.rs HLEN.out
          rw [← newest_put HL5.out.keys] at CS
          unfold recV at CS
          have CS := Go.Lib.hid CS
          clear hr HN
          go_wp2_with fail
          refine CS.out.mono ?_
          rintro e w7 ⟨v7, rfl, ho7, hb7⟩
          have HU7 := Go.Lib.hid (And.intro (ho7.mono HB6.out.size) (apart_new HL6.out (fun g hg => (World.ownsRow.lt ho7 g hg).1)))
          have HL7 := Go.Lib.hid (HL6.out.below hb7)
          have HB7 := Go.Lib.hid (HB6.out.trans (hb7.mono HB6.out.size))
          clear ho7 hb7 CS y0 y1 y2 y3 y4
          go_wp2_with fail
          exact ⟨⟨k + 1, _, _, _, rfl, by omega, by go_num, HL7, HU7, HB7⟩, by simp only [intOf]; omega⟩
        | false =>
          clear hr
          go_wp2_with fail
          go_meet
          exact ⟨_, _, HL6, HB6⟩
      · obtain rfl : k = 60 := by omega
        go_wp2_with fail
        go_meet
        exact ⟨_, _, HL, HB⟩
  case rest =>
    obtain ⟨v, L, HL, HB⟩ := hcut
    have CL := Go.Lib.hid (llist_c HL.out)
    go_wp2_with fail
    refine CL.out.mono ?_
    rintro e w3 ⟨v3, rfl, ho, hb⟩
    have HL3 := Go.Lib.hid (HL.out.below hb)
    have HB3 := Go.Lib.hid (HB.out.trans (hb.mono HB.out.size))
    have HO3 := Go.Lib.hid (And.intro (ho.mono HB.out.size) (apart_new HL.out (fun g hg => (World.ownsRow.lt ho g hg).1)))
    have HPE := Go.Lib.hid (newest_perm HL.out.keys)
    have HMAY := Go.Lib.hid HL.out.may
    obtain ⟨a3, c3, rfl, hm3⟩ := ho.rs.form
    have HLN := Go.Lib.hid (newest_len HL.out.keys)
    clear hb ho CL HL HB
    generalize newestR L = M at *
    go_wp2_with fail
    go_loopw [12] (fun ki wr => ∃ (k : Nat) (v : Value) (K : List RecT), k ≤ M.length ∧ ki = .int .i64 (k : Int) ∧ Hid (LG wr w.heap.size p d v K ∧ K.map keyR = L.map keyR) ∧ Hid (OwnRec wr w.heap.size (.slice a3 M.length c3) M ∧ Apart (.slice a3 M.length c3) v) ∧ Hid (Below w.heap.size w wr)) (fun ki _ => M.length - (intOf ki).toNat)
    case atStart => exact ⟨0, v, L, by omega, rfl, Go.Lib.hid ⟨HL3.out, rfl⟩, HO3, HB3⟩
    case round =>
      obtain ⟨k, v, K, hk, rfl, HL, HO, HB⟩ := hrel
      by_cases hlt : k < M.length
      · obtain ⟨b, o, rfl, -, -, c0, -⟩ := HO.out.1.rs.at k hlt
        have hix := run_idx5 b o M.length c3 k hlt
        have HIN := Go.Lib.hid (show ∃ y ∈ K, keyR y = M[k].1.toList from by
          have h1 : M[k] ∈ L := HPE.out.mem_iff.1 (List.getElem_mem hlt)
          have h2 : keyR M[k] ∈ K.map keyR := by rw [HL.out.2]; exact List.mem_map.2 ⟨_, h1, rfl⟩
          obtain ⟨y, hy, e⟩ := List.mem_map.1 h2
          exact ⟨y, hy, e⟩)
        have HSZ := Go.Lib.hid (mayT_key (HMAY.out _ (HPE.out.mem_iff.1 (List.getElem_mem hlt))))
        generalize M[k].1 = ks at *
        have HM := Go.Lib.hid (may_gone ks HSZ.out.1 HSZ.out.2)
        have CP := Go.Lib.hid (lput_small HL.out.1 ks true 0 0 ⟨#[]⟩ HM.out (room_in HIN.out))
        go_wp2_with fail
        refine CP.out.mono ?_
        rintro e w6 ⟨rfl, ⟨v6, hl, hn⟩, ho⟩
        have HK6 := Go.Lib.hid (kept_put HL.out.1 ho hn HO.out.1 HO.out.2)
        have HB6 := Go.Lib.hid (HB.out.trans (HL.out.1.offBelow ho))
        have HL6 := Go.Lib.hid (And.intro hl (show (putL K (ks, true, 0, 0, ⟨#[]⟩)).map keyR = L.map keyR from by
          obtain ⟨y, hy, e⟩ := HIN.out
          obtain ⟨i, hi, rfl⟩ := List.getElem_of_mem hy
          have e : keyR K[i] = keyR ((ks, true, 0, 0, ⟨#[]⟩) : RecT) := e
          rw [putL_in HL.out.1.keys hi e, keys_set hi e.symm, HL.out.2]))
        clear hl hn ho CP c0 hix
        go_wp2_with fail
        exact ⟨⟨k + 1, _, _, by omega, by go_num, HL6, HK6, HB6⟩, by simp only [intOf]; omega⟩
      · obtain rfl : k = M.length := by omega
        have hLN : ((K.length : Int) == (M.length : Int)) = true := by
          have h1 := congrArg List.length HL.out.2
          rw [List.length_map, List.length_map] at h1
          have h2 := HLN.out
          rw [beq_iff_eq]
          omega
        have CN := Go.Lib.hid (llen_c HL.out.1)
        go_wp2_with fail
        refine CN.out.mono ?_
        rintro e w7 ⟨rfl, rfl⟩
        go_wp2_with fail
        go_ret
        exact ⟨rfl, HB.out⟩

/-! ### THE ROW's STEP: WRITTEN OUT: LEAVE IT -/
set_option maxRecDepth 100000 in
theorem lifted (os : Os) (started : os.Started) (H : Type) (enc : TypeId × Value → H) :
    ReturnsInHanded {} Try.checked os 6 .any (Rows.logRoomSpec.pre6 enc Try.prog Try.f6 Rows.logRoomRow.domain false) (Rows.logRoomSpec.post enc Try.prog Try.f6 false true false false) := by
  refine returnsInHanded_of_change (C := Try.checked) own started (by kernel_rfl) Try.func6
    (ChangeSpec.witness6 (enc := enc) (C := Try.checked) false ⟨#[], #[.int .i64 0], []⟩ 8 (by kernel_rfl) (by kernel_rfl) (by kernel_rfl) (by kernel_rfl)) ?_
  intro W base args ds gs before hval0 hW hcnd _
  have hval : ∀ (j : Nat) t v, Try.f6.params[j]? = some t → args[j]? = some v → Value.okWide Try.prog W .any base t v := hval0
  have hW' := hW
  obtain ⟨p, q, hA0, hV, rfl, hfz, hnd⟩ := hW
  have hA : DataW.TrodAll enc Try.prog W 0 (fun _ => true) true Try.f6.params.toList args.toList ds p := hA0
  rw [Try.params6] at hA hval
  obtain ⟨v0, vs0, d0, ds0, p0, q0, hargs, rfl, rfl, h0, r0⟩ := trodAll_cons hA
  obtain ⟨rfl, rfl, rfl⟩ := trodAll_nil r0
  obtain rfl : args = #[v0] := by cases args; simp_all
  obtain ⟨rfl, rfl⟩ := trodVars_none hV
  obtain ⟨a0, rfl, rfl, rfl, w0⟩ := open_int Try.underlying3 (hval 0 3 v0 rfl rfl) h0
  clear hA0 hval0
  refine (walk a0 w0 W).mono fun e W' ⟨he, hg⟩ => ?_
  subst he
  exact ⟨_, rfl, _, _, _, [], _, [], hW', (trodAll_cons_mk (shut_bool Try.underlying4 _) trodAll_mk0), (trodAll_cons_mk (shut_int Try.underlying3 w0) trodAll_mk0), rfl, hg.frame _, fun h => by cases h⟩

theorem over : Rows.logRoomRow.holds Try.pinned (OpenSpec.ofChange Rows.logRoomSpec) :=
  OpenClaim.holds_of_wide 6 Try.f6 rfl rfl rfl rfl rfl rfl rfl ⟨rfl, rfl, rfl, rfl, rfl⟩ rfl rfl rfl rfl rfl (by kernel_rfl) Try.func6 (by kernel_rfl)
    (of_decide_eq_true (by kernel_rfl)) (by unfold Func.isWrapper; first | (rw [if_pos (by decide +kernel)]; kernel_rfl) | (rw [if_neg (by decide +kernel)]; exact ⟨rfl, rfl⟩))
    (fun os started H enc _ => lifted os started H enc)

/-- ████ THE STATEMENT ████ -/
theorem proved : Rows.LogRoomSaid :=
  over
#print axioms proved
end Go.Proofs.Ytkddleonmkhaiaa.logRoom
