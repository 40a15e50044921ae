/- LogAgain: what a log has, in its order or turned, makes one alike: for all records and both orders the law returns true. -/
import Derived.Test.YtkddleonmkhaiaaGreatRows
import Derived.WalkKit
import Derived.ProofKit
import Derived.OpenShut
import Derived.ShutString
import Derived.ChangeOld
import Derived.Below
import Derived.Test.YtkddleonmkhaiaaGreatM01
import Derived.Test.YtkddleonmkhaiaaGreatM36
import Derived.Test.YtkddleonmkhaiaaGreatM27
import Derived.Deep.DeepCutAuto
namespace Go.Proofs.YtkddleonmkhaiaaGreat.logAgain
open Go.ChangeShapes Go.WideShapes Go.ChangeAt Go.RowKit
open Go.ChangeMaps (open_string shut_string)
set_option linter.unusedVariables false

theorem own : ownKnob Tryz.prog.godebug = none := by kernel_rfl
theorem laidOut : laidOutB Tryz.prog = true := by kernel_rfl

set_option maxHeartbeats 4000000 in
set_option maxRecDepth 100000 in
theorem walk (w : World) (a0 : Option Addr) (len0 cap0 : Nat) (l0 : List RecT) (w0 : RRec w (.slice a0 len0 cap0) l0) (a1 : Bool) :
    Calls Tryz.prog 4 #[.slice a0 len0 cap0, .bool a1] w fun e w' => e = .returned (.bool true) ∧ Below w.heap.size w w' := by
  have HW0 := Go.Lib.hid w0
  have CR := Go.Lib.hid fun W (h : RRec W (.slice a0 len0 cap0) l0) => recs_c (.slice a0 len0 cap0) l0 40 W h (by omega)
  have HSZ := Go.Lib.hid fun x (hx : x ∈ (l0.take 40).map cutR) => cut_sizes hx
  have HML := Go.Lib.hid (show ((l0.take 40).map cutR).length ≤ 40 from by rw [List.length_map]; exact List.length_take_le _ _)
  clear w0
  generalize (l0.take 40).map cutR = M at *
  go_enter Tryz.func4, Tryz.ntmps4
  go_wp2_with fail
  refine (begun_c _).mono ?_
  rintro e w1 ⟨rfl, hb⟩
  have HB := Go.Lib.hid hb
  have HC := Go.Lib.hid (CR.out w1 (HW0.out.below hb))
  clear hb CR HW0
  go_wp2_with fail
  refine HC.out.mono ?_
  rintro e w2 ⟨vm, rfl, ho, hb⟩
  obtain ⟨am, cm, rfl, -⟩ := ho.rs.form
  have HM := Go.Lib.hid (ho.mono HB.out.size)
  have HB := Go.Lib.hid (HB.out.trans (hb.mono HB.out.size))
  clear ho hb HC
  have hml := HML.out
  go_wp2_with fail
  refine (lnew_c _).mono ?_
  rintro e w3 ⟨p, d, rfl, hl, hb⟩
  have HL := Go.Lib.hid (hl.mono HB.out.size)
  have HM := Go.Lib.hid (show OwnRec w3 w.heap.size (.slice am M.length cm) M ∧ Apart (.slice am M.length cm) (.slice none 0 0) from ⟨HM.out.below hb, Apart.right _⟩)
  have HB := Go.Lib.hid (HB.out.trans (hb.mono HB.out.size))
  clear hb hl
  go_wp2_with fail
  go_loopw [7] (fun ki wr => ∃ (k : Nat) (v : Value) (L : List RecT), k ≤ M.length ∧ ki = .int .i64 (k : Int) ∧ Hid (LG wr w.heap.size p d v L) ∧ Hid (OwnRec wr w.heap.size (.slice am M.length cm) M ∧ Apart (.slice am M.length cm) v) ∧ Hid (Below w.heap.size w wr)) (fun ki _ => M.length - (intOf ki).toNat)
  case atStart => exact ⟨0, _, [], by omega, rfl, HL, HM, HB⟩
  case round =>
    obtain ⟨k, v, L, hk, rfl, HL, HM, HB⟩ := hrel
    by_cases hlt : k < M.length
    · have hltI : (k : Int) < (M.length : Int) := by omega
      obtain ⟨b, o, rfl, -, -, c0, c1, c2, c3, c4⟩ := HM.out.1.rs.at k hlt
      have hix := run_idx5 b o M.length cm k hlt
      have hsz := HSZ.out _ (List.getElem_mem hlt)
      generalize M[k] = x at *
      obtain ⟨kx, gx, ax, nx, sx⟩ := x
      simp only [] at c0 c1 c2 c3 c4 hsz
      have CP := lput_w HL.out kx gx ax nx sx (by unfold maxLen; omega) (by unfold maxLen; omega)
      unfold recV at CP
      have CP := Go.Lib.hid CP
      clear hsz
      go_wp2_with fail
      refine CP.out.mono ?_
      rintro e w5 ⟨rfl, ⟨v5, hl, hn⟩, ho⟩
      have HM5 := Go.Lib.hid (kept_put HL.out ho hn HM.out.1 HM.out.2)
      have HB5 := Go.Lib.hid (HB.out.trans (HL.out.offBelow ho))
      have HL5 := Go.Lib.hid hl
      clear hl hn ho CP c0 c1 c2 c3 c4 hix
      go_wp2_with fail
      exact ⟨⟨k + 1, _, _, by omega, by go_num, HL5, HM5, HB5⟩, by simp only [intOf]; omega⟩
    · obtain rfl : k = M.length := by omega
      clear HSZ HML hml hlt
      have CL := Go.Lib.hid (llist_c HL.out)
      have HKO := Go.Lib.hid HL.out.keys
      have HMAY := Go.Lib.hid HL.out.may
      have HRM := Go.Lib.hid HL.out.room
      have HLN := Go.Lib.hid (show (newestR L).length ≤ 32 from by have := newestR_len L; have := HL.out.len; omega)
      have HPE := Go.Lib.hid (newest_perm HL.out.keys)
      clear HM
      go_wp2_with fail
      refine CL.out.mono ?_
      rintro e w4 ⟨vq, rfl, ho, hb⟩
      obtain ⟨aq, cq, rfl, -⟩ := ho.rs.form
      have HQ := Go.Lib.hid (ho.mono HB.out.size)
      have HB := Go.Lib.hid (HB.out.trans (hb.mono HB.out.size))
      have HNN := Go.Lib.hid (newest_congr ((HKO.out.perm HPE.out.symm).perm (turnR_perm a1 (newestR L)).symm) HKO.out (fun x => ((turnR_perm a1 (newestR L)).trans HPE.out).mem_iff))
      have HRUN := Go.Lib.hid (run_perm HKO.out HMAY.out HRM.out ((turnR_perm a1 (newestR L)).trans HPE.out))
      have HTL := Go.Lib.hid (turnR_len a1 (newestR L))
      have HSZ := Go.Lib.hid (fun x (hx : x ∈ turnR a1 (newestR L)) => mayT_short (HMAY.out x (((turnR_perm a1 (newestR L)).trans HPE.out).mem_iff.1 hx)))
      clear ho hb CL HL HKO HMAY HRM HPE
      generalize newestR L = Q at *
      have hln := HLN.out
      go_wp2_with fail
      go_loopw [9, 10, 11] (fun nv ki _ wr => ∃ (k : Nat) (u : Value), u = nv ∧ k ≤ Q.length ∧ ki = .int .i64 (k : Int) ∧ Hid (OwnRec wr w.heap.size u ((turnR a1 Q).take k)) ∧ Hid (OwnRec wr w.heap.size (.slice aq Q.length cq) Q ∧ Apart (.slice aq Q.length cq) u) ∧ Hid (Below w.heap.size w wr)) (fun _ ki _ _ => Q.length - (intOf ki).toNat)
      case atStart => exact ⟨0, _, rfl, by omega, rfl, Go.Lib.hid (OwnRec.nil _ _), Go.Lib.hid ⟨HQ.out, Apart.right _⟩, HB⟩
      case round =>
        obtain ⟨k, u, rfl, hk, rfl, HU, HQ, HB⟩ := hrel
        by_cases hlt : k < Q.length
        · have hltI : (k : Int) < (Q.length : Int) := by omega
          have HAL := Go.Lib.hid (show ((turnR a1 Q).take k).length ≤ 32 from by rw [List.length_take]; omega)
          cases a1 with
          | false =>
            obtain ⟨b, o, rfl, -, -, c0, c1, c2, c3, c4⟩ := HQ.out.1.rs.at k hlt
            have hix := run_idx5 b o Q.length cq k hlt
            have HST := Go.Lib.hid (same_step Q hlt)
            generalize Q[k] = x at *
            obtain ⟨kx, gx, ax, nx, sx⟩ := x
            simp only [] at c0 c1 c2 c3 c4
            have hbA := below_one wr (.cells #[.string kx, .bool gx, .int .i64 ax, .int .i64 nx, .string sx] 33)
            have HQ2 := Go.Lib.hid (And.intro (HQ.out.1.below hbA) HQ.out.2)
            have HU2 := Go.Lib.hid (show OwnRec (wr.alloc (.cells #[.string kx, .bool gx, .int .i64 ax, .int .i64 nx, .string sx] 33)) w.heap.size u ((turnR false Q).take k) from OwnRec.below HU.out hbA)
            have HB2 := Go.Lib.hid (HB.out.trans (hbA.mono HB.out.size))
            have HLL := Go.Lib.hid (show ((turnR false Q).take k).length + ([(kx, gx, ax, nx, sx)] : List RecT).length ≤ 1000000 from by have := HAL.out; simp only [List.length_singleton]; omega)
            have HNE := Go.Lib.hid (show ([(kx, gx, ax, nx, sx)] : List RecT) ≠ [] from by simp)
            have HX := Go.Lib.hid (K5.one' wr kx gx ax nx sx)
            clear hbA
            go_wp2_with (first
              | (with_reducible show wpList _ _ _ (⟨some 53, _, _, _, _, _⟩ :: _) _ _; go_loud (refine wpList_append_rec1 rfl (.tmp 47) (.tmp 52) rfl w.heap.size u (.slice (some ⟨wr.heap.size, 0, none⟩) 1 1) ((turnR false Q).take k) [(kx, gx, ax, nx, sx)] rfl rfl HU2.out HX.out HNE.out HLL.out HB2.out.size ?_); intro v7 w7 ho7 hg7 hn7; have HP7 := Go.Lib.hid (And.intro ho7 (And.intro hg7 hn7)); clear ho7 hg7 hn7)
              | fail)
            obtain ⟨ho7, hg7, hn7⟩ := HP7.out
            rw [← HST.out] at ho7
            have HU7 := Go.Lib.hid (show OwnRec w7 w.heap.size v7 ((turnR false Q).take (k + 1)) from ho7)
            have HB7 := Go.Lib.hid (HB2.out.grown hg7 HB2.out.size (fun j hj => (World.ownsRow.lt HU2.out j hj).1))
            have HQ7 := Go.Lib.hid (apart_append HQ2.out.1 HQ2.out.2 hg7 hn7)
            exact ⟨⟨k + 1, _, rfl, by omega, by go_num, HU7, HQ7, HB7⟩, by simp only [intOf]; omega⟩
          | true =>
            have hlt2 : Q.length - 1 - k < Q.length := by omega
            obtain ⟨b, o, rfl, -, -, c0, c1, c2, c3, c4⟩ := HQ.out.1.rs.at (Q.length - 1 - k) hlt2
            have hix := run_idx5 b o Q.length cq (Q.length - 1 - k) hlt2
            have HST := Go.Lib.hid (turn_step Q hlt)
            have hcast : ((Q.length - 1 - k : Nat) : Int) = (Q.length : Int) - 1 - (k : Int) := by omega
            rw [hcast] at hix
            clear hcast
            generalize Q[Q.length - 1 - k] = x at *
            obtain ⟨kx, gx, ax, nx, sx⟩ := x
            simp only [] at c0 c1 c2 c3 c4
            have hbA := below_one wr (.cells #[.string kx, .bool gx, .int .i64 ax, .int .i64 nx, .string sx] 33)
            have HQ2 := Go.Lib.hid (And.intro (HQ.out.1.below hbA) HQ.out.2)
            have HU2 := Go.Lib.hid (show OwnRec (wr.alloc (.cells #[.string kx, .bool gx, .int .i64 ax, .int .i64 nx, .string sx] 33)) w.heap.size u ((turnR true Q).take k) from OwnRec.below HU.out hbA)
            have HB2 := Go.Lib.hid (HB.out.trans (hbA.mono HB.out.size))
            have HLL := Go.Lib.hid (show ((turnR true Q).take k).length + ([(kx, gx, ax, nx, sx)] : List RecT).length ≤ 1000000 from by have := HAL.out; simp only [List.length_singleton]; omega)
            have HNE := Go.Lib.hid (show ([(kx, gx, ax, nx, sx)] : List RecT) ≠ [] from by simp)
            have HX := Go.Lib.hid (K5.one' wr kx gx ax nx sx)
            clear hbA
            go_wp2_with (first
              | (with_reducible show wpList _ _ _ (⟨some 53, _, _, _, _, _⟩ :: _) _ _; go_loud (refine wpList_append_rec1 rfl (.tmp 47) (.tmp 52) rfl w.heap.size u (.slice (some ⟨wr.heap.size, 0, none⟩) 1 1) ((turnR true Q).take k) [(kx, gx, ax, nx, sx)] rfl rfl HU2.out HX.out HNE.out HLL.out HB2.out.size ?_); intro v7 w7 ho7 hg7 hn7; have HP7 := Go.Lib.hid (And.intro ho7 (And.intro hg7 hn7)); clear ho7 hg7 hn7)
              | fail)
            obtain ⟨ho7, hg7, hn7⟩ := HP7.out
            rw [← HST.out] at ho7
            have HU7 := Go.Lib.hid (show OwnRec w7 w.heap.size v7 ((turnR true Q).take (k + 1)) from ho7)
            have HB7 := Go.Lib.hid (HB2.out.grown hg7 HB2.out.size (fun j hj => (World.ownsRow.lt HU2.out j hj).1))
            have HQ7 := Go.Lib.hid (apart_append HQ2.out.1 HQ2.out.2 hg7 hn7)
            exact ⟨⟨k + 1, _, rfl, by omega, by go_num, HU7, HQ7, HB7⟩, by simp only [intOf]; omega⟩
        · obtain rfl : k = Q.length := by omega
          have HN : Hid (OwnRec wr w.heap.size u (turnR a1 Q)) := by
            have := HU.out
            rwa [← HTL.out, List.take_length] at this
          have CO := lof_c u (turnR a1 Q) wr HN.out.rs (fun x hx => by have := HSZ.out x hx; unfold maxLen; omega)
          rw [HRUN.out] at CO
          have CO := Go.Lib.hid CO
          clear HU
          go_wp2_with fail
          refine CO.out.mono ?_
          rintro e w6 ⟨⟨-, p2, d2, v2, rfl, hl⟩ | ⟨h0, -⟩, hb⟩
          · have HB6 := Go.Lib.hid (HB.out.trans (hb.mono HB.out.size))
            have HR6 := Go.Lib.hid (show RS w6 (.slice aq Q.length cq) (newestR (turnR a1 Q)) from by rw [HNN.out]; exact HQ.out.1.rs.below hb)
            have CS := Go.Lib.hid (same_c hl (.slice aq Q.length cq) HR6.out)
            clear hb hl CO
            go_wp2_with fail
            refine CS.out.mono ?_
            rintro e w7 ⟨rfl, hb⟩
            have HB7 := Go.Lib.hid (HB6.out.trans (hb.mono HB6.out.size))
            clear hb CS
            go_wp2_with fail
            go_ret
            exact ⟨rfl, HB7.out⟩
          · exact absurd rfl h0

/-! ### THE ROW -/
set_option maxRecDepth 100000 in
theorem lifted (os : Os) (started : os.Started) (H : Type) (enc : TypeId × Value → H) :
    ReturnsInHanded {} Tryz.checked os 4 .any (Rows.logAgainSpec.pre6 enc Tryz.prog Tryz.f4 Rows.logAgainRow.domain false) (Rows.logAgainSpec.post enc Tryz.prog Tryz.f4 false true false false) := by
  refine returnsInHanded_of_change (C := Tryz.checked) own started (by kernel_rfl) Tryz.func4
    (ChangeSpec.witness6 (enc := enc) (C := Tryz.checked) false ⟨#[], #[.slice none 0 0, .bool false], []⟩ 8 (by kernel_rfl) (by kernel_rfl) (by kernel_rfl) (by kernel_rfl)) ?_
  intro W base args ds gs before hval0 hW hcnd _
  have hval : ∀ (j : Nat) t v, Tryz.f4.params[j]? = some t → args[j]? = some v → Value.okWide Tryz.prog W .any base t v := hval0
  have hW' := hW
  obtain ⟨p, q, hA0, hV, rfl, hfz, hnd⟩ := hW
  have hA : DataW.TrodAll enc Tryz.prog W 0 (fun _ => true) true Tryz.f4.params.toList args.toList ds p := hA0
  rw [Tryz.params4] at hA hval
  obtain ⟨v0, vs0, d0, ds0, p0, q0, hargs, rfl, rfl, h0, r0⟩ := trodAll_cons hA
  obtain ⟨v1, vs1, d1, ds1, p1, q1, rfl, rfl, rfl, h1, r1⟩ := trodAll_cons r0
  obtain ⟨rfl, rfl, rfl⟩ := trodAll_nil r1
  obtain rfl : args = #[v0, v1] := by cases args; simp_all
  obtain ⟨rfl, rfl⟩ := trodVars_none hV
  have kk0 := h0
  have lt0 : ∀ x ∈ p0, x.block < W.heap.size := by obtain ⟨m, hm⟩ := kk0; exact DataW.trod_lt m _ _ _ hm
  have kk1 := h1
  have lt1 : ∀ x ∈ p1, x.block < W.heap.size := by obtain ⟨m, hm⟩ := kk1; exact DataW.trod_lt m _ _ _ hm
  obtain ⟨a0, len0, cap0, rfl⟩ := okWide_slice Tryz.underlying22 (hval 0 22 v0 rfl rfl)
  obtain ⟨l0, w0⟩ := open_recs h0
  obtain ⟨a1, rfl, rfl, rfl⟩ := open_bool Tryz.underlying4 (hval 1 4 v1 rfl rfl) h1
  clear hA0 hval0
  refine (walk W a0 len0 cap0 l0 w0 a1).mono fun e W' ⟨he, bel⟩ => ?_
  subst he
  exact ⟨_, rfl, _, _, _, [], _, [], hW', trodAll_mk1 (shut_bool Tryz.underlying4 _), (trodAll_cons_mk (Below.trod laidOut (by kernel_rfl) (of_decide_eq_true (by kernel_rfl)) kk0 bel lt0) (trodAll_cons_mk (Below.trod laidOut (by kernel_rfl) (of_decide_eq_true (by kernel_rfl)) kk1 bel lt1) trodAll_mk0)), rfl, bel.frame _, fun h => by cases h⟩

theorem over : Rows.logAgainRow.holds Tryz.pinned (OpenSpec.ofChange Rows.logAgainSpec) :=
  OpenClaim.holds_of_wide 4 Tryz.f4 rfl rfl rfl rfl rfl rfl rfl ⟨rfl, rfl, rfl, rfl, rfl⟩ rfl rfl rfl rfl rfl (by kernel_rfl) Tryz.func4 (by kernel_rfl)
    (of_decide_eq_true (by kernel_rfl)) (by unfold Func.isWrapper; first | (rw [if_pos (by decide +kernel)]; kernel_rfl) | (rw [if_neg (by decide +kernel)]; exact ⟨rfl, rfl⟩))
    (fun os started H enc _ => lifted os started H enc)

theorem proved : Rows.LogAgainSaid := over
#print axioms proved
end Go.Proofs.YtkddleonmkhaiaaGreat.logAgain
