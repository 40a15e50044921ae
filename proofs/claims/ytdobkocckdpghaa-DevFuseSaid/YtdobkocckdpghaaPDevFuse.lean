/- DevFuse: a device with a fuse does so many calls, and no more: for every input the law returns true. -/
import Derived.Test.YtdobkocckdpghaaRows
import Derived.WalkKit
import Derived.ProofKit
import Derived.OpenShut
import Derived.ShutString
import Derived.Test.YtdobkocckdpghaaBegun11
namespace Go.Proofs.Ytdobkocckdpghaa.devFuse
open Go.ChangeShapes Go.WideShapes Go.ChangeAt Go.RowKit
open Go.ChangeMaps (open_string shut_string)
set_option linter.unusedVariables false      -- a walk need not use every 'w<i>' (that an integer argument fits its kind)

theorem own : ownKnob Try.prog.godebug = none := by kernel_rfl

/-- The device's life behind k calls under a fuse of F. -/
def lifeAt (F k : Nat) : Life := ⟨((min k F : Nat) : Int), true, ((F - min k F : Nat) : Int), decide (F ≤ k)⟩
theorem lifeAt_tick (F k : Nat) (h : k < F) : (lifeAt F k).tick = lifeAt F (k + 1) := by
  have h1 : min k F = k := by omega
  have h2 : min (k + 1) F = k + 1 := by omega
  unfold lifeAt Life.tick
  rw [h1, h2]
  simp only [if_true]
  congr 1
  · omega
  · have : ((F - k : Nat) : Int) - 1 = 0 ↔ F ≤ k + 1 := by omega
    exact decide_eq_decide.2 this
theorem lifeAt_dead (F k : Nat) (h : F ≤ k) : lifeAt F k = lifeAt F (k + 1) := by
  unfold lifeAt
  rw [show min k F = F from by omega, show min (k + 1) F = F from by omega]
  congr 1
  simp; omega

set_option maxHeartbeats 1000000 in
set_option maxRecDepth 100000 in
theorem walk (a0 : Int) (a1 : Int) (w0 : (Lit.int .i64 a0).wf = true) (w1 : (Lit.int .i64 a1).wf = true) (w : World) :
    Calls Try.prog 7 #[.int .i64 a0, .int .i64 a1] w fun e w' => e = .returned (.bool true) ∧ Below w.heap.size w w' := by
  clear w0 w1
  go_enter Try.func7, Try.ntmps7
  go_wp2_with fail
  refine (begun_c _).mono ?_
  rintro e w2 ⟨rfl, k2⟩
  by_cases h1 : a0 < 0
  · go_wp2_with fail
    go_ret
    exact ⟨rfl, k2⟩
  by_cases h2 : 30 < a0
  · go_wp2_with fail
    go_ret
    exact ⟨rfl, k2⟩
  by_cases h3 : a1 < 0
  · go_wp2_with fail
    go_ret
    exact ⟨rfl, k2⟩
  by_cases h4 : 40 < a1
  · go_wp2_with fail
    go_ret
    exact ⟨rfl, k2⟩
  obtain ⟨n, rfl⟩ : ∃ n : Nat, a0 = (n : Int) := ⟨a0.toNat, by omega⟩
  obtain ⟨F, rfl⟩ : ∃ F : Nat, a1 = (F : Int) := ⟨a1.toNat, by omega⟩
  clear h1 h3
  have hn : n ≤ 30 := by omega
  have hF : F ≤ 40 := by omega
  have C1 := Go.Lib.hid (dnew_c 4 w2)
  rw [show lenD 4 = 4 from rfl] at C1
  have K2 := Go.Lib.hid k2; clear k2
  go_wp2_with fail
  refine C1.out.mono ?_
  rintro e w3 ⟨d, g, rfl, hd, hb⟩
  have K3 := Go.Lib.hid (K2.out.trans (hb.mono K2.out.size))
  have C2 := Go.Lib.hid (dfuse_c (hd.mono K2.out.size) F (by omega) (by omega))
  rw [show born.fuseTo (F : Int) = lifeAt F 0 from by unfold Life.fuseTo lifeAt born; simp] at C2
  clear C1 hd hb K2
  go_wp2_with fail
  refine C2.out.mono ?_
  rintro e w4 ⟨rfl, hd4, ht4⟩
  have K4 := Go.Lib.hid (K3.out.trans (ht4.below hd4.lowd (fun k hk => by cases hk; exact hd4.lowg) K3.out.size))
  have HD4 := Go.Lib.hid hd4
  clear C2 hd4 ht4 K3
  go_wp2_with fail
  go_loopw [7] (fun c wr => ∃ (i : Nat) (S : Nat → Sec), i ≤ n ∧ c = .int .i64 (i : Int) ∧ DV wr w.heap.size d g 4 S (lifeAt F i) ∧ Below w.heap.size w wr) (fun c _ => n - (intOf c).toNat)
  case atStart => exact ⟨0, newS, by omega, rfl, HD4.out, K4.out⟩
  case round =>
    obtain ⟨i, S, hi, rfl, hdv, hbw⟩ := hrel
    clear HD4 K4
    by_cases hin : i < n
    · have hiI : (i : Int) < (n : Int) := by omega
      have hcalls : (lifeAt F i).calls < 1000000 := by show ((min i F : Nat) : Int) < 1000000; omega
      have HC := Go.Lib.hid hcalls; clear hcalls
      have HW := Go.Lib.hid (show (i : Int) + 1 = ((i + 1 : Nat) : Int) from by omega)
      by_cases hiF : i < F
      · have hdd : (lifeAt F i).dead = false := by show decide (F ≤ i) = false; simp; omega
        have hiFI : (i : Int) < (F : Int) := by omega
        have HT := Go.Lib.hid (lifeAt_tick F i hiF)
        by_cases hm : i % 3 = 2
        · have hmI : (i : Int) % 3 = 2 := by omega
          have C := Go.Lib.hid (dflush_c hdv hdd HC.out)
          rw [HT.out] at C
          have HD := Go.Lib.hid hdv
          have HB := Go.Lib.hid hbw
          clear hdd hdv hbw
          go_wp2_with fail
          refine C.out.mono ?_
          rintro e w5 ⟨rfl, hd5, ht5⟩
          have HD5 := Go.Lib.hid hd5
          have HB5 := Go.Lib.hid (HB.out.trans (ht5.belowDV HD.out HB.out.size))
          clear hd5 ht5
          go_wp2_with fail
          go_roundw
          case rel => exact ⟨i + 1, _, by omega, by rw [HW.out], HD5.out, HB5.out⟩
          case measure => simp only [intOf]; omega
        · obtain ⟨r, hr⟩ : ∃ r : Nat, (i : Int) % 3 = (r : Int) := ⟨i % 3, by omega⟩
          have hr2 : ((r : Int) == 2) = false := by simp; omega
          clear hm
          obtain ⟨q, hq⟩ : ∃ q : Nat, (i : Int) % 4 = (q : Int) := ⟨i % 4, by omega⟩
          have hq4 := Go.Lib.hid (show q < 4 from by omega)
          have HQ := Go.Lib.hid hq; clear hq
          have HD := Go.Lib.hid hdv
          have HB := Go.Lib.hid hbw
          have hdd := Go.Lib.hid hdd
          clear hdv hbw
          go_upto_region 14 with (fail)
          go_wp2_with fail
          rw [HQ.out]
          refine (dwrite_c (HD.out.alloc _) hdd.out HC.out q hq4.out _ [UInt8.ofNat (i + 1)] (RB.one wr 5 _ _ (byte_succ i (by omega))) (by simp)).mono ?_
          rintro e w5 ⟨rfl, hd5, ht5⟩
          rw [HT.out] at hd5
          have HD5 := Go.Lib.hid hd5
          have HB5 := Go.Lib.hid ((HB.out.trans ((below_new wr _).mono HB.out.size)).trans (ht5.belowDV (HD.out.alloc _) (Nat.le_trans HB.out.size (below_new wr _).size)))
          clear hd5 ht5
          go_wp2_with fail
          go_roundw
          case rel => exact ⟨i + 1, _, by omega, by rw [HW.out], HD5.out, HB5.out⟩
          case measure => simp only [intOf]; omega
      · have hdd := Go.Lib.hid (show (lifeAt F i).dead = true from by show decide (F ≤ i) = true; simp; omega)
        have hiFI : ¬ (i : Int) < (F : Int) := by omega
        have HT := Go.Lib.hid (lifeAt_dead F i (by omega))
        have HD := Go.Lib.hid hdv
        have HB := Go.Lib.hid hbw
        clear hdv hbw
        by_cases hm : i % 3 = 2
        · have hmI : (i : Int) % 3 = 2 := by omega
          go_wp2_with fail
          refine (dflush_dead HD.out hdd.out).mono ?_
          rintro e w5 ⟨rfl, rfl⟩
          go_wp2_with fail
          go_roundw
          case rel => exact ⟨i + 1, _, by omega, by rw [HW.out], by rw [← HT.out]; exact HD.out, HB.out⟩
          case measure => simp only [intOf]; omega
        · obtain ⟨r, hr⟩ : ∃ r : Nat, (i : Int) % 3 = (r : Int) := ⟨i % 3, by omega⟩
          have hr2 : ((r : Int) == 2) = false := by simp; omega
          clear hm
          go_wp2_with fail
          refine (dwrite_dead (HD.out.alloc _) hdd.out _ _).mono ?_
          rintro e w5 ⟨rfl, rfl⟩
          have HD5 := Go.Lib.hid (HD.out.alloc (.cells #[.int .u8 ((i : Int) + 1)] 5))
          have HB5 := Go.Lib.hid (HB.out.trans ((below_new wr (.cells #[.int .u8 ((i : Int) + 1)] 5)).mono HB.out.size))
          go_wp2_with fail
          go_roundw
          case rel => exact ⟨i + 1, _, by omega, by rw [HW.out], by rw [← HT.out]; exact HD5.out, HB5.out⟩
          case measure => simp only [intOf]; omega
    · obtain rfl : i = n := by omega
      have Cc := Go.Lib.hid (dcalls_c hdv)
      have Cd := Go.Lib.hid (ddead_c hdv)
      have HB := Go.Lib.hid hbw
      have hmn : min (i : Int) (F : Int) = ((min i F : Nat) : Int) := by omega
      clear hdv hbw
      unfold lifeAt at Cc Cd
      generalize min i F = m at *
      simp only at Cc Cd
      have e : decide (F ≤ i) = decide ((F : Int) ≤ (i : Int)) := by simp
      rw [e] at Cd
      clear e
      go_wp2_with fail
      refine Cc.out.mono ?_
      rintro e w5 ⟨rfl, rfl⟩
      go_wp2_with fail
      refine Cd.out.mono ?_
      rintro e w5 ⟨rfl, rfl⟩
      go_wp2_with fail
      go_ret
      exact ⟨by simp, HB.out⟩

/-! ### THE ROW's STEP: WRITTEN OUT: LEAVE IT -/
set_option maxRecDepth 100000 in
theorem lifted (os : Os) (started : os.Started) (H : Type) (enc : TypeId × Value → H) :
    ReturnsInHanded {} Try.checked os 7 .any (Rows.devFuseSpec.pre6 enc Try.prog Try.f7 Rows.devFuseRow.domain false) (Rows.devFuseSpec.post enc Try.prog Try.f7 false true false false) := by
  refine returnsInHanded_of_change (C := Try.checked) own started (by kernel_rfl) Try.func7
    (ChangeSpec.witness6 (enc := enc) (C := Try.checked) false ⟨#[], #[.int .i64 0, .int .i64 0], []⟩ 8 (by kernel_rfl) (by kernel_rfl) (by kernel_rfl) (by kernel_rfl)) ?_
  intro W base args ds gs before hval0 hW hcnd _
  have hval : ∀ (j : Nat) t v, Try.f7.params[j]? = some t → args[j]? = some v → Value.okWide Try.prog W .any base t v := hval0
  have hW' := hW
  obtain ⟨p, q, hA0, hV, rfl, hfz, hnd⟩ := hW
  have hA : DataW.TrodAll enc Try.prog W 0 (fun _ => true) true Try.f7.params.toList args.toList ds p := hA0
  rw [Try.params7] at hA hval
  obtain ⟨v0, vs0, d0, ds0, p0, q0, hargs, rfl, rfl, h0, r0⟩ := trodAll_cons hA
  obtain ⟨v1, vs1, d1, ds1, p1, q1, rfl, rfl, rfl, h1, r1⟩ := trodAll_cons r0
  obtain ⟨rfl, rfl, rfl⟩ := trodAll_nil r1
  obtain rfl : args = #[v0, v1] := by cases args; simp_all
  obtain ⟨rfl, rfl⟩ := trodVars_none hV
  obtain ⟨a0, rfl, rfl, rfl, w0⟩ := open_int Try.underlying3 (hval 0 3 v0 rfl rfl) h0
  obtain ⟨a1, rfl, rfl, rfl, w1⟩ := open_int Try.underlying3 (hval 1 3 v1 rfl rfl) h1
  clear hA0 hval0
  refine (walk a0 a1 w0 w1 W).mono fun e W' ⟨he, hg⟩ => ?_
  subst he
  exact ⟨_, rfl, _, _, _, [], _, [], hW', (trodAll_cons_mk (shut_bool Try.underlying4 _) trodAll_mk0), (trodAll_cons_mk (shut_int Try.underlying3 w0) (trodAll_cons_mk (shut_int Try.underlying3 w1) trodAll_mk0)), rfl, hg.frame _, fun h => by cases h⟩

theorem over : Rows.devFuseRow.holds Try.pinned (OpenSpec.ofChange Rows.devFuseSpec) :=
  OpenClaim.holds_of_wide 7 Try.f7 rfl rfl rfl rfl rfl rfl rfl ⟨rfl, rfl, rfl, rfl, rfl⟩ rfl rfl rfl rfl rfl (by kernel_rfl) Try.func7 (by kernel_rfl)
    (of_decide_eq_true (by kernel_rfl)) (by unfold Func.isWrapper; first | (rw [if_pos (by decide +kernel)]; kernel_rfl) | (rw [if_neg (by decide +kernel)]; exact ⟨rfl, rfl⟩))
    (fun os started H enc _ => lifted os started H enc)

/-- ████ THE STATEMENT ████ -/
theorem proved : Rows.DevFuseSaid :=
  over
#print axioms proved
end Go.Proofs.Ytdobkocckdpghaa.devFuse
