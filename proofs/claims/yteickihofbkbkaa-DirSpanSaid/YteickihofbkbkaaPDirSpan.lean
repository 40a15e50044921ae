/- DirSpan: an entry's span is just as long as its bytes need: for every input the law returns true. -/
import Derived.Test.YteickihofbkbkaaRows
import Derived.WalkKit
import Derived.ProofKit
import Derived.OpenShut
import Derived.ShutString
import Derived.Test.YteickihofbkbkaaBegun14
namespace Go.Proofs.Yteickihofbkbkaa.dirSpan
open Go.ChangeShapes Go.WideShapes Go.ChangeAt Go.RowKit
open Go.ChangeMaps (open_string shut_string)
set_option linter.unusedVariables false      -- a walk need not use every 'w<i>' (that an integer argument fits its kind)

theorem own : ownKnob Try.prog.godebug = none := by kernel_rfl

theorem may_one_iff {x : EntT} : MayL [x] ↔ mayE x := ⟨fun h => h.each x (by simp), may_one⟩
theorem one_long (w : World) (v : Value) (x : EntT) (hv : RE w v [x]) (hm : mayL [x] = true) :
    Calls Try.prog 10 #[v] w fun e w' => ∃ a n c, e = .returned (.slice a n c) ∧ (0 < n ∧ n ≤ 2000) ∧ Below w.heap.size w w' :=
  (encode_c v [x] w hv hm).mono fun e w' ⟨u, he, ho, hb⟩ => by
    have h := (mayL_iff.1 hm).bytes
    obtain ⟨g, c, rfl, -⟩ := ho.form (by omega)
    exact ⟨_, _, _, he, by omega, hb⟩

set_option maxHeartbeats 4000000 in
set_option maxRecDepth 100000 in
theorem walk (a0 : Int) (a1 : Int) (a2 : Int) (w0 : (Lit.int .i64 a0).wf = true) (w1 : (Lit.int .i64 a1).wf = true) (w2 : (Lit.int .i64 a2).wf = true) (w : World) :
    Calls Try.prog 6 #[.int .i64 a0, .int .i64 a1, .int .i64 a2] w fun e w' => e = .returned (.bool true) ∧ Below w.heap.size w w' := by
  clear w0 w1 w2
  by_cases h : a0 < 0
  · skip
    go_enter Try.func6, Try.ntmps6
    go_wp2_with fail
    refine (begun_c _).mono ?_
    rintro e w1 ⟨rfl, hc⟩
    have HB1 := Go.Lib.hid hc
    clear hc
    go_wp2_with fail
    go_ret
    exact ⟨rfl, HB1.out⟩
  have ha0_0 := h; clear h
  by_cases h : 70000 < a0
  · skip
    go_enter Try.func6, Try.ntmps6
    go_wp2_with fail
    refine (begun_c _).mono ?_
    rintro e w1 ⟨rfl, hc⟩
    have HB1 := Go.Lib.hid hc
    clear hc
    go_wp2_with fail
    go_ret
    exact ⟨rfl, HB1.out⟩
  have h70000_a0 := h; clear h
  by_cases h : a1 < 0
  · skip
    go_enter Try.func6, Try.ntmps6
    go_wp2_with fail
    refine (begun_c _).mono ?_
    rintro e w1 ⟨rfl, hc⟩
    have HB1 := Go.Lib.hid hc
    clear hc
    go_wp2_with fail
    go_ret
    exact ⟨rfl, HB1.out⟩
  have ha1_0 := h; clear h
  by_cases h : 1200 < a1
  · skip
    go_enter Try.func6, Try.ntmps6
    go_wp2_with fail
    refine (begun_c _).mono ?_
    rintro e w1 ⟨rfl, hc⟩
    have HB1 := Go.Lib.hid hc
    clear hc
    go_wp2_with fail
    go_ret
    exact ⟨rfl, HB1.out⟩
  have h1200_a1 := h; clear h
  have k1 : IntKind.i64.wrap (a0 + 63) = a0 + 63 := IntWalk.i64_in _ (by omega)
  have k2 : (a0 + 63).tdiv 64 = (a0 + 63) / 64 := Int.tdiv_eq_ediv_of_nonneg (by omega)
  obtain ⟨q, hq⟩ : ∃ q, q = (a0 + 63) / 64 := ⟨_, rfl⟩
  have hq0 : 0 ≤ q := by omega
  have hq1 : q ≤ 2000 := by omega
  have HM := Go.Lib.hid (show mayE (⟨#[97]⟩, a0, a2, a1) ↔ (a0 ≤ 65536 ∧ a1 = q ∧ 0 ≤ a2 ∧ a2 ≤ 2048 ∧ (a1 = 0 → a2 = 0)) from by
    have h1 : (⟨#[97]⟩ : ByteArray).size = 1 := rfl
    unfold mayE; simp only []; omega)
  rw [← hq] at k2
  clear hq
  by_cases d1 : 65536 < a0
  · have K := Go.Lib.hid (mayL_no (l := [(⟨#[97]⟩, a0, a2, a1)]) (fun h => by have := HM.out.1 (may_one_iff.1 h); omega))
    clear HM
    go_enter Try.func6, Try.ntmps6
    go_wp2_with fail
    refine (begun_c _).mono ?_
    rintro e w1 ⟨rfl, hc⟩
    have HB1 := Go.Lib.hid hc
    clear hc
    go_wp2_with fail
    have hone := RE.one w1 ⟨#[97]⟩ a0 a2 a1
    have HX := Go.Lib.hid hone
    have HB2 := Go.Lib.hid (below_to HB1.out (Nat.le_refl _) (newB w1 (entO ⟨#[97]⟩ a0 a2 a1)))
    unfold entO at HX HB2
    clear hone
    have CM := may_c _ _ _ HX.out
    rw [K.out] at CM
    refine CM.mono ?_
    rintro e w3 ⟨rfl, hc⟩
    have HX3 := Go.Lib.hid (HX.out.below hc)
    have HB3 := Go.Lib.hid (below_to HB2.out (Nat.le_refl _) hc)
    clear hc CM HX HB2
    go_wp2_with fail
    refine (encode_no _ _ _ HX3.out K.out).mono ?_
    rintro e w4 ⟨rfl, hc⟩
    have HB4 := Go.Lib.hid (below_to HB3.out (Nat.le_refl _) hc)
    clear hc HX3 HB3
    go_wp2_with fail
    go_ret
    exact ⟨rfl, HB4.out⟩
  by_cases d2 : a1 = q
  · subst d2
    by_cases d3 : a2 < 0
    · have K := Go.Lib.hid (mayL_no (l := [(⟨#[97]⟩, a0, a2, a1)]) (fun h => by have := HM.out.1 (may_one_iff.1 h); omega))
      clear HM
      go_enter Try.func6, Try.ntmps6
      go_wp2_with fail
      refine (begun_c _).mono ?_
      rintro e w1 ⟨rfl, hc⟩
      have HB1 := Go.Lib.hid hc
      clear hc
      go_wp2_with fail
      have hone := RE.one w1 ⟨#[97]⟩ a0 a2 a1
      have HX := Go.Lib.hid hone
      have HB2 := Go.Lib.hid (below_to HB1.out (Nat.le_refl _) (newB w1 (entO ⟨#[97]⟩ a0 a2 a1)))
      unfold entO at HX HB2
      clear hone
      have CM := may_c _ _ _ HX.out
      rw [K.out] at CM
      refine CM.mono ?_
      rintro e w3 ⟨rfl, hc⟩
      have HX3 := Go.Lib.hid (HX.out.below hc)
      have HB3 := Go.Lib.hid (below_to HB2.out (Nat.le_refl _) hc)
      clear hc CM HX HB2
      go_wp2_with fail
      refine (encode_no _ _ _ HX3.out K.out).mono ?_
      rintro e w4 ⟨rfl, hc⟩
      have HB4 := Go.Lib.hid (below_to HB3.out (Nat.le_refl _) hc)
      clear hc HX3 HB3
      go_wp2_with fail
      go_ret
      exact ⟨rfl, HB4.out⟩
    by_cases d4 : 2048 < a2
    · have K := Go.Lib.hid (mayL_no (l := [(⟨#[97]⟩, a0, a2, a1)]) (fun h => by have := HM.out.1 (may_one_iff.1 h); omega))
      clear HM
      go_enter Try.func6, Try.ntmps6
      go_wp2_with fail
      refine (begun_c _).mono ?_
      rintro e w1 ⟨rfl, hc⟩
      have HB1 := Go.Lib.hid hc
      clear hc
      go_wp2_with fail
      have hone := RE.one w1 ⟨#[97]⟩ a0 a2 a1
      have HX := Go.Lib.hid hone
      have HB2 := Go.Lib.hid (below_to HB1.out (Nat.le_refl _) (newB w1 (entO ⟨#[97]⟩ a0 a2 a1)))
      unfold entO at HX HB2
      clear hone
      have CM := may_c _ _ _ HX.out
      rw [K.out] at CM
      refine CM.mono ?_
      rintro e w3 ⟨rfl, hc⟩
      have HX3 := Go.Lib.hid (HX.out.below hc)
      have HB3 := Go.Lib.hid (below_to HB2.out (Nat.le_refl _) hc)
      clear hc CM HX HB2
      go_wp2_with fail
      refine (encode_no _ _ _ HX3.out K.out).mono ?_
      rintro e w4 ⟨rfl, hc⟩
      have HB4 := Go.Lib.hid (below_to HB3.out (Nat.le_refl _) hc)
      clear hc HX3 HB3
      go_wp2_with fail
      go_ret
      exact ⟨rfl, HB4.out⟩
    by_cases d5 : 0 < a1
    · have K := Go.Lib.hid (mayL_iff.2 (may_one_iff.2 (HM.out.2 (by omega))))
      clear HM
      go_enter Try.func6, Try.ntmps6
      go_wp2_with fail
      refine (begun_c _).mono ?_
      rintro e w1 ⟨rfl, hc⟩
      have HB1 := Go.Lib.hid hc
      clear hc
      go_wp2_with fail
      have hone := RE.one w1 ⟨#[97]⟩ a0 a2 a1
      have HX := Go.Lib.hid hone
      have HB2 := Go.Lib.hid (below_to HB1.out (Nat.le_refl _) (newB w1 (entO ⟨#[97]⟩ a0 a2 a1)))
      unfold entO at HX HB2
      clear hone
      have CM := may_c _ _ _ HX.out
      rw [K.out] at CM
      refine CM.mono ?_
      rintro e w3 ⟨rfl, hc⟩
      have HX3 := Go.Lib.hid (HX.out.below hc)
      have HB3 := Go.Lib.hid (below_to HB2.out (Nat.le_refl _) hc)
      clear hc CM HX HB2
      go_wp2_with fail
      refine (one_long _ _ _ HX3.out K.out).mono ?_
      rintro e w4 ⟨a4, n4, c4, rfl, ⟨h1, h2⟩, hc⟩
      have hI : (0 : Int) < (n4 : Int) := by omega
      have HB4 := Go.Lib.hid (below_to HB3.out (Nat.le_refl _) hc)
      clear hc HX3 HB3
      go_wp2_with fail
      go_ret
      exact ⟨rfl, HB4.out⟩
    by_cases d6 : a2 = 0
    · have K := Go.Lib.hid (mayL_iff.2 (may_one_iff.2 (HM.out.2 (by omega))))
      have b6 : (a2 == 0) = true := by simp [d6]
      clear HM d6
      go_enter Try.func6, Try.ntmps6
      go_wp2_with fail
      refine (begun_c _).mono ?_
      rintro e w1 ⟨rfl, hc⟩
      have HB1 := Go.Lib.hid hc
      clear hc
      go_wp2_with fail
      have hone := RE.one w1 ⟨#[97]⟩ a0 a2 a1
      have HX := Go.Lib.hid hone
      have HB2 := Go.Lib.hid (below_to HB1.out (Nat.le_refl _) (newB w1 (entO ⟨#[97]⟩ a0 a2 a1)))
      unfold entO at HX HB2
      clear hone
      have CM := may_c _ _ _ HX.out
      rw [K.out] at CM
      refine CM.mono ?_
      rintro e w3 ⟨rfl, hc⟩
      have HX3 := Go.Lib.hid (HX.out.below hc)
      have HB3 := Go.Lib.hid (below_to HB2.out (Nat.le_refl _) hc)
      clear hc CM HX HB2
      go_wp2_with fail
      refine (one_long _ _ _ HX3.out K.out).mono ?_
      rintro e w4 ⟨a4, n4, c4, rfl, ⟨h1, h2⟩, hc⟩
      have hI : (0 : Int) < (n4 : Int) := by omega
      have HB4 := Go.Lib.hid (below_to HB3.out (Nat.le_refl _) hc)
      clear hc HX3 HB3
      go_wp2_with fail
      go_ret
      exact ⟨rfl, HB4.out⟩
    · have K := Go.Lib.hid (mayL_no (l := [(⟨#[97]⟩, a0, a2, a1)]) (fun h => by have := HM.out.1 (may_one_iff.1 h); omega))
      have b6 : (a2 == 0) = false := by simp [d6]
      have e7 : decide ((0 : Int) < a1) = false := decide_eq_false d5
      clear d5
      clear HM d6
      go_enter Try.func6, Try.ntmps6
      go_wp2_with fail
      refine (begun_c _).mono ?_
      rintro e w1 ⟨rfl, hc⟩
      have HB1 := Go.Lib.hid hc
      clear hc
      go_wp2_with fail
      have hone := RE.one w1 ⟨#[97]⟩ a0 a2 a1
      have HX := Go.Lib.hid hone
      have HB2 := Go.Lib.hid (below_to HB1.out (Nat.le_refl _) (newB w1 (entO ⟨#[97]⟩ a0 a2 a1)))
      unfold entO at HX HB2
      clear hone
      have CM := may_c _ _ _ HX.out
      rw [K.out] at CM
      refine CM.mono ?_
      rintro e w3 ⟨rfl, hc⟩
      have HX3 := Go.Lib.hid (HX.out.below hc)
      have HB3 := Go.Lib.hid (below_to HB2.out (Nat.le_refl _) hc)
      clear hc CM HX HB2
      go_wp2_with fail
      refine (encode_no _ _ _ HX3.out K.out).mono ?_
      rintro e w4 ⟨rfl, hc⟩
      have HB4 := Go.Lib.hid (below_to HB3.out (Nat.le_refl _) hc)
      clear hc HX3 HB3
      go_wp2_with fail
      go_ret
      exact ⟨rfl, HB4.out⟩
  · have K := Go.Lib.hid (mayL_no (l := [(⟨#[97]⟩, a0, a2, a1)]) (fun h => by have := HM.out.1 (may_one_iff.1 h); omega))
    have b2 : (a1 == q) = false := by simp [d2]
    clear HM d2
    go_enter Try.func6, Try.ntmps6
    go_wp2_with fail
    refine (begun_c _).mono ?_
    rintro e w1 ⟨rfl, hc⟩
    have HB1 := Go.Lib.hid hc
    clear hc
    go_wp2_with fail
    have hone := RE.one w1 ⟨#[97]⟩ a0 a2 a1
    have HX := Go.Lib.hid hone
    have HB2 := Go.Lib.hid (below_to HB1.out (Nat.le_refl _) (newB w1 (entO ⟨#[97]⟩ a0 a2 a1)))
    unfold entO at HX HB2
    clear hone
    have CM := may_c _ _ _ HX.out
    rw [K.out] at CM
    refine CM.mono ?_
    rintro e w3 ⟨rfl, hc⟩
    have HX3 := Go.Lib.hid (HX.out.below hc)
    have HB3 := Go.Lib.hid (below_to HB2.out (Nat.le_refl _) hc)
    clear hc CM HX HB2
    go_wp2_with fail
    refine (encode_no _ _ _ HX3.out K.out).mono ?_
    rintro e w4 ⟨rfl, hc⟩
    have HB4 := Go.Lib.hid (below_to HB3.out (Nat.le_refl _) hc)
    clear hc HX3 HB3
    go_wp2_with fail
    go_ret
    exact ⟨rfl, HB4.out⟩

/-! ### THE ROW's STEP: WRITTEN OUT: LEAVE IT -/
set_option maxRecDepth 100000 in
theorem lifted (os : Os) (started : os.Started) (H : Type) (enc : TypeId × Value → H) :
    ReturnsInHanded {} Try.checked os 6 .any (Rows.dirSpanSpec.pre6 enc Try.prog Try.f6 Rows.dirSpanRow.domain false) (Rows.dirSpanSpec.post enc Try.prog Try.f6 false true false false) := by
  refine returnsInHanded_of_change (C := Try.checked) own started (by kernel_rfl) Try.func6
    (ChangeSpec.witness6 (enc := enc) (C := Try.checked) false ⟨#[], #[.int .i64 0, .int .i64 0, .int .i64 0], []⟩ 8 (by kernel_rfl) (by kernel_rfl) (by kernel_rfl) (by kernel_rfl)) ?_
  intro W base args ds gs before hval0 hW hcnd _
  have hval : ∀ (j : Nat) t v, Try.f6.params[j]? = some t → args[j]? = some v → Value.okWide Try.prog W .any base t v := hval0
  have hW' := hW
  obtain ⟨p, q, hA0, hV, rfl, hfz, hnd⟩ := hW
  have hA : DataW.TrodAll enc Try.prog W 0 (fun _ => true) true Try.f6.params.toList args.toList ds p := hA0
  rw [Try.params6] at hA hval
  obtain ⟨v0, vs0, d0, ds0, p0, q0, hargs, rfl, rfl, h0, r0⟩ := trodAll_cons hA
  obtain ⟨v1, vs1, d1, ds1, p1, q1, rfl, rfl, rfl, h1, r1⟩ := trodAll_cons r0
  obtain ⟨v2, vs2, d2, ds2, p2, q2, rfl, rfl, rfl, h2, r2⟩ := trodAll_cons r1
  obtain ⟨rfl, rfl, rfl⟩ := trodAll_nil r2
  obtain rfl : args = #[v0, v1, v2] := by cases args; simp_all
  obtain ⟨rfl, rfl⟩ := trodVars_none hV
  obtain ⟨a0, rfl, rfl, rfl, w0⟩ := open_int Try.underlying3 (hval 0 3 v0 rfl rfl) h0
  obtain ⟨a1, rfl, rfl, rfl, w1⟩ := open_int Try.underlying3 (hval 1 3 v1 rfl rfl) h1
  obtain ⟨a2, rfl, rfl, rfl, w2⟩ := open_int Try.underlying3 (hval 2 3 v2 rfl rfl) h2
  clear hA0 hval0
  refine (walk a0 a1 a2 w0 w1 w2 W).mono fun e W' ⟨he, hg⟩ => ?_
  subst he
  exact ⟨_, rfl, _, _, _, [], _, [], hW', (trodAll_cons_mk (shut_bool Try.underlying4 _) trodAll_mk0), (trodAll_cons_mk (shut_int Try.underlying3 w0) (trodAll_cons_mk (shut_int Try.underlying3 w1) (trodAll_cons_mk (shut_int Try.underlying3 w2) trodAll_mk0))), rfl, hg.frame _, fun h => by cases h⟩

theorem over : Rows.dirSpanRow.holds Try.pinned (OpenSpec.ofChange Rows.dirSpanSpec) :=
  OpenClaim.holds_of_wide 6 Try.f6 rfl rfl rfl rfl rfl rfl rfl ⟨rfl, rfl, rfl, rfl, rfl⟩ rfl rfl rfl rfl rfl (by kernel_rfl) Try.func6 (by kernel_rfl)
    (of_decide_eq_true (by kernel_rfl)) (by unfold Func.isWrapper; first | (rw [if_pos (by decide +kernel)]; kernel_rfl) | (rw [if_neg (by decide +kernel)]; exact ⟨rfl, rfl⟩))
    (fun os started H enc _ => lifted os started H enc)

/-- ████ THE STATEMENT ████ -/
theorem proved : Rows.DirSpanSaid :=
  over
#print axioms proved
end Go.Proofs.Yteickihofbkbkaa.dirSpan
