/- CuckooFull: thirty-two there may be, if their buckets are spread; of one tag and bucket eight: for every input the law returns true. -/
import Derived.Test.YtgbaeipemlcbcaaRows
import Derived.WalkKit
import Derived.ProofKit
import Derived.OpenShut
import Derived.ShutString
import Derived.Test.YtgbaeipemlcbcaaBegun17
import Derived.Test.YtgbaeipemlcbcaaCucF
namespace Go.Proofs.Ytgbaeipemlcbcaa.cuckooFull
open Go.ChangeShapes Go.WideShapes Go.ChangeAt Go.RowKit
open Go.ChangeMaps (open_string shut_string)
set_option linter.unusedVariables false      -- a walk need not use every 'w<i>' (that an integer argument fits its kind)

theorem own : ownKnob Try.prog.godebug = none := by kernel_rfl

set_option maxHeartbeats 2000000 in
set_option maxRecDepth 100000 in
theorem walk (a0 : Int) (a1 : Int) (a2 : Bool) (w0 : (Lit.int .i64 a0).wf = true) (w1 : (Lit.int .i64 a1).wf = true) (w : World) :
    Calls Try.prog 5 #[.int .i64 a0, .int .i64 a1, .bool a2] w fun e w' => e = .returned (.bool true) ∧ Below w.heap.size w w' := by
  clear w0 w1
  by_cases h0 : a0 < 0
  · go_enter Try.func5, Try.ntmps5
    go_wp2_with fail
    refine (begun_c _).mono ?_
    rintro e w1 ⟨rfl, hc⟩
    go_wp2_with fail
    go_ret
    exact ⟨rfl, hc⟩
  by_cases h1 : 40 < a0
  · go_enter Try.func5, Try.ntmps5
    go_wp2_with fail
    refine (begun_c _).mono ?_
    rintro e w1 ⟨rfl, hc⟩
    go_wp2_with fail
    go_ret
    exact ⟨rfl, hc⟩
  by_cases h2 : a1 < 0
  · go_enter Try.func5, Try.ntmps5
    go_wp2_with fail
    refine (begun_c _).mono ?_
    rintro e w1 ⟨rfl, hc⟩
    go_wp2_with fail
    go_ret
    exact ⟨rfl, hc⟩
  by_cases h3 : 32767 < a1
  · go_enter Try.func5, Try.ntmps5
    go_wp2_with fail
    refine (begun_c _).mono ?_
    rintro e w1 ⟨rfl, hc⟩
    go_wp2_with fail
    go_ret
    exact ⟨rfl, hc⟩
  obtain ⟨n, rfl⟩ : ∃ n : Nat, a0 = (n : Int) := ⟨a0.toNat, by omega⟩
  obtain ⟨tag, rfl⟩ : ∃ n : Nat, a1 = (n : Int) := ⟨a1.toNat, by omega⟩
  have hn : n ≤ 40 := by omega
  have ht : tag < 32768 := by omega
  have HCAP := Go.Lib.hid (show capF a2 ≤ 32 by unfold capF; split <;> omega)
  go_enter Try.func5, Try.ntmps5
  go_wp2_with fail
  refine (begun_c _).mono ?_
  rintro e w1 ⟨rfl, hc⟩
  have HB := Go.Lib.hid hc
  clear hc
  go_wp2_with fail
  refine (cnew_c _).mono ?_
  rintro e w2 ⟨d, rfl, hd, hck, hc⟩
  have HD := Go.Lib.hid (Nat.le_trans HB.out.size hd)
  have HB := Go.Lib.hid (below_to HB.out (Nat.le_refl _) hc)
  have HC := Go.Lib.hid hck
  clear hc hck hd
  go_wp2_with fail
  go_loopw [9, 10] (fun kv iv wr => ∃ (j : Nat) (T : SlT) (es : List EnT), j ≤ n ∧ iv = .int .i64 (j : Int) ∧ kv = .int .i64 (es.length : Int) ∧ CK wr d T ∧ Hid (Fits T es ∧ es.map Prod.fst = (List.range (min j (capF a2))).map (hF a2 tag)) ∧ Below w.heap.size w wr) (fun _ iv _ => n - (intOf iv).toNat)
  case atStart => exact ⟨0, _, [], by omega, rfl, rfl, HC.out, Go.Lib.hid ⟨Fits.empty fun _ _ => rfl, by simp⟩, HB.out⟩
  case round =>
    obtain ⟨j, T, es, hj, rfl, rfl, hck, hft, hbc⟩ := hrel
    have hel : es.length = min j (capF a2) := by have := congrArg List.length hft.out.2; simpa using this
    by_cases hjn : j < n
    · have hjI : (j : Int) < (n : Int) := by omega
      obtain ⟨r, hr⟩ : ∃ r, r = j % 8 := ⟨_, rfl⟩
      have hr8 : r < 8 := by omega
      have r1 : (j : Int).tmod 8 = (r : Int) := by rw [hr, Int.tmod_eq_emod_of_nonneg (by omega)]; omega
      have r2 : (j : Int) % 8 = (r : Int) := by omega
      have hx : hF a2 tag j < 18446744073709551616 := by unfold hF; split <;> omega
      have hxe : ((hF a2 tag j : Nat) : Int) = (tag : Int) * 256 + (if a2 = true then 0 else (r : Int)) := by unfold hF; rw [hr]; split <;> simp
      have hel2 : es.length ≤ 32 := by have := HCAP.out; omega
      by_cases hcap : j < capF a2
      · have hm : min j (capF a2) = j := by omega
        have CI := cinsert_yes hck hft.out.1 (x := hF a2 tag j) (i := (j : Int)) hx (by unfold idOk; exact decide_eq_true (by omega)) (by rw [hft.out.2, hm]; exact full_yes a2 ht hcap)
        have HS := Go.Lib.hid (show (es ++ [(hF a2 tag j, (j : Int))]).map Prod.fst = (List.range (min (j + 1) (capF a2))).map (hF a2 tag) by
          rw [List.map_append, hft.out.2, hm, show min (j + 1) (capF a2) = j + 1 by omega, List.range_succ, List.map_append]
          rfl)
        rw [hxe] at CI
        have CI := Go.Lib.hid CI
        have HB := Go.Lib.hid hbc
        have HEL := Go.Lib.hid (show ((es ++ [(hF a2 tag j, (j : Int))]).length : Int) = (es.length : Int) + 1 by simp)
        have HJ := Go.Lib.hid hjn
        generalize es ++ [(hF a2 tag j, (j : Int))] = es2 at *
        clear hck hft hbc hel hx hxe hcap hm hr hjn
        generalize es.length = el at *
        cases a2 with
        | true =>
          have CI := CI.out
          rw [if_pos rfl, Int.add_zero] at CI
          go_wp2_with fail
          refine CI.mono ?_
          rintro e w3 ⟨rfl, ⟨T', hck, hft⟩, ho⟩
          have HB := Go.Lib.hid (HB.out.trans (ho.below HD.out HB.out.size))
          have HC := Go.Lib.hid hck
          have HF := Go.Lib.hid hft
          clear hck hft ho CI
          go_wp2_with fail
          go_roundw
          case rel => exact ⟨j + 1, T', es2, by have := HJ.out; omega, by go_num, by rw [HEL.out], HC.out, Go.Lib.hid ⟨HF.out, HS.out⟩, HB.out⟩
          case measure => simp only [intOf]; have := HJ.out; omega
        | false =>
          have CI := CI.out
          rw [if_neg (by decide)] at CI
          go_wp2_with fail
          refine CI.mono ?_
          rintro e w3 ⟨rfl, ⟨T', hck, hft⟩, ho⟩
          have HB := Go.Lib.hid (HB.out.trans (ho.below HD.out HB.out.size))
          have HC := Go.Lib.hid hck
          have HF := Go.Lib.hid hft
          clear hck hft ho CI
          go_wp2_with fail
          go_roundw
          case rel => exact ⟨j + 1, T', es2, by have := HJ.out; omega, by go_num, by rw [HEL.out], HC.out, Go.Lib.hid ⟨HF.out, HS.out⟩, HB.out⟩
          case measure => simp only [intOf]; have := HJ.out; omega
      · have hm : min j (capF a2) = capF a2 := by omega
        have CI := cinsert_no hck hft.out.1 (x := hF a2 tag j) (i := (j : Int)) hx (by rw [bounds_wf (by omega) (by omega)]) (by rw [hft.out.2, hm, full_no a2 ht (by omega), Bool.and_false])
        have HS := Go.Lib.hid (show es.map Prod.fst = (List.range (min (j + 1) (capF a2))).map (hF a2 tag) by
          rw [hft.out.2, hm, show min (j + 1) (capF a2) = capF a2 by omega])
        rw [hxe] at CI
        have CI := Go.Lib.hid CI
        have HB := Go.Lib.hid hbc
        have HC := Go.Lib.hid hck
        have HF := Go.Lib.hid hft.out.1
        have HJ := Go.Lib.hid hjn
        clear hck hft hbc hel hx hxe hcap hm hr hjn
        obtain ⟨el, hel⟩ : ∃ el, el = es.length := ⟨_, rfl⟩
        rw [← hel] at hel2 ⊢
        have HEL := Go.Lib.hid hel
        clear hel
        cases a2 with
        | true =>
          have CI := CI.out
          rw [if_pos rfl, Int.add_zero] at CI
          go_wp2_with fail
          refine CI.mono ?_
          rintro e w3 ⟨rfl, hc⟩
          have HB := Go.Lib.hid (below_to HB.out (Nat.le_refl _) hc)
          have HC := Go.Lib.hid (HC.out.below hc)
          clear hc CI
          go_wp2_with fail
          go_roundw
          case rel => exact ⟨j + 1, T, es, by have := HJ.out; omega, by go_num, by rw [HEL.out], HC.out, Go.Lib.hid ⟨HF.out, HS.out⟩, HB.out⟩
          case measure => simp only [intOf]; have := HJ.out; omega
        | false =>
          have CI := CI.out
          rw [if_neg (by decide)] at CI
          go_wp2_with fail
          refine CI.mono ?_
          rintro e w3 ⟨rfl, hc⟩
          have HB := Go.Lib.hid (below_to HB.out (Nat.le_refl _) hc)
          have HC := Go.Lib.hid (HC.out.below hc)
          clear hc CI
          go_wp2_with fail
          go_roundw
          case rel => exact ⟨j + 1, T, es, by have := HJ.out; omega, by go_num, by rw [HEL.out], HC.out, Go.Lib.hid ⟨HF.out, HS.out⟩, HB.out⟩
          case measure => simp only [intOf]; have := HJ.out; omega
    · obtain rfl : j = n := by omega
      have HB := Go.Lib.hid hbc
      cases a2 with
      | true =>
        have hk : es.length = min j 8 := by rw [hel]; rfl
        generalize es.length = el at *
        clear hck hft hbc hel hjn
        by_cases h8 : j < 8
        · obtain rfl : el = j := by omega
          have q1 : min (el : Int) 8 = (el : Int) := by omega
          have q2 : min (el : Int) 8 = (el : Int) := by omega
          clear hk
          go_wp2_with fail
          go_ret
          exact ⟨by simp, HB.out⟩
        · obtain rfl : el = 8 := by omega
          have q1 : min (j : Int) 8 = 8 := by omega
          clear hk
          go_wp2_with fail
          go_ret
          exact ⟨by simp, HB.out⟩
      | false =>
        have hk : es.length = min j 32 := by rw [hel]; rfl
        generalize es.length = el at *
        clear hck hft hbc hel hjn
        by_cases h8 : j < 32
        · obtain rfl : el = j := by omega
          have q1 : min (el : Int) 32 = (el : Int) := by omega
          clear hk
          go_wp2_with fail
          go_ret
          exact ⟨by simp, HB.out⟩
        · obtain rfl : el = 32 := by omega
          have q1 : min (j : Int) 32 = 32 := by omega
          clear hk
          go_wp2_with fail
          go_ret
          exact ⟨by simp, HB.out⟩

/-! ### THE ROW's STEP: WRITTEN OUT: LEAVE IT -/
set_option maxRecDepth 100000 in
theorem lifted (os : Os) (started : os.Started) (H : Type) (enc : TypeId × Value → H) :
    ReturnsInHanded {} Try.checked os 5 .any (Rows.cuckooFullSpec.pre6 enc Try.prog Try.f5 Rows.cuckooFullRow.domain false) (Rows.cuckooFullSpec.post enc Try.prog Try.f5 false true false false) := by
  refine returnsInHanded_of_change (C := Try.checked) own started (by kernel_rfl) Try.func5
    (ChangeSpec.witness6 (enc := enc) (C := Try.checked) false ⟨#[], #[.int .i64 0, .int .i64 0, .bool false], []⟩ 8 (by kernel_rfl) (by kernel_rfl) (by kernel_rfl) (by kernel_rfl)) ?_
  intro W base args ds gs before hval0 hW hcnd _
  have hval : ∀ (j : Nat) t v, Try.f5.params[j]? = some t → args[j]? = some v → Value.okWide Try.prog W .any base t v := hval0
  have hW' := hW
  obtain ⟨p, q, hA0, hV, rfl, hfz, hnd⟩ := hW
  have hA : DataW.TrodAll enc Try.prog W 0 (fun _ => true) true Try.f5.params.toList args.toList ds p := hA0
  rw [Try.params5] at hA hval
  obtain ⟨v0, vs0, d0, ds0, p0, q0, hargs, rfl, rfl, h0, r0⟩ := trodAll_cons hA
  obtain ⟨v1, vs1, d1, ds1, p1, q1, rfl, rfl, rfl, h1, r1⟩ := trodAll_cons r0
  obtain ⟨v2, vs2, d2, ds2, p2, q2, rfl, rfl, rfl, h2, r2⟩ := trodAll_cons r1
  obtain ⟨rfl, rfl, rfl⟩ := trodAll_nil r2
  obtain rfl : args = #[v0, v1, v2] := by cases args; simp_all
  obtain ⟨rfl, rfl⟩ := trodVars_none hV
  obtain ⟨a0, rfl, rfl, rfl, w0⟩ := open_int Try.underlying3 (hval 0 3 v0 rfl rfl) h0
  obtain ⟨a1, rfl, rfl, rfl, w1⟩ := open_int Try.underlying3 (hval 1 3 v1 rfl rfl) h1
  obtain ⟨a2, rfl, rfl, rfl⟩ := open_bool Try.underlying4 (hval 2 4 v2 rfl rfl) h2
  clear hA0 hval0
  refine (walk a0 a1 a2 w0 w1 W).mono fun e W' ⟨he, hg⟩ => ?_
  subst he
  exact ⟨_, rfl, _, _, _, [], _, [], hW', (trodAll_cons_mk (shut_bool Try.underlying4 _) trodAll_mk0), (trodAll_cons_mk (shut_int Try.underlying3 w0) (trodAll_cons_mk (shut_int Try.underlying3 w1) (trodAll_cons_mk (shut_bool Try.underlying4 _) trodAll_mk0))), rfl, hg.frame _, fun h => by cases h⟩

theorem over : Rows.cuckooFullRow.holds Try.pinned (OpenSpec.ofChange Rows.cuckooFullSpec) :=
  OpenClaim.holds_of_wide 5 Try.f5 rfl rfl rfl rfl rfl rfl rfl ⟨rfl, rfl, rfl, rfl, rfl⟩ rfl rfl rfl rfl rfl (by kernel_rfl) Try.func5 (by kernel_rfl)
    (of_decide_eq_true (by kernel_rfl)) (by unfold Func.isWrapper; first | (rw [if_pos (by decide +kernel)]; kernel_rfl) | (rw [if_neg (by decide +kernel)]; exact ⟨rfl, rfl⟩))
    (fun os started H enc _ => lifted os started H enc)

/-- ████ THE STATEMENT ████ -/
theorem proved : Rows.CuckooFullSaid :=
  over
#print axioms proved
end Go.Proofs.Ytgbaeipemlcbcaa.cuckooFull
