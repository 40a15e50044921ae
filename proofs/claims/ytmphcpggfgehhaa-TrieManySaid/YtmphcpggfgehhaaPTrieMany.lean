/- TrieMany: as many as 4,096 hashes have a tree, and not one more: for every input the law returns true. -/
import Derived.Test.YtmphcpggfgehhaaRows
import Derived.WalkKit
import Derived.ProofKit
import Derived.OpenShut
import Derived.ShutString
import Derived.Test.YtmphcpggfgehhaaBegun21
import Derived.Test.YtmphcpggfgehhaaTrieU
namespace Go.Proofs.Ytmphcpggfgehhaa.trieMany
open Go.ChangeShapes Go.WideShapes Go.ChangeAt Go.RowKit
open Go.ChangeMaps (open_string shut_string)
set_option linter.unusedVariables false      -- a walk need not use every 'w<i>' (that an integer argument fits its kind)

theorem own : ownKnob Try.prog.godebug = none := by kernel_rfl

/-- The first i of n hashes, s apart; the others noughts. -/
def stepsL (n s i : Nat) : List Nat := (List.range n).map fun j => if j < i then j * s else 0
theorem stepsL_length (n s i : Nat) : (stepsL n s i).length = n := by simp [stepsL]
theorem stepsL_at (n s i j : Nat) (h : j < (stepsL n s i).length) : (stepsL n s i)[j] = if j < i then j * s else 0 := by simp [stepsL]
theorem stepsL_zero (n s : Nat) : List.replicate n 0 = stepsL n s 0 := by
  apply List.ext_getElem
  · simp [stepsL]
  · intro j h1 h2
    rw [stepsL_at]
    simp
theorem stepsL_set (n s i : Nat) (h : i < n) : (stepsL n s i).set i (i * s) = stepsL n s (i + 1) := by
  apply List.ext_getElem
  · simp [stepsL]
  · intro j h1 h2
    rw [List.getElem_set, stepsL_at, stepsL_at]
    by_cases hj : i = j
    · subst hj
      rw [if_pos rfl, if_pos (by omega)]
    · rw [if_neg hj]
      by_cases h3 : j < i
      · rw [if_pos h3, if_pos (by omega)]
      · rw [if_neg h3, if_neg (by omega)]
theorem stepsL_rise (n s : Nat) (hs : 1 ≤ s) : riseB (stepsL n s n) = true := by
  refine riseB_of (List.pairwise_iff_getElem.2 fun i j hi hj hij => ?_)
  rw [stepsL_length] at hi hj
  rw [stepsL_at, stepsL_at, if_pos hi, if_pos hj]
  exact Nat.mul_lt_mul_of_pos_right hij (by omega)
theorem stepsL_64 (n s : Nat) (hn : n ≤ 4200) (hs : s ≤ 1125899906842624) : ∀ x ∈ stepsL n s n, x < 18446744073709551616 := by
  intro x hx
  obtain ⟨j, hj, rfl⟩ := List.mem_iff_getElem.1 hx
  rw [stepsL_at]
  rw [stepsL_length] at hj
  rw [if_pos hj]
  have : j * s ≤ 4200 * 1125899906842624 := Nat.mul_le_mul (by omega) hs
  omega

set_option maxHeartbeats 2000000 in
set_option maxRecDepth 100000 in
theorem walk (a0 : Int) (a1 : Int) (w0 : (Lit.int .i64 a0).wf = true) (w1 : (Lit.int .u64 a1).wf = true) (w : World) :
    Calls Try.prog 7 #[.int .i64 a0, .int .u64 a1] w fun e w' => e = .returned (.bool true) ∧ Below w.heap.size w w' := by
  obtain ⟨p0, p1⟩ := bounds_i64 w0
  obtain ⟨q0, q1⟩ := bounds_u64 w1
  clear w0 w1
  by_cases h1 : a0 < 4000
  · go_enter Try.func7, Try.ntmps7
    go_wp2_with fail
    refine (begun21_c _).mono ?_
    rintro e w1 ⟨rfl, hb1⟩
    go_wp2_with fail
    go_ret
    exact ⟨rfl, hb1⟩
  by_cases h2 : 4200 < a0
  · go_enter Try.func7, Try.ntmps7
    go_wp2_with fail
    refine (begun21_c _).mono ?_
    rintro e w1 ⟨rfl, hb1⟩
    go_wp2_with fail
    go_ret
    exact ⟨rfl, hb1⟩
  by_cases h3 : a1 < 1
  · go_enter Try.func7, Try.ntmps7
    go_wp2_with fail
    refine (begun21_c _).mono ?_
    rintro e w1 ⟨rfl, hb1⟩
    go_wp2_with fail
    go_ret
    exact ⟨rfl, hb1⟩
  by_cases h4 : 1125899906842624 < a1
  · go_enter Try.func7, Try.ntmps7
    go_wp2_with fail
    refine (begun21_c _).mono ?_
    rintro e w1 ⟨rfl, hb1⟩
    go_wp2_with fail
    go_ret
    exact ⟨rfl, hb1⟩
  obtain ⟨n, rfl⟩ : ∃ n : Nat, a0 = (n : Int) := ⟨a0.toNat, by omega⟩
  obtain ⟨s, rfl⟩ : ∃ s : Nat, a1 = (s : Int) := ⟨a1.toNat, by omega⟩
  have hn0 : 4000 ≤ n := by omega
  have hn1 : n ≤ 4200 := by omega
  have hs0 : 1 ≤ s := by omega
  have hs1 : s ≤ 1125899906842624 := by omega
  have hn6 : n ≤ 1000000 := by omega
  clear p0 p1 q0 q1
  go_enter Try.func7, Try.ntmps7
  go_wp2_with fail
  refine (begun21_c _).mono ?_
  rintro e w1 ⟨rfl, hb1⟩
  go_wp2_with (first
    | (with_reducible show wpList _ _ _ (⟨some 32, _, _, _, _, _⟩ :: _) _ _; go_must (refine KU_ok.make 0 rfl rfl (.tmp 31) (.tmp 31) rfl .i64 .i64 _ _ n rfl rfl rfl rfl hn6 ?_); go_must (intro g w2 ho2 hg2 hgr; have hb2 := hb1.grown hgr hb1.size (fun k hk => by cases hk); have hbn := grown_new hgr; have HO2 := Go.Lib.hid ho2; have HB2 := Go.Lib.hid hb2; have Hbn := Go.Lib.hid hbn; have HG := Go.Lib.hid hg2; clear hgr ho2 hb2 hbn hg2))
    | fail)
  have HO3 : Hid (KU.O w2 w1.heap.size (.slice (some ⟨g, 0, none⟩) n n) (stepsL n s 0)) := Go.Lib.hid (by rw [← stepsL_zero]; exact HO2.out)
  clear HO2
  go_loopw [35] (fun i' wr => ∃ i : Nat, i' = .int .i64 (i : Int) ∧ i ≤ n ∧ KU.O wr w1.heap.size (.slice (some ⟨g, 0, none⟩) n n) (stepsL n s i) ∧ Below w1.heap.size w1 wr) (fun i' _ => n - (intOf i').toNat)
  case atStart => exact ⟨0, rfl, by omega, HO3.out, Hbn.out⟩
  case round =>
    obtain ⟨i, rfl, hi, hO, hb⟩ := hrel
    by_cases hlt : i < n
    · obtain ⟨y, hc⟩ := KU.there hO i (by rw [stepsL_length]; exact hlt)
      have hf := hO.frozenAt i
      have i1 := idxU g 0 n n i hlt
      rw [Nat.zero_add] at i1
      have hset := KU.set hO i (by rw [stepsL_length]; exact hlt) (i * s)
      rw [stepsL_set n s i hlt] at hset
      have hle : i * s ≤ 4200 * 1125899906842624 := Nat.mul_le_mul (by omega) hs1
      have hmul : IntKind.u64.wrap ((i : Int) * (s : Int)) = ((i * s : Nat) : Int) := by
        rw [← Int.natCast_mul, IntKind.wrap_u64]
        omega
      obtain ⟨q, hq⟩ : ∃ q, q = i * s := ⟨_, rfl⟩
      rw [← hq] at hmul hset
      have Hset := Go.Lib.hid hset
      have Hg := Go.Lib.hid (show Below w1.heap.size w1 (wr.setCell ⟨g, i, none⟩ (.int .u64 (q : Int))) from hb.grown hset.2 hb.size (fun k hk => by cases hk; rw [HG.out]; exact Nat.le_refl _))
      clear hO hset hq hle hb
      go_wp2_with fail
      go_roundw
      case rel => exact ⟨i + 1, by go_num, by omega, Hset.out.1, Hg.out⟩
      case measure => simp only [intOf]; omega
    · obtain rfl : i = n := by omega
      have hR := hO.r
      have h64 := stepsL_64 i s hn1 hs1
      have hr := stepsL_rise i s hs0
      have hln := stepsL_length i s i
      have hb5 := hb1.trans (hb.mono hb1.size)
      have HB5 := Go.Lib.hid hb5
      clear hlt hi HO3 HB2 Hbn hb1
      by_cases h46 : 4096 < i
      · have KB := Go.Lib.hid (build_no _ _ wr hR (by rw [hln]; omega) (.inl (by rw [hln]; exact h46)))
        have h46I : 4096 < (i : Int) := by omega
        clear hR h64 hr hln hO hb hb5
        go_wp2_with fail
        refine KB.out.mono ?_
        rintro e w3 ⟨rfl, hb3⟩
        have hb6 := HB5.out.trans (hb3.mono HB5.out.size)
        go_wp2_with fail
        go_ret
        exact ⟨rfl, hb6⟩
      · have h46I : ¬ 4096 < (i : Int) := by omega
        have KB := Go.Lib.hid (build_yes _ _ wr hR h64 (by rw [hln]; omega) hr)
        have hplace := fun (j : Nat) (hj : j < (stepsL i s i).length) => rank_place (rise64 hr h64) (by rw [hln]; omega) j hj
        have hlen := treeL_len 64 (stepsL i s i) (by rw [hln]; omega)
        have e1 : ((i - 1 : Nat) : Int) = (i : Int) - 1 := by omega
        have e2 : ((i / 2 : Nat) : Int) = (i : Int) / 2 := by omega
        obtain ⟨b', o', e, -, hgl, c1⟩ := KU.at' hR (i - 1) (by rw [hln]; omega)
        cases e
        obtain ⟨b', o', e, -, -, c2⟩ := KU.at' hR (i / 2) (by rw [hln]; omega)
        cases e
        have i1 := idxU g 0 i i (i - 1) (by omega)
        have i2 := idxU g 0 i i (i / 2) (by omega)
        rw [Nat.zero_add] at c1 c2 i1 i2
        rw [e1] at i1
        rw [e2] at i2
        have r1 := hplace (i - 1) (by rw [hln]; omega)
        have r2 := hplace (i / 2) (by rw [hln]; omega)
        generalize (stepsL i s i)[i - 1]'(by rw [hln]; omega) = y1 at *
        generalize (stepsL i s i)[i / 2]'(by rw [hln]; omega) = y2 at *
        rw [hln] at r1 r2 hlen
        have HL : Hid ((treeL 64 (stepsL i s i)).length ≤ 100000000) := Go.Lib.hid (by omega)
        generalize treeL 64 (stepsL i s i) = T at *
        have HR1 := Go.Lib.hid r1
        have HR2 := Go.Lib.hid r2
        obtain ⟨j1, hj1⟩ : ∃ j, j = i - 1 := ⟨_, rfl⟩
        obtain ⟨j2, hj2⟩ : ∃ j, j = i / 2 := ⟨_, rfl⟩
        have HC1 := Go.Lib.hid c1
        have HC2 := Go.Lib.hid c2
        clear hR h64 hr hln hO hb hb5 hplace hlen r1 r2 c1 c2
        go_wp2_with fail
        refine KB.out.mono ?_
        rintro e w3 ⟨B, u, rfl, hbt, hB, hb3⟩
        have hb6 := HB5.out.trans (hb3.mono HB5.out.size)
        have HB6 := Go.Lib.hid hb6
        have d1 := (hb3.cell (p := ⟨g, i - 1, none⟩) hgl).trans HC1.out
        have d2 := (hb3.cell (p := ⟨g, i / 2, none⟩) hgl).trans HC2.out
        have K1 := Go.Lib.hid (rank_c i y1 w3 B B u T hbt HL.out (by omega) _ HR1.out)
        have K2 := Go.Lib.hid fun W (h : Below w3.heap.size w3 W) => rank_c i y2 W B B u T (hbt.below h) HL.out (by omega) _ HR2.out
        have hg3 : g < w3.heap.size := Nat.lt_of_lt_of_le hgl hb3.size
        simp only [endV] at K1 K2
        clear hbt hb3 hb6 HC1 HC2 HR1 HR2 KB
        go_wp2_with fail
        refine K1.out.mono ?_
        rintro e w4 ⟨rfl, hb4⟩
        have d3 := (hb4.cell (p := ⟨g, i / 2, none⟩) hg3).trans d2
        clear K1 d1 d2
        go_wp2_with fail
        refine (K2.out w4 hb4).mono ?_
        rintro e w5 ⟨rfl, hb5⟩
        have hb7 := HB6.out.trans ((hb4.trans (hb5.mono hb4.size)).mono HB6.out.size)
        rw [e2]
        have t1 : ((i : Int) - 1 == (i : Int) - 1) = true := by simp
        have t2 : ((i : Int) / 2 == (i : Int) / 2) = true := by simp
        clear K2 d3
        go_wp2_with fail
        go_ret
        exact ⟨rfl, hb7⟩

/-! ### THE ROW's STEP: WRITTEN OUT: LEAVE IT -/
set_option maxRecDepth 100000 in
theorem lifted (os : Os) (started : os.Started) (H : Type) (enc : TypeId × Value → H) :
    ReturnsInHanded {} Try.checked os 7 .any (Rows.trieManySpec.pre6 enc Try.prog Try.f7 Rows.trieManyRow.domain false) (Rows.trieManySpec.post enc Try.prog Try.f7 false true false false) := by
  refine returnsInHanded_of_change (C := Try.checked) own started (by kernel_rfl) Try.func7
    (ChangeSpec.witness6 (enc := enc) (C := Try.checked) false ⟨#[], #[.int .i64 0, .int .u64 0], []⟩ 8 (by kernel_rfl) (by kernel_rfl) (by kernel_rfl) (by kernel_rfl)) ?_
  intro W base args ds gs before hval0 hW hcnd _
  have hval : ∀ (j : Nat) t v, Try.f7.params[j]? = some t → args[j]? = some v → Value.okWide Try.prog W .any base t v := hval0
  have hW' := hW
  obtain ⟨p, q, hA0, hV, rfl, hfz, hnd⟩ := hW
  have hA : DataW.TrodAll enc Try.prog W 0 (fun _ => true) true Try.f7.params.toList args.toList ds p := hA0
  rw [Try.params7] at hA hval
  obtain ⟨v0, vs0, d0, ds0, p0, q0, hargs, rfl, rfl, h0, r0⟩ := trodAll_cons hA
  obtain ⟨v1, vs1, d1, ds1, p1, q1, rfl, rfl, rfl, h1, r1⟩ := trodAll_cons r0
  obtain ⟨rfl, rfl, rfl⟩ := trodAll_nil r1
  obtain rfl : args = #[v0, v1] := by cases args; simp_all
  obtain ⟨rfl, rfl⟩ := trodVars_none hV
  obtain ⟨a0, rfl, rfl, rfl, w0⟩ := open_int Try.underlying3 (hval 0 3 v0 rfl rfl) h0
  obtain ⟨a1, rfl, rfl, rfl, w1⟩ := open_int Try.underlying23 (hval 1 23 v1 rfl rfl) h1
  clear hA0 hval0
  refine (walk a0 a1 w0 w1 W).mono fun e W' ⟨he, hg⟩ => ?_
  subst he
  exact ⟨_, rfl, _, _, _, [], _, [], hW', (trodAll_cons_mk (shut_bool Try.underlying4 _) trodAll_mk0), (trodAll_cons_mk (shut_int Try.underlying3 w0) (trodAll_cons_mk (shut_int Try.underlying23 w1) trodAll_mk0)), rfl, hg.frame _, fun h => by cases h⟩

theorem over : Rows.trieManyRow.holds Try.pinned (OpenSpec.ofChange Rows.trieManySpec) :=
  OpenClaim.holds_of_wide 7 Try.f7 rfl rfl rfl rfl rfl rfl rfl ⟨rfl, rfl, rfl, rfl, rfl⟩ rfl rfl rfl rfl rfl (by kernel_rfl) Try.func7 (by kernel_rfl)
    (of_decide_eq_true (by kernel_rfl)) (by unfold Func.isWrapper; first | (rw [if_pos (by decide +kernel)]; kernel_rfl) | (rw [if_neg (by decide +kernel)]; exact ⟨rfl, rfl⟩))
    (fun os started H enc _ => lifted os started H enc)

/-- ████ THE STATEMENT ████ -/
theorem proved : Rows.TrieManySaid :=
  over
#print axioms proved
end Go.Proofs.Ytmphcpggfgehhaa.trieMany
