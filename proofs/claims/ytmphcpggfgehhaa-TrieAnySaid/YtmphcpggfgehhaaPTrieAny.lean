/- TrieAny: any bits are read as a tree, as far as they are asked; they are one just from their first to their last bit: for every input the law returns true. -/
import Derived.Test.YtmphcpggfgehhaaRows
import Derived.WalkKit
import Derived.ProofKit
import Derived.OpenShut
import Derived.ShutString
import Derived.ChangeOld
import Derived.Below
import Derived.Test.YtmphcpggfgehhaaOpenB
import Derived.Test.YtmphcpggfgehhaaBegun21
import Derived.Test.YtmphcpggfgehhaaTrieR
import Derived.Test.YtmphcpggfgehhaaTrieU
import Derived.Test.YtmphcpggfgehhaaBof
import Derived.Deep.DeepCutAuto
namespace Go.Proofs.Ytmphcpggfgehhaa.trieAny
open Go.ChangeShapes Go.WideShapes Go.ChangeAt Go.RowKit
open Go.ChangeMaps (open_string shut_string)
set_option linter.unusedVariables false

theorem own : ownKnob Try.prog.godebug = none := by kernel_rfl
theorem laidOut : laidOutB Try.prog = true := by kernel_rfl

set_option maxHeartbeats 2000000 in
set_option maxRecDepth 100000 in
theorem walk (w : World) (a0 : Option Addr) (len0 cap0 : Nat) (l0 : List Bool) (w0 : RV w (.slice a0 len0 cap0) (zb l0)) (a1 : Int) (w1 : (Lit.int .i64 a1).wf = true) (a2 : Int) (w2 : (Lit.int .u64 a2).wf = true) :
    Calls Try.prog 4 #[.slice a0 len0 cap0, .int .i64 a1, .int .u64 a2] w fun e w' => e = .returned (.bool true) ∧ Below w.heap.size w w' := by
  obtain ⟨p0, p1⟩ := bounds_i64 w1
  obtain ⟨q0, q1⟩ := bounds_u64 w2
  obtain ⟨x, rfl⟩ : ∃ x : Nat, a2 = (x : Int) := ⟨a2.toNat, by omega⟩
  obtain ⟨ad, cp, hv, hm63, -⟩ := w0.zbForm
  simp only [Value.slice.injEq] at hv
  obtain ⟨rfl, rfl, rfl⟩ := hv
  have H0 := Go.Lib.hid w0
  clear w0 w1 w2
  go_enter Try.func4, Try.ntmps4
  go_upto_if 20 with (refine (begun21_c _).mono ?_; rintro e w1 ⟨rfl, hbb⟩)
  go_cut [0] (fun s wx => wx = w1 ∧ ∃ l : List Bool, l.length ≤ 200 ∧ RV wx s (zb l))
  case first =>
    by_cases h200 : 200 < l0.length
    · have hr := Go.Lib.hid ((H0.out.below hbb).zbTake 200 (by omega))
      have hlen := Go.Lib.hid (show (l0.take 200).length ≤ 200 by rw [List.length_take]; omega)
      obtain ⟨ad', cp', hv, -, hne⟩ := H0.out.zbForm
      simp only [Value.slice.injEq, true_and] at hv
      obtain ⟨rfl, rfl⟩ := hv
      cases a0 with
      | none => have := hne rfl; omega
      | some aa =>
      clear hne
      have hcap := Go.Lib.hid (RV.zbCap H0.out)
      have hc2 : 200 ≤ cap0 := by have := hcap.out; omega
      go_wp2_with fail
      go_meet
      exact ⟨rfl, _, hlen.out, hr.out⟩
    · have hr := Go.Lib.hid (H0.out.below hbb)
      go_wp2_with fail
      go_meet
      exact ⟨rfl, _, by omega, hr.out⟩
  case rest =>
    obtain ⟨rfl, l, hl200, hr⟩ := hcut
    clear H0 hm63
    obtain ⟨ad, cp, rfl, -, -⟩ := hr.zbForm
    have Hr := Go.Lib.hid hr
    clear hr
    by_cases hn0 : a1 < 0
    · go_wp2_with fail
      go_ret
      exact ⟨rfl, hbb⟩
    by_cases hn40 : 40 < a1
    · go_wp2_with fail
      go_ret
      exact ⟨rfl, hbb⟩
    obtain ⟨n, rfl⟩ : ∃ n : Nat, a1 = (n : Int) := ⟨a1.toNat, by omega⟩
    have hn : n ≤ 40 := by omega
    clear hn0 p0 p1
    obtain ⟨R, hR⟩ : ∃ R, R = rankB l x 64 0 n 0 := ⟨_, rfl⟩
    have HR := Go.Lib.hid hR
    obtain ⟨K, hK⟩ : ∃ K, K = skipB l 64 0 n := ⟨_, rfl⟩
    have HK := Go.Lib.hid hK
    have hx64 : x < 18446744073709551616 := by omega
    clear hR hK
    go_wp2_with fail
    refine (bof6_c _ l _ Hr.out (by omega)).mono ?_
    rintro e w2 ⟨u, rfl, hbt, hb2⟩
    have hbb2 := hbb.trans (hb2.mono hbb.size)
    have HBT := Go.Lib.hid hbt
    have Hr2 := Go.Lib.hid (Hr.out.below hb2)
    generalize wc.heap.size = b at *
    clear hbt Hr hb2 hbb
    have KR := Go.Lib.hid (rank_c n x w2 b b u l HBT.out (by omega) (by omega) R HR.out.symm)
    have KQ := Go.Lib.hid fun W (h : Below w2.heap.size w2 W) => rrank_c n x _ l W (Hr2.out.below h) (by omega) (by omega) hx64 R HR.out.symm
    have KS := fun W (h : Below w2.heap.size w2 W) => rskip_c _ l W (Hr2.out.below h) (by omega) 64 0 0 n rfl (by omega) (by omega)
    rw [← HK.out] at KS
    have KS := Go.Lib.hid KS
    have KC := Go.Lib.hid fun W (h : Below w2.heap.size w2 W) t ht => check_c n t W b b u l (HBT.out.below h) (by omega) (by omega) ht
    have hch := checkB_eq HK.out
    clear HBT Hr2 HR HK
    cases R with
    | none =>
      cases K with
      | none =>
        have KC1 := Go.Lib.hid fun W h => KC.out W h false hch
        clear KC hch
        simp only [endV] at KR KQ
        go_wp2_with fail
        refine KR.out.mono ?_
        rintro e w3 ⟨rfl, hb3⟩
        go_wp2_with fail
        refine (KQ.out w3 hb3).mono ?_
        rintro e w4 ⟨rfl, rfl⟩
        go_wp2_with fail
        refine (KS.out w3 hb3).mono ?_
        rintro e w4 ⟨⟨z, rfl, -⟩, rfl⟩
        simp only [Option.isSome]
        go_wp2_with fail
        refine (KC1.out w3 hb3).mono ?_
        rintro e w5 ⟨rfl, hb5⟩
        have hb6 := hbb2.trans ((hb3.trans (hb5.mono hb3.size)).mono hbb2.size)
        go_wp2_with fail
        go_ret
        exact ⟨rfl, hb6⟩
      | some r =>
        obtain ⟨t, ht⟩ : ∃ t, t = decide (r = l.length) := ⟨_, rfl⟩
        have KC1 := Go.Lib.hid fun W h => KC.out W h t (hch.trans ht.symm)
        have htI : ((r : Int) == (l.length : Int)) = t := by rw [ht, Bool.eq_iff_iff, beq_iff_eq, decide_eq_true_eq]; omega
        clear KC hch ht
        simp only [endV] at KR KQ
        generalize l.length = m at *
        go_wp2_with fail
        refine KR.out.mono ?_
        rintro e w3 ⟨rfl, hb3⟩
        go_wp2_with fail
        refine (KQ.out w3 hb3).mono ?_
        rintro e w4 ⟨rfl, rfl⟩
        go_wp2_with fail
        refine (KS.out w3 hb3).mono ?_
        rintro e w4 ⟨⟨z, rfl, hz⟩, rfl⟩
        obtain rfl : z = r := hz r rfl
        clear hz
        simp only [Option.isSome]
        go_wp2_with fail
        refine (KC1.out w3 hb3).mono ?_
        rintro e w5 ⟨rfl, hb5⟩
        have hb6 := hbb2.trans ((hb3.trans (hb5.mono hb3.size)).mono hbb2.size)
        have htt : (t == t) = true := by simp
        go_wp2_with fail
        go_ret
        exact ⟨rfl, hb6⟩
    | some p =>
      have hpp : ((p : Int) == (p : Int)) = true := by simp
      cases K with
      | none =>
        have KC1 := Go.Lib.hid fun W h => KC.out W h false hch
        clear KC hch
        simp only [endV] at KR KQ
        go_wp2_with fail
        refine KR.out.mono ?_
        rintro e w3 ⟨rfl, hb3⟩
        go_wp2_with fail
        refine (KQ.out w3 hb3).mono ?_
        rintro e w4 ⟨rfl, rfl⟩
        go_wp2_with fail
        refine (KS.out w3 hb3).mono ?_
        rintro e w4 ⟨⟨z, rfl, -⟩, rfl⟩
        simp only [Option.isSome]
        go_wp2_with fail
        refine (KC1.out w3 hb3).mono ?_
        rintro e w5 ⟨rfl, hb5⟩
        have hb6 := hbb2.trans ((hb3.trans (hb5.mono hb3.size)).mono hbb2.size)
        go_wp2_with fail
        go_ret
        exact ⟨rfl, hb6⟩
      | some r =>
        obtain ⟨t, ht⟩ : ∃ t, t = decide (r = l.length) := ⟨_, rfl⟩
        have KC1 := Go.Lib.hid fun W h => KC.out W h t (hch.trans ht.symm)
        have htI : ((r : Int) == (l.length : Int)) = t := by rw [ht, Bool.eq_iff_iff, beq_iff_eq, decide_eq_true_eq]; omega
        clear KC hch ht
        simp only [endV] at KR KQ
        generalize l.length = m at *
        go_wp2_with fail
        refine KR.out.mono ?_
        rintro e w3 ⟨rfl, hb3⟩
        go_wp2_with fail
        refine (KQ.out w3 hb3).mono ?_
        rintro e w4 ⟨rfl, rfl⟩
        go_wp2_with fail
        refine (KS.out w3 hb3).mono ?_
        rintro e w4 ⟨⟨z, rfl, hz⟩, rfl⟩
        obtain rfl : z = r := hz r rfl
        clear hz
        simp only [Option.isSome]
        go_wp2_with fail
        refine (KC1.out w3 hb3).mono ?_
        rintro e w5 ⟨rfl, hb5⟩
        have hb6 := hbb2.trans ((hb3.trans (hb5.mono hb3.size)).mono hbb2.size)
        have htt : (t == t) = true := by simp
        go_wp2_with fail
        go_ret
        exact ⟨rfl, hb6⟩

/-! ### THE ROW -/
set_option maxRecDepth 100000 in
theorem lifted (os : Os) (started : os.Started) (H : Type) (enc : TypeId × Value → H) :
    ReturnsInHanded {} Try.checked os 4 .any (Rows.trieAnySpec.pre6 enc Try.prog Try.f4 Rows.trieAnyRow.domain false) (Rows.trieAnySpec.post enc Try.prog Try.f4 false true false false) := by
  refine returnsInHanded_of_change (C := Try.checked) own started (by kernel_rfl) Try.func4
    (ChangeSpec.witness6 (enc := enc) (C := Try.checked) false ⟨#[], #[.slice none 0 0, .int .i64 0, .int .u64 0], []⟩ 8 (by kernel_rfl) (by kernel_rfl) (by kernel_rfl) (by kernel_rfl)) ?_
  intro W base args ds gs before hval0 hW hcnd _
  have hval : ∀ (j : Nat) t v, Try.f4.params[j]? = some t → args[j]? = some v → Value.okWide Try.prog W .any base t v := hval0
  have hW' := hW
  obtain ⟨p, q, hA0, hV, rfl, hfz, hnd⟩ := hW
  have hA : DataW.TrodAll enc Try.prog W 0 (fun _ => true) true Try.f4.params.toList args.toList ds p := hA0
  rw [Try.params4] at hA hval
  obtain ⟨v0, vs0, d0, ds0, p0, q0, hargs, rfl, rfl, h0, r0⟩ := trodAll_cons hA
  obtain ⟨v1, vs1, d1, ds1, p1, q1, rfl, rfl, rfl, h1, r1⟩ := trodAll_cons r0
  obtain ⟨v2, vs2, d2, ds2, p2, q2, rfl, rfl, rfl, h2, r2⟩ := trodAll_cons r1
  obtain ⟨rfl, rfl, rfl⟩ := trodAll_nil r2
  obtain rfl : args = #[v0, v1, v2] := by cases args; simp_all
  obtain ⟨rfl, rfl⟩ := trodVars_none hV
  have kk0 := h0
  have lt0 : ∀ x ∈ p0, x.block < W.heap.size := by obtain ⟨m, hm⟩ := kk0; exact DataW.trod_lt m _ _ _ hm
  have kk1 := h1
  have lt1 : ∀ x ∈ p1, x.block < W.heap.size := by obtain ⟨m, hm⟩ := kk1; exact DataW.trod_lt m _ _ _ hm
  have kk2 := h2
  have lt2 : ∀ x ∈ p2, x.block < W.heap.size := by obtain ⟨m, hm⟩ := kk2; exact DataW.trod_lt m _ _ _ hm
  obtain ⟨a0, len0, cap0, rfl⟩ := okWide_slice Try.underlying29 (hval 0 29 v0 rfl rfl)
  obtain ⟨l0, w0⟩ := open_zb Try.underlying29 Try.underlying4 (by kernel_rfl) h0
  obtain ⟨a1, rfl, rfl, rfl, w1⟩ := open_int Try.underlying3 (hval 1 3 v1 rfl rfl) h1
  obtain ⟨a2, rfl, rfl, rfl, w2⟩ := open_int Try.underlying23 (hval 2 23 v2 rfl rfl) h2
  clear hA0 hval0
  refine (walk W a0 len0 cap0 l0 w0 a1 w1 a2 w2).mono fun e W' ⟨he, bel⟩ => ?_
  subst he
  exact ⟨_, rfl, _, _, _, [], _, [], hW', trodAll_mk1 (shut_bool Try.underlying4 _), (trodAll_cons_mk (Below.trod laidOut (by kernel_rfl) (of_decide_eq_true (by kernel_rfl)) kk0 bel lt0) (trodAll_cons_mk (Below.trod laidOut (by kernel_rfl) (of_decide_eq_true (by kernel_rfl)) kk1 bel lt1) (trodAll_cons_mk (Below.trod laidOut (by kernel_rfl) (of_decide_eq_true (by kernel_rfl)) kk2 bel lt2) trodAll_mk0))), rfl, bel.frame _, fun h => by cases h⟩

theorem over : Rows.trieAnyRow.holds Try.pinned (OpenSpec.ofChange Rows.trieAnySpec) :=
  OpenClaim.holds_of_wide 4 Try.f4 rfl rfl rfl rfl rfl rfl rfl ⟨rfl, rfl, rfl, rfl, rfl⟩ rfl rfl rfl rfl rfl (by kernel_rfl) Try.func4 (by kernel_rfl)
    (of_decide_eq_true (by kernel_rfl)) (by unfold Func.isWrapper; first | (rw [if_pos (by decide +kernel)]; kernel_rfl) | (rw [if_neg (by decide +kernel)]; exact ⟨rfl, rfl⟩))
    (fun os started H enc _ => lifted os started H enc)

theorem proved : Rows.TrieAnySaid := over
#print axioms proved
end Go.Proofs.Ytmphcpggfgehhaa.trieAny
