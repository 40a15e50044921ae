/- GammaAny: of any bits the number that begins at any place, or none: for every input the law returns true. -/
import Derived.Test.YtfhbpaecpoijfaaRows
import Derived.WalkKit
import Derived.ProofKit
import Derived.OpenShut
import Derived.ShutString
import Derived.ChangeOld
import Derived.Below
import Derived.Test.YtfhbpaecpoijfaaOpenB
import Derived.Test.YtfhbpaecpoijfaaBegun7
import Derived.Test.YtfhbpaecpoijfaaRGet
import Derived.Test.YtfhbpaecpoijfaaSame
import Derived.Deep.DeepCutAuto
import Derived.Deep.QuietTactic
import Derived.BigQuiet
namespace Go.Proofs.Ytfhbpaecpoijfaa.gammaAny
open Go.ChangeShapes Go.WideShapes Go.ChangeAt Go.RowKit
open Go.ChangeMaps (open_string shut_string)
set_option linter.unusedVariables false

theorem own : ownKnob Try.prog.godebug = none := by kernel_rfl
theorem laidOut : laidOutB Try.prog = true := by kernel_rfl

theorem infoU : (Try.prog.info? 31).map (fun i => (i.zero, i.size, i.bytes)) = some (some (.int .u64 0), 1, 8) := by kernel_rfl
/-- What GetGamma answers is three values. -/
theorem getGV_form (l : List Bool) (i : Int) (hl : l.length ≤ 1000) (h0 : -9223372036854775808 ≤ i) (h1 : i ≤ 9223372036854775807) : ∃ (x : Nat) (e : Int) (ok : Bool), getGV l i = .tuple #[.int .u64 (x : Int), .int .i64 e, .bool ok] ∧ -9223372036854775808 ≤ e ∧ e ≤ 9223372036854775807 ∧ x < 18446744073709551616 ∧
    ((ok = false ∧ stepG l i = none) ∨ (ok = true ∧ ∃ e' : Nat, e = (e' : Int) ∧ stepG l i = some (x, e'))) := by
  unfold getGV stepG
  by_cases h : 0 ≤ i
  · rw [if_pos h]
    cases hg : getG l i.toNat with
    | none => exact ⟨0, i, false, rfl, h0, h1, by omega, .inl ⟨rfl, rfl⟩⟩
    | some p =>
      obtain ⟨x, e⟩ := p
      obtain ⟨b1, b2⟩ := getG_bound hg
      exact ⟨x, e, true, rfl, by omega, by omega, b2, .inr ⟨rfl, e, rfl, rfl⟩⟩
  · rw [if_neg h]
    exact ⟨0, i, false, rfl, h0, h1, by omega, .inl ⟨rfl, rfl⟩⟩

set_option maxHeartbeats 2000000 in
set_option maxRecDepth 100000 in
theorem walk (w : World) (a0 : Option Addr) (len0 cap0 : Nat) (l0 : List Bool) (w0 : RV w (.slice a0 len0 cap0) (zb l0)) (a1 : Int) (w1 : (Lit.int .i64 a1).wf = true) (a2 : Int) (w2 : (Lit.int .i64 a2).wf = true) :
    Calls Try.prog 4 #[.slice a0 len0 cap0, .int .i64 a1, .int .i64 a2] w fun e w' => e = .returned (.bool true) ∧ Below w.heap.size w w' := by
  obtain ⟨p0, p1⟩ := bounds_i64 w1
  obtain ⟨q0, q1⟩ := bounds_i64 w2
  have p0 : -9223372036854775808 ≤ a1 := by omega
  have p1 : a1 ≤ 9223372036854775807 := by omega
  obtain ⟨ad, cp, hv, hm63, -⟩ := w0.zbForm
  simp only [Value.slice.injEq] at hv
  obtain ⟨rfl, rfl, rfl⟩ := hv
  have H0 := Go.Lib.hid w0
  clear w0 w1 w2
  go_enter Try.func4, Try.ntmps4
  go_upto_if 31 with (refine (begun_c _).mono ?_; rintro e w1 ⟨rfl, hbb⟩)
  go_cut [0] (fun s wx => wx = w1 ∧ ∃ l : List Bool, l.length ≤ 200 ∧ RV wx s (zb l))
  case first =>
    by_cases h200 : 200 < l0.length
    · have hr := Go.Lib.hid ((H0.out.below hbb).zbTake 200 (by omega))
      have hlen := Go.Lib.hid (show (l0.take 200).length ≤ 200 by rw [List.length_take]; omega)
      obtain ⟨ad', cp', hv, -, hne⟩ := H0.out.zbForm
      simp only [Value.slice.injEq, true_and] at hv
      obtain ⟨rfl, rfl⟩ := hv
      cases a0 with
      | none => have := hne rfl; omega
      | some aa =>
      clear hne
      have hcap := Go.Lib.hid (RV.zbCap H0.out)
      have hc2 : 200 ≤ cap0 := by have := hcap.out; omega
      go_wp2_with fail
      go_meet
      exact ⟨rfl, _, hlen.out, hr.out⟩
    · have hr := Go.Lib.hid (H0.out.below hbb)
      go_wp2_with fail
      go_meet
      exact ⟨rfl, _, by omega, hr.out⟩
  case rest =>
    obtain ⟨rfl, l, hl200, hr⟩ := hcut
    clear H0 hm63
    obtain ⟨ad, cp, rfl, -, -⟩ := hr.zbForm
    have Hr := Go.Lib.hid hr
    obtain ⟨x, e1, ok, hgv, e10, e11, hx64, hform⟩ := getGV_form l a1 (by omega) p0 p1
    have Hgv := Go.Lib.hid hgv
    have Hl := Go.Lib.hid hl200
    clear hr hgv
    go_wp2_with fail
    refine (bof6_c _ l _ Hr.out (by have := Hl.out; omega)).mono ?_
    rintro e w2 ⟨u, rfl, hbt, hb2⟩
    have hbb2 := hbb.trans (hb2.mono hbb.size)
    have HBT := Go.Lib.hid hbt
    have Hr2 := Go.Lib.hid (Hr.out.below hb2)
    generalize wc.heap.size = b at *
    clear hbt Hr hb2 hbb
    go_wp2_with fail
    refine (gget_c a1 _ _ _ _ _ HBT.out (by have := Hl.out; omega) p0 p1).mono ?_
    rintro e w3 ⟨rfl, k3⟩
    have hbb3 := hbb2.trans (k3.mono hbb2.size)
    have HBT3 := Go.Lib.hid (HBT.out.below k3)
    have Hr3 := Go.Lib.hid (Hr2.out.below k3)
    rw [Hgv.out]
    clear HBT Hr2 k3 hbb2
    go_wp2_with fail
    refine (rgetg_any _ a1 l _ Hr3.out p1 (by have := Hl.out; omega)).mono ?_
    rintro e w4 ⟨rfl, rfl⟩
    rw [Hgv.out]
    have hxx : ((x : Int) != (x : Int)) = false := by simp
    have hee : (e1 != e1) = false := by simp
    have hoo : (ok != ok) = false := by simp
    by_cases hn0 : a2 < 0
    · go_wp2_with fail
      go_ret
      exact ⟨rfl, hbb3⟩
    by_cases hn40 : 40 < a2
    · go_wp2_with fail
      go_ret
      exact ⟨rfl, hbb3⟩
    obtain ⟨n, rfl⟩ : ∃ n : Nat, a2 = (n : Int) := ⟨a2.toNat, by omega⟩
    have hn : n ≤ 40 := by omega
    clear hn0 q0 q1
    have Hstep := Go.Lib.hid fun i h0 h1 => getGV_form l i (by have := Hl.out; omega) h0 h1
    have Cget := Go.Lib.hid fun i W (h : RV W (.slice ad l.length cp) (zb l)) h1 => rgetg_any _ i l W h h1 (by have := Hl.out; omega)
    have hz0 := Go.Lib.hid (show allG l 0 a1 = some ([], a1) from rfl)
    clear hform e10 e11 hx64
    cases hA : allG l n a1 with
    | none =>
      have HA := Go.Lib.hid hA
      clear hA
      go_wp2_with fail
      refine (gall_no a1 n _ _ _ _ _ HBT3.out (by have := Hl.out; omega) p0 p1 (by omega) HA.out).mono ?_
      rintro e w5 ⟨v5, rfl, hr5, k5⟩
      obtain ⟨a5, c5, rfl, -⟩ := hr5.form
      have e0 : ([] : List Value).length = 0 := rfl
      rw [e0]
      have hbb5 := hbb3.trans (k5.mono hbb3.size)
      have Hr5 := Go.Lib.hid (Hr3.out.below k5)
      clear hr5 e0 hbb3 HBT3 Hr3 k5
      go_wp2_with fail
      go_loopw [18, 19, 20, 21] (fun kv mv wv iv wr => ∃ (i : Nat) (more : Bool), i ≤ n ∧ iv = .int .i64 (i : Int) ∧ mv = .bool more ∧ Below w5.heap.size w5 wr ∧ (more = true → ∃ ws k, allG l i a1 = some (ws, k) ∧ -9223372036854775808 ≤ k ∧ k ≤ 9223372036854775807 ∧ kv = .int .i64 k ∧ OwnV 31 wr w5.heap.size wv (zi .u64 ws))) (fun _ _ _ iv _ => n - (intOf iv).toNat)
      case atStart => exact ⟨0, true, by omega, rfl, rfl, Below.refl _ _, fun _ => ⟨[], a1, rfl, p0, p1, rfl, OwnV.nil _ _ _⟩⟩
      case round =>
        obtain ⟨i, more, hi, rfl, rfl, hb, hmore⟩ := hrel
        cases more with
        | false =>
          clear hmore
          have hb9 := hbb5.trans (hb.mono hbb5.size)
          go_wp2_with fail
          all_goals
            go_ret
            exact ⟨rfl, hb9⟩
        | true =>
          obtain ⟨ws, k, hws, hk0, hk1, rfl, hown⟩ := hmore rfl
          have hin : i < n := by
            rcases Nat.lt_or_ge i n with h | h
            · exact h
            · obtain rfl : i = n := by omega
              have := HA.out
              rw [hws] at this
              cases this
          have hwl := allG_length l i a1 ws k hws
          have Hws := Go.Lib.hid hws
          have Hwl := Go.Lib.hid hwl
          clear hws hwl hmore
          obtain ⟨z, e2, ok2, hgv2, he0, he1, hz64, hf2⟩ := Hstep.out k hk0 hk1
          have C := Cget.out k wr (Hr5.out.below hb) hk1
          rw [hgv2] at C
          have C := Go.Lib.hid C
          have Hf2 := Go.Lib.hid hf2
          have HO := Go.Lib.hid hown
          clear hgv2 hf2 hown
          go_wp2_with fail
          refine C.out.mono ?_
          rintro e w6 ⟨rfl, rfl⟩
          have kA : Below wr.heap.size wr (wr.alloc (.cells #[.int .u64 (z : Int)] 31)) := (Below.refl _ _).alloc (Nat.le_refl _) _
          have hbA := hb.trans (kA.mono hb.size)
          have hoA := HO.out.below kA
          have hone := RV.one wr 31 (.int .u64 (z : Int))
          have hsz := hbA.size
          have hll : ((zi .u64 ws).length + [Value.int .u64 (z : Int)].length) * 8 ≤ 140737488355328 := by rw [zi_length, Hwl.out]; simp; omega
          have hll2 : (zi .u64 ws).length + [Value.int .u64 (z : Int)].length ≤ 140737488355328 := by rw [zi_length, Hwl.out]; simp; omega
          clear kA C HO hb
          go_wp2_with (first
            | (with_reducible show wpList _ _ _ (⟨some 96, _, _, _, _, _⟩ :: _) _ _; go_must (refine wpList_append_RV rfl (.tmp 93) (.tmp 95) 22 rfl w5.heap.size 31 Try.underlying22 (.int .u64 0) 8 rfl infoU u20 (.slice (some ⟨wr.heap.size, 0, none⟩) 1 1) (zi .u64 ws) [.int .u64 (z : Int)] rfl rfl hoA hone (by simp [Value.oneCell']) hll hll2 hsz ?_); go_must (intro v7 w7 ho7 hg7; have hb7 := hbA.grown hg7 hsz hoA.row; have HO7 := Go.Lib.hid ho7; clear hg7 ho7 hoA hone hbA hsz hll hll2))
            | fail)
          go_roundw
          case rel =>
            refine ⟨i + 1, ok2, by omega, by go_num, rfl, hb7, fun hok => ?_⟩
            subst hok
            rcases Hf2.out with ⟨h, -⟩ | ⟨-, e', he', hst⟩
            · cases h
            · refine ⟨ws ++ [z], e2, ?_, he0, he1, rfl, ?_⟩
              · rw [allG_snoc, Hws.out]
                simp only [hst, he']
              · rw [zi_append]
                exact HO7.out
          case measure => simp only [intOf]; omega
    | some p =>
      obtain ⟨xs, ke⟩ := p
      have HA := Go.Lib.hid hA
      have Hxl := Go.Lib.hid (allG_length l n a1 xs ke hA)
      clear hA
      go_wp2_with fail
      refine (gall_yes a1 n _ _ _ _ _ _ _ HBT3.out (by have := Hl.out; omega) p0 p1 (by omega) HA.out).mono ?_
      rintro e w5 ⟨v5, rfl, hr5', k5⟩
      obtain ⟨a5, c5, rfl, -⟩ := hr5'.form
      have e0 : (zi .u64 xs).length = n := by rw [zi_length, Hxl.out]
      rw [e0] at hr5' ⊢
      have HX5 := Go.Lib.hid hr5'
      have hbb5 := hbb3.trans (k5.mono hbb3.size)
      have Hr5 := Go.Lib.hid (Hr3.out.below k5)
      clear hr5' e0 hbb3 HBT3 Hr3 k5
      go_wp2_with fail
      go_loopw [18, 19, 20, 21] (fun kv mv wv iv wr => ∃ (i : Nat) (ws : List Nat) (k : Int), i ≤ n ∧ iv = .int .i64 (i : Int) ∧ mv = .bool true ∧ Below w5.heap.size w5 wr ∧ allG l i a1 = some (ws, k) ∧ -9223372036854775808 ≤ k ∧ k ≤ 9223372036854775807 ∧ kv = .int .i64 k ∧ OwnV 31 wr w5.heap.size wv (zi .u64 ws)) (fun _ _ _ iv _ => n - (intOf iv).toNat)
      case atStart => exact ⟨0, [], a1, by omega, rfl, rfl, Below.refl _ _, rfl, p0, p1, rfl, OwnV.nil _ _ _⟩
      case round =>
        obtain ⟨i, ws, k, hi, rfl, rfl, hb, hws, hk0, hk1, rfl, hown⟩ := hrel
        have hwl := allG_length l i a1 ws k hws
        have Hws := Go.Lib.hid hws
        have Hwl := Go.Lib.hid hwl
        clear hwl
        by_cases hin : i < n
        · clear hws
          obtain ⟨z, e2, ok2, hgv2, he0, he1, hz64, hf2⟩ := Hstep.out k hk0 hk1
          obtain ⟨rfl, e', he', hst⟩ : ok2 = true ∧ ∃ e' : Nat, e2 = (e' : Int) ∧ stepG l k = some (z, e') := by
            rcases hf2 with ⟨-, h⟩ | h
            · exfalso
              have h1 : allG l (i + 1) a1 = none := by
                rw [allG_snoc, Hws.out]
                simp only [h]
              have h2 := allG_none l h1 n hin
              have := HA.out
              rw [h2] at this
              cases this
            · exact h
          have C := Cget.out k wr (Hr5.out.below hb) hk1
          rw [hgv2] at C
          have C := Go.Lib.hid C
          have HO := Go.Lib.hid hown
          have He' := Go.Lib.hid he'
          have Hst := Go.Lib.hid hst
          clear hgv2 hf2 hown he' hst
          go_wp2_with fail
          refine C.out.mono ?_
          rintro e w6 ⟨rfl, rfl⟩
          have kA : Below wr.heap.size wr (wr.alloc (.cells #[.int .u64 (z : Int)] 31)) := (Below.refl _ _).alloc (Nat.le_refl _) _
          have hbA := hb.trans (kA.mono hb.size)
          have hoA := HO.out.below kA
          have hone := RV.one wr 31 (.int .u64 (z : Int))
          have hsz := hbA.size
          have hll : ((zi .u64 ws).length + [Value.int .u64 (z : Int)].length) * 8 ≤ 140737488355328 := by rw [zi_length, Hwl.out]; simp; omega
          have hll2 : (zi .u64 ws).length + [Value.int .u64 (z : Int)].length ≤ 140737488355328 := by rw [zi_length, Hwl.out]; simp; omega
          clear kA C HO hb
          go_wp2_with (first
            | (with_reducible show wpList _ _ _ (⟨some 96, _, _, _, _, _⟩ :: _) _ _; go_must (refine wpList_append_RV rfl (.tmp 93) (.tmp 95) 22 rfl w5.heap.size 31 Try.underlying22 (.int .u64 0) 8 rfl infoU u20 (.slice (some ⟨wr.heap.size, 0, none⟩) 1 1) (zi .u64 ws) [.int .u64 (z : Int)] rfl rfl hoA hone (by simp [Value.oneCell']) hll hll2 hsz ?_); go_must (intro v7 w7 ho7 hg7; have hb7 := hbA.grown hg7 hsz hoA.row; have HO7 := Go.Lib.hid ho7; clear hg7 ho7 hoA hone hbA hsz hll hll2))
            | fail)
          go_roundw
          case rel =>
            refine ⟨i + 1, ws ++ [z], e2, by omega, by go_num, rfl, hb7, ?_, he0, he1, rfl, ?_⟩
            · rw [allG_snoc, Hws.out]
              simp only [Hst.out, He'.out]
            · rw [zi_append]
              exact HO7.out
          case measure => simp only [intOf]; omega
        · obtain rfl : i = n := by omega
          have heq := HA.out
          rw [hws] at heq
          cases heq
          have hX := HX5.out.below hb
          obtain ⟨aw, cw, rfl, -⟩ := hown.rv.form
          have hW := hown.rv
          have ezl : (zi .u64 xs).length = i := by rw [zi_length, Hxl.out]
          rw [ezl] at hW ⊢
          have HW := Go.Lib.hid hW
          have HX := Go.Lib.hid hX
          have hb9 := hbb5.trans (hb.mono hbb5.size)
          have hkk : (ke != ke) = false := by simp
          obtain ⟨wo, rfl⟩ : ∃ wo : World, wo = wr := ⟨_, rfl⟩
          clear hws hown hX hW ezl hb hbb5 HX5 HA Hws Hwl hin
          go_wp2_with fail
          go_loopw [25] (fun jv wr => ∃ j : Nat, j ≤ i ∧ jv = .int .i64 (j : Int) ∧ Below wo.heap.size wo wr) (fun jv _ => i - (intOf jv).toNat)
          case atStart => exact ⟨0, by omega, rfl, Below.refl _ _⟩
          case round =>
            obtain ⟨j, hj, rfl, hb2⟩ := hrel
            by_cases hji : j < i
            · obtain ⟨bw, ow, rfl, hcw, hbw⟩ := HW.out.at j (by rw [zi_length, Hxl.out]; exact hji)
              obtain ⟨bx, ox, rfl, hcx, hbx⟩ := HX.out.at j (by rw [zi_length, Hxl.out]; exact hji)
              rw [zi_at _ _ _ (by rw [Hxl.out]; exact hji)] at hcw hcx
              have d1 := (hb2.cell (p := ⟨bw, ow + j, none⟩) hbw).trans hcw
              have d2 := (hb2.cell (p := ⟨bx, ox + j, none⟩) hbx).trans hcx
              generalize (xs[j]'(by rw [Hxl.out]; exact hji)) = y at *
              have hyy : ((y : Int) != (y : Int)) = false := by simp
              clear hcw hcx
              go_wp2_with fail
              go_quiet (fail)
              go_wp2_with fail
              go_roundw
              case rel => exact ⟨j + 1, by omega, by go_num, below_drewN hb2 _⟩
              case measure => simp only [intOf]; omega
            · have hb3 := hb9.trans (hb2.mono hb9.size)
              go_wp2_with fail
              go_ret
              exact ⟨rfl, hb3⟩

/-! ### THE ROW -/
set_option maxRecDepth 100000 in
theorem lifted (os : Os) (started : os.Started) (H : Type) (enc : TypeId × Value → H) :
    ReturnsInHanded {} Try.checked os 4 .any (Rows.gammaAnySpec.pre6 enc Try.prog Try.f4 Rows.gammaAnyRow.domain false) (Rows.gammaAnySpec.post enc Try.prog Try.f4 false true false false) := by
  refine returnsInHanded_of_change (C := Try.checked) own started (by kernel_rfl) Try.func4
    (ChangeSpec.witness6 (enc := enc) (C := Try.checked) false ⟨#[], #[.slice none 0 0, .int .i64 0, .int .i64 0], []⟩ 8 (by kernel_rfl) (by kernel_rfl) (by kernel_rfl) (by kernel_rfl)) ?_
  intro W base args ds gs before hval0 hW hcnd _
  have hval : ∀ (j : Nat) t v, Try.f4.params[j]? = some t → args[j]? = some v → Value.okWide Try.prog W .any base t v := hval0
  have hW' := hW
  obtain ⟨p, q, hA0, hV, rfl, hfz, hnd⟩ := hW
  have hA : DataW.TrodAll enc Try.prog W 0 (fun _ => true) true Try.f4.params.toList args.toList ds p := hA0
  rw [Try.params4] at hA hval
  obtain ⟨v0, vs0, d0, ds0, p0, q0, hargs, rfl, rfl, h0, r0⟩ := trodAll_cons hA
  obtain ⟨v1, vs1, d1, ds1, p1, q1, rfl, rfl, rfl, h1, r1⟩ := trodAll_cons r0
  obtain ⟨v2, vs2, d2, ds2, p2, q2, rfl, rfl, rfl, h2, r2⟩ := trodAll_cons r1
  obtain ⟨rfl, rfl, rfl⟩ := trodAll_nil r2
  obtain rfl : args = #[v0, v1, v2] := by cases args; simp_all
  obtain ⟨rfl, rfl⟩ := trodVars_none hV
  have kk0 := h0
  have lt0 : ∀ x ∈ p0, x.block < W.heap.size := by obtain ⟨m, hm⟩ := kk0; exact DataW.trod_lt m _ _ _ hm
  have kk1 := h1
  have lt1 : ∀ x ∈ p1, x.block < W.heap.size := by obtain ⟨m, hm⟩ := kk1; exact DataW.trod_lt m _ _ _ hm
  have kk2 := h2
  have lt2 : ∀ x ∈ p2, x.block < W.heap.size := by obtain ⟨m, hm⟩ := kk2; exact DataW.trod_lt m _ _ _ hm
  obtain ⟨a0, len0, cap0, rfl⟩ := okWide_slice Try.underlying27 (hval 0 27 v0 rfl rfl)
  obtain ⟨l0, w0⟩ := open_zb Try.underlying27 Try.underlying4 (by kernel_rfl) h0
  obtain ⟨a1, rfl, rfl, rfl, w1⟩ := open_int Try.underlying3 (hval 1 3 v1 rfl rfl) h1
  obtain ⟨a2, rfl, rfl, rfl, w2⟩ := open_int Try.underlying3 (hval 2 3 v2 rfl rfl) h2
  clear hA0 hval0
  refine (walk W a0 len0 cap0 l0 w0 a1 w1 a2 w2).mono fun e W' ⟨he, bel⟩ => ?_
  subst he
  exact ⟨_, rfl, _, _, _, [], _, [], hW', trodAll_mk1 (shut_bool Try.underlying4 _), (trodAll_cons_mk (Below.trod laidOut (by kernel_rfl) (of_decide_eq_true (by kernel_rfl)) kk0 bel lt0) (trodAll_cons_mk (Below.trod laidOut (by kernel_rfl) (of_decide_eq_true (by kernel_rfl)) kk1 bel lt1) (trodAll_cons_mk (Below.trod laidOut (by kernel_rfl) (of_decide_eq_true (by kernel_rfl)) kk2 bel lt2) trodAll_mk0))), rfl, bel.frame _, fun h => by cases h⟩

theorem over : Rows.gammaAnyRow.holds Try.pinned (OpenSpec.ofChange Rows.gammaAnySpec) :=
  OpenClaim.holds_of_wide 4 Try.f4 rfl rfl rfl rfl rfl rfl rfl ⟨rfl, rfl, rfl, rfl, rfl⟩ rfl rfl rfl rfl rfl (by kernel_rfl) Try.func4 (by kernel_rfl)
    (of_decide_eq_true (by kernel_rfl)) (by unfold Func.isWrapper; first | (rw [if_pos (by decide +kernel)]; kernel_rfl) | (rw [if_neg (by decide +kernel)]; exact ⟨rfl, rfl⟩))
    (fun os started H enc _ => lifted os started H enc)

theorem proved : Rows.GammaAnySaid := over
#print axioms proved
end Go.Proofs.Ytfhbpaecpoijfaa.gammaAny
