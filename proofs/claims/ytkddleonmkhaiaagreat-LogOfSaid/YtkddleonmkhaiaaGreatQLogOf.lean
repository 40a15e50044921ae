/- LogOf: of any records the first error ends it: for all records the law returns true. -/
import Derived.Test.YtkddleonmkhaiaaGreatRows
import Derived.WalkKit
import Derived.ProofKit
import Derived.OpenShut
import Derived.ShutString
import Derived.ChangeOld
import Derived.Below
import Derived.Test.YtkddleonmkhaiaaGreatM01
import Derived.Test.YtkddleonmkhaiaaGreatM35
import Derived.Deep.CutBlock
import Derived.Deep.DeepCutAuto
namespace Go.Proofs.YtkddleonmkhaiaaGreat.logOf
open Go.ChangeShapes Go.WideShapes Go.ChangeAt Go.RowKit
open Go.ChangeMaps (open_string shut_string)
set_option linter.unusedVariables false

theorem own : ownKnob Tryz.prog.godebug = none := by kernel_rfl
theorem laidOut : laidOutB Tryz.prog = true := by kernel_rfl

set_option maxHeartbeats 4000000 in
set_option maxRecDepth 100000 in
theorem walk (w : World) (a0 : Option Addr) (len0 cap0 : Nat) (l0 : List RecT) (w0 : RRec w (.slice a0 len0 cap0) l0) :
    Calls Tryz.prog 5 #[.slice a0 len0 cap0] w fun e w' => e = .returned (.bool true) ∧ Below w.heap.size w w' := by
  have HW0 := Go.Lib.hid w0
  have CR := Go.Lib.hid fun W (h : RRec W (.slice a0 len0 cap0) l0) => recs_c (.slice a0 len0 cap0) l0 60 W h (by omega)
  have HSZ := Go.Lib.hid fun x (hx : x ∈ (l0.take 60).map cutR) => cut_sizes hx
  have HML := Go.Lib.hid (show ((l0.take 60).map cutR).length ≤ 60 from by rw [List.length_map]; exact List.length_take_le _ _)
  clear w0
  generalize (l0.take 60).map cutR = M at *
  go_enter Tryz.func5, Tryz.ntmps5
  go_wp2_with fail
  refine (begun_c _).mono ?_
  rintro e w1 ⟨rfl, hb⟩
  have HB := Go.Lib.hid hb
  have HC := Go.Lib.hid (CR.out w1 (HW0.out.below hb))
  clear hb CR HW0
  go_wp2_with fail
  refine HC.out.mono ?_
  rintro e w2 ⟨vm, rfl, ho, hb⟩
  obtain ⟨am, cm, rfl, -⟩ := ho.rs.form
  have HM := Go.Lib.hid (ho.mono HB.out.size)
  have HB := Go.Lib.hid (HB.out.trans (hb.mono HB.out.size))
  clear ho hb HC
  have hml := HML.out
  go_upto_block 0 with fail
  go_cut [4, 5, 6] (fun uv ev _ wx => ∃ (u : Value) (L : List RecT) (E : Int), u = uv ∧ ev = .int .i64 E ∧ Hid (runP [] M = (E, L) ∧ GoodL L 60) ∧ Hid (OwnRec wx w.heap.size u (newestR L)) ∧ Hid (OwnRec wx w.heap.size (.slice am M.length cm) M) ∧ Hid (Below w.heap.size w wx))
  case first =>
    go_wp2_with fail
    go_loopw [4, 5, 6] (fun uv ev ki wr => ∃ (k : Nat) (u : Value) (L : List RecT) (E : Int), u = uv ∧ k ≤ M.length ∧ ki = .int .i64 (k : Int) ∧ ev = .int .i64 E ∧ Hid ((E = 0 ∧ runP L (M.drop k) = runP [] M) ∨ (E ≠ 0 ∧ runP [] M = (E, L))) ∧ Hid (GoodL L k) ∧ Hid (OwnRec wr w.heap.size u (newestR L)) ∧ Hid (OwnRec wr w.heap.size (.slice am M.length cm) M) ∧ Hid (Below w.heap.size w wr)) (fun _ _ ki _ => M.length - (intOf ki).toNat)
    case atStart => exact ⟨0, _, [], 0, rfl, by omega, rfl, rfl, Go.Lib.hid (.inl ⟨rfl, by simp⟩), Go.Lib.hid GoodL.nil, Go.Lib.hid (OwnRec.nil _ _), HM, HB⟩
    case round =>
      obtain ⟨k, u, L, E, rfl, hk, rfl, rfl, HR, HG, HU, HM, HB⟩ := hrel
      by_cases hlt : k < M.length
      · have hltI : (k : Int) < (M.length : Int) := by omega
        by_cases hE : E = 0
        · subst hE
          have HRUN := Go.Lib.hid (show runP L (M.drop k) = runP [] M from by
            rcases HR.out with h | h
            · exact h.2
            · exact absurd rfl h.1)
          obtain ⟨b, o, rfl, -, -, c0, c1, c2, c3, c4⟩ := HM.out.rs.at k hlt
          have hix := run_idx5 b o M.length cm k hlt
          have hsz := HSZ.out _ (List.getElem_mem hlt)
          have HST := Go.Lib.hid fun h => (runP_step (L := L) hlt h).symm.trans HRUN.out
          have HSP := Go.Lib.hid fun h => (runP_stop (L := L) hlt h).symm.trans HRUN.out
          have HG1 := Go.Lib.hid (HG.out.put M[k])
          have HCE := Go.Lib.hid fun W (hbe : Below wr.heap.size wr W) => (HM.out.rs.below hbe).at k hlt
          generalize M[k] = x at *
          obtain ⟨kx, gx, ax, nx, sx⟩ := x
          simp only [] at c0 c1 c2 c3 c4 hsz HCE
          have CM := Go.Lib.hid fun W => rmayT_c kx gx ax nx sx W hsz.1 hsz.2
          have HKS := Go.Lib.hid hsz.1
          clear hsz HR HRUN
          go_wp2_with fail
          refine (CM.out _).mono ?_
          rintro e w3 ⟨rfl, hb3⟩
          have HM3 := Go.Lib.hid (HM.out.below hb3)
          have HU3 := Go.Lib.hid (HU.out.below hb3)
          have HB3 := Go.Lib.hid (HB.out.trans (hb3.mono HB.out.size))
          obtain ⟨b', o', hbo, -, -, d0, d1, d2, d3, d4⟩ := HCE.out w3 hb3
          cases hbo
          clear c0 c1 c2 c3 c4 CM
          cases hm : mayT (kx, gx, ax, nx, sx) with
          | false =>
            have HN := Go.Lib.hid (HSP.out (by rw [putE_bad hm]; omega))
            rw [putE_bad hm] at HN
            clear hm HST HSP hb3 HCE
            go_wp2_with fail
            exact ⟨⟨k + 1, _, L, 1, rfl, by omega, by go_num, rfl, Go.Lib.hid (.inr ⟨by omega, HN.out.symm⟩), Go.Lib.hid (HG.out.mono (by omega)), HU3, HM3, HB3⟩, by simp only [intOf]; omega⟩
          | true =>
            have HMT := Go.Lib.hid hm
            have CO := rroomG_c u HG.out (by omega) kx w3 HU3.out.rs HKS.out
            have CO := Go.Lib.hid CO
            clear hm
            go_wp2_with fail
            refine CO.out.mono ?_
            rintro e w4 ⟨rfl, hb4⟩
            have HM4 := Go.Lib.hid (HM3.out.below hb4)
            have HU4 := Go.Lib.hid (HU3.out.below hb4)
            have HB4 := Go.Lib.hid (HB3.out.trans (hb4.mono HB3.out.size))
            obtain ⟨b', o', hbo, -, -, y0, y1, y2, y3, y4⟩ := HCE.out w4 (hb3.trans (hb4.mono hb3.size))
            cases hbo
            clear d0 d1 d2 d3 d4 CO hb3 hb4 HCE
            cases hr : roomR L kx with
            | false =>
              have HN := Go.Lib.hid (HSP.out (by rw [putE_full HMT.out hr]; omega))
              rw [putE_full HMT.out hr] at HN
              clear hr HST HSP
              go_wp2_with fail
              exact ⟨⟨k + 1, _, L, 5, rfl, by omega, by go_num, rfl, Go.Lib.hid (.inr ⟨by omega, HN.out.symm⟩), Go.Lib.hid (HG.out.mono (by omega)), HU4, HM4, HB4⟩, by simp only [intOf]; omega⟩
            | true =>
              have HN := Go.Lib.hid (HST.out (putE_ok HMT.out hr))
              have CS := Go.Lib.hid (rsetG_c u HG.out (by omega) kx gx ax nx sx HMT.out hr w4 HU4.out.rs)
              clear hr HST HSP
              go_wp2_with fail
              refine CS.out.mono ?_
              rintro e w5 ⟨v5, rfl, ho5, hb5⟩
              have HU5 := Go.Lib.hid (ho5.mono HB4.out.size)
              have HM5 := Go.Lib.hid (HM4.out.below hb5)
              have HB5 := Go.Lib.hid (HB4.out.trans (hb5.mono HB4.out.size))
              clear ho5 hb5 CS y0 y1 y2 y3 y4
              go_wp2_with fail
              exact ⟨⟨k + 1, _, _, 0, rfl, by omega, by go_num, rfl, Go.Lib.hid (.inl ⟨rfl, HN.out⟩), HG1, HU5, HM5, HB5⟩, by simp only [intOf]; omega⟩
        · have HN := Go.Lib.hid (show runP [] M = (E, L) from by
            rcases HR.out with h | h
            · exact absurd h.1 hE
            · exact h.2)
          have hEb : (E == 0) = false := beq_eq_false_iff_ne.2 hE
          clear HR
          go_wp2_with fail
          go_meet
          exact ⟨_, L, E, rfl, rfl, Go.Lib.hid ⟨HN.out, HG.out.mono (by omega)⟩, HU, HM, HB⟩
      · obtain rfl : k = M.length := by omega
        have HN := Go.Lib.hid (show runP [] M = (E, L) from by
          rcases HR.out with h | h
          · rw [← h.2, runP_end, h.1]
          · exact h.2)
        clear HR
        go_wp2_with fail
        go_meet
        exact ⟨_, L, E, rfl, rfl, Go.Lib.hid ⟨HN.out, HG.out.mono (by omega)⟩, HU, HM, HB⟩
  case rest =>
    obtain ⟨u, L, E, rfl, rfl, HR, HU, HM, HB⟩ := hcut
    have CO := lof_c (.slice am M.length cm) M wc HM.out.rs (fun x hx => by have := HSZ.out x hx; unfold maxLen; omega)
    rw [HR.out.1] at CO
    have CO := Go.Lib.hid CO
    go_wp2_with fail
    refine CO.out.mono ?_
    rintro e w3 ⟨hor, hb⟩
    have HU3 := Go.Lib.hid (HU.out.below hb)
    have HB3 := Go.Lib.hid (HB.out.trans (hb.mono HB.out.size))
    clear hb CO
    rcases hor with ⟨h0, p, d, v, rfl, hl⟩ | ⟨h0, rfl⟩
    · simp only [] at h0 hl
      subst h0
      have CS := Go.Lib.hid (same_c hl u HU3.out.rs)
      clear hl
      go_wp2_with fail
      refine CS.out.mono ?_
      rintro e w4 ⟨rfl, hb⟩
      have HB4 := Go.Lib.hid (HB3.out.trans (hb.mono HB3.out.size))
      clear hb CS
      go_wp2_with fail
      go_ret
      exact ⟨rfl, HB4.out⟩
    · simp only [] at h0
      have hEb : (E == 0) = false := beq_eq_false_iff_ne.2 h0
      have hEb2 : (E != 0) = true := by simp [bne, hEb]
      have hEE : (E == E) = true := beq_self_eq_true E
      go_wp2_with fail
      go_ret
      exact ⟨rfl, HB3.out⟩

/-! ### THE ROW -/
set_option maxRecDepth 100000 in
theorem lifted (os : Os) (started : os.Started) (H : Type) (enc : TypeId × Value → H) :
    ReturnsInHanded {} Tryz.checked os 5 .any (Rows.logOfSpec.pre6 enc Tryz.prog Tryz.f5 Rows.logOfRow.domain false) (Rows.logOfSpec.post enc Tryz.prog Tryz.f5 false true false false) := by
  refine returnsInHanded_of_change (C := Tryz.checked) own started (by kernel_rfl) Tryz.func5
    (ChangeSpec.witness6 (enc := enc) (C := Tryz.checked) false ⟨#[], #[.slice none 0 0], []⟩ 8 (by kernel_rfl) (by kernel_rfl) (by kernel_rfl) (by kernel_rfl)) ?_
  intro W base args ds gs before hval0 hW hcnd _
  have hval : ∀ (j : Nat) t v, Tryz.f5.params[j]? = some t → args[j]? = some v → Value.okWide Tryz.prog W .any base t v := hval0
  have hW' := hW
  obtain ⟨p, q, hA0, hV, rfl, hfz, hnd⟩ := hW
  have hA : DataW.TrodAll enc Tryz.prog W 0 (fun _ => true) true Tryz.f5.params.toList args.toList ds p := hA0
  rw [Tryz.params5] at hA hval
  obtain ⟨v0, vs0, d0, ds0, p0, q0, hargs, rfl, rfl, h0, r0⟩ := trodAll_cons hA
  obtain ⟨rfl, rfl, rfl⟩ := trodAll_nil r0
  obtain rfl : args = #[v0] := by cases args; simp_all
  obtain ⟨rfl, rfl⟩ := trodVars_none hV
  have kk0 := h0
  have lt0 : ∀ x ∈ p0, x.block < W.heap.size := by obtain ⟨m, hm⟩ := kk0; exact DataW.trod_lt m _ _ _ hm
  obtain ⟨a0, len0, cap0, rfl⟩ := okWide_slice Tryz.underlying22 (hval 0 22 v0 rfl rfl)
  obtain ⟨l0, w0⟩ := open_recs h0
  clear hA0 hval0
  refine (walk W a0 len0 cap0 l0 w0).mono fun e W' ⟨he, bel⟩ => ?_
  subst he
  exact ⟨_, rfl, _, _, _, [], _, [], hW', trodAll_mk1 (shut_bool Tryz.underlying4 _), (trodAll_cons_mk (Below.trod laidOut (by kernel_rfl) (of_decide_eq_true (by kernel_rfl)) kk0 bel lt0) trodAll_mk0), rfl, bel.frame _, fun h => by cases h⟩

theorem over : Rows.logOfRow.holds Tryz.pinned (OpenSpec.ofChange Rows.logOfSpec) :=
  OpenClaim.holds_of_wide 5 Tryz.f5 rfl rfl rfl rfl rfl rfl rfl ⟨rfl, rfl, rfl, rfl, rfl⟩ rfl rfl rfl rfl rfl (by kernel_rfl) Tryz.func5 (by kernel_rfl)
    (of_decide_eq_true (by kernel_rfl)) (by unfold Func.isWrapper; first | (rw [if_pos (by decide +kernel)]; kernel_rfl) | (rw [if_neg (by decide +kernel)]; exact ⟨rfl, rfl⟩))
    (fun os started H enc _ => lifted os started H enc)

theorem proved : Rows.LogOfSaid := over
#print axioms proved
end Go.Proofs.YtkddleonmkhaiaaGreat.logOf
