/- RankBack: the place of the n-th one has n ones ahead of it; the ones ahead of a place are told by it: for every input the law returns true. -/
import Derived.Test.YtiakpjkpmepmoaaRows
import Derived.WalkKit
import Derived.ProofKit
import Derived.OpenShut
import Derived.ShutString
import Derived.ChangeOld
import Derived.Below
import Derived.Test.YtiakpjkpmepmoaaOpenB
import Derived.Test.YtiakpjkpmepmoaaBegun8
import Derived.Test.YtiakpjkpmepmoaaDraw
import Derived.Deep.DeepCutAuto
import Derived.Deep.QuietTactic
import Derived.BigQuiet
namespace Go.Proofs.Ytiakpjkpmepmoaa.rankBack
open Go.ChangeShapes Go.WideShapes Go.ChangeAt Go.RowKit
open Go.ChangeMaps (open_string shut_string)
set_option linter.unusedVariables false

theorem own : ownKnob Try.prog.godebug = none := by kernel_rfl
theorem laidOut : laidOutB Try.prog = true := by kernel_rfl

/-- 'l[k]', in whatever world. -/
theorem run_idxB (b o n cap j : Nat) (h : j < n) (W : World) : (Instr.indexAt 22 (.slice (some ⟨b, o, none⟩) n cap) (.int .i64 (j : Int))).run Try.prog W = .ok (.pointer (some ⟨b, o + j, none⟩)) W := by
  obtain ⟨i, hi, -, hsize, -⟩ := info_parts infoB
  have he : Try.prog.elem 22 = 4 := by kernel_rfl
  have hs : (sizeOf 4).run Try.prog W = .ok 1 W := by simp [sizeOf, typeInfo, hi, hsize]
  have hadd : (⟨b, o, none⟩ : Addr).add j = ⟨b, o + j, none⟩ := by unfold Addr.add; split <;> simp_all
  rw [run_indexAt_slice W _ _ _ _ _ _ (by rw [he]; exact Try.underlying22), if_pos ⟨by omega, by omega⟩, he, hs]
  simp [Result.andThen, hadd]
def VR (bb ob n cp ix : Nat) (r : Addr) (t : Bool) (oi : Nat) (pl : Int) : Nat → World → Value → Prop
  | 50, _, v => v = .slice (some ⟨bb, ob, none⟩) n cp
  | 51, _, v => v = .int .i64 (ix : Int)
  | 52, _, v => v = .pointer (some ⟨bb, ob + ix, none⟩)
  | 53, _, v => v = .bool t
  | 54, _, v => v = .pointer (some r)
  | 55, _, v => v = .pointer (some r)
  | 56, _, v => v = .int .i64 (ix : Int)
  | 57, _, v => v = .int .i64 (oi : Int)
  | 58, _, v => v = .int .i64 pl
  | 59, _, v => v = .int .i64 (ix : Int)
  | 60, _, v => v = .bool t
  | 61, _, v => v = .bool true
  | 6, _, v => v = .bool true
  | _, _, _ => True

theorem VR_below (bb ob n cp ix : Nat) (r : Addr) (t : Bool) (oi : Nat) (pl : Int) : ∀ (i : Nat) (w w' : World) (v : Value), VR bb ob n cp ix r t oi pl i w v → Below w.heap.size w w' → VR bb ob n cp ix r t oi pl i w' v := by
  intro i w w' v h hb
  unfold VR at h ⊢
  split at h <;> first | exact h | trivial | exact RB.below h hb | exact Own.below h hb

set_option maxHeartbeats 2000000 in
set_option maxRecDepth 100000 in
theorem walk (w : World) (a0 : Option Addr) (len0 cap0 : Nat) (l0 : List Bool) (w0 : RV w (.slice a0 len0 cap0) (zb l0)) (a1 : Int) (w1 : (Lit.int .i64 a1).wf = true) (a2 : Int) (w2 : (Lit.int .i64 a2).wf = true) :
    Calls Try.prog 4 #[.slice a0 len0 cap0, .int .i64 a1, .int .i64 a2] w fun e w' => e = .returned (.bool true) ∧ Below w.heap.size w w' := by
  obtain ⟨p0, p1⟩ := bounds_i64 w1
  obtain ⟨q0, q1⟩ := bounds_i64 w2
  have p0 : -9223372036854775808 ≤ a1 := by omega
  have p1 : a1 ≤ 9223372036854775807 := by omega
  clear w1 w2
  obtain ⟨ad, cp, hv, hm63, -⟩ := w0.zbForm
  simp only [Value.slice.injEq] at hv
  obtain ⟨rfl, rfl, rfl⟩ := hv
  have H0 := Go.Lib.hid w0
  clear w0
  go_enter Try.func4, Try.ntmps4
  go_upto_if 15 with (refine (begun_c _).mono ?_; rintro e w1 ⟨rfl, hbb⟩)
  go_cut [0] (fun s wx => wx = w1 ∧ ∃ l : List Bool, l.length ≤ 300 ∧ RV wx s (zb l))
  case first =>
    by_cases h200 : 300 < l0.length
    · have hr := Go.Lib.hid ((H0.out.below hbb).zbTake 300 (by omega))
      have hlen := Go.Lib.hid (show (l0.take 300).length ≤ 300 by rw [List.length_take]; omega)
      obtain ⟨ad', cp', hv, -, hne⟩ := H0.out.zbForm
      simp only [Value.slice.injEq, true_and] at hv
      obtain ⟨rfl, rfl⟩ := hv
      cases a0 with
      | none => have := hne rfl; omega
      | some aa =>
      clear hne
      have hcap := Go.Lib.hid (RV.zbCap H0.out)
      have hc2 : 300 ≤ cap0 := by have := hcap.out; omega
      go_wp2_with fail
      go_meet
      exact ⟨rfl, _, hlen.out, hr.out⟩
    · have hr := Go.Lib.hid (H0.out.below hbb)
      go_wp2_with fail
      go_meet
      exact ⟨rfl, _, by omega, hr.out⟩
  case rest =>
    obtain ⟨rfl, l, hl, hr⟩ := hcut
    clear H0 hm63
    obtain ⟨ad, cp, rfl, -, -⟩ := hr.zbForm
    have Hr := Go.Lib.hid hr
    clear hr
    go_wp2_with fail
    refine (bof6_c _ l _ Hr.out (by omega)).mono ?_
    rintro e w2 ⟨u, rfl, hbt, hb2⟩
    have hbb2 := hbb.trans (hb2.mono hbb.size)
    have HBT := Go.Lib.hid hbt
    have Hr2 := Go.Lib.hid (Hr.out.below hb2)
    have hwb := Go.Lib.hid hbb.size
    generalize wc.heap.size = b at *
    clear hbt Hr hb2 hbb
    go_wp2_with fail
    refine (rnew_c _ _ _ _ _ HBT.out (by omega)).mono ?_
    rintro e w3 ⟨r, rfl, hrk, hb3⟩
    have hbb3 := hbb2.trans (hb3.mono hbb2.size)
    have HRK := Go.Lib.hid hrk
    have Hr3 := Go.Lib.hid (Hr2.out.below hb3)
    have HBT3 := Go.Lib.hid (HBT.out.below hb3)
    clear hrk hb3 HBT Hr2 hbb2 HBT3 hwb
    obtain ⟨pb1, pb2⟩ := placeI_bounds l a1
    have Hback := Go.Lib.hid (fun h => place_back (l := l) (n := a1) h)
    go_wp2_with fail
    refine (rplace_c a1 _ _ _ l HRK.out p0 p1).mono ?_
    rintro e w4 ⟨rfl, hb4⟩
    have hbb4 := hbb3.trans (hb4.mono hbb3.size)
    have HRK4 := Go.Lib.hid (HRK.out.below hb4)
    have Hr4 := Go.Lib.hid (Hr3.out.below hb4)
    clear HRK hb4 hbb3 Hr3
    generalize placeI l a1 = p at *
    have Hl := Go.Lib.hid hl
    by_cases hp : p < 0
    · have hbb5 := hbb4
      have Hr5 := Hr4
      have HRK5 := HRK4
      clear Hback hbb4 Hr4 HRK4
      by_cases hi0 : a2 < 0
      · go_wp2_with fail
        go_ret
        exact ⟨rfl, hbb5⟩
      by_cases hi1 : (l.length : Int) ≤ a2
      · go_wp2_with fail
        go_ret
        exact ⟨rfl, hbb5⟩
      obtain ⟨ix, rfl⟩ : ∃ i : Nat, a2 = (i : Int) := ⟨a2.toNat, by omega⟩
      have hi : ix < l.length := by omega
      have htell := place_tells l ix hi
      obtain ⟨bb, ob, hbo, hc, hbl⟩ := Hr5.out.zbAt ix hi
      subst hbo
      generalize l[ix] = t at *
      have CO := Go.Lib.hid fun W (h : RK W w2.heap.size (some r) l) => rones_c (ix : Int) W _ _ l h (by omega) (by omega)
      have CP := Go.Lib.hid fun W (h : RK W w2.heap.size (some r) l) => rplace_c (ones l ix : Int) W _ _ l h (by omega) (by have := ones_le l ix; omega)
      have eo := Go.Lib.hid (onesI_nat l ix)
      have hix := fun W => run_idxB bb ob l.length cp ix hi W
      generalize placeI l (ones l ix : Int) = pl at *
      generalize ones l ix = oi at *
      generalize l.length = n at *
      have ht : (t == t) = true := by simp
      go_upto_region 12 with (fail)
      refine wp_region_each (by kernel_rfl) (VR bb ob n cp ix r t oi pl) (VR_below bb ob n cp ix r t oi pl) (by decide +kernel) (by decide +kernel) (by rfl) [50, 51, 52, 53, 54, 55, 56, 57, 58, 59, 60, 61, 6] (by rfl) ?_ ?_
      · intro i o ho a w6 hb6 hlen hg
        have HRK := HRK5.out.below hb6
        have kc := (hb6.cell (p := ⟨bb, ob + ix, none⟩) hbl).trans hc
        match i, ho with
        | 0, ho =>
          obtain rfl := Option.some.inj ho
          have h0 := given_old hg 0 (by decide +kernel)
          clear hg
          exact st_yield ho (wanted_none rfl) (.slice (some ⟨bb, ob, none⟩) n cp) w6 (by simp [execOp, Act.eval, h0, go_sem]) ⟨_, rfl, Below.refl _ _, by rintro t' ⟨⟩; rfl⟩
        | 1, ho =>
          obtain rfl := Option.some.inj ho
          have h2 := given_old hg 2 (by decide +kernel)
          clear hg
          exact st_yield ho (wanted_none rfl) (.int .i64 (ix : Int)) w6 (by simp [execOp, Act.eval, h2, go_sem]) ⟨_, rfl, Below.refl _ _, by rintro t' ⟨⟩; rfl⟩
        | 2, ho =>
          obtain rfl := Option.some.inj ho
          obtain ⟨_, h50, rfl⟩ := given_fed hg 50 (by decide +kernel)
          obtain ⟨_, h51, rfl⟩ := given_fed hg 51 (by decide +kernel)
          clear hg
          exact st_yield ho (wanted_none rfl) (.pointer (some ⟨bb, ob + ix, none⟩)) w6 (by simp [execOp, Act.eval, h50, h51, go_sem, hix]) ⟨_, rfl, Below.refl _ _, by rintro t' ⟨⟩; rfl⟩
        | 3, ho =>
          obtain rfl := Option.some.inj ho
          obtain ⟨_, h52, rfl⟩ := given_fed hg 52 (by decide +kernel)
          clear hg
          exact st_yield ho (wanted_none rfl) (.bool t) w6 (by simp [execOp, Act.eval, h52, go_sem, kc]) ⟨_, rfl, Below.refl _ _, by rintro t' ⟨⟩; rfl⟩
        | 4, ho =>
          obtain rfl := Option.some.inj ho
          have h8 := given_old hg 8 (by decide +kernel)
          clear hg
          exact st_yield ho (wanted_none rfl) (.pointer (some r)) w6 (by simp [execOp, Act.eval, h8, go_sem]) ⟨_, rfl, Below.refl _ _, by rintro t' ⟨⟩; rfl⟩
        | 5, ho =>
          obtain rfl := Option.some.inj ho
          have h8 := given_old hg 8 (by decide +kernel)
          clear hg
          exact st_yield ho (wanted_none rfl) (.pointer (some r)) w6 (by simp [execOp, Act.eval, h8, go_sem]) ⟨_, rfl, Below.refl _ _, by rintro t' ⟨⟩; rfl⟩
        | 6, ho =>
          obtain rfl := Option.some.inj ho
          have h2 := given_old hg 2 (by decide +kernel)
          clear hg
          exact st_yield ho (wanted_none rfl) (.int .i64 (ix : Int)) w6 (by simp [execOp, Act.eval, h2, go_sem]) ⟨_, rfl, Below.refl _ _, by rintro t' ⟨⟩; rfl⟩
        | 7, ho =>
          obtain rfl := Option.some.inj ho
          obtain ⟨_, h55, rfl⟩ := given_fed hg 55 (by decide +kernel)
          obtain ⟨_, h56, rfl⟩ := given_fed hg 56 (by decide +kernel)
          clear hg
          have c := CO.out w6 HRK
          rw [eo.out] at c
          exact st_enter (w1 := w6) ho (wanted_none rfl) 9 #[.pointer (some r), .int .i64 (ix : Int)] (by simp [execOp, Act.eval, h55, h56, resolve, go_sem]) (c.mono (by rintro e w7 ⟨rfl, hb7⟩; exact ⟨_, rfl, _, rfl, hb7, by rintro t' ⟨⟩; rfl⟩))
        | 8, ho =>
          obtain rfl := Option.some.inj ho
          obtain ⟨_, h54, rfl⟩ := given_fed hg 54 (by decide +kernel)
          obtain ⟨_, h57, rfl⟩ := given_fed hg 57 (by decide +kernel)
          clear hg
          exact st_enter (w1 := w6) ho (wanted_none rfl) 10 #[.pointer (some r), .int .i64 (oi : Int)] (by simp [execOp, Act.eval, h54, h57, resolve, go_sem]) ((CP.out w6 HRK).mono (by rintro e w7 ⟨rfl, hb7⟩; exact ⟨_, rfl, _, rfl, hb7, by rintro t' ⟨⟩; rfl⟩))
        | 9, ho =>
          obtain rfl := Option.some.inj ho
          have h2 := given_old hg 2 (by decide +kernel)
          clear hg
          exact st_yield ho (wanted_none rfl) (.int .i64 (ix : Int)) w6 (by simp [execOp, Act.eval, h2, go_sem]) ⟨_, rfl, Below.refl _ _, by rintro t' ⟨⟩; rfl⟩
        | 10, ho =>
          obtain rfl := Option.some.inj ho
          obtain ⟨_, h58, rfl⟩ := given_fed hg 58 (by decide +kernel)
          obtain ⟨_, h59, rfl⟩ := given_fed hg 59 (by decide +kernel)
          clear hg
          exact st_yield ho (wanted_none rfl) (.bool t) w6 (by simp [execOp, Act.eval, h58, h59, go_sem, htell]) ⟨_, rfl, Below.refl _ _, by rintro t' ⟨⟩; rfl⟩
        | 11, ho =>
          obtain rfl := Option.some.inj ho
          obtain ⟨_, h53, rfl⟩ := given_fed hg 53 (by decide +kernel)
          obtain ⟨_, h60, rfl⟩ := given_fed hg 60 (by decide +kernel)
          clear hg
          exact st_yield ho (wanted_none rfl) (.bool true) w6 (by simp [execOp, Act.eval, h53, h60, go_sem]) ⟨_, rfl, Below.refl _ _, by rintro t' ⟨⟩; rfl⟩
        | 12, ho =>
          obtain rfl := Option.some.inj ho
          obtain ⟨_, h61, rfl⟩ := given_fed hg 61 (by decide +kernel)
          clear hg
          exact st_yield ho (wanted_none rfl) (.bool true) w6 (by simp [execOp, Act.eval, h61, go_sem]) ⟨_, rfl, Below.refl _ _, by rintro t' ⟨⟩; rfl⟩
        | n + 13, ho => simp at ho
      · intro f w6 hb6 hv
        have h6 := hv 6 (by decide)
        simp only [VR] at h6
        have hb9 := hbb5.trans (hb6.mono hbb5.size)
        clear hv
        unfold putAll
        simp only [List.foldl]
        simp only [h6]
        go_simp
        go_wp2_with fail
        go_ret
        exact ⟨rfl, hb9⟩
    · obtain ⟨k, pp, hak, hpp, hpl, ho, ho2⟩ := Hback.out (by omega)
      subst hak hpp
      have C1 := fun W (h : RK W w2.heap.size (some r) l) => rones_c (pp : Int) W _ _ l h (by omega) (by omega)
      have C2 := fun W (h : RK W w2.heap.size (some r) l) => rones_c ((pp : Int) + 1) W _ _ l h (by omega) (by omega)
      rw [onesI_nat, ho] at C1
      rw [show ((pp : Int) + 1) = ((pp + 1 : Nat) : Int) from by omega, onesI_nat, ho2, show ((pp + 1 : Nat) : Int) = (pp : Int) + 1 from by omega, show ((k + 1 : Nat) : Int) = (k : Int) + 1 from by omega] at C2
      have hkl := ones_le l pp
      have K1 := Go.Lib.hid C1
      have K2 := Go.Lib.hid C2
      have hk1 : (k : Int) ≤ 1000 := by omega
      clear C1 C2 Hback ho ho2
      go_wp2_with fail
      refine (K1.out _ HRK4.out).mono ?_
      rintro e w5 ⟨rfl, hb5⟩
      have hbb5' := hbb4.trans (hb5.mono hbb4.size)
      have HRK5' := Go.Lib.hid (HRK4.out.below hb5)
      have Hr5' := Go.Lib.hid (Hr4.out.below hb5)
      clear hb5 hbb4 HRK4 Hr4 K1
      go_wp2_with fail
      refine (K2.out _ HRK5'.out).mono ?_
      rintro e w6 ⟨rfl, hb6⟩
      have hbb5 := hbb5'.trans (hb6.mono hbb5'.size)
      have HRK5 := Go.Lib.hid (HRK5'.out.below hb6)
      have Hr5 := Go.Lib.hid (Hr5'.out.below hb6)
      clear hb6 hbb5' HRK5' Hr5' K2
      by_cases hi0 : a2 < 0
      · go_wp2_with fail
        go_ret
        exact ⟨rfl, hbb5⟩
      by_cases hi1 : (l.length : Int) ≤ a2
      · go_wp2_with fail
        go_ret
        exact ⟨rfl, hbb5⟩
      obtain ⟨ix, rfl⟩ : ∃ i : Nat, a2 = (i : Int) := ⟨a2.toNat, by omega⟩
      have hi : ix < l.length := by omega
      have htell := place_tells l ix hi
      obtain ⟨bb, ob, hbo, hc, hbl⟩ := Hr5.out.zbAt ix hi
      subst hbo
      generalize l[ix] = t at *
      have CO := Go.Lib.hid fun W (h : RK W w2.heap.size (some r) l) => rones_c (ix : Int) W _ _ l h (by omega) (by omega)
      have CP := Go.Lib.hid fun W (h : RK W w2.heap.size (some r) l) => rplace_c (ones l ix : Int) W _ _ l h (by omega) (by have := ones_le l ix; omega)
      have eo := Go.Lib.hid (onesI_nat l ix)
      have hix := fun W => run_idxB bb ob l.length cp ix hi W
      generalize placeI l (ones l ix : Int) = pl at *
      generalize ones l ix = oi at *
      generalize l.length = n at *
      have ht : (t == t) = true := by simp
      go_upto_region 12 with (fail)
      refine wp_region_each (by kernel_rfl) (VR bb ob n cp ix r t oi pl) (VR_below bb ob n cp ix r t oi pl) (by decide +kernel) (by decide +kernel) (by rfl) [50, 51, 52, 53, 54, 55, 56, 57, 58, 59, 60, 61, 6] (by rfl) ?_ ?_
      · intro i o ho a w6 hb6 hlen hg
        have HRK := HRK5.out.below hb6
        have kc := (hb6.cell (p := ⟨bb, ob + ix, none⟩) hbl).trans hc
        match i, ho with
        | 0, ho =>
          obtain rfl := Option.some.inj ho
          have h0 := given_old hg 0 (by decide +kernel)
          clear hg
          exact st_yield ho (wanted_none rfl) (.slice (some ⟨bb, ob, none⟩) n cp) w6 (by simp [execOp, Act.eval, h0, go_sem]) ⟨_, rfl, Below.refl _ _, by rintro t' ⟨⟩; rfl⟩
        | 1, ho =>
          obtain rfl := Option.some.inj ho
          have h2 := given_old hg 2 (by decide +kernel)
          clear hg
          exact st_yield ho (wanted_none rfl) (.int .i64 (ix : Int)) w6 (by simp [execOp, Act.eval, h2, go_sem]) ⟨_, rfl, Below.refl _ _, by rintro t' ⟨⟩; rfl⟩
        | 2, ho =>
          obtain rfl := Option.some.inj ho
          obtain ⟨_, h50, rfl⟩ := given_fed hg 50 (by decide +kernel)
          obtain ⟨_, h51, rfl⟩ := given_fed hg 51 (by decide +kernel)
          clear hg
          exact st_yield ho (wanted_none rfl) (.pointer (some ⟨bb, ob + ix, none⟩)) w6 (by simp [execOp, Act.eval, h50, h51, go_sem, hix]) ⟨_, rfl, Below.refl _ _, by rintro t' ⟨⟩; rfl⟩
        | 3, ho =>
          obtain rfl := Option.some.inj ho
          obtain ⟨_, h52, rfl⟩ := given_fed hg 52 (by decide +kernel)
          clear hg
          exact st_yield ho (wanted_none rfl) (.bool t) w6 (by simp [execOp, Act.eval, h52, go_sem, kc]) ⟨_, rfl, Below.refl _ _, by rintro t' ⟨⟩; rfl⟩
        | 4, ho =>
          obtain rfl := Option.some.inj ho
          have h8 := given_old hg 8 (by decide +kernel)
          clear hg
          exact st_yield ho (wanted_none rfl) (.pointer (some r)) w6 (by simp [execOp, Act.eval, h8, go_sem]) ⟨_, rfl, Below.refl _ _, by rintro t' ⟨⟩; rfl⟩
        | 5, ho =>
          obtain rfl := Option.some.inj ho
          have h8 := given_old hg 8 (by decide +kernel)
          clear hg
          exact st_yield ho (wanted_none rfl) (.pointer (some r)) w6 (by simp [execOp, Act.eval, h8, go_sem]) ⟨_, rfl, Below.refl _ _, by rintro t' ⟨⟩; rfl⟩
        | 6, ho =>
          obtain rfl := Option.some.inj ho
          have h2 := given_old hg 2 (by decide +kernel)
          clear hg
          exact st_yield ho (wanted_none rfl) (.int .i64 (ix : Int)) w6 (by simp [execOp, Act.eval, h2, go_sem]) ⟨_, rfl, Below.refl _ _, by rintro t' ⟨⟩; rfl⟩
        | 7, ho =>
          obtain rfl := Option.some.inj ho
          obtain ⟨_, h55, rfl⟩ := given_fed hg 55 (by decide +kernel)
          obtain ⟨_, h56, rfl⟩ := given_fed hg 56 (by decide +kernel)
          clear hg
          have c := CO.out w6 HRK
          rw [eo.out] at c
          exact st_enter (w1 := w6) ho (wanted_none rfl) 9 #[.pointer (some r), .int .i64 (ix : Int)] (by simp [execOp, Act.eval, h55, h56, resolve, go_sem]) (c.mono (by rintro e w7 ⟨rfl, hb7⟩; exact ⟨_, rfl, _, rfl, hb7, by rintro t' ⟨⟩; rfl⟩))
        | 8, ho =>
          obtain rfl := Option.some.inj ho
          obtain ⟨_, h54, rfl⟩ := given_fed hg 54 (by decide +kernel)
          obtain ⟨_, h57, rfl⟩ := given_fed hg 57 (by decide +kernel)
          clear hg
          exact st_enter (w1 := w6) ho (wanted_none rfl) 10 #[.pointer (some r), .int .i64 (oi : Int)] (by simp [execOp, Act.eval, h54, h57, resolve, go_sem]) ((CP.out w6 HRK).mono (by rintro e w7 ⟨rfl, hb7⟩; exact ⟨_, rfl, _, rfl, hb7, by rintro t' ⟨⟩; rfl⟩))
        | 9, ho =>
          obtain rfl := Option.some.inj ho
          have h2 := given_old hg 2 (by decide +kernel)
          clear hg
          exact st_yield ho (wanted_none rfl) (.int .i64 (ix : Int)) w6 (by simp [execOp, Act.eval, h2, go_sem]) ⟨_, rfl, Below.refl _ _, by rintro t' ⟨⟩; rfl⟩
        | 10, ho =>
          obtain rfl := Option.some.inj ho
          obtain ⟨_, h58, rfl⟩ := given_fed hg 58 (by decide +kernel)
          obtain ⟨_, h59, rfl⟩ := given_fed hg 59 (by decide +kernel)
          clear hg
          exact st_yield ho (wanted_none rfl) (.bool t) w6 (by simp [execOp, Act.eval, h58, h59, go_sem, htell]) ⟨_, rfl, Below.refl _ _, by rintro t' ⟨⟩; rfl⟩
        | 11, ho =>
          obtain rfl := Option.some.inj ho
          obtain ⟨_, h53, rfl⟩ := given_fed hg 53 (by decide +kernel)
          obtain ⟨_, h60, rfl⟩ := given_fed hg 60 (by decide +kernel)
          clear hg
          exact st_yield ho (wanted_none rfl) (.bool true) w6 (by simp [execOp, Act.eval, h53, h60, go_sem]) ⟨_, rfl, Below.refl _ _, by rintro t' ⟨⟩; rfl⟩
        | 12, ho =>
          obtain rfl := Option.some.inj ho
          obtain ⟨_, h61, rfl⟩ := given_fed hg 61 (by decide +kernel)
          clear hg
          exact st_yield ho (wanted_none rfl) (.bool true) w6 (by simp [execOp, Act.eval, h61, go_sem]) ⟨_, rfl, Below.refl _ _, by rintro t' ⟨⟩; rfl⟩
        | n + 13, ho => simp at ho
      · intro f w6 hb6 hv
        have h6 := hv 6 (by decide)
        simp only [VR] at h6
        have hb9 := hbb5.trans (hb6.mono hbb5.size)
        clear hv
        unfold putAll
        simp only [List.foldl]
        simp only [h6]
        go_simp
        go_wp2_with fail
        go_ret
        exact ⟨rfl, hb9⟩

/-! ### THE ROW -/
set_option maxRecDepth 100000 in
theorem lifted (os : Os) (started : os.Started) (H : Type) (enc : TypeId × Value → H) :
    ReturnsInHanded {} Try.checked os 4 .any (Rows.rankBackSpec.pre6 enc Try.prog Try.f4 Rows.rankBackRow.domain false) (Rows.rankBackSpec.post enc Try.prog Try.f4 false true false false) := by
  refine returnsInHanded_of_change (C := Try.checked) own started (by kernel_rfl) Try.func4
    (ChangeSpec.witness6 (enc := enc) (C := Try.checked) false ⟨#[], #[.slice none 0 0, .int .i64 0, .int .i64 0], []⟩ 8 (by kernel_rfl) (by kernel_rfl) (by kernel_rfl) (by kernel_rfl)) ?_
  intro W base args ds gs before hval0 hW hcnd _
  have hval : ∀ (j : Nat) t v, Try.f4.params[j]? = some t → args[j]? = some v → Value.okWide Try.prog W .any base t v := hval0
  have hW' := hW
  obtain ⟨p, q, hA0, hV, rfl, hfz, hnd⟩ := hW
  have hA : DataW.TrodAll enc Try.prog W 0 (fun _ => true) true Try.f4.params.toList args.toList ds p := hA0
  rw [Try.params4] at hA hval
  obtain ⟨v0, vs0, d0, ds0, p0, q0, hargs, rfl, rfl, h0, r0⟩ := trodAll_cons hA
  obtain ⟨v1, vs1, d1, ds1, p1, q1, rfl, rfl, rfl, h1, r1⟩ := trodAll_cons r0
  obtain ⟨v2, vs2, d2, ds2, p2, q2, rfl, rfl, rfl, h2, r2⟩ := trodAll_cons r1
  obtain ⟨rfl, rfl, rfl⟩ := trodAll_nil r2
  obtain rfl : args = #[v0, v1, v2] := by cases args; simp_all
  obtain ⟨rfl, rfl⟩ := trodVars_none hV
  have kk0 := h0
  have lt0 : ∀ x ∈ p0, x.block < W.heap.size := by obtain ⟨m, hm⟩ := kk0; exact DataW.trod_lt m _ _ _ hm
  have kk1 := h1
  have lt1 : ∀ x ∈ p1, x.block < W.heap.size := by obtain ⟨m, hm⟩ := kk1; exact DataW.trod_lt m _ _ _ hm
  have kk2 := h2
  have lt2 : ∀ x ∈ p2, x.block < W.heap.size := by obtain ⟨m, hm⟩ := kk2; exact DataW.trod_lt m _ _ _ hm
  obtain ⟨a0, len0, cap0, rfl⟩ := okWide_slice Try.underlying22 (hval 0 22 v0 rfl rfl)
  obtain ⟨l0, w0⟩ := open_zb Try.underlying22 Try.underlying4 (by kernel_rfl) h0
  obtain ⟨a1, rfl, rfl, rfl, w1⟩ := open_int Try.underlying3 (hval 1 3 v1 rfl rfl) h1
  obtain ⟨a2, rfl, rfl, rfl, w2⟩ := open_int Try.underlying3 (hval 2 3 v2 rfl rfl) h2
  clear hA0 hval0
  refine (walk W a0 len0 cap0 l0 w0 a1 w1 a2 w2).mono fun e W' ⟨he, bel⟩ => ?_
  subst he
  exact ⟨_, rfl, _, _, _, [], _, [], hW', trodAll_mk1 (shut_bool Try.underlying4 _), (trodAll_cons_mk (Below.trod laidOut (by kernel_rfl) (of_decide_eq_true (by kernel_rfl)) kk0 bel lt0) (trodAll_cons_mk (Below.trod laidOut (by kernel_rfl) (of_decide_eq_true (by kernel_rfl)) kk1 bel lt1) (trodAll_cons_mk (Below.trod laidOut (by kernel_rfl) (of_decide_eq_true (by kernel_rfl)) kk2 bel lt2) trodAll_mk0))), rfl, bel.frame _, fun h => by cases h⟩

theorem over : Rows.rankBackRow.holds Try.pinned (OpenSpec.ofChange Rows.rankBackSpec) :=
  OpenClaim.holds_of_wide 4 Try.f4 rfl rfl rfl rfl rfl rfl rfl ⟨rfl, rfl, rfl, rfl, rfl⟩ rfl rfl rfl rfl rfl (by kernel_rfl) Try.func4 (by kernel_rfl)
    (of_decide_eq_true (by kernel_rfl)) (by unfold Func.isWrapper; first | (rw [if_pos (by decide +kernel)]; kernel_rfl) | (rw [if_neg (by decide +kernel)]; exact ⟨rfl, rfl⟩))
    (fun os started H enc _ => lifted os started H enc)

theorem proved : Rows.RankBackSaid := over
#print axioms proved
end Go.Proofs.Ytiakpjkpmepmoaa.rankBack
