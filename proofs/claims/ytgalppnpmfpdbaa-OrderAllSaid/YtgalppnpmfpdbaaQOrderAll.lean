/- OrderAll: records laid into a table: it goes to bytes and back, its records by rising keys: for every input the law returns true. -/
import Derived.Test.YtgalppnpmfpdbaaRows
import Derived.WalkKit
import Derived.ProofKit
import Derived.OpenShut
import Derived.ShutString
import Derived.ChangeOld
import Derived.Below
import Derived.Test.YtgalppnpmfpdbaaM01
import Derived.Test.YtgalppnpmfpdbaaM14
import Derived.Test.YtgalppnpmfpdbaaM15
namespace Go.Proofs.Ytgalppnpmfpdbaa.orderAll
open Go.ChangeShapes Go.WideShapes Go.ChangeAt Go.RowKit
open Go.ChangeMaps (open_string shut_string)
set_option linter.unusedVariables false

theorem own : ownKnob Try.prog.godebug = none := by kernel_rfl
theorem laidOut : laidOutB Try.prog = true := by kernel_rfl

def VOa (TL : List Value) (B : List UInt8) (RC : List RecT) (a8 : Option Addr) (c8 : Nat) : Nat → World → Value → Prop
  | 4, _, v => v = .bool true
  | 26, _, v => v = .agg TL.toArray
  | 27, _, v => v = .bool true
  | 28, _, v => v = .bool true
  | 29, _, v => v = .slice a8 B.length c8
  | 30, _, v => v = .string (str B)
  | 31, _, v => v = .agg TL.toArray
  | 32, w, v => RB w v B
  | 33, _, v => v = .string (str B)
  | 34, _, v => v = .bool true
  | 35, _, v => v = .bool true
  | 36, _, v => v = .bool true
  | 37, _, v => v = .int .i64 0
  | 38, _, v => v = .bool true
  | 39, _, v => v = .bool true
  | 40, _, v => v = .bool true
  | 41, _, v => v = .agg TL.toArray
  | 42, _, v => v = .agg TL.toArray
  | 43, _, v => v = .agg TL.toArray
  | 44, _, v => v = .bool true
  | 45, _, v => v = .bool true
  | 46, _, v => v = .bool true
  | 47, _, v => v = .agg TL.toArray
  | 48, w, v => RS w v RC
  | 49, _, v => v = .agg TL.toArray
  | 50, w, v => RS w v RC
  | 51, _, v => v = .bool true
  | 52, _, v => v = .bool true
  | _, _, _ => True

theorem VOa_below (TL : List Value) (B : List UInt8) (RC : List RecT) (a8 : Option Addr) (c8 : Nat) : ∀ (i : Nat) (w w' : World) (v : Value), VOa TL B RC a8 c8 i w v → Below w.heap.size w w' → VOa TL B RC a8 c8 i w' v := by
  intro i w w' v h hb
  unfold VOa at h ⊢
  split at h <;> first | exact h | trivial | exact RB.below h hb | exact RS.below h hb | exact Own.below h hb | exact OwnV.below h hb | exact OwnRec.below h hb | exact Lay.R.below h hb


set_option maxHeartbeats 16000000 in
set_option maxRecDepth 100000 in
theorem walk (w : World) (a0 : Option Addr) (len0 cap0 : Nat) (l0 : List RecT) (w0 : RRec w (.slice a0 len0 cap0) l0) (a1 : Option Addr) (len1 cap1 : Nat) (l1 : List Bool) (w1 : RV w (.slice a1 len1 cap1) (zb l1)) :
    Calls Try.prog 3 #[.slice a0 len0 cap0, .slice a1 len1 cap1] w fun e w' => e = .returned (.bool true) ∧ Below w.heap.size w w' := by
  have CBG := Go.Lib.hid (begun19_c w)
  have CL := Go.Lib.hid fun W (hb : Below w.heap.size w W) => llay_c (.slice a0 len0 cap0) (.slice a1 len1 cap1) l0 l1 W (w0.rs.below hb) (w1.below hb) w0.ok
  have HOK := Go.Lib.hid (layN_ok l1 w0.ok (min l0.length 40))
  clear w0 w1
  generalize layN l0 l1 (min l0.length 40) = TT at *
  have hz := zero_tabZ
  have hzr := zero_tabRZ
  have COF := Go.Lib.hid fun W => lof_c TT W
  have CE := fun W => oencode_c TT W HOK.out.sizes HOK.out.recs
  rw [if_pos HOK.out.ok] at CE
  have CE := Go.Lib.hid CE
  have CTB := fun W => rtabbytes_c TT W HOK.out.sizes HOK.out.recs
  rw [if_pos HOK.out.ok] at CTB
  have CTB := Go.Lib.hid CTB
  have CD := fun v W (h : RB W v (tabB TT)) => odecode_c v (tabB TT) W h
  rw [decT_put HOK.out.ok HOK.out.recs, show outD (some (cutT TT 32)) = .tuple #[.agg (tabL TT 32).toArray, .int .i64 0] from by show Value.tuple _ = _; rw [tabL_congr (UU := TT) 32 (fun q hq => cutT_old TT hq)]] at CD
  have CD := Go.Lib.hid CD
  have CLS := Go.Lib.hid fun W => olist_c TT W HOK.out.sizes
  have CM := fun W => omay_c TT W HOK.out.sizes
  rw [HOK.out.ok] at CM
  have CM := Go.Lib.hid CM
  have CB := Go.Lib.hid fun W => lback_c TT W
  have CQ := Go.Lib.hid fun W => leq_c TT W
  have CRR := Go.Lib.hid fun W => rrecs_c TT W
  have HRN := Go.Lib.hid (fun l' (hr : RiseL l') (hp : l'.Perm (recsT TT 32)) => rise_newest hr hp HOK.out.keys)
  have HSD := Go.Lib.hid (sizeTabO TT)
  have HSR := Go.Lib.hid (sizeTab TT)
  have HTO := Go.Lib.hid (tabL_one TT)
  have HLE := Go.Lib.hid (show (tabL zeroT 32).length = (tabL TT 32).length from by rw [tabL_len, tabL_len])
  generalize newestR (recsT TT 32) = RC at *
  generalize tabB TT = B at *
  generalize tabL zeroT 32 = ZL at *
  generalize tabL TT 32 = TL at *
  go_enter Try.func3, Try.ntmps3
  go_wp2_with fail
  refine CBG.out.mono ?_
  rintro e w2 ⟨rfl, hc⟩
  have HB := Go.Lib.hid hc
  clear hc CBG
  go_wp2_with fail
  refine (CL.out _ HB.out).mono ?_
  rintro e w3 ⟨rfl, hc⟩
  have HB := Go.Lib.hid (HB.out.trans (hc.mono HB.out.size))
  clear hc CL
  have hb6 := below_one w3 (.cells ZL.toArray 33)
  have HZ6 := Go.Lib.hid (heap_alloc_new w3 (.cells ZL.toArray 33))
  have HX6 := Go.Lib.hid (setRow_heap _ w3.heap.size _ TL.toArray 33 (0, 0) HZ6.out)
  have hs6 := setRow_below TL.toArray hb6 (Nat.le_refl _)
  have HB := Go.Lib.hid (HB.out.trans (hs6.mono HB.out.size))
  clear hb6 hs6
  go_upto_region 5 with (first
    | (with_reducible show wpList _ _ _ (⟨none, Op.store 33 (.tmp 6) (.tmp 16), _, _, _, _⟩ :: _) _ _; go_loud (refine wpList_store_row rfl 33 (.tmp 6) (.tmp 16) rfl w3.heap.size TL.toArray rfl rfl 33 _ HZ6.out (by rw [HSR.out, List.size_toArray]) (by rw [List.size_toArray, List.size_toArray]; exact HLE.out) HTO.out ?_))
    | fail)
  obtain ⟨g6, hg6⟩ : ∃ g, g = w3.heap.size := ⟨_, rfl⟩
  rw [← hg6] at HX6 HB ⊢
  clear hg6 HZ6
  generalize (w3.alloc (.cells ZL.toArray 33)).setRow g6 TL.toArray = w3x at *

  go_wp2_with (first
    | (with_reducible show wpList _ _ _ (⟨some 17, _, _, _, _, _⟩ :: _) _ _; go_loud (refine wpList_load_row rfl 33 (.tmp 6) rfl g6 rfl 33 TL.toArray (0, 0) _ HX6.out Try.underlying33 rfl (by rw [HSR.out, List.size_toArray]) ?_))
    | fail)
  refine (COF.out _).mono ?_
  rintro e w4 ⟨rfl, hc⟩
  have HX6 := Go.Lib.hid (row_kept HX6.out hc)
  have HB := Go.Lib.hid (HB.out.trans (hc.mono HB.out.size))
  clear hc COF
  have hb7 := below_one w4 (.cells ZL.toArray 38)
  have HZ7 := Go.Lib.hid (heap_alloc_new w4 (.cells ZL.toArray 38))
  have HX7 := Go.Lib.hid (setRow_heap _ w4.heap.size _ TL.toArray 38 (0, 0) HZ7.out)
  have hs7 := setRow_below TL.toArray hb7 (Nat.le_refl _)
  have HX6 := Go.Lib.hid (row_kept HX6.out hs7)
  have HB := Go.Lib.hid (HB.out.trans (hs7.mono HB.out.size))
  clear hb7 hs7
  go_upto_region 6 with (first
    | (with_reducible show wpList _ _ _ (⟨none, Op.store 38 (.tmp 7) (.tmp 18), _, _, _, _⟩ :: _) _ _; go_loud (refine wpList_store_row rfl 38 (.tmp 7) (.tmp 18) rfl w4.heap.size TL.toArray rfl rfl 38 _ HZ7.out (by rw [HSD.out, List.size_toArray]) (by rw [List.size_toArray, List.size_toArray]; exact HLE.out) HTO.out ?_))
    | fail)
  obtain ⟨g7, hg7⟩ : ∃ g, g = w4.heap.size := ⟨_, rfl⟩
  rw [← hg7] at HX7 HB HX6 ⊢
  clear hg7 HZ7
  generalize (w4.alloc (.cells ZL.toArray 38)).setRow g7 TL.toArray = w4x at *

  go_wp2_with (first
    | (with_reducible show wpList _ _ _ (⟨some 19, _, _, _, _, _⟩ :: _) _ _; go_loud (refine wpList_load_row rfl 38 (.tmp 7) rfl g7 rfl 38 TL.toArray (0, 0) _ HX7.out Try.underlying38 rfl (by rw [HSD.out, List.size_toArray]) ?_))
    | fail)
  refine (CE.out _).mono ?_
  rintro e w5 ⟨v8, rfl, ho, hc⟩
  have HX6 := Go.Lib.hid (row_kept HX6.out hc)
  have HX7 := Go.Lib.hid (row_kept HX7.out hc)
  have HB := Go.Lib.hid (HB.out.trans (hc.mono HB.out.size))
  have HO := Go.Lib.hid ho.rb
  obtain ⟨a8, c8, rfl, -⟩ := id ho.rb
  clear ho hc CE
  go_wp2_with fail
  refine (CD.out _ _ HO.out).mono ?_
  rintro e w6 ⟨rfl, hc⟩
  have HX6 := Go.Lib.hid (row_kept HX6.out hc)
  have HX7 := Go.Lib.hid (row_kept HX7.out hc)
  have HB := Go.Lib.hid (HB.out.trans (hc.mono HB.out.size))
  have HO := Go.Lib.hid (HO.out.below hc)
  clear hc CD
  have hb9 := below_one w6 (.cells ZL.toArray 38)
  have HZ9 := Go.Lib.hid (heap_alloc_new w6 (.cells ZL.toArray 38))
  have HX9 := Go.Lib.hid (setRow_heap _ w6.heap.size _ TL.toArray 38 (0, 0) HZ9.out)
  have hs9 := setRow_below TL.toArray hb9 (Nat.le_refl _)
  have HX6 := Go.Lib.hid (row_kept HX6.out hs9)
  have HX7 := Go.Lib.hid (row_kept HX7.out hs9)
  have HB := Go.Lib.hid (HB.out.trans (hs9.mono HB.out.size))
  have HO := Go.Lib.hid (HO.out.below hs9)
  clear hb9 hs9
  go_upto_region 8 with (first
    | (with_reducible show wpList _ _ _ (⟨none, Op.store 38 (.tmp 9) (.tmp 24), _, _, _, _⟩ :: _) _ _; go_loud (refine wpList_store_row rfl 38 (.tmp 9) (.tmp 24) rfl w6.heap.size TL.toArray rfl rfl 38 _ HZ9.out (by rw [HSD.out, List.size_toArray]) (by rw [List.size_toArray, List.size_toArray]; exact HLE.out) HTO.out ?_))
    | fail)
  obtain ⟨g9, hg9⟩ : ∃ g, g = w6.heap.size := ⟨_, rfl⟩
  rw [← hg9] at HX9 HB HX6 HX7 HO ⊢
  clear hg9 HZ9
  generalize (w6.alloc (.cells ZL.toArray 38)).setRow g9 TL.toArray = w6x at *

  have hss : ((str B).toList == (str B).toList) = true := by simp
  clear hz hzr
  refine wp_region_each (by kernel_rfl) (VOa TL B RC a8 c8) (VOa_below TL B RC a8 c8) (by decide +kernel) (by decide +kernel) (by rfl) [26, 27, 28, 29, 30, 31, 32, 33, 34, 35, 36, 37, 38, 39, 40, 41, 42, 43, 44, 45, 46, 47, 48, 49, 50, 51, 52, 4] (by rfl) ?_ ?_
  · intro i o ho a w6 hb6 hlen hg
    match i, ho with
    | 0, ho =>
      obtain rfl := Option.some.inj ho
      have h7 := given_old hg 7 (by decide +kernel)
      clear hg
      exact st_list ho (wanted_none rfl) fun Q' hQ => wpList_load_row rfl 38 (.tmp 7) rfl g7 (by simp [Act.eval, h7]) 38 TL.toArray (0, 0) _ (row_kept HX7.out hb6) Try.underlying38 rfl (by rw [HSD.out, List.size_toArray]) (wpList_nil (hQ _ _ ⟨_, rfl, Below.refl _ _, by rintro t' ⟨⟩; rfl⟩))
    | 1, ho =>
      obtain rfl := Option.some.inj ho
      obtain ⟨_, h26, rfl⟩ := given_fed hg 26 (by decide +kernel)
      clear hg
      exact st_enter (w1 := w6) ho (wanted_none rfl) 12 #[.agg TL.toArray] (by simp [execOp, Act.eval, h26, resolve, go_sem]) ((CM.out w6).mono (by rintro e w7 ⟨rfl, hb7⟩; exact ⟨_, rfl, _, rfl, hb7, by rintro t' ⟨⟩; rfl⟩))
    | 2, ho =>
      obtain rfl := Option.some.inj ho
      obtain ⟨_, h27, rfl⟩ := given_fed hg 27 (by decide +kernel)
      clear hg
      exact st_yield ho (wanted_none rfl) (.bool true) w6 (by simp [execOp, Act.eval, h27, go_sem]) ⟨_, rfl, Below.refl _ _, by rintro t' ⟨⟩; rfl⟩
    | 3, ho =>
      obtain rfl := Option.some.inj ho
      have h8 := given_old hg 8 (by decide +kernel)
      obtain ⟨_, h28, rfl⟩ := given_fed hg 28 (by decide +kernel)
      clear hg
      exact st_yield ho (wanted_some rfl rfl h28 rfl) (.slice a8 B.length c8) w6 (by simp [execOp, Act.eval, h8, go_sem]) ⟨_, rfl, Below.refl _ _, by rintro t' ⟨⟩; rfl⟩
    | 4, ho =>
      obtain rfl := Option.some.inj ho
      obtain ⟨_, h29, rfl⟩ := given_fed hg 29 (by decide +kernel)
      obtain ⟨_, h28, rfl⟩ := given_fed hg 28 (by decide +kernel)
      clear hg
      have cv := run_string_RB w6 40 5 9 Try.underlying40 Try.underlying5 Try.underlying9 (.slice a8 B.length c8) B (HO.out.below hb6)
      exact st_yield ho (wanted_some rfl rfl h28 rfl) (.string (str B)) w6 (by simp [execOp, Act.eval, h29, cv, Result.andThen]) ⟨_, rfl, Below.refl _ _, by rintro t' ⟨⟩; rfl⟩
    | 5, ho =>
      obtain rfl := Option.some.inj ho
      have h6 := given_old hg 6 (by decide +kernel)
      obtain ⟨_, h28, rfl⟩ := given_fed hg 28 (by decide +kernel)
      clear hg
      exact st_list ho (wanted_some rfl rfl h28 rfl) fun Q' hQ => wpList_met (wanted_some rfl rfl h28 rfl) (wpList_load_row rfl 33 (.tmp 6) rfl g6 (by simp [Act.eval, h6]) 33 TL.toArray (0, 0) _ (row_kept HX6.out hb6) Try.underlying33 rfl (by rw [HSR.out, List.size_toArray]) (wpList_nil (hQ _ _ ⟨_, rfl, Below.refl _ _, by rintro t' ⟨⟩; rfl⟩)))
    | 6, ho =>
      obtain rfl := Option.some.inj ho
      obtain ⟨_, h31, rfl⟩ := given_fed hg 31 (by decide +kernel)
      obtain ⟨_, h28, rfl⟩ := given_fed hg 28 (by decide +kernel)
      clear hg
      exact st_enter (w1 := w6) ho (wanted_some rfl rfl h28 rfl) 13 #[.agg TL.toArray] (by simp [execOp, Act.eval, h31, resolve, go_sem]) ((CTB.out w6).mono (by rintro e w7 ⟨v, rfl, hown, hb7⟩; exact ⟨v, rfl, _, rfl, hb7, by rintro t' ⟨⟩; exact hown.rb⟩))
    | 7, ho =>
      obtain rfl := Option.some.inj ho
      obtain ⟨v32, h32, p32⟩ := given_fed hg 32 (by decide +kernel)
      obtain ⟨_, h28, rfl⟩ := given_fed hg 28 (by decide +kernel)
      clear hg
      have cv := run_string_RB w6 40 5 9 Try.underlying40 Try.underlying5 Try.underlying9 v32 B p32
      exact st_yield ho (wanted_some rfl rfl h28 rfl) (.string (str B)) w6 (by simp [execOp, Act.eval, h32, cv, Result.andThen]) ⟨_, rfl, Below.refl _ _, by rintro t' ⟨⟩; rfl⟩
    | 8, ho =>
      obtain rfl := Option.some.inj ho
      obtain ⟨_, h30, rfl⟩ := given_fed hg 30 (by decide +kernel)
      obtain ⟨_, h33, rfl⟩ := given_fed hg 33 (by decide +kernel)
      obtain ⟨_, h28, rfl⟩ := given_fed hg 28 (by decide +kernel)
      clear hg
      exact st_yield ho (wanted_some rfl rfl h28 rfl) (.bool true) w6 (by simp [execOp, Act.eval, h30, h33, go_sem]) ⟨_, rfl, Below.refl _ _, by rintro t' ⟨⟩; rfl⟩
    | 9, ho =>
      obtain rfl := Option.some.inj ho
      obtain ⟨_, h28, rfl⟩ := given_fed hg 28 (by decide +kernel)
      obtain ⟨_, h34, rfl⟩ := given_fed hg 34 (by decide +kernel)
      clear hg
      exact st_yield ho (wanted_none rfl) (.bool true) w6 (by simp [execOp, Act.eval, h28, h34, go_sem]) ⟨_, rfl, Below.refl _ _, by rintro t' ⟨⟩; rfl⟩
    | 10, ho =>
      obtain rfl := Option.some.inj ho
      obtain ⟨_, h35, rfl⟩ := given_fed hg 35 (by decide +kernel)
      clear hg
      exact st_yield ho (wanted_none rfl) (.bool true) w6 (by simp [execOp, Act.eval, h35, go_sem]) ⟨_, rfl, Below.refl _ _, by rintro t' ⟨⟩; rfl⟩
    | 11, ho =>
      obtain rfl := Option.some.inj ho
      have h10 := given_old hg 10 (by decide +kernel)
      obtain ⟨_, h36, rfl⟩ := given_fed hg 36 (by decide +kernel)
      clear hg
      exact st_yield ho (wanted_some rfl rfl h36 rfl) (.int .i64 0) w6 (by simp [execOp, Act.eval, h10, go_sem]) ⟨_, rfl, Below.refl _ _, by rintro t' ⟨⟩; rfl⟩
    | 12, ho =>
      obtain rfl := Option.some.inj ho
      obtain ⟨_, h37, rfl⟩ := given_fed hg 37 (by decide +kernel)
      obtain ⟨_, h36, rfl⟩ := given_fed hg 36 (by decide +kernel)
      clear hg
      exact st_yield ho (wanted_some rfl rfl h36 rfl) (.bool true) w6 (by simp [execOp, Act.eval, h37, go_sem]) ⟨_, rfl, Below.refl _ _, by rintro t' ⟨⟩; rfl⟩
    | 13, ho =>
      obtain rfl := Option.some.inj ho
      obtain ⟨_, h36, rfl⟩ := given_fed hg 36 (by decide +kernel)
      obtain ⟨_, h38, rfl⟩ := given_fed hg 38 (by decide +kernel)
      clear hg
      exact st_yield ho (wanted_none rfl) (.bool true) w6 (by simp [execOp, Act.eval, h36, h38, go_sem]) ⟨_, rfl, Below.refl _ _, by rintro t' ⟨⟩; rfl⟩
    | 14, ho =>
      obtain rfl := Option.some.inj ho
      obtain ⟨_, h39, rfl⟩ := given_fed hg 39 (by decide +kernel)
      clear hg
      exact st_yield ho (wanted_none rfl) (.bool true) w6 (by simp [execOp, Act.eval, h39, go_sem]) ⟨_, rfl, Below.refl _ _, by rintro t' ⟨⟩; rfl⟩
    | 15, ho =>
      obtain rfl := Option.some.inj ho
      have h9 := given_old hg 9 (by decide +kernel)
      obtain ⟨_, h40, rfl⟩ := given_fed hg 40 (by decide +kernel)
      clear hg
      exact st_list ho (wanted_some rfl rfl h40 rfl) fun Q' hQ => wpList_met (wanted_some rfl rfl h40 rfl) (wpList_load_row rfl 38 (.tmp 9) rfl g9 (by simp [Act.eval, h9]) 38 TL.toArray (0, 0) _ (row_kept HX9.out hb6) Try.underlying38 rfl (by rw [HSD.out, List.size_toArray]) (wpList_nil (hQ _ _ ⟨_, rfl, Below.refl _ _, by rintro t' ⟨⟩; rfl⟩)))
    | 16, ho =>
      obtain rfl := Option.some.inj ho
      obtain ⟨_, h41, rfl⟩ := given_fed hg 41 (by decide +kernel)
      obtain ⟨_, h40, rfl⟩ := given_fed hg 40 (by decide +kernel)
      clear hg
      exact st_enter (w1 := w6) ho (wanted_some rfl rfl h40 rfl) 15 #[.agg TL.toArray] (by simp [execOp, Act.eval, h41, resolve, go_sem]) ((CB.out w6).mono (by rintro e w7 ⟨rfl, hb7⟩; exact ⟨_, rfl, _, rfl, hb7, by rintro t' ⟨⟩; rfl⟩))
    | 17, ho =>
      obtain rfl := Option.some.inj ho
      have h6 := given_old hg 6 (by decide +kernel)
      obtain ⟨_, h40, rfl⟩ := given_fed hg 40 (by decide +kernel)
      clear hg
      exact st_list ho (wanted_some rfl rfl h40 rfl) fun Q' hQ => wpList_met (wanted_some rfl rfl h40 rfl) (wpList_load_row rfl 33 (.tmp 6) rfl g6 (by simp [Act.eval, h6]) 33 TL.toArray (0, 0) _ (row_kept HX6.out hb6) Try.underlying33 rfl (by rw [HSR.out, List.size_toArray]) (wpList_nil (hQ _ _ ⟨_, rfl, Below.refl _ _, by rintro t' ⟨⟩; rfl⟩)))
    | 18, ho =>
      obtain rfl := Option.some.inj ho
      obtain ⟨_, h42, rfl⟩ := given_fed hg 42 (by decide +kernel)
      obtain ⟨_, h43, rfl⟩ := given_fed hg 43 (by decide +kernel)
      obtain ⟨_, h40, rfl⟩ := given_fed hg 40 (by decide +kernel)
      clear hg
      exact st_enter (w1 := w6) ho (wanted_some rfl rfl h40 rfl) 14 #[.agg TL.toArray, .agg TL.toArray] (by simp [execOp, Act.eval, h42, h43, resolve, go_sem]) ((CQ.out w6).mono (by rintro e w7 ⟨rfl, hb7⟩; exact ⟨_, rfl, _, rfl, hb7, by rintro t' ⟨⟩; rfl⟩))
    | 19, ho =>
      obtain rfl := Option.some.inj ho
      obtain ⟨_, h40, rfl⟩ := given_fed hg 40 (by decide +kernel)
      obtain ⟨_, h44, rfl⟩ := given_fed hg 44 (by decide +kernel)
      clear hg
      exact st_yield ho (wanted_none rfl) (.bool true) w6 (by simp [execOp, Act.eval, h40, h44, go_sem]) ⟨_, rfl, Below.refl _ _, by rintro t' ⟨⟩; rfl⟩
    | 20, ho =>
      obtain rfl := Option.some.inj ho
      obtain ⟨_, h45, rfl⟩ := given_fed hg 45 (by decide +kernel)
      clear hg
      exact st_yield ho (wanted_none rfl) (.bool true) w6 (by simp [execOp, Act.eval, h45, go_sem]) ⟨_, rfl, Below.refl _ _, by rintro t' ⟨⟩; rfl⟩
    | 21, ho =>
      obtain rfl := Option.some.inj ho
      have h7 := given_old hg 7 (by decide +kernel)
      obtain ⟨_, h46, rfl⟩ := given_fed hg 46 (by decide +kernel)
      clear hg
      exact st_list ho (wanted_some rfl rfl h46 rfl) fun Q' hQ => wpList_met (wanted_some rfl rfl h46 rfl) (wpList_load_row rfl 38 (.tmp 7) rfl g7 (by simp [Act.eval, h7]) 38 TL.toArray (0, 0) _ (row_kept HX7.out hb6) Try.underlying38 rfl (by rw [HSD.out, List.size_toArray]) (wpList_nil (hQ _ _ ⟨_, rfl, Below.refl _ _, by rintro t' ⟨⟩; rfl⟩)))
    | 22, ho =>
      obtain rfl := Option.some.inj ho
      obtain ⟨_, h47, rfl⟩ := given_fed hg 47 (by decide +kernel)
      obtain ⟨_, h46, rfl⟩ := given_fed hg 46 (by decide +kernel)
      clear hg
      exact st_enter (w1 := w6) ho (wanted_some rfl rfl h46 rfl) 17 #[.agg TL.toArray] (by simp [execOp, Act.eval, h47, resolve, go_sem]) ((CLS.out w6).mono (by
        rintro e w7 ⟨v, l', rfl, hp, hr, hown, hb7⟩
        have hl := HRN.out l' hr hp
        rw [hl] at hown
        exact ⟨v, rfl, _, rfl, hb7, by rintro t' ⟨⟩; exact hown.rs⟩))
    | 23, ho =>
      obtain rfl := Option.some.inj ho
      have h6 := given_old hg 6 (by decide +kernel)
      obtain ⟨_, h46, rfl⟩ := given_fed hg 46 (by decide +kernel)
      clear hg
      exact st_list ho (wanted_some rfl rfl h46 rfl) fun Q' hQ => wpList_met (wanted_some rfl rfl h46 rfl) (wpList_load_row rfl 33 (.tmp 6) rfl g6 (by simp [Act.eval, h6]) 33 TL.toArray (0, 0) _ (row_kept HX6.out hb6) Try.underlying33 rfl (by rw [HSR.out, List.size_toArray]) (wpList_nil (hQ _ _ ⟨_, rfl, Below.refl _ _, by rintro t' ⟨⟩; rfl⟩)))
    | 24, ho =>
      obtain rfl := Option.some.inj ho
      obtain ⟨_, h49, rfl⟩ := given_fed hg 49 (by decide +kernel)
      obtain ⟨_, h46, rfl⟩ := given_fed hg 46 (by decide +kernel)
      clear hg
      exact st_enter (w1 := w6) ho (wanted_some rfl rfl h46 rfl) 18 #[.agg TL.toArray] (by simp [execOp, Act.eval, h49, resolve, go_sem]) ((CRR.out w6).mono (by rintro e w7 ⟨v, rfl, hown, hb7⟩; exact ⟨v, rfl, _, rfl, hb7, by rintro t' ⟨⟩; exact hown.rs⟩))
    | 25, ho =>
      obtain rfl := Option.some.inj ho
      obtain ⟨v48, h48, p48⟩ := given_fed hg 48 (by decide +kernel)
      obtain ⟨v50, h50, p50⟩ := given_fed hg 50 (by decide +kernel)
      obtain ⟨_, h46, rfl⟩ := given_fed hg 46 (by decide +kernel)
      clear hg
      have ce := reqrecs_c v48 v50 RC RC w6 p48 p50
      rw [decide_eq_true rfl] at ce
      exact st_enter (w1 := w6) ho (wanted_some rfl rfl h46 rfl) 16 #[v48, v50] (by simp [execOp, Act.eval, h48, h50, resolve, go_sem]) (ce.mono (by rintro e w7 ⟨rfl, hb7⟩; exact ⟨_, rfl, _, rfl, hb7, by rintro t' ⟨⟩; rfl⟩))
    | 26, ho =>
      obtain rfl := Option.some.inj ho
      obtain ⟨_, h46, rfl⟩ := given_fed hg 46 (by decide +kernel)
      obtain ⟨_, h51, rfl⟩ := given_fed hg 51 (by decide +kernel)
      clear hg
      exact st_yield ho (wanted_none rfl) (.bool true) w6 (by simp [execOp, Act.eval, h46, h51, go_sem]) ⟨_, rfl, Below.refl _ _, by rintro t' ⟨⟩; rfl⟩
    | 27, ho =>
      obtain rfl := Option.some.inj ho
      obtain ⟨_, h52, rfl⟩ := given_fed hg 52 (by decide +kernel)
      clear hg
      exact st_yield ho (wanted_none rfl) (.bool true) w6 (by simp [execOp, Act.eval, h52, go_sem]) ⟨_, rfl, Below.refl _ _, by rintro t' ⟨⟩; rfl⟩
    | n + 28, ho => simp at ho
  · intro f w20 hb20 hv
    have h4 := hv 4 (by decide)
    simp only [VOa] at h4
    have HB20 := Go.Lib.hid (HB.out.trans (hb20.mono HB.out.size))
    clear hv hb20 HX6 HX7 HX9 HO HB
    unfold putAll
    simp only [List.foldl]
    simp only [h4]
    go_simp
    go_wp2_with fail
    go_ret
    exact ⟨rfl, HB20.out⟩

/-! ### THE ROW -/
set_option maxRecDepth 100000 in
theorem lifted (os : Os) (started : os.Started) (H : Type) (enc : TypeId × Value → H) :
    ReturnsInHanded {} Try.checked os 3 .any (Rows.orderAllSpec.pre6 enc Try.prog Try.f3 Rows.orderAllRow.domain false) (Rows.orderAllSpec.post enc Try.prog Try.f3 false true false false) := by
  refine returnsInHanded_of_change (C := Try.checked) own started (by kernel_rfl) Try.func3
    (ChangeSpec.witness6 (enc := enc) (C := Try.checked) false ⟨#[], #[.slice none 0 0, .slice none 0 0], []⟩ 8 (by kernel_rfl) (by kernel_rfl) (by kernel_rfl) (by kernel_rfl)) ?_
  intro W base args ds gs before hval0 hW hcnd _
  have hval : ∀ (j : Nat) t v, Try.f3.params[j]? = some t → args[j]? = some v → Value.okWide Try.prog W .any base t v := hval0
  have hW' := hW
  obtain ⟨p, q, hA0, hV, rfl, hfz, hnd⟩ := hW
  have hA : DataW.TrodAll enc Try.prog W 0 (fun _ => true) true Try.f3.params.toList args.toList ds p := hA0
  rw [Try.params3] at hA hval
  obtain ⟨v0, vs0, d0, ds0, p0, q0, hargs, rfl, rfl, h0, r0⟩ := trodAll_cons hA
  obtain ⟨v1, vs1, d1, ds1, p1, q1, rfl, rfl, rfl, h1, r1⟩ := trodAll_cons r0
  obtain ⟨rfl, rfl, rfl⟩ := trodAll_nil r1
  obtain rfl : args = #[v0, v1] := by cases args; simp_all
  obtain ⟨rfl, rfl⟩ := trodVars_none hV
  have kk0 := h0
  have lt0 : ∀ x ∈ p0, x.block < W.heap.size := by obtain ⟨m, hm⟩ := kk0; exact DataW.trod_lt m _ _ _ hm
  have kk1 := h1
  have lt1 : ∀ x ∈ p1, x.block < W.heap.size := by obtain ⟨m, hm⟩ := kk1; exact DataW.trod_lt m _ _ _ hm
  obtain ⟨a0, len0, cap0, rfl⟩ := okWide_slice Try.underlying22 (hval 0 22 v0 rfl rfl)
  obtain ⟨l0, w0⟩ := open_recs h0
  obtain ⟨a1, len1, cap1, rfl⟩ := okWide_slice Try.underlying23 (hval 1 23 v1 rfl rfl)
  obtain ⟨l1, w1⟩ := open_zb Try.underlying23 Try.underlying4 (by kernel_rfl) h1
  clear hA0 hval0
  refine (walk W a0 len0 cap0 l0 w0 a1 len1 cap1 l1 w1).mono fun e W' ⟨he, bel⟩ => ?_
  subst he
  exact ⟨_, rfl, _, _, _, [], _, [], hW', trodAll_mk1 (shut_bool Try.underlying4 _), (trodAll_cons_mk (Below.trod laidOut (by kernel_rfl) (of_decide_eq_true (by kernel_rfl)) kk0 bel lt0) (trodAll_cons_mk (Below.trod laidOut (by kernel_rfl) (of_decide_eq_true (by kernel_rfl)) kk1 bel lt1) trodAll_mk0)), rfl, bel.frame _, fun h => by cases h⟩

theorem over : Rows.orderAllRow.holds Try.pinned (OpenSpec.ofChange Rows.orderAllSpec) :=
  OpenClaim.holds_of_wide 3 Try.f3 rfl rfl rfl rfl rfl rfl rfl ⟨rfl, rfl, rfl, rfl, rfl⟩ rfl rfl rfl rfl rfl (by kernel_rfl) Try.func3 (by kernel_rfl)
    (of_decide_eq_true (by kernel_rfl)) (by unfold Func.isWrapper; first | (rw [if_pos (by decide +kernel)]; kernel_rfl) | (rw [if_neg (by decide +kernel)]; exact ⟨rfl, rfl⟩))
    (fun os started H enc _ => lifted os started H enc)

theorem proved : Rows.OrderAllSaid := over
#print axioms proved
end Go.Proofs.Ytgalppnpmfpdbaa.orderAll
