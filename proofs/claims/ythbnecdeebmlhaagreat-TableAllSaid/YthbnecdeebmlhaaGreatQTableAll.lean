/- TableAll: each key of a table is found, no other one is, by as few looks as there are records of its tag; from its bytes, too: for every input the law returns true. -/
import Derived.Test.YthbnecdeebmlhaaGreatRows
import Derived.WalkKit
import Derived.ProofKit
import Derived.OpenShut
import Derived.ShutString
import Derived.ChangeOld
import Derived.Below
import Derived.Test.YthbnecdeebmlhaaGreatM01
import Derived.Test.YthbnecdeebmlhaaGreatM13
namespace Go.Proofs.YthbnecdeebmlhaaGreat.tableAll
open Go.ChangeShapes Go.WideShapes Go.ChangeAt Go.RowKit
open Go.ChangeMaps (open_string shut_string)
set_option linter.unusedVariables false

theorem own : ownKnob Tryz.prog.godebug = none := by kernel_rfl
theorem laidOut : laidOutB Tryz.prog = true := by kernel_rfl

set_option maxHeartbeats 4000000 in
set_option maxRecDepth 100000 in
theorem walk (w : World) (a0 : Option Addr) (len0 cap0 : Nat) (l0 : List RecT) (w0 : RRec w (.slice a0 len0 cap0) l0) (a1 : Option Addr) (len1 cap1 : Nat) (l1 : List Bool) (w1 : RV w (.slice a1 len1 cap1) (zb l1)) (a2 : ByteArray) (w2 : a2.size ≤ maxLen) :
    Calls Tryz.prog 3 #[.slice a0 len0 cap0, .slice a1 len1 cap1, .string a2] w fun e w' => e = .returned (.bool true) ∧ Below w.heap.size w w' := by
  have hzr := zero_tabRZ
  have CBG := Go.Lib.hid begun20_c
  have CL := Go.Lib.hid fun W (hb : Below w.heap.size w W) => llay_c (.slice a0 len0 cap0) (.slice a1 len1 cap1) l0 l1 W (w0.rs.below hb) (w1.below hb) w0.ok
  have HOK := Go.Lib.hid (layN_ok l1 w0.ok (min l0.length 40))
  have CC := Go.Lib.hid fun W => lcut_c a2 20 W w2 (by omega)
  have HASK := Go.Lib.hid (show (str ((bl a2).take 20)).size ≤ 1000000 from by rw [str_size, List.length_take]; omega)
  clear w0 w1 w2
  generalize str ((bl a2).take 20) = ask at *
  generalize layN l0 l1 (min l0.length 40) = TT at *
  have COF := Go.Lib.hid fun W => lof_c TT W
  have CN := Go.Lib.hid fun W => new_ok HOK.out W
  have CR := Go.Lib.hid (fun (W : World) B p u r (h : HW W B p u r TT) => right_c h ask HASK.out)
  have CBY := Go.Lib.hid (fun (W : World) B p u r (h : HW W B p u r TT) => hbytes_c h)
  have COP := Go.Lib.hid (fun v (W : World) h => open_put HOK.out v W h)
  have HST := Go.Lib.hid (sizeTab TT)
  have HTO := Go.Lib.hid (tabL_one TT)
  have HLE := Go.Lib.hid (show (tabL zeroT 32).length = (tabL TT 32).length from by rw [tabL_len, tabL_len])
  generalize tabB TT = B at *
  generalize tabL zeroT 32 = ZL at *
  generalize tabL TT 32 = TL at *
  go_enter Tryz.func3, Tryz.ntmps3
  go_wp2_with fail
  refine (CBG.out _).mono ?_
  rintro e w2 ⟨rfl, hc⟩
  have HB := Go.Lib.hid hc
  clear hc CBG
  go_wp2_with fail
  refine (CL.out _ HB.out).mono ?_
  rintro e w3 ⟨rfl, hc⟩
  have HB := Go.Lib.hid (HB.out.trans (hc.mono HB.out.size))
  clear hc CL
  go_wp2_with fail
  refine (CC.out _).mono ?_
  rintro e w4 ⟨rfl, rfl⟩
  clear CC
  have hb4 := below_one w3 (.cells ZL.toArray 33)
  have HZ4 := Go.Lib.hid (heap_alloc_new w3 (.cells ZL.toArray 33))
  have HX := Go.Lib.hid (setRow_heap _ w3.heap.size _ TL.toArray 33 (0, 0) HZ4.out)
  have HB := Go.Lib.hid (HB.out.trans ((setRow_below TL.toArray hb4 (Nat.le_refl _)).mono HB.out.size))
  clear hb4
  go_upto_region 5 with (first
    | (with_reducible show wpList _ _ _ (⟨none, Op.store 33 (.tmp 8) (.tmp 17), _, _, _, _⟩ :: _) _ _; go_loud (refine wpList_store_row rfl 33 (.tmp 8) (.tmp 17) rfl w3.heap.size TL.toArray rfl rfl 33 _ HZ4.out (by rw [HST.out, List.size_toArray]) (by rw [List.size_toArray, List.size_toArray]; exact HLE.out) HTO.out ?_))
    | fail)
  obtain ⟨g8, hg8⟩ : ∃ g, g = w3.heap.size := ⟨_, rfl⟩
  rw [← hg8] at HX HB ⊢
  clear hg8 HZ4
  generalize (w3.alloc (.cells ZL.toArray 33)).setRow g8 TL.toArray = w5 at *
  go_wp2_with (first
    | (with_reducible show wpList _ _ _ (⟨some 21, _, _, _, _, _⟩ :: _) _ _; go_loud (refine wpList_load_row rfl 33 (.tmp 8) rfl g8 rfl 33 TL.toArray (0, 0) _ HX.out Tryz.underlying33 rfl (by rw [HST.out, List.size_toArray]) ?_))
    | fail)
  refine (COF.out _).mono ?_
  rintro e w6 ⟨rfl, hc⟩
  have HX := Go.Lib.hid (row_kept HX.out hc)
  have HB := Go.Lib.hid (HB.out.trans (hc.mono HB.out.size))
  clear hc COF
  go_wp2_with fail
  refine (CN.out _).mono ?_
  rintro e w7 ⟨p, u, r, rfl, hw, hc⟩
  have H := Go.Lib.hid hw
  have HX := Go.Lib.hid (row_kept HX.out hc)
  have HB := Go.Lib.hid (HB.out.trans (hc.mono HB.out.size))
  clear hw hc CN
  go_wp2_with (first
    | (with_reducible show wpList _ _ _ (⟨some 30, _, _, _, _, _⟩ :: _) _ _; go_loud (refine wpList_met (by kernel_rfl) (wpList_load_row rfl 33 (.tmp 8) rfl g8 rfl 33 TL.toArray (0, 0) _ HX.out Tryz.underlying33 rfl (by rw [HST.out, List.size_toArray]) ?_)))
    | fail)
  refine (CR.out _ _ _ _ _ H.out).mono ?_
  rintro e w8 ⟨rfl, hc⟩
  have H := Go.Lib.hid (H.out.below hc)
  have HX := Go.Lib.hid (row_kept HX.out hc)
  have HB := Go.Lib.hid (HB.out.trans (hc.mono HB.out.size))
  clear hc
  go_wp2_with fail
  refine (CBY.out _ _ _ _ _ H.out).mono ?_
  rintro e w9 ⟨v, rfl, ho, hc⟩
  have HO := Go.Lib.hid ho.rb
  have HX := Go.Lib.hid (row_kept HX.out hc)
  have HB := Go.Lib.hid (HB.out.trans (hc.mono HB.out.size))
  clear hc ho CBY H
  go_wp2_with fail
  refine (COP.out _ _ HO.out).mono ?_
  rintro e w10 ⟨p2, u2, r2, rfl, hw, hc⟩
  have H := Go.Lib.hid hw
  have HX := Go.Lib.hid (row_kept HX.out hc)
  have HB := Go.Lib.hid (HB.out.trans (hc.mono HB.out.size))
  clear hc hw COP HO
  go_wp2_with (first
    | (with_reducible show wpList _ _ _ (⟨some 45, _, _, _, _, _⟩ :: _) _ _; go_loud (refine wpList_met (by kernel_rfl) (wpList_load_row rfl 33 (.tmp 8) rfl g8 rfl 33 TL.toArray (0, 0) _ HX.out Tryz.underlying33 rfl (by rw [HST.out, List.size_toArray]) ?_)))
    | fail)
  refine (CR.out _ _ _ _ _ H.out).mono ?_
  rintro e w11 ⟨rfl, hc⟩
  have HB := Go.Lib.hid (HB.out.trans (hc.mono HB.out.size))
  clear hc
  go_wp2_with fail
  go_ret
  exact ⟨rfl, HB.out⟩

/-! ### THE ROW -/
set_option maxRecDepth 100000 in
theorem lifted (os : Os) (started : os.Started) (H : Type) (enc : TypeId × Value → H) :
    ReturnsInHanded {} Tryz.checked os 3 .any (Rows.tableAllSpec.pre6 enc Tryz.prog Tryz.f3 Rows.tableAllRow.domain false) (Rows.tableAllSpec.post enc Tryz.prog Tryz.f3 false true false false) := by
  refine returnsInHanded_of_change (C := Tryz.checked) own started (by kernel_rfl) Tryz.func3
    (ChangeSpec.witness6 (enc := enc) (C := Tryz.checked) false ⟨#[], #[.slice none 0 0, .slice none 0 0, .string ByteArray.empty], []⟩ 8 (by kernel_rfl) (by kernel_rfl) (by kernel_rfl) (by kernel_rfl)) ?_
  intro W base args ds gs before hval0 hW hcnd _
  have hval : ∀ (j : Nat) t v, Tryz.f3.params[j]? = some t → args[j]? = some v → Value.okWide Tryz.prog W .any base t v := hval0
  have hW' := hW
  obtain ⟨p, q, hA0, hV, rfl, hfz, hnd⟩ := hW
  have hA : DataW.TrodAll enc Tryz.prog W 0 (fun _ => true) true Tryz.f3.params.toList args.toList ds p := hA0
  rw [Tryz.params3] at hA hval
  obtain ⟨v0, vs0, d0, ds0, p0, q0, hargs, rfl, rfl, h0, r0⟩ := trodAll_cons hA
  obtain ⟨v1, vs1, d1, ds1, p1, q1, rfl, rfl, rfl, h1, r1⟩ := trodAll_cons r0
  obtain ⟨v2, vs2, d2, ds2, p2, q2, rfl, rfl, rfl, h2, r2⟩ := trodAll_cons r1
  obtain ⟨rfl, rfl, rfl⟩ := trodAll_nil r2
  obtain rfl : args = #[v0, v1, v2] := by cases args; simp_all
  obtain ⟨rfl, rfl⟩ := trodVars_none hV
  have kk0 := h0
  have lt0 : ∀ x ∈ p0, x.block < W.heap.size := by obtain ⟨m, hm⟩ := kk0; exact DataW.trod_lt m _ _ _ hm
  have kk1 := h1
  have lt1 : ∀ x ∈ p1, x.block < W.heap.size := by obtain ⟨m, hm⟩ := kk1; exact DataW.trod_lt m _ _ _ hm
  have kk2 := h2
  have lt2 : ∀ x ∈ p2, x.block < W.heap.size := by obtain ⟨m, hm⟩ := kk2; exact DataW.trod_lt m _ _ _ hm
  obtain ⟨a0, len0, cap0, rfl⟩ := okWide_slice Tryz.underlying22 (hval 0 22 v0 rfl rfl)
  obtain ⟨l0, w0⟩ := open_recs h0
  obtain ⟨a1, len1, cap1, rfl⟩ := okWide_slice Tryz.underlying23 (hval 1 23 v1 rfl rfl)
  obtain ⟨l1, w1⟩ := open_zb Tryz.underlying23 Tryz.underlying4 (by kernel_rfl) h1
  obtain ⟨a2, rfl, rfl, rfl, w2⟩ := open_string Tryz.underlying9 (hval 2 9 v2 rfl rfl) h2
  clear hA0 hval0
  refine (walk W a0 len0 cap0 l0 w0 a1 len1 cap1 l1 w1 a2 w2).mono fun e W' ⟨he, bel⟩ => ?_
  subst he
  exact ⟨_, rfl, _, _, _, [], _, [], hW', trodAll_mk1 (shut_bool Tryz.underlying4 _), (trodAll_cons_mk (Below.trod laidOut (by kernel_rfl) (of_decide_eq_true (by kernel_rfl)) kk0 bel lt0) (trodAll_cons_mk (Below.trod laidOut (by kernel_rfl) (of_decide_eq_true (by kernel_rfl)) kk1 bel lt1) (trodAll_cons_mk (Below.trod laidOut (by kernel_rfl) (of_decide_eq_true (by kernel_rfl)) kk2 bel lt2) trodAll_mk0))), rfl, bel.frame _, fun h => by cases h⟩

theorem over : Rows.tableAllRow.holds Tryz.pinned (OpenSpec.ofChange Rows.tableAllSpec) :=
  OpenClaim.holds_of_wide 3 Tryz.f3 rfl rfl rfl rfl rfl rfl rfl ⟨rfl, rfl, rfl, rfl, rfl⟩ rfl rfl rfl rfl rfl (by kernel_rfl) Tryz.func3 (by kernel_rfl)
    (of_decide_eq_true (by kernel_rfl)) (by unfold Func.isWrapper; first | (rw [if_pos (by decide +kernel)]; kernel_rfl) | (rw [if_neg (by decide +kernel)]; exact ⟨rfl, rfl⟩))
    (fun os started H enc _ => lifted os started H enc)

theorem proved : Rows.TableAllSaid := over
#print axioms proved
end Go.Proofs.YthbnecdeebmlhaaGreat.tableAll
