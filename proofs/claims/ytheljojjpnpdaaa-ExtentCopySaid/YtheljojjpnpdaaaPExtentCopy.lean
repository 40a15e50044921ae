/- ExtentCopy: a copy goes its own way: for every input the law returns true. -/
import Derived.Test.YtheljojjpnpdaaaRows
import Derived.WalkKit
import Derived.ProofKit
import Derived.OpenShut
import Derived.ShutString
import Derived.Test.YtheljojjpnpdaaaBegun13
namespace Go.Proofs.Ytheljojjpnpdaaa.extentCopy
open Go.ChangeShapes Go.WideShapes Go.ChangeAt Go.RowKit
open Go.ChangeMaps (open_string shut_string)
set_option linter.unusedVariables false      -- a walk need not use every 'w<i>' (that an integer argument fits its kind)

theorem own : ownKnob Try.prog.godebug = none := by kernel_rfl

set_option maxHeartbeats 1000000 in
set_option maxRecDepth 100000 in
theorem walk (a0 : Int) (a1 : Int) (w0 : (Lit.int .i64 a0).wf = true) (w1 : (Lit.int .i64 a1).wf = true) (w : World) :
    Calls Try.prog 5 #[.int .i64 a0, .int .i64 a1] w fun e w' => e = .returned (.bool true) ∧ Below w.heap.size w w' := by
  clear w0 w1
  go_enter Try.func5, Try.ntmps5
  go_wp2_with fail
  refine (begun_c _).mono ?_
  rintro e w2 ⟨rfl, k2⟩
  by_cases h1 : a0 < 1
  · go_wp2_with fail
    go_ret
    exact ⟨rfl, k2⟩
  by_cases h2 : 20 < a0
  · go_wp2_with fail
    go_ret
    exact ⟨rfl, k2⟩
  by_cases h3 : a1 < 1
  · go_wp2_with fail
    go_ret
    exact ⟨rfl, k2⟩
  by_cases h4 : 20 < a1
  · go_wp2_with fail
    go_ret
    exact ⟨rfl, k2⟩
  obtain ⟨a, ha⟩ : ∃ a : Nat, a0 = (a : Int) := ⟨a0.toNat, by omega⟩
  obtain ⟨b, hb⟩ : ∃ b : Nat, a1 = (b : Int) := ⟨a1.toNat, by omega⟩
  have HA := Go.Lib.hid ha
  have HB := Go.Lib.hid hb
  have hA1 := Go.Lib.hid (show 1 ≤ a ∧ a ≤ 20 by omega)
  have hB1 := Go.Lib.hid (show 1 ≤ b ∧ b ≤ 20 by omega)
  have e1 : IntKind.i64.wrap (40 - a0) = 40 - a0 := by rw [IntKind.wrap_i64]; omega
  have e2 : IntKind.i64.wrap (40 - a0 - a1) = 40 - a0 - a1 := by rw [IntKind.wrap_i64]; omega
  clear ha hb
  have C1 := Go.Lib.hid (new_q w2 0 40 0 40 (iv 0 40) rfl rfl (by decide) (by decide) rfl)
  have K2 := Go.Lib.hid k2; clear k2
  go_wp2_with fail
  refine C1.out.mono ?_
  rintro e w3 ⟨r, v, rfl, hr3, hb3⟩
  have hr3 := hr3.mono K2.out.size
  have C2 := Go.Lib.hid (take_q hr3 a a0 0 (0, 40) (iv a 40) HA.out rfl (by have := hA1.out; omega) (iv_fit (by decide) (by have := hA1.out; omega) (by have := hA1.out; omega)) (by rw [iv_take (by have := hA1.out; omega), Nat.zero_add]))
  have HR3 := Go.Lib.hid hr3
  have HB3 := Go.Lib.hid (below_on K2.out hb3)
  clear C1 hr3 hb3 K2
  go_wp2_with fail
  refine C2.out.mono ?_
  rintro e w4 ⟨rfl, hr4, hg4⟩
  have HB4 := Go.Lib.hid (below_gr HB3.out HR3.out hg4)
  have C3 := Go.Lib.hid (copy_c hr4)
  have HR4 := Go.Lib.hid hr4
  clear C2 hr4 hg4 HR3 HB3
  go_wp2_with fail
  refine C3.out.mono ?_
  rintro e w5 ⟨d, u, rfl, hd5, hb5⟩
  have hne : some r ≠ u.ownBlock := by
    intro e
    have h1 := (hd5.row.row r e.symm)
    have := HR4.out.lt
    omega
  have hnv : v.ownBlock = none ∨ v.ownBlock ≠ u.ownBlock := by
    cases hv : v.ownBlock with
    | none => exact .inl rfl
    | some k =>
      refine .inr fun e => ?_
      have h1 := (hd5.row.row k e.symm)
      have := (World.ownsRow.lt HR4.out.row k hv).2
      omega
  have hnd : u.ownBlock = none ∨ u.ownBlock ≠ v.ownBlock := by
    rcases hnv with h | h
    · cases hu : u.ownBlock with
      | none => exact .inl rfl
      | some k => exact .inr (by rw [h]; simp)
    · exact .inr (Ne.symm h)
  have hdv : some d ≠ v.ownBlock := by
    intro e
    have := (World.ownsRow.lt HR4.out.row d e.symm).2
    have := hd5.low
    omega
  have NE := Go.Lib.hid hne
  have NV := Go.Lib.hid hnv
  have ND := Go.Lib.hid hnd
  have DV := Go.Lib.hid hdv
  have HR5 := Go.Lib.hid (HR4.out.below hb5)
  have HB5 := Go.Lib.hid (below_on HB4.out hb5)
  have hd5 := hd5.mono HB4.out.size
  have C4 := Go.Lib.hid (take_q hd5 b a1 a0 (a, 40 - a) (iv (a + b) 40) HB.out HA.out (by have := hB1.out; omega) (iv_fit (by decide) (by have := hA1.out; have := hB1.out; omega) (by have := hB1.out; omega)) (iv_take (by have := hA1.out; have := hB1.out; omega)))
  have HD5 := Go.Lib.hid hd5
  clear C3 hd5 hb5 hne hnv hnd hdv HR4 HB4
  go_wp2_with fail
  refine C4.out.mono ?_
  rintro e w6 ⟨rfl, hd6, hg6⟩
  have hr6 := HR5.out.kept hg6 NE.out NV.out
  have hb6 := below_gr HB5.out HD5.out hg6
  have hal := below_alloc w6 (.cells #[.int .i64 a0, .int .i64 a1] 30)
  have hk7 := heap_alloc_new w6 (.cells #[.int .i64 a0, .int .i64 a1] 30)
  have hr7 := hr6.below hal
  have C5 := Go.Lib.hid (take_q hr7 b a1 a0 (a, 40 - a) (iv (a + b) 40) HB.out HA.out (by have := hB1.out; omega) (iv_fit (by decide) (by have := hA1.out; have := hB1.out; omega) (by have := hB1.out; omega)) (iv_take (by have := hA1.out; have := hB1.out; omega)))
  have HR7 := Go.Lib.hid hr7
  have HD7 := Go.Lib.hid (hd6.below hal)
  have HB7 := Go.Lib.hid (below_on hb6 hal)
  have HK7 := Go.Lib.hid hk7
  clear C4 hd6 hg6 hr6 hb6 hal hk7 hr7 HR5 HB5 HD5
  go_wp2_with fail
  refine C5.out.mono ?_
  rintro e w8 ⟨rfl, hr8, hg8⟩
  have hd8 := HD7.out.kept hg8 DV.out ND.out
  have hk8 := HR7.out.blkKept hg8 HK7.out (by decide)
  have hb8 := below_gr HB7.out HR7.out hg8
  have hal := below_alloc w8 (.cells #[.int .i64 a0, .int .i64 a1] 30)
  have hr9 := hr8.below hal
  have hd9 := hd8.below hal
  have hk9 := (hal.block _ (Array.getElem?_eq_some_iff.1 hk8).1).trans hk8
  have hk9' := heap_alloc_new w8 (.cells #[.int .i64 a0, .int .i64 a1] 30)
  have j0 : (w8.alloc (.cells #[.int .i64 a0, .int .i64 a1] 30)).cell? ⟨w6.heap.size, 0, none⟩ = some (.int .i64 a0) := by rw [cell_of_row _ _ 0 _ _ _ hk9]; rfl
  have j1 : (w8.alloc (.cells #[.int .i64 a0, .int .i64 a1] 30)).cell? ⟨w6.heap.size, 1, none⟩ = some (.int .i64 a1) := by rw [cell_of_row _ _ 1 _ _ _ hk9]; rfl
  have C6 := Go.Lib.hid (give_q hd9 a b a0 a1 (iv a 40) HA.out HB.out (by have := hB1.out; omega) (by omega) (by have := hA1.out; have := hB1.out; omega) (fun k k1 k2 => iv_out (by omega)) (iv_give (by have := hA1.out; have := hB1.out; omega)))
  have HR9 := Go.Lib.hid hr9
  have HD9 := Go.Lib.hid hd9
  have HB9 := Go.Lib.hid (below_on hb8 hal)
  have HK9 := Go.Lib.hid hk9
  have HL9 := Go.Lib.hid hk9'
  clear C5 hd8 hg8 hr8 hb8 hal hr9 hd9 hk8 hk9 hk9' HR7 HD7 HB7 HK7
  go_wp2_with (first
    | (with_reducible show wpList _ _ _ (⟨some 48, _, _, _, _, _⟩ :: _) _ _; go_loud (refine wpList_load_row rfl 30 (.tmp 8) rfl w6.heap.size rfl 30 _ (0, 0) _ HK9.out Try.underlying30 rfl (by kernel_rfl) ?_))
    | fail)
  refine C6.out.mono ?_
  rintro e w10 ⟨rfl, hd10, hg10⟩
  have hr10 := HR9.out.kept hg10 NE.out NV.out
  have hk10 := HD9.out.blkKept hg10 HK9.out (by decide)
  have hl10 := HD9.out.blkKept hg10 HL9.out (by decide)
  have j0 : w10.cell? ⟨w6.heap.size, 0, none⟩ = some (.int .i64 a0) := by rw [cell_of_row _ _ 0 _ _ _ hk10]; rfl
  have i0 : w10.cell? ⟨w8.heap.size, 0, none⟩ = some (.int .i64 a0) := by rw [cell_of_row _ _ 0 _ _ _ hl10]; rfl
  have HBa := Go.Lib.hid (below_gr HB9.out HD9.out hg10)
  have C7 := Go.Lib.hid (free_q hr10 (40 - a0 - a1) (by rw [show (0 + 40 : Nat) = 40 from rfl, iv_cnt (by have := hA1.out; have := hB1.out; omega) (Nat.le_refl _), HA.out, HB.out]; have := hA1.out; have := hB1.out; omega))
  have C8 := Go.Lib.hid (free_q hd10 (40 - a0) (by rw [show (0 + 40 : Nat) = 40 from rfl, iv_cnt (by have := hA1.out; omega) (Nat.le_refl _), HA.out]; have := hA1.out; omega))
  clear C6 hr10 hk10 hl10 hd10 hg10 HR9 HD9 HB9 HK9 HL9
  go_wp2_with fail
  refine C7.out.mono ?_
  rintro e w11 ⟨rfl, rfl⟩
  go_wp2_with fail
  refine C8.out.mono ?_
  rintro e w11 ⟨rfl, rfl⟩
  go_wp2_with fail
  go_ret
  exact ⟨by simp, HBa.out⟩

/-! ### THE ROW's STEP: WRITTEN OUT: LEAVE IT -/
set_option maxRecDepth 100000 in
theorem lifted (os : Os) (started : os.Started) (H : Type) (enc : TypeId × Value → H) :
    ReturnsInHanded {} Try.checked os 5 .any (Rows.extentCopySpec.pre6 enc Try.prog Try.f5 Rows.extentCopyRow.domain false) (Rows.extentCopySpec.post enc Try.prog Try.f5 false true false false) := by
  refine returnsInHanded_of_change (C := Try.checked) own started (by kernel_rfl) Try.func5
    (ChangeSpec.witness6 (enc := enc) (C := Try.checked) false ⟨#[], #[.int .i64 0, .int .i64 0], []⟩ 8 (by kernel_rfl) (by kernel_rfl) (by kernel_rfl) (by kernel_rfl)) ?_
  intro W base args ds gs before hval0 hW hcnd _
  have hval : ∀ (j : Nat) t v, Try.f5.params[j]? = some t → args[j]? = some v → Value.okWide Try.prog W .any base t v := hval0
  have hW' := hW
  obtain ⟨p, q, hA0, hV, rfl, hfz, hnd⟩ := hW
  have hA : DataW.TrodAll enc Try.prog W 0 (fun _ => true) true Try.f5.params.toList args.toList ds p := hA0
  rw [Try.params5] at hA hval
  obtain ⟨v0, vs0, d0, ds0, p0, q0, hargs, rfl, rfl, h0, r0⟩ := trodAll_cons hA
  obtain ⟨v1, vs1, d1, ds1, p1, q1, rfl, rfl, rfl, h1, r1⟩ := trodAll_cons r0
  obtain ⟨rfl, rfl, rfl⟩ := trodAll_nil r1
  obtain rfl : args = #[v0, v1] := by cases args; simp_all
  obtain ⟨rfl, rfl⟩ := trodVars_none hV
  obtain ⟨a0, rfl, rfl, rfl, w0⟩ := open_int Try.underlying3 (hval 0 3 v0 rfl rfl) h0
  obtain ⟨a1, rfl, rfl, rfl, w1⟩ := open_int Try.underlying3 (hval 1 3 v1 rfl rfl) h1
  clear hA0 hval0
  refine (walk a0 a1 w0 w1 W).mono fun e W' ⟨he, hg⟩ => ?_
  subst he
  exact ⟨_, rfl, _, _, _, [], _, [], hW', (trodAll_cons_mk (shut_bool Try.underlying4 _) trodAll_mk0), (trodAll_cons_mk (shut_int Try.underlying3 w0) (trodAll_cons_mk (shut_int Try.underlying3 w1) trodAll_mk0)), rfl, hg.frame _, fun h => by cases h⟩

theorem over : Rows.extentCopyRow.holds Try.pinned (OpenSpec.ofChange Rows.extentCopySpec) :=
  OpenClaim.holds_of_wide 5 Try.f5 rfl rfl rfl rfl rfl rfl rfl ⟨rfl, rfl, rfl, rfl, rfl⟩ rfl rfl rfl rfl rfl (by kernel_rfl) Try.func5 (by kernel_rfl)
    (of_decide_eq_true (by kernel_rfl)) (by unfold Func.isWrapper; first | (rw [if_pos (by decide +kernel)]; kernel_rfl) | (rw [if_neg (by decide +kernel)]; exact ⟨rfl, rfl⟩))
    (fun os started H enc _ => lifted os started H enc)

/-- ████ THE STATEMENT ████ -/
theorem proved : Rows.ExtentCopySaid :=
  over
#print axioms proved
end Go.Proofs.Ytheljojjpnpdaaa.extentCopy
