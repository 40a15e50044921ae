/- RunesBytes: the runes of any four bytes, against UTF-8's own definition: for all four the law returns true. -/
import Derived.Test.YtcdpldleackigaaRows
import Derived.WalkKit
import Derived.ProofKit
import Derived.OpenShut
import Derived.ShutString
import Derived.Test.YtcdpldleackigaaRunL
namespace Go.Proofs.Ytcdpldleackigaa.runesBytes
open Go.ChangeShapes Go.WideShapes Go.ChangeAt Go.RowKit
open Go.ChangeMaps (open_string shut_string)
set_option linter.unusedVariables false      -- a walk need not use every 'w<i>' (that an integer argument fits its kind)

theorem own : ownKnob Try.prog.godebug = none := by kernel_rfl

theorem byte_of {a : Int} (h0 : 0 ≤ a) (h1 : a ≤ 255) : ∃ x : UInt8, a = (x.toNat : Int) := ⟨UInt8.ofNat a.toNat, by simp; omega⟩

set_option maxHeartbeats 1000000 in
set_option maxRecDepth 100000 in
theorem walk (a0 : Int) (a1 : Int) (a2 : Int) (a3 : Int) (w0 : (Lit.int .u8 a0).wf = true) (w1 : (Lit.int .u8 a1).wf = true) (w2 : (Lit.int .u8 a2).wf = true) (w3 : (Lit.int .u8 a3).wf = true) (w : World) :
    Calls Try.prog 4 #[.int .u8 a0, .int .u8 a1, .int .u8 a2, .int .u8 a3] w fun e w' => e = .returned (.bool true) ∧ Below w.heap.size w w' := by
  obtain ⟨x0, rfl⟩ := byte_of (bounds_u8 w0).1 (by have := (bounds_u8 w0).2; omega)
  obtain ⟨x1, rfl⟩ := byte_of (bounds_u8 w1).1 (by have := (bounds_u8 w1).2; omega)
  obtain ⟨x2, rfl⟩ := byte_of (bounds_u8 w2).1 (by have := (bounds_u8 w2).2; omega)
  obtain ⟨x3, rfl⟩ := byte_of (bounds_u8 w3).1 (by have := (bounds_u8 w3).2; omega)
  clear w0 w1 w2 w3
  obtain ⟨L, hL⟩ : ∃ L, L = [x0, x1, x2, x3] := ⟨_, rfl⟩
  have hLl : L.length = 4 := by rw [hL]; rfl
  have CB := Go.Lib.hid (begun_c w)
  have CR := Go.Lib.hid fun W => rrunes_s L W (by omega)
  have CO := Go.Lib.hid fun W => of_s L W (by omega)
  have CV := Go.Lib.hid fun W => valid_s L W (by omega)
  have CW := Go.Lib.hid fun W => rvalid_s L W (by omega)
  have hRl : (runesOf (toks L)).length ≤ 4 := by rw [runesOf_length, ← hLl]; exact toks_length L
  generalize wellB (toks L) = vb at *
  generalize posl L = ps at *
  generalize runesOf (toks L) = R at *
  have hzl := zi_length .i32 R
  have hcells := Go.Lib.hid (zi_at .i32 R)
  go_enter Try.func4, Try.ntmps4
  go_wp2_with fail
  refine CB.out.mono ?_
  rintro e w1 ⟨rfl, hb1⟩
  have hrl := RB.lits w1 5 (0, 0) L #[.int .u8 (x0.toNat : Int), .int .u8 (x1.toNat : Int), .int .u8 (x2.toNat : Int), .int .u8 (x3.toNat : Int)] 4 (by rw [hL]; rfl) (by rw [hL]; rfl) (by omega)
  clear CB hL
  go_wp2_with (first
    | (with_reducible show wpList _ _ _ (⟨some 23, _, _, _, _, _⟩ :: _) _ _; go_loud (refine wpList_string_RB rfl (.tmp 22) 34 9 rfl 5 Try.underlying34 Try.underlying5 Try.underlying9 (.slice (some ⟨w1.heap.size, 0, none⟩) 4 4) L rfl hrl ?_))
    | fail)
  refine (CR.out _).mono ?_
  rintro e w2 ⟨v1, v2, rfl, hown1, hown2, hb2⟩
  have hbb2 := (hb1.alloc hb1.size _).trans (hb2.mono (hb1.alloc hb1.size _).size)
  clear hb2 hown2
  go_wp2_with fail
  refine (CO.out _).mono ?_
  rintro e w3 ⟨v3, rfl, hown3, hb3⟩
  have hv1 := hown1.rv.below hb3
  have hv3 := hown3.rv
  have hbb3 := hbb2.trans (hb3.mono hbb2.size)
  clear hown1 hown3 hb3 hrl CR CO
  obtain ⟨p1, c1, rfl, hm1⟩ := hv1.form
  obtain ⟨p3, c3, rfl, hm3⟩ := hv3.form
  rw [hzl] at hv1 hv3 ⊢
  have Hv1 := Go.Lib.hid hv1; clear hv1
  have Hv3 := Go.Lib.hid hv3; clear hv3
  clear hzl hm1 hm3
  go_wp2_with fail
  refine (CV.out _).mono ?_
  rintro e w4 ⟨rfl, hb4⟩
  have hbb4 := hbb3.trans (hb4.mono hbb3.size)
  have Hv1 := Go.Lib.hid (Hv1.out.below hb4)
  have Hv3 := Go.Lib.hid (Hv3.out.below hb4)
  go_wp2_with fail
  refine (CW.out _).mono ?_
  rintro e w5 ⟨rfl, rfl⟩
  clear CV CW hbb2 hbb3 hb4
  go_wp2_with fail
  go_loopw [14] (fun i wr => ∃ k : Nat, k ≤ R.length ∧ i = .int .i64 (k : Int) ∧ Below w4.heap.size w4 wr) (fun i _ => R.length - (intOf i).toNat)
  case atStart => exact ⟨0, by omega, rfl, Below.refl _ _⟩
  case round =>
    obtain ⟨k, hk, rfl, hbr⟩ := hrel
    by_cases hlt : k < R.length
    · obtain ⟨b1, o1, rfl, hc1, hl1⟩ := (Hv1.out.below hbr).at k (by rw [zi_length]; exact hlt)
      obtain ⟨b3, o3, rfl, hc3, hl3⟩ := (Hv3.out.below hbr).at k (by rw [zi_length]; exact hlt)
      rw [hcells.out k hlt] at hc1 hc3
      generalize R[k] = r at hc1 hc3
      have Hbr := Go.Lib.hid hbr; clear hbr
      clear hl1 hl3
      go_wp2_with fail
      go_region
      go_wp2
      go_roundw
      case rel => exact ⟨k + 1, by omega, by go_num, below_drewN Hbr.out 1⟩
      case measure => simp [intOf]; omega
    · obtain rfl : k = R.length := by omega
      go_wp2
      go_ret
      exact ⟨rfl, hbb4.trans (hbr.mono hbb4.size)⟩

/-! ### THE ROW's STEP: WRITTEN OUT: LEAVE IT -/
set_option maxRecDepth 100000 in
theorem lifted (os : Os) (started : os.Started) (H : Type) (enc : TypeId × Value → H) :
    ReturnsInHanded {} Try.checked os 4 .any (Rows.runesBytesSpec.pre6 enc Try.prog Try.f4 Rows.runesBytesRow.domain false) (Rows.runesBytesSpec.post enc Try.prog Try.f4 false true false false) := by
  refine returnsInHanded_of_change (C := Try.checked) own started (by kernel_rfl) Try.func4
    (ChangeSpec.witness6 (enc := enc) (C := Try.checked) false ⟨#[], #[.int .u8 0, .int .u8 0, .int .u8 0, .int .u8 0], []⟩ 8 (by kernel_rfl) (by kernel_rfl) (by kernel_rfl) (by kernel_rfl)) ?_
  intro W base args ds gs before hval0 hW hcnd _
  have hval : ∀ (j : Nat) t v, Try.f4.params[j]? = some t → args[j]? = some v → Value.okWide Try.prog W .any base t v := hval0
  have hW' := hW
  obtain ⟨p, q, hA0, hV, rfl, hfz, hnd⟩ := hW
  have hA : DataW.TrodAll enc Try.prog W 0 (fun _ => true) true Try.f4.params.toList args.toList ds p := hA0
  rw [Try.params4] at hA hval
  obtain ⟨v0, vs0, d0, ds0, p0, q0, hargs, rfl, rfl, h0, r0⟩ := trodAll_cons hA
  obtain ⟨v1, vs1, d1, ds1, p1, q1, rfl, rfl, rfl, h1, r1⟩ := trodAll_cons r0
  obtain ⟨v2, vs2, d2, ds2, p2, q2, rfl, rfl, rfl, h2, r2⟩ := trodAll_cons r1
  obtain ⟨v3, vs3, d3, ds3, p3, q3, rfl, rfl, rfl, h3, r3⟩ := trodAll_cons r2
  obtain ⟨rfl, rfl, rfl⟩ := trodAll_nil r3
  obtain rfl : args = #[v0, v1, v2, v3] := by cases args; simp_all
  obtain ⟨rfl, rfl⟩ := trodVars_none hV
  obtain ⟨a0, rfl, rfl, rfl, w0⟩ := open_int Try.underlying5 (hval 0 5 v0 rfl rfl) h0
  obtain ⟨a1, rfl, rfl, rfl, w1⟩ := open_int Try.underlying5 (hval 1 5 v1 rfl rfl) h1
  obtain ⟨a2, rfl, rfl, rfl, w2⟩ := open_int Try.underlying5 (hval 2 5 v2 rfl rfl) h2
  obtain ⟨a3, rfl, rfl, rfl, w3⟩ := open_int Try.underlying5 (hval 3 5 v3 rfl rfl) h3
  clear hA0 hval0
  refine (walk a0 a1 a2 a3 w0 w1 w2 w3 W).mono fun e W' ⟨he, hg⟩ => ?_
  subst he
  exact ⟨_, rfl, _, _, _, [], _, [], hW', (trodAll_cons_mk (shut_bool Try.underlying4 _) trodAll_mk0), (trodAll_cons_mk (shut_int Try.underlying5 w0) (trodAll_cons_mk (shut_int Try.underlying5 w1) (trodAll_cons_mk (shut_int Try.underlying5 w2) (trodAll_cons_mk (shut_int Try.underlying5 w3) trodAll_mk0)))), rfl, hg.frame _, fun h => by cases h⟩

theorem over : Rows.runesBytesRow.holds Try.pinned (OpenSpec.ofChange Rows.runesBytesSpec) :=
  OpenClaim.holds_of_wide 4 Try.f4 rfl rfl rfl rfl rfl rfl rfl ⟨rfl, rfl, rfl, rfl, rfl⟩ rfl rfl rfl rfl rfl (by kernel_rfl) Try.func4 (by kernel_rfl)
    (of_decide_eq_true (by kernel_rfl)) (by unfold Func.isWrapper; first | (rw [if_pos (by decide +kernel)]; kernel_rfl) | (rw [if_neg (by decide +kernel)]; exact ⟨rfl, rfl⟩))
    (fun os started H enc _ => lifted os started H enc)

/-- ████ THE STATEMENT ████ -/
theorem proved : Rows.RunesBytesSaid :=
  over
#print axioms proved
end Go.Proofs.Ytcdpldleackigaa.runesBytes
