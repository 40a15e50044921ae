/- NumCut: a number or a text that is cut off anywhere is not all there: for every input the law returns true. -/
import Derived.Test.YtdgdaaojiljceaaRows
import Derived.WalkKit
import Derived.ProofKit
import Derived.OpenShut
import Derived.ShutString
import Derived.Test.YtdgdaaojiljceaaNumB
namespace Go.Proofs.Ytdgdaaojiljceaa.numCut
open Go.ChangeShapes Go.WideShapes Go.ChangeAt Go.RowKit
open Go.ChangeMaps (open_string shut_string)
set_option linter.unusedVariables false      -- a walk need not use every 'w<i>' (that an integer argument fits its kind)

theorem own : ownKnob Try.prog.godebug = none := by kernel_rfl

open Go.Lib (uvarint zigzag)
set_option maxRecDepth 100000 in
theorem walk (a0 : Int) (a1 : ByteArray) (a2 : Int) (w0 : (Lit.int .i64 a0).wf = true) (w1 : a1.size ≤ maxLen) (w2 : (Lit.int .i64 a2).wf = true) (w : World) :
    Calls Try.prog 7 #[.int .i64 a0, .string a1, .int .i64 a2] w fun e w' => e = .returned (.bool true) ∧ Below w.heap.size w w' := by
  obtain ⟨b1, b2⟩ := bounds_i64 w0
  obtain ⟨b3, b4⟩ := bounds_i64 w2
  have b2 : a0 ≤ 9223372036854775807 := by omega
  clear w0 w2
  go_enter Try.func7, Try.ntmps7
  go_wp2_with fail
  refine (begun_c _).mono ?_
  rintro e w2 ⟨rfl, hb1⟩
  go_wp2_with fail
  refine (cut_c a1 100 _ w1 (by omega)).mono ?_
  rintro e w3 ⟨rfl, rfl⟩
  have hl100 : (a1.data.toList.take 100).length ≤ 100 := List.length_take_le _ _
  generalize a1.data.toList.take 100 = t at hl100
  go_wp2_with fail
  refine (put_c _ [] a0 _ (RB.nil _) b1 b2 (by decide)).mono ?_
  rintro e w3 ⟨v1, rfl, hown1, hb2⟩
  have hb12 := hb1.trans (hb2.mono hb1.size)
  clear hb1 hb2
  go_wp2_with fail
  refine (putText_c _ [] (str t) _ (RB.nil _) (by rw [str_size]; simp; omega)).mono ?_
  rintro e w4 ⟨v2, rfl, hown2, hb3⟩
  have hrb1 := hown1.rb.below hb3
  have hrb2 := hown2.rb
  have hb := hb12.trans (hb3.mono hb12.size)
  clear hb12 hb3 hown1 hown2
  rw [List.nil_append] at hrb1 hrb2
  rw [show (str t).data.toList = t from by simp [str]] at hrb2
  have hc1 := getB_cut a0 b1 b2
  have hc2 := textB_cut t (by omega)
  generalize uvarint (zigzag a0) = p at hrb1 hc1
  generalize putT t = q at hrb2 hc2
  have Hc1 := Go.Lib.hid hc1; clear hc1
  have Hc2 := Go.Lib.hid hc2; clear hc2
  obtain ⟨ad1, cap1, rfl, l1, l2, -, -⟩ := id hrb1
  obtain ⟨ad2, cap2, rfl, l3, l4, -, -⟩ := id hrb2
  have hm : cap1 ≤ 9223372036854775807 := by unfold maxLen at l2; omega
  have hm2 : cap2 ≤ 9223372036854775807 := by unfold maxLen at l4; omega
  by_cases hcut : a2 < 1
  · go_wp2
    go_ret
    exact ⟨rfl, hb⟩
  obtain ⟨c, rfl⟩ : ∃ n : Nat, a2 = (n : Int) := ⟨a2.toNat, by omega⟩
  have e1 : c ≤ p.length → (p.length : Int) - (c : Int) = ((p.length - c : Nat) : Int) := fun h => by omega
  have e2 : c ≤ q.length → (q.length : Int) - (c : Int) = ((q.length - c : Nat) : Int) := fun h => by omega
  have E1 := Go.Lib.hid e1; clear e1
  have E2 := Go.Lib.hid e2; clear e2
  by_cases hp : c ≤ p.length
  · have G1 := Go.Lib.hid (Hc1.out (p.length - c) (by omega))
    go_wp2_with (with_reducible show wpList _ _ _ (⟨some 37, _, _, _, _, _⟩ :: _) _ _; go_loud (refine wpList_slice_h rfl (.tmp 32) (.tmp 36) 22 rfl 5 Try.underlying22 info8 (.slice ad1 p.length cap1) p .i64 _ (p.length - c) rfl rfl (E1.out hp) hrb1 (by omega) ?_); intro v3 hv3)
    refine (get_c v3 _ _ hv3).mono ?_
    rintro e w5 ⟨rfl, rfl⟩
    rw [G1.out]; unfold gv
    by_cases hq : c ≤ q.length
    · have G2 := Go.Lib.hid (Hc2.out (q.length - c) (by omega))
      go_wp2_with (with_reducible show wpList _ _ _ (⟨some 62, _, _, _, _, _⟩ :: _) _ _; go_loud (refine wpList_slice_h rfl (.tmp 57) (.tmp 61) 22 rfl 5 Try.underlying22 info8 (.slice ad2 q.length cap2) q .i64 _ (q.length - c) rfl rfl (E2.out hq) hrb2 (by omega) ?_); intro v4 hv4)
      refine (getText_c v4 _ _ hv4).mono ?_
      rintro e w5 ⟨rfl, rfl⟩
      rw [G2.out, show tv ([], 0, 2) = .tuple #[.string ⟨#[]⟩, .int .i64 0, .int .i64 2] from rfl]
      go_wp2
      go_ret
      exact ⟨rfl, hb⟩
    · go_wp2
      go_ret
      exact ⟨rfl, hb⟩
  · by_cases hq : c ≤ q.length
    · have G2 := Go.Lib.hid (Hc2.out (q.length - c) (by omega))
      go_wp2_with (with_reducible show wpList _ _ _ (⟨some 62, _, _, _, _, _⟩ :: _) _ _; go_loud (refine wpList_slice_h rfl (.tmp 57) (.tmp 61) 22 rfl 5 Try.underlying22 info8 (.slice ad2 q.length cap2) q .i64 _ (q.length - c) rfl rfl (E2.out hq) hrb2 (by omega) ?_); intro v4 hv4)
      refine (getText_c v4 _ _ hv4).mono ?_
      rintro e w5 ⟨rfl, rfl⟩
      rw [G2.out, show tv ([], 0, 2) = .tuple #[.string ⟨#[]⟩, .int .i64 0, .int .i64 2] from rfl]
      go_wp2
      go_ret
      exact ⟨rfl, hb⟩
    · go_wp2
      go_ret
      exact ⟨rfl, hb⟩

/-! ### THE ROW's STEP: WRITTEN OUT: LEAVE IT -/
set_option maxRecDepth 100000 in
theorem lifted (os : Os) (started : os.Started) (H : Type) (enc : TypeId × Value → H) :
    ReturnsInHanded {} Try.checked os 7 .any (Rows.numCutSpec.pre6 enc Try.prog Try.f7 Rows.numCutRow.domain false) (Rows.numCutSpec.post enc Try.prog Try.f7 false true false false) := by
  refine returnsInHanded_of_change (C := Try.checked) own started (by kernel_rfl) Try.func7
    (ChangeSpec.witness6 (enc := enc) (C := Try.checked) false ⟨#[], #[.int .i64 0, .string ByteArray.empty, .int .i64 0], []⟩ 8 (by kernel_rfl) (by kernel_rfl) (by kernel_rfl) (by kernel_rfl)) ?_
  intro W base args ds gs before hval0 hW hcnd _
  have hval : ∀ (j : Nat) t v, Try.f7.params[j]? = some t → args[j]? = some v → Value.okWide Try.prog W .any base t v := hval0
  have hW' := hW
  obtain ⟨p, q, hA0, hV, rfl, hfz, hnd⟩ := hW
  have hA : DataW.TrodAll enc Try.prog W 0 (fun _ => true) true Try.f7.params.toList args.toList ds p := hA0
  rw [Try.params7] at hA hval
  obtain ⟨v0, vs0, d0, ds0, p0, q0, hargs, rfl, rfl, h0, r0⟩ := trodAll_cons hA
  obtain ⟨v1, vs1, d1, ds1, p1, q1, rfl, rfl, rfl, h1, r1⟩ := trodAll_cons r0
  obtain ⟨v2, vs2, d2, ds2, p2, q2, rfl, rfl, rfl, h2, r2⟩ := trodAll_cons r1
  obtain ⟨rfl, rfl, rfl⟩ := trodAll_nil r2
  obtain rfl : args = #[v0, v1, v2] := by cases args; simp_all
  obtain ⟨rfl, rfl⟩ := trodVars_none hV
  obtain ⟨a0, rfl, rfl, rfl, w0⟩ := open_int Try.underlying2 (hval 0 2 v0 rfl rfl) h0
  obtain ⟨a1, rfl, rfl, rfl, w1⟩ := open_string Try.underlying9 (hval 1 9 v1 rfl rfl) h1
  obtain ⟨a2, rfl, rfl, rfl, w2⟩ := open_int Try.underlying3 (hval 2 3 v2 rfl rfl) h2
  clear hA0 hval0
  refine (walk a0 a1 a2 w0 w1 w2 W).mono fun e W' ⟨he, hg⟩ => ?_
  subst he
  exact ⟨_, rfl, _, _, _, [], _, [], hW', (trodAll_cons_mk (shut_bool Try.underlying4 _) trodAll_mk0), (trodAll_cons_mk (shut_int Try.underlying2 w0) (trodAll_cons_mk (shut_string Try.underlying9 w1) (trodAll_cons_mk (shut_int Try.underlying3 w2) trodAll_mk0))), rfl, hg.frame _, fun h => by cases h⟩

theorem over : Rows.numCutRow.holds Try.pinned (OpenSpec.ofChange Rows.numCutSpec) :=
  OpenClaim.holds_of_wide 7 Try.f7 rfl rfl rfl rfl rfl rfl rfl ⟨rfl, rfl, rfl, rfl, rfl⟩ rfl rfl rfl rfl rfl (by kernel_rfl) Try.func7 (by kernel_rfl)
    (of_decide_eq_true (by kernel_rfl)) (by unfold Func.isWrapper; first | (rw [if_pos (by decide +kernel)]; kernel_rfl) | (rw [if_neg (by decide +kernel)]; exact ⟨rfl, rfl⟩))
    (fun os started H enc _ => lifted os started H enc)

/-- ████ THE STATEMENT ████ -/
theorem proved : Rows.NumCutSaid :=
  over
#print axioms proved
end Go.Proofs.Ytdgdaaojiljceaa.numCut
