/- KeyValid: of two that are valid the order by runes is the one by bytes: for any two texts the law returns true. -/
import Derived.Test.YthknafjnmondeaaRows
import Derived.WalkKit
import Derived.ProofKit
import Derived.OpenShut
import Derived.ShutString
import Derived.Test.YthknafjnmondeaaBegun5
import Derived.Test.YthknafjnmondeaaRValid
import Derived.Test.YthknafjnmondeaaLCut
namespace Go.Proofs.Ythknafjnmondeaa.keyValid
open Go.ChangeShapes Go.WideShapes Go.ChangeAt Go.RowKit
open Go.ChangeMaps (open_string shut_string)
set_option linter.unusedVariables false      -- a walk need not use every 'w<i>' (that an integer argument fits its kind)

theorem own : ownKnob Try.prog.godebug = none := by kernel_rfl

open Go.Op
theorem valid_three (p q : ByteArray) (h1 : wellB (toks (bl p)) = true) (h2 : wellB (toks (bl q)) = true) :
    (cmpS p q = -1 ∧ bytesLess p.toList q.toList = true ∧ (p.toList == q.toList) = false) ∨ (cmpS p q = 0 ∧ bytesLess p.toList q.toList = false ∧ (p.toList == q.toList) = true) ∨ (cmpS p q = 1 ∧ bytesLess p.toList q.toList = false ∧ (p.toList == q.toList) = false) := by
  have hl := less_valid (bl p) (bl q) h1 h2
  have e1 : p.toList = bl p := ByteArray.toList_eq ..
  have e2 : q.toList = bl q := ByteArray.toList_eq ..
  rw [e1, e2, hl]
  have hne : cmpS p q ≠ 0 → (bl p == bl q) = false := by
    intro h
    rw [beq_eq_false_iff_ne]
    intro e
    apply h
    unfold cmpS
    rw [e]
    exact cmpN_self _
  rcases cmpN_three (runesOf (toks (bl p))) (runesOf (toks (bl q))) with h | h | h
  · exact .inl ⟨h, by rw [h]; rfl, hne (by unfold cmpS; rw [h]; omega)⟩
  · refine .inr (.inl ⟨h, by rw [h]; rfl, ?_⟩)
    have := cmpN_zero _ _ h
    have e3 := (written_iff (bl p)).2 h1
    rw [this, (written_iff (bl q)).2 h2] at e3
    rw [e3]
    simp
  · exact .inr (.inr ⟨h, by rw [h]; rfl, hne (by unfold cmpS; rw [h]; omega)⟩)

set_option maxHeartbeats 2000000 in
set_option maxRecDepth 100000 in
theorem walk (a0 : ByteArray) (a1 : ByteArray) (w0 : a0.size ≤ maxLen) (w1 : a1.size ≤ maxLen) (w : World) :
    Calls Try.prog 4 #[.string a0, .string a1] w fun e w' => e = .returned (.bool true) ∧ Below w.heap.size w w' := by
  have L0 := Go.Lib.hid fun W => lcut_c a0 20 W w0 (by omega)
  have hp : (str ((bl a0).take 20)).size ≤ 20 := by rw [str_size, List.length_take]; omega
  generalize str ((bl a0).take 20) = p at *
  have L1 := Go.Lib.hid fun W => lcut_c a1 20 W w1 (by omega)
  have hq : (str ((bl a1).take 20)).size ≤ 20 := by rw [str_size, List.length_take]; omega
  generalize str ((bl a1).take 20) = q at *
  have C1 := Go.Lib.hid fun W => rvalid_c p W (by omega)
  have C2 := Go.Lib.hid fun W => rvalid_c q W (by omega)
  have c3 := fun W => kcmp_c p q W (by omega) (by omega)
  have c4 := fun W => kcmp_c q p W (by omega) (by omega)
  have hsw : cmpS q p = -cmpS p q := cmpN_swap ..
  rw [hsw] at c4
  have h3 := Go.Lib.hid fun h1 h2 => valid_three p q h1 h2
  generalize cmpS p q = c at *
  have C3 := Go.Lib.hid c3; clear c3
  have C4 := Go.Lib.hid c4; clear c4
  generalize wellB (toks (bl p)) = vp at *
  generalize wellB (toks (bl q)) = vq at *
  clear w0 w1 hp hq hsw
  go_enter Try.func4, Try.ntmps4
  go_wp2_with fail
  refine (begun_c _).mono ?_
  rintro e w1 ⟨rfl, hbb⟩
  go_wp2_with fail
  refine (L0.out _).mono ?_
  rintro e w2 ⟨rfl, rfl⟩
  go_wp2_with fail
  refine (L1.out _).mono ?_
  rintro e w2 ⟨rfl, rfl⟩
  cases vp with
  | false =>
    go_wp2_with fail
    refine (C1.out _).mono ?_
    rintro e w2 ⟨rfl, rfl⟩
    go_wp2_with fail
    go_ret
    exact ⟨rfl, hbb⟩
  | true =>
    go_wp2_with fail
    refine (C1.out _).mono ?_
    rintro e w2 ⟨rfl, rfl⟩
    cases vq with
    | false =>
      go_wp2_with fail
      refine (C2.out _).mono ?_
      rintro e w2 ⟨rfl, rfl⟩
      go_wp2_with fail
      go_ret
      exact ⟨rfl, hbb⟩
    | true =>
      go_wp2_with fail
      refine (C2.out _).mono ?_
      rintro e w2 ⟨rfl, rfl⟩
      rcases h3.out (by trivial) (by trivial) with ⟨rfl, e1, e2⟩ | ⟨rfl, e1, e2⟩ | ⟨rfl, e1, e2⟩
      · clear h3 C1 C2 L0 L1
        go_wp2_with fail
        refine (C3.out _).mono ?_
        rintro e u1 ⟨rfl, hc⟩
        have hbb := hbb.trans (hc.mono hbb.size)
        clear hc
        go_wp2_with fail
        refine (C4.out _).mono ?_
        rintro e u2 ⟨rfl, hc⟩
        have hbb := hbb.trans (hc.mono hbb.size)
        clear hc
        go_wp2_with fail
        go_ret
        exact ⟨rfl, hbb⟩
      · clear h3 C1 C2 L0 L1
        go_wp2_with fail
        refine (C3.out _).mono ?_
        rintro e u1 ⟨rfl, hc⟩
        have hbb := hbb.trans (hc.mono hbb.size)
        clear hc
        go_wp2_with fail
        refine (C4.out _).mono ?_
        rintro e u2 ⟨rfl, hc⟩
        have hbb := hbb.trans (hc.mono hbb.size)
        clear hc
        go_wp2_with fail
        go_ret
        exact ⟨rfl, hbb⟩
      · clear h3 C1 C2 L0 L1
        go_wp2_with fail
        refine (C3.out _).mono ?_
        rintro e u1 ⟨rfl, hc⟩
        have hbb := hbb.trans (hc.mono hbb.size)
        clear hc
        go_wp2_with fail
        refine (C4.out _).mono ?_
        rintro e u2 ⟨rfl, hc⟩
        have hbb := hbb.trans (hc.mono hbb.size)
        clear hc
        go_wp2_with fail
        go_ret
        exact ⟨rfl, hbb⟩

/-! ### THE ROW's STEP: WRITTEN OUT: LEAVE IT -/
set_option maxRecDepth 100000 in
theorem lifted (os : Os) (started : os.Started) (H : Type) (enc : TypeId × Value → H) :
    ReturnsInHanded {} Try.checked os 4 .any (Rows.keyValidSpec.pre6 enc Try.prog Try.f4 Rows.keyValidRow.domain false) (Rows.keyValidSpec.post enc Try.prog Try.f4 false true false false) := by
  refine returnsInHanded_of_change (C := Try.checked) own started (by kernel_rfl) Try.func4
    (ChangeSpec.witness6 (enc := enc) (C := Try.checked) false ⟨#[], #[.string ByteArray.empty, .string ByteArray.empty], []⟩ 8 (by kernel_rfl) (by kernel_rfl) (by kernel_rfl) (by kernel_rfl)) ?_
  intro W base args ds gs before hval0 hW hcnd _
  have hval : ∀ (j : Nat) t v, Try.f4.params[j]? = some t → args[j]? = some v → Value.okWide Try.prog W .any base t v := hval0
  have hW' := hW
  obtain ⟨p, q, hA0, hV, rfl, hfz, hnd⟩ := hW
  have hA : DataW.TrodAll enc Try.prog W 0 (fun _ => true) true Try.f4.params.toList args.toList ds p := hA0
  rw [Try.params4] at hA hval
  obtain ⟨v0, vs0, d0, ds0, p0, q0, hargs, rfl, rfl, h0, r0⟩ := trodAll_cons hA
  obtain ⟨v1, vs1, d1, ds1, p1, q1, rfl, rfl, rfl, h1, r1⟩ := trodAll_cons r0
  obtain ⟨rfl, rfl, rfl⟩ := trodAll_nil r1
  obtain rfl : args = #[v0, v1] := by cases args; simp_all
  obtain ⟨rfl, rfl⟩ := trodVars_none hV
  obtain ⟨a0, rfl, rfl, rfl, w0⟩ := open_string Try.underlying9 (hval 0 9 v0 rfl rfl) h0
  obtain ⟨a1, rfl, rfl, rfl, w1⟩ := open_string Try.underlying9 (hval 1 9 v1 rfl rfl) h1
  clear hA0 hval0
  refine (walk a0 a1 w0 w1 W).mono fun e W' ⟨he, hg⟩ => ?_
  subst he
  exact ⟨_, rfl, _, _, _, [], _, [], hW', (trodAll_cons_mk (shut_bool Try.underlying4 _) trodAll_mk0), (trodAll_cons_mk (shut_string Try.underlying9 w0) (trodAll_cons_mk (shut_string Try.underlying9 w1) trodAll_mk0)), rfl, hg.frame _, fun h => by cases h⟩

theorem over : Rows.keyValidRow.holds Try.pinned (OpenSpec.ofChange Rows.keyValidSpec) :=
  OpenClaim.holds_of_wide 4 Try.f4 rfl rfl rfl rfl rfl rfl rfl ⟨rfl, rfl, rfl, rfl, rfl⟩ rfl rfl rfl rfl rfl (by kernel_rfl) Try.func4 (by kernel_rfl)
    (of_decide_eq_true (by kernel_rfl)) (by unfold Func.isWrapper; first | (rw [if_pos (by decide +kernel)]; kernel_rfl) | (rw [if_neg (by decide +kernel)]; exact ⟨rfl, rfl⟩))
    (fun os started H enc _ => lifted os started H enc)

/-- ████ THE STATEMENT ████ -/
theorem proved : Rows.KeyValidSaid :=
  over
#print axioms proved
end Go.Proofs.Ythknafjnmondeaa.keyValid
