/- RunesJoin: behind a valid text the runes go on: for every two strings the law returns true. -/
import Derived.Test.YtcdpldleackigaaRows
import Derived.WalkKit
import Derived.ProofKit
import Derived.OpenShut
import Derived.ShutString
import Derived.Test.YtcdpldleackigaaRunL
namespace Go.Proofs.Ytcdpldleackigaa.runesJoin
open Go.ChangeShapes Go.WideShapes Go.ChangeAt Go.RowKit
open Go.ChangeMaps (open_string shut_string)
set_option linter.unusedVariables false      -- a walk need not use every 'w<i>' (that an integer argument fits its kind)

theorem own : ownKnob Try.prog.godebug = none := by kernel_rfl

set_option maxHeartbeats 1000000 in
set_option maxRecDepth 100000 in
theorem walk (a0 : ByteArray) (a1 : ByteArray) (w0 : a0.size ≤ maxLen) (w1 : a1.size ≤ maxLen) (w : World) :
    Calls Try.prog 6 #[.string a0, .string a1] w fun e w' => e = .returned (.bool true) ∧ Below w.heap.size w w' := by
  have CB := Go.Lib.hid (begun_c w)
  have C0 := Go.Lib.hid fun W => lcut_c a0 40 W w0 (by omega)
  have C1 := Go.Lib.hid fun W => lcut_c a1 40 W w1 (by omega)
  obtain ⟨A, hA⟩ : ∃ A, A = (bl a0).take 40 := ⟨_, rfl⟩
  obtain ⟨B, hB⟩ : ∃ B, B = (bl a1).take 40 := ⟨_, rfl⟩
  have hAl : A.length ≤ 40 := by rw [hA, List.length_take]; omega
  have hBl : B.length ≤ 40 := by rw [hB, List.length_take]; omega
  rw [← hA] at C0
  rw [← hB] at C1
  clear hA hB w0 w1
  go_enter Try.func6, Try.ntmps6
  go_wp2_with fail
  refine CB.out.mono ?_
  rintro e w1 ⟨rfl, hb1⟩
  go_wp2_with fail
  refine (C0.out _).mono ?_
  rintro e w2 ⟨rfl, rfl⟩
  go_wp2_with fail
  refine (C1.out _).mono ?_
  rintro e w2 ⟨rfl, rfl⟩
  have HAv := Go.Lib.hid fun W => valid_s A W (by omega)
  clear CB C0 C1
  cases hv : wellB (toks A) with
  | false =>
    rw [hv] at HAv
    go_wp2_with fail
    refine (HAv.out _).mono ?_
    rintro e w3 ⟨rfl, hb3⟩
    go_wp2_with fail
    go_ret
    exact ⟨rfl, hb1.trans (hb3.mono hb1.size)⟩
  | true =>
    rw [hv] at HAv
    have hj := toks_append A B hv
    have hn1 := toks_length A
    have hn2 := toks_length B
    have HAc := Go.Lib.hid fun W => count_s A W (by omega)
    have HBc := Go.Lib.hid fun W => count_s B W (by omega)
    have HBv := Go.Lib.hid fun W => valid_s B W (by omega)
    have c3 := fun W => count_s (A ++ B) W (by rw [List.length_append]; omega)
    have c4 := fun W => valid_s (A ++ B) W (by rw [List.length_append]; omega)
    have c5 := fun W => cut_s (A ++ B) ((toks A).length : Int) W (by rw [List.length_append]; omega)
    rw [cutl_join A B hv, ← str_append] at c5
    rw [hj, List.length_append, ← str_append] at c3
    rw [hj, well_append, hv, Bool.true_and, ← str_append] at c4
    generalize wellB (toks B) = vb at *
    clear hv hj
    generalize (toks A).length = na at *
    generalize (toks B).length = nb at *
    have C3 := Go.Lib.hid c3; clear c3
    have C4 := Go.Lib.hid c4; clear c4
    have C5 := Go.Lib.hid c5; clear c5
    go_wp2_with fail
    refine (HAv.out _).mono ?_
    rintro e w3 ⟨rfl, hb3⟩
    have hbb3 := hb1.trans (hb3.mono hb1.size)
    go_wp2_with fail
    refine (HAc.out _).mono ?_
    rintro e w4 ⟨rfl, hb4⟩
    have hbb4 := hbb3.trans (hb4.mono hbb3.size)
    have hs12 : (str A).size + (str B).size ≤ 9223372036854775807 := by rw [str_size, str_size]; omega
    go_wp2_with fail
    refine (C3.out _).mono ?_
    rintro e w5 ⟨rfl, hb5⟩
    have hbb5 := hbb4.trans (hb5.mono hbb4.size)
    go_wp2_with fail
    refine (HBc.out _).mono ?_
    rintro e w6 ⟨rfl, hb6⟩
    have hbb6 := hbb5.trans (hb6.mono hbb5.size)
    have heq : (((na + nb : Nat) : Int) == (na : Int) + (nb : Int)) = true := by rw [beq_iff_eq]; omega
    go_wp2_with fail
    refine (C5.out _).mono ?_
    rintro e w7 ⟨rfl, hb7⟩
    have hbb7 := hbb6.trans (hb7.mono hbb6.size)
    go_wp2_with fail
    refine (C4.out _).mono ?_
    rintro e w8 ⟨rfl, hb8⟩
    have hbb8 := hbb7.trans (hb8.mono hbb7.size)
    go_wp2_with fail
    refine (HBv.out _).mono ?_
    rintro e w9 ⟨rfl, hb9⟩
    have hbb9 := hbb8.trans (hb9.mono hbb8.size)
    go_wp2_with fail
    go_ret
    exact ⟨rfl, hbb9⟩

/-! ### THE ROW's STEP: WRITTEN OUT: LEAVE IT -/
set_option maxRecDepth 100000 in
theorem lifted (os : Os) (started : os.Started) (H : Type) (enc : TypeId × Value → H) :
    ReturnsInHanded {} Try.checked os 6 .any (Rows.runesJoinSpec.pre6 enc Try.prog Try.f6 Rows.runesJoinRow.domain false) (Rows.runesJoinSpec.post enc Try.prog Try.f6 false true false false) := by
  refine returnsInHanded_of_change (C := Try.checked) own started (by kernel_rfl) Try.func6
    (ChangeSpec.witness6 (enc := enc) (C := Try.checked) false ⟨#[], #[.string ByteArray.empty, .string ByteArray.empty], []⟩ 8 (by kernel_rfl) (by kernel_rfl) (by kernel_rfl) (by kernel_rfl)) ?_
  intro W base args ds gs before hval0 hW hcnd _
  have hval : ∀ (j : Nat) t v, Try.f6.params[j]? = some t → args[j]? = some v → Value.okWide Try.prog W .any base t v := hval0
  have hW' := hW
  obtain ⟨p, q, hA0, hV, rfl, hfz, hnd⟩ := hW
  have hA : DataW.TrodAll enc Try.prog W 0 (fun _ => true) true Try.f6.params.toList args.toList ds p := hA0
  rw [Try.params6] at hA hval
  obtain ⟨v0, vs0, d0, ds0, p0, q0, hargs, rfl, rfl, h0, r0⟩ := trodAll_cons hA
  obtain ⟨v1, vs1, d1, ds1, p1, q1, rfl, rfl, rfl, h1, r1⟩ := trodAll_cons r0
  obtain ⟨rfl, rfl, rfl⟩ := trodAll_nil r1
  obtain rfl : args = #[v0, v1] := by cases args; simp_all
  obtain ⟨rfl, rfl⟩ := trodVars_none hV
  obtain ⟨a0, rfl, rfl, rfl, w0⟩ := open_string Try.underlying9 (hval 0 9 v0 rfl rfl) h0
  obtain ⟨a1, rfl, rfl, rfl, w1⟩ := open_string Try.underlying9 (hval 1 9 v1 rfl rfl) h1
  clear hA0 hval0
  refine (walk a0 a1 w0 w1 W).mono fun e W' ⟨he, hg⟩ => ?_
  subst he
  exact ⟨_, rfl, _, _, _, [], _, [], hW', (trodAll_cons_mk (shut_bool Try.underlying4 _) trodAll_mk0), (trodAll_cons_mk (shut_string Try.underlying9 w0) (trodAll_cons_mk (shut_string Try.underlying9 w1) trodAll_mk0)), rfl, hg.frame _, fun h => by cases h⟩

theorem over : Rows.runesJoinRow.holds Try.pinned (OpenSpec.ofChange Rows.runesJoinSpec) :=
  OpenClaim.holds_of_wide 6 Try.f6 rfl rfl rfl rfl rfl rfl rfl ⟨rfl, rfl, rfl, rfl, rfl⟩ rfl rfl rfl rfl rfl (by kernel_rfl) Try.func6 (by kernel_rfl)
    (of_decide_eq_true (by kernel_rfl)) (by unfold Func.isWrapper; first | (rw [if_pos (by decide +kernel)]; kernel_rfl) | (rw [if_neg (by decide +kernel)]; exact ⟨rfl, rfl⟩))
    (fun os started H enc _ => lifted os started H enc)

/-- ████ THE STATEMENT ████ -/
theorem proved : Rows.RunesJoinSaid :=
  over
#print axioms proved
end Go.Proofs.Ytcdpldleackigaa.runesJoin
