/- NumSize: a number takes as many bytes as it needs, seven bits each: for every int64 the law returns true. -/
import Derived.Test.YtdgdaaojiljceaaRows
import Derived.WalkKit
import Derived.ProofKit
import Derived.OpenShut
import Derived.ShutString
import Derived.Test.YtdgdaaojiljceaaNumB
namespace Go.Proofs.Ytdgdaaojiljceaa.numSize
open Go.ChangeShapes Go.WideShapes Go.ChangeAt Go.RowKit
open Go.ChangeMaps (open_string shut_string)
set_option linter.unusedVariables false      -- a walk need not use every 'w<i>' (that an integer argument fits its kind)

theorem own : ownKnob Try.prog.godebug = none := by kernel_rfl

open Go.Lib (uvarint zigzag)
set_option maxRecDepth 100000 in
theorem walk (a0 : Int) (w0 : (Lit.int .i64 a0).wf = true) (w : World) :
    Calls Try.prog 8 #[.int .i64 a0] w fun e w' => e = .returned (.bool true) ∧ Below w.heap.size w w' := by
  obtain ⟨h0, h1⟩ := bounds_i64 w0
  have h1 : a0 ≤ 9223372036854775807 := by omega
  have hz := Go.Lib.zigzag_lt h0 h1
  have hzl := Go.Lib.uvarint_length64 hz
  obtain ⟨z, Hz⟩ : ∃ z, z = zigzag a0 := ⟨_, rfl⟩
  rw [← Hz] at hz hzl
  have Hzl := Go.Lib.hid hzl; clear hzl
  have HZ := Go.Lib.hid Hz; clear Hz
  have hneg : a0 < 0 → bits BinOp.xor IntKind.u64 (IntKind.u64.max) (IntKind.u64.wrap (IntKind.u64.wrap a0 * 2)) = (z : Int) := fun h => by rw [HZ.out]; exact Go.Lib.zigzag_neg h0 h
  have hpos : 0 ≤ a0 → a0 * 2 = (z : Int) := fun h => by rw [HZ.out]; exact (Go.Lib.zigzag_nonneg h).symm
  have Hneg := Go.Lib.hid hneg; clear hneg
  have Hpos := Go.Lib.hid hpos; clear hpos
  by_cases hn : a0 < 0
  all_goals
    go_enter Try.func8, Try.ntmps8
    go_wp2_with fail
    refine (begun_c _).mono ?_
    rintro e w1 ⟨rfl, hb1⟩
    go_wp2_with fail
    go_loop [4, 5] (fun u i => ∃ y j : Nat, y < 18446744073709551616 ∧ j ≤ 10 ∧ u = .int .u64 (y : Int) ∧ i = .int .i64 (j : Int) ∧ Hid ((uvarint z).length + 1 = j + (uvarint y).length)) (fun u _ => (intOf u).toNat)
    case atStart => exact ⟨z, 1, hz, by omega, by first | exact congrArg (Value.int .u64) (Hneg.out hn) | exact congrArg (Value.int .u64) (Hpos.out (by omega)), rfl, by simp [Hid]; omega⟩
    case round =>
      obtain ⟨y, j, hy, hj, rfl, rfl, hl⟩ := hrel
      by_cases hs : y < 128
      · have hjl : (uvarint z).length = j := by have := hl.out; rw [Go.Lib.uvarint_small (x := y) hs] at this; simpa using this
        have Hj := Go.Lib.hid hjl; clear hjl
        go_wp2_with fail
        refine (put_c _ [] a0 _ (RB.nil _) h0 h1 (by decide)).mono ?_
        rintro e w2 ⟨v2, rfl, hown2, hb2⟩
        have hg := getB_put a0 h0 h1 []
        rw [List.append_nil, ← HZ.out] at hg
        rw [List.nil_append, ← HZ.out] at hown2
        have hrb := hown2.rb
        obtain ⟨a, cap, rfl, -, -, -, -⟩ := hown2.rb
        rw [Hj.out] at hg
        have hjj : ((uvarint z).length : Int) = (j : Int) := by rw [Hj.out]
        have Hg := Go.Lib.hid hg; clear hg
        have hb12 := hb1.trans (hb2.mono hb1.size)
        clear hb1 hb2 hown2
        go_wp2_with fail
        refine (get_c _ _ _ hrb).mono ?_
        rintro e w3 ⟨rfl, rfl⟩
        rw [Hg.out]; unfold gv
        go_wp2
        go_ret
        exact ⟨rfl, hb12⟩
      · have hj9 : j < 10 := by have h1 := hl.out; have h2 := Hzl.out; rw [Go.Lib.uvarint_big (x := y) (by omega), List.length_cons] at h1; have := Go.Lib.uvarint_pos (y / 128); omega
        go_wp2
        go_round
        case rel => exact ⟨y / 128, j + 1, by omega, by omega, by go_num, by go_num, by have := hl.out; rw [Go.Lib.uvarint_big (x := y) (by omega), List.length_cons] at this; unfold Hid; omega⟩
        case measure => simp [intOf]; omega

/-! ### THE ROW's STEP: WRITTEN OUT: LEAVE IT -/
set_option maxRecDepth 100000 in
theorem lifted (os : Os) (started : os.Started) (H : Type) (enc : TypeId × Value → H) :
    ReturnsInHanded {} Try.checked os 8 .any (Rows.numSizeSpec.pre6 enc Try.prog Try.f8 Rows.numSizeRow.domain false) (Rows.numSizeSpec.post enc Try.prog Try.f8 false true false false) := by
  refine returnsInHanded_of_change (C := Try.checked) own started (by kernel_rfl) Try.func8
    (ChangeSpec.witness6 (enc := enc) (C := Try.checked) false ⟨#[], #[.int .i64 0], []⟩ 8 (by kernel_rfl) (by kernel_rfl) (by kernel_rfl) (by kernel_rfl)) ?_
  intro W base args ds gs before hval0 hW hcnd _
  have hval : ∀ (j : Nat) t v, Try.f8.params[j]? = some t → args[j]? = some v → Value.okWide Try.prog W .any base t v := hval0
  have hW' := hW
  obtain ⟨p, q, hA0, hV, rfl, hfz, hnd⟩ := hW
  have hA : DataW.TrodAll enc Try.prog W 0 (fun _ => true) true Try.f8.params.toList args.toList ds p := hA0
  rw [Try.params8] at hA hval
  obtain ⟨v0, vs0, d0, ds0, p0, q0, hargs, rfl, rfl, h0, r0⟩ := trodAll_cons hA
  obtain ⟨rfl, rfl, rfl⟩ := trodAll_nil r0
  obtain rfl : args = #[v0] := by cases args; simp_all
  obtain ⟨rfl, rfl⟩ := trodVars_none hV
  obtain ⟨a0, rfl, rfl, rfl, w0⟩ := open_int Try.underlying2 (hval 0 2 v0 rfl rfl) h0
  clear hA0 hval0
  refine (walk a0 w0 W).mono fun e W' ⟨he, hg⟩ => ?_
  subst he
  exact ⟨_, rfl, _, _, _, [], _, [], hW', (trodAll_cons_mk (shut_bool Try.underlying4 _) trodAll_mk0), (trodAll_cons_mk (shut_int Try.underlying2 w0) trodAll_mk0), rfl, hg.frame _, fun h => by cases h⟩

theorem over : Rows.numSizeRow.holds Try.pinned (OpenSpec.ofChange Rows.numSizeSpec) :=
  OpenClaim.holds_of_wide 8 Try.f8 rfl rfl rfl rfl rfl rfl rfl ⟨rfl, rfl, rfl, rfl, rfl⟩ rfl rfl rfl rfl rfl (by kernel_rfl) Try.func8 (by kernel_rfl)
    (of_decide_eq_true (by kernel_rfl)) (by unfold Func.isWrapper; first | (rw [if_pos (by decide +kernel)]; kernel_rfl) | (rw [if_neg (by decide +kernel)]; exact ⟨rfl, rfl⟩))
    (fun os started H enc _ => lifted os started H enc)

/-- ████ THE STATEMENT ████ -/
theorem proved : Rows.NumSizeSaid :=
  over
#print axioms proved
end Go.Proofs.Ytdgdaaojiljceaa.numSize
