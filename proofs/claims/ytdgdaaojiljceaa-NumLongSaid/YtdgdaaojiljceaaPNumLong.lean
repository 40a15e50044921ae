/- NumLong: numbers of so many bytes, the last one any: for every input the law returns true. -/
import Derived.Test.YtdgdaaojiljceaaRows
import Derived.WalkKit
import Derived.ProofKit
import Derived.OpenShut
import Derived.ShutString
import Derived.Test.YtdgdaaojiljceaaNumB
namespace Go.Proofs.Ytdgdaaojiljceaa.numLong
open Go.ChangeShapes Go.WideShapes Go.ChangeAt Go.RowKit
open Go.ChangeMaps (open_string shut_string)
set_option linter.unusedVariables false      -- a walk need not use every 'w<i>' (that an integer argument fits its kind)

theorem own : ownKnob Try.prog.godebug = none := by kernel_rfl

set_option maxRecDepth 100000 in
theorem walk (a0 : Int) (a1 : Int) (a2 : Int) (w0 : (Lit.int .i64 a0).wf = true) (w1 : (Lit.int .u8 a1).wf = true) (w2 : (Lit.int .u8 a2).wf = true) (w : World) :
    Calls Try.prog 5 #[.int .i64 a0, .int .u8 a1, .int .u8 a2] w fun e w' => e = .returned (.bool true) ∧ Below w.heap.size w w' := by
  obtain ⟨b1, b2⟩ := bounds_i64 w0
  obtain ⟨b3, b4⟩ := bounds_u8 w1
  obtain ⟨b5, b6⟩ := bounds_u8 w2
  clear w0 w1 w2
  by_cases hn : a0 < 0
  · go_enter Try.func5, Try.ntmps5
    go_wp2_with fail
    refine (begun_c _).mono ?_
    rintro e w1 ⟨rfl, hb1⟩
    go_wp2
    go_ret
    exact ⟨rfl, hb1⟩
  by_cases hn14 : 14 < a0
  · go_enter Try.func5, Try.ntmps5
    go_wp2_with fail
    refine (begun_c _).mono ?_
    rintro e w1 ⟨rfl, hb1⟩
    go_wp2
    go_ret
    exact ⟨rfl, hb1⟩
  obtain ⟨n, rfl⟩ : ∃ n : Nat, a0 = (n : Int) := ⟨a0.toNat, by omega⟩
  have hc : bits BinOp.or IntKind.u8 a2 128 = ((UInt8.ofNat (a2 % 128 + 128).toNat).toNat : Int) := by
    rw [Go.Lib.u8_or128_any _ b5 (by omega)]; simp; omega
  generalize UInt8.ofNat (a2 % 128 + 128).toNat = c at hc
  have hd : a1 = ((UInt8.ofNat a1.toNat).toNat : Int) := by simp; omega
  generalize UInt8.ofNat a1.toNat = d at hd
  have Hc := Go.Lib.hid hc; clear hc
  have Hd := Go.Lib.hid hd; clear hd
  go_enter Try.func5, Try.ntmps5
  go_wp2_with fail
  refine (begun_c _).mono ?_
  rintro e w1 ⟨rfl, hb1⟩
  go_wp2_with fail
  go_loopw [8, 9] (fun x i wr => ∃ k : Nat, k ≤ n ∧ i = .int .i64 (k : Int) ∧ Own 5 wr w.heap.size x (List.replicate k c) ∧ Below w.heap.size w wr) (fun _ i _ => n - (intOf i).toNat)
  case atStart => exact ⟨0, by omega, rfl, Own.nil _ _ _, hb1⟩
  case round =>
    obtain ⟨k, hk, rfl, hown, hbel⟩ := hrel
    by_cases hlt : k < n
    · go_wp2_with (at_builtin; go_loud (refine wpList_append_RB rfl (.tmp 30) (.tmp 33) 22 rfl w.heap.size 5 Try.underlying22 info8 u8 (.slice (some ⟨wr.heap.size, 0, none⟩) 1 1) (List.replicate k c) [c] rfl rfl (hown.alloc _) (RB.one wr _ _ _ Hc.out) (by simp; omega) (by have := hbel.size; simp; omega) ?_); intro v2 w2 hown2 hg2)
      have hbel2 : Below w.heap.size w w2 := (hbel.alloc (by have := hbel.size; omega) _).grown hg2 (by have := hbel.size; simp; omega) hown.row
      rw [← List.replicate_succ'] at hown2
      clear hbel hg2
      go_roundw
      case rel => exact ⟨k + 1, by omega, by go_num, hown2, hbel2⟩
      case measure => simp [intOf]; omega
    · go_wp2_with (at_builtin; go_loud (refine wpList_append_RB rfl (.tmp 35) (.tmp 37) 22 rfl w.heap.size 5 Try.underlying22 info8 u8 (.slice (some ⟨wr.heap.size, 0, none⟩) 1 1) (List.replicate k c) [d] rfl rfl (hown.alloc _) (RB.one wr _ _ _ Hd.out) (by simp; omega) (by have := hbel.size; simp; omega) ?_); intro v2 w2 hown2 hg2)
      have hbel2 : Below w.heap.size w w2 := (hbel.alloc (by have := hbel.size; omega) _).grown hg2 (by have := hbel.size; simp; omega) hown.row
      have hrb := hown2.rb
      generalize List.replicate k c ++ [d] = m at hrb
      refine (get_c v2 m _ hrb).mono ?_
      rintro e w2 ⟨rfl, rfl⟩
      unfold gv
      go_wp2_with fail
      refine (rget_c v2 m _ hrb).mono ?_
      rintro e w2 ⟨rfl, rfl⟩
      unfold gv
      go_wp2
      go_ret
      exact ⟨rfl, hbel2⟩

/-! ### THE ROW's STEP: WRITTEN OUT: LEAVE IT -/
set_option maxRecDepth 100000 in
theorem lifted (os : Os) (started : os.Started) (H : Type) (enc : TypeId × Value → H) :
    ReturnsInHanded {} Try.checked os 5 .any (Rows.numLongSpec.pre6 enc Try.prog Try.f5 Rows.numLongRow.domain false) (Rows.numLongSpec.post enc Try.prog Try.f5 false true false false) := by
  refine returnsInHanded_of_change (C := Try.checked) own started (by kernel_rfl) Try.func5
    (ChangeSpec.witness6 (enc := enc) (C := Try.checked) false ⟨#[], #[.int .i64 0, .int .u8 0, .int .u8 0], []⟩ 8 (by kernel_rfl) (by kernel_rfl) (by kernel_rfl) (by kernel_rfl)) ?_
  intro W base args ds gs before hval0 hW hcnd _
  have hval : ∀ (j : Nat) t v, Try.f5.params[j]? = some t → args[j]? = some v → Value.okWide Try.prog W .any base t v := hval0
  have hW' := hW
  obtain ⟨p, q, hA0, hV, rfl, hfz, hnd⟩ := hW
  have hA : DataW.TrodAll enc Try.prog W 0 (fun _ => true) true Try.f5.params.toList args.toList ds p := hA0
  rw [Try.params5] at hA hval
  obtain ⟨v0, vs0, d0, ds0, p0, q0, hargs, rfl, rfl, h0, r0⟩ := trodAll_cons hA
  obtain ⟨v1, vs1, d1, ds1, p1, q1, rfl, rfl, rfl, h1, r1⟩ := trodAll_cons r0
  obtain ⟨v2, vs2, d2, ds2, p2, q2, rfl, rfl, rfl, h2, r2⟩ := trodAll_cons r1
  obtain ⟨rfl, rfl, rfl⟩ := trodAll_nil r2
  obtain rfl : args = #[v0, v1, v2] := by cases args; simp_all
  obtain ⟨rfl, rfl⟩ := trodVars_none hV
  obtain ⟨a0, rfl, rfl, rfl, w0⟩ := open_int Try.underlying3 (hval 0 3 v0 rfl rfl) h0
  obtain ⟨a1, rfl, rfl, rfl, w1⟩ := open_int Try.underlying5 (hval 1 5 v1 rfl rfl) h1
  obtain ⟨a2, rfl, rfl, rfl, w2⟩ := open_int Try.underlying5 (hval 2 5 v2 rfl rfl) h2
  clear hA0 hval0
  refine (walk a0 a1 a2 w0 w1 w2 W).mono fun e W' ⟨he, hg⟩ => ?_
  subst he
  exact ⟨_, rfl, _, _, _, [], _, [], hW', (trodAll_cons_mk (shut_bool Try.underlying4 _) trodAll_mk0), (trodAll_cons_mk (shut_int Try.underlying3 w0) (trodAll_cons_mk (shut_int Try.underlying5 w1) (trodAll_cons_mk (shut_int Try.underlying5 w2) trodAll_mk0))), rfl, hg.frame _, fun h => by cases h⟩

theorem over : Rows.numLongRow.holds Try.pinned (OpenSpec.ofChange Rows.numLongSpec) :=
  OpenClaim.holds_of_wide 5 Try.f5 rfl rfl rfl rfl rfl rfl rfl ⟨rfl, rfl, rfl, rfl, rfl⟩ rfl rfl rfl rfl rfl (by kernel_rfl) Try.func5 (by kernel_rfl)
    (of_decide_eq_true (by kernel_rfl)) (by unfold Func.isWrapper; first | (rw [if_pos (by decide +kernel)]; kernel_rfl) | (rw [if_neg (by decide +kernel)]; exact ⟨rfl, rfl⟩))
    (fun os started H enc _ => lifted os started H enc)

/-- ████ THE STATEMENT ████ -/
theorem proved : Rows.NumLongSaid :=
  over
#print axioms proved
end Go.Proofs.Ytdgdaaojiljceaa.numLong
