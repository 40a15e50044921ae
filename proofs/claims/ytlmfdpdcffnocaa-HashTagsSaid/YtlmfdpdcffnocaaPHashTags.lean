/- HashTags: the bucket and the tag are the hash's lowest bits: for every two numbers the law returns true. -/
import Derived.Test.YtlmfdpdcffnocaaRows
import Derived.WalkKit
import Derived.ProofKit
import Derived.OpenShut
import Derived.ShutString
import Derived.Test.YtlmfdpdcffnocaaBegun9
namespace Go.Proofs.Ytlmfdpdcffnocaa.hashTags
open Go.ChangeShapes Go.WideShapes Go.ChangeAt Go.RowKit
open Go.ChangeMaps (open_string shut_string)
set_option linter.unusedVariables false      -- a walk need not use every 'w<i>' (that an integer argument fits its kind)

theorem own : ownKnob Try.prog.godebug = none := by kernel_rfl

theorem tags_eq (h x : Nat) (hh : h < 18446744073709551616) (hx : x < 18446744073709551616) : ∃ g : Nat, g < 18446744073709551616 ∧ bits .or .u64 (bits .and .u64 (h : Int) 8388607) (IntKind.u64.wrap ((x : Int) * 8388608)) = (g : Int) ∧ bits .and .u64 (h : Int) 7 = (firstN g : Int) ∧ bits .and .u64 ((h : Int) / 256) 32767 = (tagN g : Int) := by
  have e1 : bits .and .u64 (h : Int) ((8388607 : Nat) : Int) = ((h % 8388608 : Nat) : Int) := by
    rw [u64_and_nat h 8388607 hh (by omega)]
    exact congrArg _ (Nat.and_two_pow_sub_one_eq_mod h 23)
  have e2 : IntKind.u64.wrap ((x : Int) * 8388608) = ((x % 2199023255552 * 8388608 : Nat) : Int) := by rw [IntKind.wrap_u64]; omega
  have e3 : bits .and .u64 (h : Int) ((7 : Nat) : Int) = ((h % 8 : Nat) : Int) := by
    rw [u64_and_nat h 7 hh (by omega)]
    exact congrArg _ (Nat.and_two_pow_sub_one_eq_mod h 3)
  have e4 : bits .and .u64 (((h / 256 : Nat)) : Int) ((32767 : Nat) : Int) = ((h / 256 % 32768 : Nat) : Int) := by
    rw [u64_and_nat (h / 256) 32767 (by omega) (by omega)]
    exact congrArg _ (Nat.and_two_pow_sub_one_eq_mod (h / 256) 15)
  have e5 : (h % 8388608) ||| (x % 2199023255552 * 8388608) = x % 2199023255552 * 8388608 + h % 8388608 := by
    rw [Nat.or_comm]
    exact nat_join 23 _ _ (by omega) (by omega)
  refine ⟨x % 2199023255552 * 8388608 + h % 8388608, by omega, ?_, ?_, ?_⟩
  · show bits .or .u64 (bits .and .u64 (h : Int) ((8388607 : Nat) : Int)) _ = _
    rw [e1, e2, u64_or_nat _ _ (by omega) (by omega), e5]
  · refine e3.trans (congrArg _ ?_)
    unfold firstN; omega
  · show bits .and .u64 (((h / 256 : Nat)) : Int) ((32767 : Nat) : Int) = _
    refine e4.trans (congrArg _ ?_)
    unfold tagN; omega

set_option maxHeartbeats 2000000 in
set_option maxRecDepth 100000 in
theorem walk (a0 : Int) (a1 : Int) (w0 : (Lit.int .u64 a0).wf = true) (w1 : (Lit.int .u64 a1).wf = true) (w : World) :
    Calls Try.prog 7 #[.int .u64 a0, .int .u64 a1] w fun e w' => e = .returned (.bool true) ∧ Below w.heap.size w w' := by
  obtain ⟨q0, q1⟩ := bounds_u64 w0
  obtain ⟨q2, q3⟩ := bounds_u64 w1
  clear w0 w1
  obtain ⟨h, rfl⟩ : ∃ h : Nat, a0 = (h : Int) := ⟨a0.toNat, by omega⟩
  obtain ⟨x, rfl⟩ : ∃ x : Nat, a1 = (x : Int) := ⟨a1.toNat, by omega⟩
  obtain ⟨g, hg, e1, e2, e3⟩ := tags_eq h x (by omega) (by omega)
  have f8 := firstN_lt g
  have t8 := tagN_lt g
  have c1 := fun W => hfirst_c g W hg
  have c2 := fun W => htag_c g W hg
  rw [← e1] at c1 c2
  have C1 := Go.Lib.hid c1
  have C2 := Go.Lib.hid c2
  generalize firstN g = f at *
  generalize tagN g = t at *
  clear c1 c2 e1 hg
  go_enter Try.func7, Try.ntmps7
  go_wp2_with fail
  refine (begun_c _).mono ?_
  rintro e w1 ⟨rfl, hbb⟩
  go_wp2_with fail
  refine (C1.out _).mono ?_
  rintro e wq ⟨rfl, rfl⟩
  go_wp2_with fail
  refine (C2.out _).mono ?_
  rintro e wq ⟨rfl, rfl⟩
  go_wp2_with fail
  go_ret
  exact ⟨rfl, hbb⟩

/-! ### THE ROW's STEP: WRITTEN OUT: LEAVE IT -/
set_option maxRecDepth 100000 in
theorem lifted (os : Os) (started : os.Started) (H : Type) (enc : TypeId × Value → H) :
    ReturnsInHanded {} Try.checked os 7 .any (Rows.hashTagsSpec.pre6 enc Try.prog Try.f7 Rows.hashTagsRow.domain false) (Rows.hashTagsSpec.post enc Try.prog Try.f7 false true false false) := by
  refine returnsInHanded_of_change (C := Try.checked) own started (by kernel_rfl) Try.func7
    (ChangeSpec.witness6 (enc := enc) (C := Try.checked) false ⟨#[], #[.int .u64 0, .int .u64 0], []⟩ 8 (by kernel_rfl) (by kernel_rfl) (by kernel_rfl) (by kernel_rfl)) ?_
  intro W base args ds gs before hval0 hW hcnd _
  have hval : ∀ (j : Nat) t v, Try.f7.params[j]? = some t → args[j]? = some v → Value.okWide Try.prog W .any base t v := hval0
  have hW' := hW
  obtain ⟨p, q, hA0, hV, rfl, hfz, hnd⟩ := hW
  have hA : DataW.TrodAll enc Try.prog W 0 (fun _ => true) true Try.f7.params.toList args.toList ds p := hA0
  rw [Try.params7] at hA hval
  obtain ⟨v0, vs0, d0, ds0, p0, q0, hargs, rfl, rfl, h0, r0⟩ := trodAll_cons hA
  obtain ⟨v1, vs1, d1, ds1, p1, q1, rfl, rfl, rfl, h1, r1⟩ := trodAll_cons r0
  obtain ⟨rfl, rfl, rfl⟩ := trodAll_nil r1
  obtain rfl : args = #[v0, v1] := by cases args; simp_all
  obtain ⟨rfl, rfl⟩ := trodVars_none hV
  obtain ⟨a0, rfl, rfl, rfl, w0⟩ := open_int Try.underlying24 (hval 0 24 v0 rfl rfl) h0
  obtain ⟨a1, rfl, rfl, rfl, w1⟩ := open_int Try.underlying24 (hval 1 24 v1 rfl rfl) h1
  clear hA0 hval0
  refine (walk a0 a1 w0 w1 W).mono fun e W' ⟨he, hg⟩ => ?_
  subst he
  exact ⟨_, rfl, _, _, _, [], _, [], hW', (trodAll_cons_mk (shut_bool Try.underlying4 _) trodAll_mk0), (trodAll_cons_mk (shut_int Try.underlying24 w0) (trodAll_cons_mk (shut_int Try.underlying24 w1) trodAll_mk0)), rfl, hg.frame _, fun h => by cases h⟩

theorem over : Rows.hashTagsRow.holds Try.pinned (OpenSpec.ofChange Rows.hashTagsSpec) :=
  OpenClaim.holds_of_wide 7 Try.f7 rfl rfl rfl rfl rfl rfl rfl ⟨rfl, rfl, rfl, rfl, rfl⟩ rfl rfl rfl rfl rfl (by kernel_rfl) Try.func7 (by kernel_rfl)
    (of_decide_eq_true (by kernel_rfl)) (by unfold Func.isWrapper; first | (rw [if_pos (by decide +kernel)]; kernel_rfl) | (rw [if_neg (by decide +kernel)]; exact ⟨rfl, rfl⟩))
    (fun os started H enc _ => lifted os started H enc)

/-- ████ THE STATEMENT ████ -/
theorem proved : Rows.HashTagsSaid :=
  over
#print axioms proved
end Go.Proofs.Ytlmfdpdcffnocaa.hashTags
