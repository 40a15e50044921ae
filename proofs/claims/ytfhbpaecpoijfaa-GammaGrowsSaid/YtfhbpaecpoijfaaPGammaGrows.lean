/- GammaGrows: a greater number has no fewer bits; of as many digits as many: for every input the law returns true. -/
import Derived.Test.YtfhbpaecpoijfaaRows
import Derived.WalkKit
import Derived.ProofKit
import Derived.OpenShut
import Derived.ShutString
import Derived.Test.YtfhbpaecpoijfaaBegun7
namespace Go.Proofs.Ytfhbpaecpoijfaa.gammaGrows
open Go.ChangeShapes Go.WideShapes Go.ChangeAt Go.RowKit
open Go.ChangeMaps (open_string shut_string)
set_option linter.unusedVariables false      -- a walk need not use every 'w<i>' (that an integer argument fits its kind)

theorem own : ownKnob Try.prog.godebug = none := by kernel_rfl

theorem two_pow_64 (k : Nat) (h : k ≤ 63) : 2 ^ k < 18446744073709551616 := Nat.lt_of_lt_of_le (Nat.pow_lt_pow_right (by omega) (show k < 64 by omega)) (by decide)
theorem shl_one (k : Nat) (h : k ≤ 63) : IntKind.u64.wrap (2 ^ k) = ((2 ^ k : Nat) : Int) := by
  have h1 := two_pow_64 k h
  have e : (2 : Int) ^ k = ((2 ^ k : Nat) : Int) := by simp
  rw [e, IntKind.wrap_u64]
  generalize 2 ^ k = q at *
  omega
theorem all_ones (k : Nat) (h : k ≤ 63) : bits .or .u64 (IntKind.u64.wrap (2 ^ k)) (IntKind.u64.wrap (IntKind.u64.wrap (2 ^ k) - 1)) = ((2 ^ (k + 1) - 1 : Nat) : Int) := by
  have h1 := two_pow_64 k h
  have h0 : 0 < 2 ^ k := Nat.pow_pos (by omega)
  have e2 : IntKind.u64.wrap (((2 ^ k : Nat) : Int) - 1) = ((2 ^ k - 1 : Nat) : Int) := by
    rw [IntKind.wrap_u64]
    generalize 2 ^ k = q at *
    omega
  rw [shl_one k h, e2, u64_or_nat _ _ h1 (by omega)]
  have := or_val 1 (2 ^ k - 1) k (by omega)
  rw [Nat.one_mul] at this
  rw [this, Nat.pow_succ]
  congr 1
  omega
theorem len_pow (k : Nat) : (gam (2 ^ k)).length = 2 * k + 1 := by
  rw [gam_length, digits_eq (Nat.le_refl _) (Nat.pow_lt_pow_right (by omega) (by omega))]
  omega
theorem len_ones (k : Nat) : (gam (2 ^ (k + 1) - 1)).length = 2 * k + 1 := by
  have h0 : 0 < 2 ^ k := Nat.pow_pos (by omega)
  rw [gam_length, digits_eq (k := k) (by rw [Nat.pow_succ]; omega) (by have : 0 < 2 ^ (k + 1) := Nat.pow_pos (by omega); omega)]
  omega

set_option maxHeartbeats 1000000 in
set_option maxRecDepth 100000 in
theorem walk (a0 : Int) (a1 : Int) (a2 : Int) (w0 : (Lit.int .u64 a0).wf = true) (w1 : (Lit.int .u64 a1).wf = true) (w2 : (Lit.int .i64 a2).wf = true) (w : World) :
    Calls Try.prog 5 #[.int .u64 a0, .int .u64 a1, .int .i64 a2] w fun e w' => e = .returned (.bool true) ∧ Below w.heap.size w w' := by
  obtain ⟨x0, x1⟩ := bounds_u64 w0
  obtain ⟨y0, y1⟩ := bounds_u64 w1
  obtain ⟨x, rfl⟩ : ∃ x : Nat, a0 = (x : Int) := ⟨a0.toNat, by omega⟩
  obtain ⟨y, rfl⟩ : ∃ y : Nat, a1 = (y : Int) := ⟨a1.toNat, by omega⟩
  have hx : x < 18446744073709551616 := by omega
  have hy : y < 18446744073709551616 := by omega
  have CX := Go.Lib.hid fun W => glen_c x W hx
  have CY := Go.Lib.hid fun W => glen_c y W hy
  have hmono : x ≤ y → ¬ (((gam y).length : Nat) : Int) < ((gam x).length : Int) := fun h => by
    have := digits_mono h
    rw [gam_length, gam_length]
    omega
  have Hmono := Go.Lib.hid hmono
  have Cpow := Go.Lib.hid fun (k : Nat) (hk : k ≤ 63) W => glen_c (2 ^ k) W (two_pow_64 k hk)
  have Cones := Go.Lib.hid fun (k : Nat) (hk : k ≤ 63) W => glen_c (2 ^ (k + 1) - 1) W (by
    have h1 := two_pow_64 k hk
    have : 2 ^ (k + 1) ≤ 2 ^ 64 := Nat.pow_le_pow_right (by omega) (by omega)
    have : 0 < 2 ^ (k + 1) := Nat.pow_pos (by omega)
    omega)
  generalize (gam x).length = lx at *
  generalize (gam y).length = ly at *
  clear w0 w1 w2 x0 x1 y0 y1 hx hy hmono
  go_enter Try.func5, Try.ntmps5
  go_wp2_with fail
  refine (begun_c _).mono ?_
  rintro e w1 ⟨rfl, hbb⟩
  by_cases h1 : (x : Int) < 1
  · go_wp2_with fail
    go_ret
    exact ⟨rfl, hbb⟩
  by_cases h2 : (y : Int) < (x : Int)
  · go_wp2_with fail
    go_ret
    exact ⟨rfl, hbb⟩
  have hm := Hmono.out (by omega)
  clear Hmono
  go_wp2_with fail
  refine (CX.out _).mono ?_
  rintro e w2 ⟨rfl, rfl⟩
  go_wp2_with fail
  refine (CY.out _).mono ?_
  rintro e w2 ⟨rfl, rfl⟩
  by_cases h3 : a2 < 0
  · go_wp2_with fail
    go_ret
    exact ⟨rfl, hbb⟩
  by_cases h4 : 63 < a2
  · go_wp2_with fail
    go_ret
    exact ⟨rfl, hbb⟩
  obtain ⟨k, rfl⟩ : ∃ k : Nat, a2 = (k : Int) := ⟨a2.toNat, by omega⟩
  have hk : k ≤ 63 := by omega
  have C1 := fun W => Cpow.out k hk W
  have C2 := fun W => Cones.out k hk W
  rw [← shl_one k hk, len_pow] at C1
  rw [← all_ones k hk, len_ones] at C2
  have K1 := Go.Lib.hid C1
  have K2 := Go.Lib.hid C2
  clear C1 C2 Cpow Cones CX CY
  have hkk : ((2 * k + 1 : Nat) : Int) = 2 * (k : Int) + 1 := by omega
  have Hkk := Go.Lib.hid hkk
  clear hkk h3 h4
  go_wp2_with fail
  refine (K1.out _).mono ?_
  rintro e w2 ⟨rfl, rfl⟩
  rw [Hkk.out]
  go_wp2_with fail
  refine (K2.out _).mono ?_
  rintro e w2 ⟨rfl, rfl⟩
  rw [Hkk.out]
  go_wp2_with fail
  go_ret
  exact ⟨rfl, hbb⟩

/-! ### THE ROW's STEP: WRITTEN OUT: LEAVE IT -/
set_option maxRecDepth 100000 in
theorem lifted (os : Os) (started : os.Started) (H : Type) (enc : TypeId × Value → H) :
    ReturnsInHanded {} Try.checked os 5 .any (Rows.gammaGrowsSpec.pre6 enc Try.prog Try.f5 Rows.gammaGrowsRow.domain false) (Rows.gammaGrowsSpec.post enc Try.prog Try.f5 false true false false) := by
  refine returnsInHanded_of_change (C := Try.checked) own started (by kernel_rfl) Try.func5
    (ChangeSpec.witness6 (enc := enc) (C := Try.checked) false ⟨#[], #[.int .u64 0, .int .u64 0, .int .i64 0], []⟩ 8 (by kernel_rfl) (by kernel_rfl) (by kernel_rfl) (by kernel_rfl)) ?_
  intro W base args ds gs before hval0 hW hcnd _
  have hval : ∀ (j : Nat) t v, Try.f5.params[j]? = some t → args[j]? = some v → Value.okWide Try.prog W .any base t v := hval0
  have hW' := hW
  obtain ⟨p, q, hA0, hV, rfl, hfz, hnd⟩ := hW
  have hA : DataW.TrodAll enc Try.prog W 0 (fun _ => true) true Try.f5.params.toList args.toList ds p := hA0
  rw [Try.params5] at hA hval
  obtain ⟨v0, vs0, d0, ds0, p0, q0, hargs, rfl, rfl, h0, r0⟩ := trodAll_cons hA
  obtain ⟨v1, vs1, d1, ds1, p1, q1, rfl, rfl, rfl, h1, r1⟩ := trodAll_cons r0
  obtain ⟨v2, vs2, d2, ds2, p2, q2, rfl, rfl, rfl, h2, r2⟩ := trodAll_cons r1
  obtain ⟨rfl, rfl, rfl⟩ := trodAll_nil r2
  obtain rfl : args = #[v0, v1, v2] := by cases args; simp_all
  obtain ⟨rfl, rfl⟩ := trodVars_none hV
  obtain ⟨a0, rfl, rfl, rfl, w0⟩ := open_int Try.underlying31 (hval 0 31 v0 rfl rfl) h0
  obtain ⟨a1, rfl, rfl, rfl, w1⟩ := open_int Try.underlying31 (hval 1 31 v1 rfl rfl) h1
  obtain ⟨a2, rfl, rfl, rfl, w2⟩ := open_int Try.underlying3 (hval 2 3 v2 rfl rfl) h2
  clear hA0 hval0
  refine (walk a0 a1 a2 w0 w1 w2 W).mono fun e W' ⟨he, hg⟩ => ?_
  subst he
  exact ⟨_, rfl, _, _, _, [], _, [], hW', (trodAll_cons_mk (shut_bool Try.underlying4 _) trodAll_mk0), (trodAll_cons_mk (shut_int Try.underlying31 w0) (trodAll_cons_mk (shut_int Try.underlying31 w1) (trodAll_cons_mk (shut_int Try.underlying3 w2) trodAll_mk0))), rfl, hg.frame _, fun h => by cases h⟩

theorem over : Rows.gammaGrowsRow.holds Try.pinned (OpenSpec.ofChange Rows.gammaGrowsSpec) :=
  OpenClaim.holds_of_wide 5 Try.f5 rfl rfl rfl rfl rfl rfl rfl ⟨rfl, rfl, rfl, rfl, rfl⟩ rfl rfl rfl rfl rfl (by kernel_rfl) Try.func5 (by kernel_rfl)
    (of_decide_eq_true (by kernel_rfl)) (by unfold Func.isWrapper; first | (rw [if_pos (by decide +kernel)]; kernel_rfl) | (rw [if_neg (by decide +kernel)]; exact ⟨rfl, rfl⟩))
    (fun os started H enc _ => lifted os started H enc)

/-- ████ THE STATEMENT ████ -/
theorem proved : Rows.GammaGrowsSaid :=
  over
#print axioms proved
end Go.Proofs.Ytfhbpaecpoijfaa.gammaGrows
