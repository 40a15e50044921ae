/- RunesOne: each rune that can be written is one rune, and itself again: for every int32 and every number the law returns true. -/
import Derived.Test.YtcdpldleackigaaRows
import Derived.WalkKit
import Derived.ProofKit
import Derived.OpenShut
import Derived.ShutString
import Derived.Test.YtcdpldleackigaaRunL
import Derived.Deep.DeepCutAuto
namespace Go.Proofs.Ytcdpldleackigaa.runesOne
open Go.ChangeShapes Go.WideShapes Go.ChangeAt Go.RowKit
open Go.ChangeMaps (open_string shut_string)
set_option linter.unusedVariables false      -- a walk need not use every 'w<i>' (that an integer argument fits its kind)

theorem own : ownKnob Try.prog.godebug = none := by kernel_rfl

set_option maxHeartbeats 2000000 in
set_option maxRecDepth 100000 in
theorem walk (a0 : Int) (a1 : Int) (w0 : (Lit.int .i32 a0).wf = true) (w1 : (Lit.int .i64 a1).wf = true) (w : World) :
    Calls Try.prog 8 #[.int .i32 a0, .int .i64 a1] w fun e w' => e = .returned (.bool true) ∧ Below w.heap.size w w' := by
  clear w0 w1
  have CB := Go.Lib.hid (begun_c w)
  go_enter Try.func8, Try.ntmps8
  go_wp2_with fail
  refine CB.out.mono ?_
  rintro e w1 ⟨rfl, hb1⟩
  clear CB
  by_cases hl : a1 < 1
  · go_wp2_with fail
    go_ret
    exact ⟨rfl, hb1⟩
  by_cases hh : 10 < a1
  · go_wp2_with fail
    go_ret
    exact ⟨rfl, hb1⟩
  obtain ⟨n, rfl⟩ : ∃ n : Nat, a1 = (n : Int) := ⟨a1.toNat, by omega⟩
  have hn1 : 1 ≤ n := by omega
  have hn10 : n ≤ 10 := by omega
  clear hl hh
  have hE := encode_int a0
  have hWv := want_valid a0
  have hWc : Hid ((a0 < 0 ∧ wantN a0 = 65533) ∨ (1114111 < a0 ∧ wantN a0 = 65533) ∨ (55296 ≤ a0 ∧ a0 < 57344 ∧ wantN a0 = 65533) ∨ (((0 ≤ a0 ∧ a0 < 55296) ∨ (57344 ≤ a0 ∧ a0 ≤ 1114111)) ∧ a0 = (wantN a0 : Int))) := by
    have hv := validZ a0
    unfold Hid wantN
    by_cases h : Utf8.valid a0 = true
    · rw [if_pos h]
      have := hv.1 h
      omega
    · rw [if_neg h]
      have : ¬ ((0 ≤ a0 ∧ a0 < 55296) ∨ (57344 ≤ a0 ∧ a0 ≤ 1114111)) := fun g => h (hv.2 g)
      omega
  generalize wantN a0 = W at *
  have hel := enc_len W hWv
  obtain ⟨E, hE0⟩ : ∃ E, Utf8.encode a0 = E := ⟨_, rfl⟩
  rw [hE0] at hE
  have hEs1 : E.size ≤ 4 := by rw [hE, str_size]; omega
  have hEs : Hid (E.size = (enc W).length) := by unfold Hid; rw [hE, str_size]
  have hpart := Go.Lib.hid fun k => flat_len (List.replicate k W) (fun r hr => by rw [List.eq_of_mem_replicate hr]; exact hWv)
  have HE := Go.Lib.hid hE
  have HWv := Go.Lib.hid fun (_ : True) => hWv
  clear hel hE hWv
  go_wp2_with fail
  clear hE0
  go_loop [7, 8] (fun t i => ∃ (k : Nat) (X : List UInt8), k ≤ n ∧ i = .int .i64 (k : Int) ∧ t = .string (str X) ∧ Hid (X = (List.replicate k W).flatMap enc)) (fun _ i => n - (intOf i).toNat)
  case atStart => exact ⟨0, [], by omega, rfl, rfl, rfl⟩
  case round =>
    obtain ⟨k, X, hk, rfl, rfl, hX⟩ := hrel
    by_cases hlt : k < n
    · have hXl : X.length ≤ 400 := by
        have := hpart.out k
        rw [← hX.out, List.length_replicate] at this
        omega
      have hnext : Hid (X ++ enc W = (List.replicate (k + 1) W).flatMap enc) := by
        unfold Hid
        rw [List.replicate_succ', List.flatMap_append, ← hX.out]
        simp
      have hcat : str X ++ E = str (X ++ enc W) := by rw [HE.out, str_append]
      have hs12 : (str X).size + E.size ≤ 9223372036854775807 := by rw [str_size]; omega
      generalize X ++ enc W = Y at hcat hnext
      clear hX hXl
      go_wp2_with fail
      go_round
      case rel => exact ⟨k + 1, Y, by omega, by go_num, rfl, hnext⟩
      case measure => simp [intOf]; omega
    · obtain rfl : k = n := by omega
      have ht := toks_rep k W (HWv.out trivial)
      have hXl := hpart.out k
      rw [← hX.out] at ht hXl
      rw [List.length_replicate] at hXl
      have co := fun Z => of_s X Z (by omega)
      have cv := fun Z => valid_s X Z (by omega)
      have ca := fun (i : Nat) Z => at_s X (i : Int) Z (by omega)
      have hat := Go.Lib.hid fun i (hi : i < k) => at_rep k W i (HWv.out trivial) hi
      rw [← hX.out, ← hEs.out] at hat
      have hr : runesOf (toks X) = List.replicate k W := by rw [ht]; simp [runesOf]
      have hw : wellB (toks X) = true := by rw [ht]; simp [wellB]
      rw [hr] at co
      rw [hw] at cv
      have Co := Go.Lib.hid co; clear co
      have Cv := Go.Lib.hid cv; clear cv
      have Ca := Go.Lib.hid ca; clear ca
      clear ht hr hw hX hXl hpart
      have hzl := Go.Lib.hid (zi_length .i32 (List.replicate k W))
      have hcells := Go.Lib.hid (zi_at .i32 (List.replicate k W))
      have hrl : (List.replicate k W).length = k := List.length_replicate
      have hge := Go.Lib.hid fun i (hi : i < (List.replicate k W).length) => (List.getElem_replicate hi : (List.replicate k W)[i] = W)
      generalize List.replicate k W = R at *
      clear HWv HE hEs
      obtain ⟨V, hV⟩ : ∃ V : Int, (W : Int) = V := ⟨_, rfl⟩
      have hWV : Hid ((a0 < 0 ∧ V = 65533) ∨ (1114111 < a0 ∧ V = 65533) ∨ (55296 ≤ a0 ∧ a0 < 57344 ∧ V = 65533) ∨ (((0 ≤ a0 ∧ a0 < 55296) ∨ (57344 ≤ a0 ∧ a0 ≤ 1114111)) ∧ a0 = V)) := by
        have := hWc.out
        unfold Hid
        omega
      have hV := Go.Lib.hid fun (_ : True) => hV
      clear hWc
      rename_i hVold
      clear hVold
      rcases hWV.out with ⟨h1, rfl⟩ | ⟨h1, rfl⟩ | ⟨h1, h2, rfl⟩ | ⟨⟨h1, h2⟩ | ⟨h1, h2⟩, rfl⟩
      all_goals
        clear hWV
        go_wp2_with fail
        refine (Co.out _).mono ?_
        rintro e w2 ⟨v, rfl, hown, hb2⟩
        have hbb2 := hb1.trans (hb2.mono hb1.size)
        have hv := hown.rv
        obtain ⟨p1, c1, rfl, hm1⟩ := hv.form
        rw [hzl.out, hrl] at hv ⊢
        have Hv := Go.Lib.hid hv
        clear hv hm1 hown hb2 Co h1
        go_wp2_with fail
        refine (Cv.out _).mono ?_
        rintro e w3 ⟨rfl, hb3⟩
        have hbb3 := hbb2.trans (hb3.mono hbb2.size)
        have Hv := Go.Lib.hid (Hv.out.below hb3)
        clear hb3 Cv hbb2
        go_wp2_with fail
        go_loopw [11] (fun i wr => ∃ q : Nat, q ≤ k ∧ i = .int .i64 (q : Int) ∧ Below w3.heap.size w3 wr) (fun i _ => k - (intOf i).toNat)
        case atStart => exact ⟨0, by omega, rfl, Below.refl _ _⟩
        case round =>
          obtain ⟨q, hq, rfl, hbr⟩ := hrel
          by_cases hlt : q < k
          · have hRq : q < R.length := by omega
            obtain ⟨b1, o1, rfl, hc1, hl1⟩ := (Hv.out.below hbr).at q (by rw [zi_length]; exact hRq)
            rw [hcells.out q hRq, hge.out q hRq, hV.out trivial] at hc1
            have ca := Ca.out q wr
            rw [hat.out q hlt] at ca
            unfold dv at ca
            rw [hV.out trivial] at ca
            have hp40 : q * E.size ≤ 40 := Nat.le_trans (Nat.mul_le_mul (by omega) hEs1 : q * E.size ≤ 10 * 4) (by omega)
            have hcast : ((q * E.size : Nat) : Int) = (q : Int) * (E.size : Int) := Int.natCast_mul _ _
            obtain ⟨P, hP⟩ : ∃ P : Nat, q * E.size = P := ⟨_, rfl⟩
            rw [hP] at hcast hp40 ca
            have Ca2 := Go.Lib.hid ca
            clear ca hP hl1
            go_wp2_with fail
            refine Ca2.out.mono ?_
            rintro e w5 ⟨rfl, hb5⟩
            have hc5 := (hb5.cell (p := ⟨b1, o1 + q, none⟩) (World.block_lt_of_cell? wr _ hc1)).trans hc1
            have hbr5 := hbr.trans (hb5.mono hbr.size)
            clear hc1 hb5
            go_wp2_with fail
            go_roundw
            case rel => exact ⟨q + 1, by omega, by go_num, hbr5⟩
            case measure => simp [intOf]; omega
          · obtain rfl : q = k := by omega
            go_wp2_with fail
            go_ret
            exact ⟨rfl, hbb3.trans (hbr.mono hbb3.size)⟩

/-! ### THE ROW's STEP: WRITTEN OUT: LEAVE IT -/
set_option maxRecDepth 100000 in
theorem lifted (os : Os) (started : os.Started) (H : Type) (enc : TypeId × Value → H) :
    ReturnsInHanded {} Try.checked os 8 .any (Rows.runesOneSpec.pre6 enc Try.prog Try.f8 Rows.runesOneRow.domain false) (Rows.runesOneSpec.post enc Try.prog Try.f8 false true false false) := by
  refine returnsInHanded_of_change (C := Try.checked) own started (by kernel_rfl) Try.func8
    (ChangeSpec.witness6 (enc := enc) (C := Try.checked) false ⟨#[], #[.int .i32 0, .int .i64 0], []⟩ 8 (by kernel_rfl) (by kernel_rfl) (by kernel_rfl) (by kernel_rfl)) ?_
  intro W base args ds gs before hval0 hW hcnd _
  have hval : ∀ (j : Nat) t v, Try.f8.params[j]? = some t → args[j]? = some v → Value.okWide Try.prog W .any base t v := hval0
  have hW' := hW
  obtain ⟨p, q, hA0, hV, rfl, hfz, hnd⟩ := hW
  have hA : DataW.TrodAll enc Try.prog W 0 (fun _ => true) true Try.f8.params.toList args.toList ds p := hA0
  rw [Try.params8] at hA hval
  obtain ⟨v0, vs0, d0, ds0, p0, q0, hargs, rfl, rfl, h0, r0⟩ := trodAll_cons hA
  obtain ⟨v1, vs1, d1, ds1, p1, q1, rfl, rfl, rfl, h1, r1⟩ := trodAll_cons r0
  obtain ⟨rfl, rfl, rfl⟩ := trodAll_nil r1
  obtain rfl : args = #[v0, v1] := by cases args; simp_all
  obtain ⟨rfl, rfl⟩ := trodVars_none hV
  obtain ⟨a0, rfl, rfl, rfl, w0⟩ := open_int Try.underlying21 (hval 0 21 v0 rfl rfl) h0
  obtain ⟨a1, rfl, rfl, rfl, w1⟩ := open_int Try.underlying3 (hval 1 3 v1 rfl rfl) h1
  clear hA0 hval0
  refine (walk a0 a1 w0 w1 W).mono fun e W' ⟨he, hg⟩ => ?_
  subst he
  exact ⟨_, rfl, _, _, _, [], _, [], hW', (trodAll_cons_mk (shut_bool Try.underlying4 _) trodAll_mk0), (trodAll_cons_mk (shut_int Try.underlying21 w0) (trodAll_cons_mk (shut_int Try.underlying3 w1) trodAll_mk0)), rfl, hg.frame _, fun h => by cases h⟩

theorem over : Rows.runesOneRow.holds Try.pinned (OpenSpec.ofChange Rows.runesOneSpec) :=
  OpenClaim.holds_of_wide 8 Try.f8 rfl rfl rfl rfl rfl rfl rfl ⟨rfl, rfl, rfl, rfl, rfl⟩ rfl rfl rfl rfl rfl (by kernel_rfl) Try.func8 (by kernel_rfl)
    (of_decide_eq_true (by kernel_rfl)) (by unfold Func.isWrapper; first | (rw [if_pos (by decide +kernel)]; kernel_rfl) | (rw [if_neg (by decide +kernel)]; exact ⟨rfl, rfl⟩))
    (fun os started H enc _ => lifted os started H enc)

/-- ████ THE STATEMENT ████ -/
theorem proved : Rows.RunesOneSaid :=
  over
#print axioms proved
end Go.Proofs.Ytcdpldleackigaa.runesOne
