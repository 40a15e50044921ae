/- RunesBack: the runes of a text, written one by one, are the text just if it is valid: for every string the law returns true. -/
import Derived.Test.YtcdpldleackigaaRows
import Derived.WalkKit
import Derived.ProofKit
import Derived.OpenShut
import Derived.ShutString
import Derived.Test.YtcdpldleackigaaRunL
namespace Go.Proofs.Ytcdpldleackigaa.runesBack
open Go.ChangeShapes Go.WideShapes Go.ChangeAt Go.RowKit
open Go.ChangeMaps (open_string shut_string)
set_option linter.unusedVariables false      -- a walk need not use every 'w<i>' (that an integer argument fits its kind)

theorem own : ownKnob Try.prog.godebug = none := by kernel_rfl

set_option maxHeartbeats 1000000 in
set_option maxRecDepth 100000 in
theorem walk (a0 : ByteArray) (w0 : a0.size ≤ maxLen) (w : World) :
    Calls Try.prog 5 #[.string a0] w fun e w' => e = .returned (.bool true) ∧ Below w.heap.size w w' := by
  have CB := Go.Lib.hid (begun_c w)
  have C0 := Go.Lib.hid fun W => lcut_c a0 100 W w0 (by omega)
  obtain ⟨A, hA⟩ : ∃ A, A = (bl a0).take 100 := ⟨_, rfl⟩
  have hAl : A.length ≤ 100 := by rw [hA, List.length_take]; omega
  rw [← hA] at C0
  clear hA w0
  have CO := Go.Lib.hid fun W => of_s A W (by omega)
  have CV := Go.Lib.hid fun W => valid_s A W (by omega)
  have hRv := runes_valid A
  have hweq := Go.Lib.hid (written_eq A)
  have hRl : (runesOf (toks A)).length ≤ 100 := by rw [runesOf_length]; exact Nat.le_trans (toks_length A) hAl
  generalize wellB (toks A) = vb at *
  generalize runesOf (toks A) = R at *
  have hT := toks_written R hRv
  have hTl := flat_len R hRv
  have ct := fun W => valid_s (R.flatMap enc) W (by omega)
  have cn := fun W => count_s (R.flatMap enc) W (by omega)
  rw [hT, well_written] at ct
  rw [hT, List.length_map] at cn
  have hpart := Go.Lib.hid fun k => flat_len (R.take k) (fun r hr => hRv r (List.mem_of_mem_take hr))
  have Ct := Go.Lib.hid ct; clear ct
  have Cn := Go.Lib.hid cn; clear cn
  have HRv := Go.Lib.hid hRv; clear hRv hT hTl
  have hzl := zi_length .i32 R
  have hcells := Go.Lib.hid (zi_at .i32 R)
  go_enter Try.func5, Try.ntmps5
  go_wp2_with fail
  refine CB.out.mono ?_
  rintro e w1 ⟨rfl, hb1⟩
  go_wp2_with fail
  refine (C0.out _).mono ?_
  rintro e w2 ⟨rfl, rfl⟩
  go_wp2_with fail
  refine (CO.out _).mono ?_
  rintro e w2 ⟨v, rfl, hown, hb2⟩
  have hbb2 := hb1.trans (hb2.mono hb1.size)
  have hv := hown.rv
  obtain ⟨p1, c1, rfl, hm1⟩ := hv.form
  rw [hzl] at hv ⊢
  have Hv := Go.Lib.hid hv; clear hv
  clear hzl hm1 hown hb1 hb2 CB C0 CO
  go_wp2_with fail
  go_loop [4, 6] (fun t i => ∃ (k : Nat) (X : List UInt8), k ≤ R.length ∧ i = .int .i64 (k : Int) ∧ t = .string (str X) ∧ Hid (X = (R.take k).flatMap enc)) (fun _ i => R.length - (intOf i).toNat)
  case atStart => exact ⟨0, [], by omega, rfl, rfl, rfl⟩
  case round =>
    obtain ⟨k, X, hk, rfl, rfl, hX⟩ := hrel
    by_cases hlt : k < R.length
    · obtain ⟨b1, o1, rfl, hc1, hl1⟩ := Hv.out.at k (by rw [zi_length]; exact hlt)
      rw [hcells.out k hlt] at hc1
      have hvr := HRv.out R[k] (List.getElem_mem hlt)
      have hel := enc_len _ hvr
      have hXl : X.length ≤ 400 := by
        have := hpart.out k
        rw [← hX.out, List.length_take] at this
        omega
      have hnext : Hid (X ++ enc R[k] = (R.take (k + 1)).flatMap enc) := by
        unfold Hid
        rw [List.take_succ_eq_append_getElem hlt, List.flatMap_append, ← hX.out]
        simp
      clear hvr hl1 hX
      generalize R[k] = r at hc1 hnext hel
      have henc := encode_str r
      have hs12 : (str X).size + (str (enc r)).size ≤ 9223372036854775807 := by rw [str_size, str_size]; omega
      have hcat := str_append X (enc r)
      generalize hY : X ++ enc r = Y at hcat hnext
      generalize hE : str (enc r) = E at *
      clear hE hY hel hXl
      go_wp2_with fail
      go_round
      case rel => exact ⟨k + 1, Y, by omega, by go_num, rfl, hnext⟩
      case measure => simp [intOf]; omega
    · obtain rfl : k = R.length := by omega
      have hX2 := hX.out
      rw [List.take_length] at hX2
      have hbe := text_beq X A
      rw [hX2, hweq.out] at hbe
      rw [← hX2] at hbe Ct Cn
      clear hX hX2 Hv HRv hpart hcells hweq
      go_wp2_with fail
      refine (CV.out _).mono ?_
      rintro e w3 ⟨rfl, hb3⟩
      have hbb3 := hbb2.trans (hb3.mono hbb2.size)
      clear hbe
      go_wp2_with fail
      refine (Ct.out _).mono ?_
      rintro e w4 ⟨rfl, hb4⟩
      have hbb4 := hbb3.trans (hb4.mono hbb3.size)
      go_wp2_with fail
      refine (Cn.out _).mono ?_
      rintro e w5 ⟨rfl, hb5⟩
      have hbb5 := hbb4.trans (hb5.mono hbb4.size)
      go_wp2_with fail
      go_ret
      exact ⟨rfl, hbb5⟩

/-! ### THE ROW's STEP: WRITTEN OUT: LEAVE IT -/
set_option maxRecDepth 100000 in
theorem lifted (os : Os) (started : os.Started) (H : Type) (enc : TypeId × Value → H) :
    ReturnsInHanded {} Try.checked os 5 .any (Rows.runesBackSpec.pre6 enc Try.prog Try.f5 Rows.runesBackRow.domain false) (Rows.runesBackSpec.post enc Try.prog Try.f5 false true false false) := by
  refine returnsInHanded_of_change (C := Try.checked) own started (by kernel_rfl) Try.func5
    (ChangeSpec.witness6 (enc := enc) (C := Try.checked) false ⟨#[], #[.string ByteArray.empty], []⟩ 8 (by kernel_rfl) (by kernel_rfl) (by kernel_rfl) (by kernel_rfl)) ?_
  intro W base args ds gs before hval0 hW hcnd _
  have hval : ∀ (j : Nat) t v, Try.f5.params[j]? = some t → args[j]? = some v → Value.okWide Try.prog W .any base t v := hval0
  have hW' := hW
  obtain ⟨p, q, hA0, hV, rfl, hfz, hnd⟩ := hW
  have hA : DataW.TrodAll enc Try.prog W 0 (fun _ => true) true Try.f5.params.toList args.toList ds p := hA0
  rw [Try.params5] at hA hval
  obtain ⟨v0, vs0, d0, ds0, p0, q0, hargs, rfl, rfl, h0, r0⟩ := trodAll_cons hA
  obtain ⟨rfl, rfl, rfl⟩ := trodAll_nil r0
  obtain rfl : args = #[v0] := by cases args; simp_all
  obtain ⟨rfl, rfl⟩ := trodVars_none hV
  obtain ⟨a0, rfl, rfl, rfl, w0⟩ := open_string Try.underlying9 (hval 0 9 v0 rfl rfl) h0
  clear hA0 hval0
  refine (walk a0 w0 W).mono fun e W' ⟨he, hg⟩ => ?_
  subst he
  exact ⟨_, rfl, _, _, _, [], _, [], hW', (trodAll_cons_mk (shut_bool Try.underlying4 _) trodAll_mk0), (trodAll_cons_mk (shut_string Try.underlying9 w0) trodAll_mk0), rfl, hg.frame _, fun h => by cases h⟩

theorem over : Rows.runesBackRow.holds Try.pinned (OpenSpec.ofChange Rows.runesBackSpec) :=
  OpenClaim.holds_of_wide 5 Try.f5 rfl rfl rfl rfl rfl rfl rfl ⟨rfl, rfl, rfl, rfl, rfl⟩ rfl rfl rfl rfl rfl (by kernel_rfl) Try.func5 (by kernel_rfl)
    (of_decide_eq_true (by kernel_rfl)) (by unfold Func.isWrapper; first | (rw [if_pos (by decide +kernel)]; kernel_rfl) | (rw [if_neg (by decide +kernel)]; exact ⟨rfl, rfl⟩))
    (fun os started H enc _ => lifted os started H enc)

/-- ████ THE STATEMENT ████ -/
theorem proved : Rows.RunesBackSaid :=
  over
#print axioms proved
end Go.Proofs.Ytcdpldleackigaa.runesBack
