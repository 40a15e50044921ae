/- SortedAll: each key is found, no other one is, by looks at the pairs of one hash alone; from its bytes, too: for every input the law returns true. -/
import Derived.Test.YtibbligidncocaaRows
import Derived.WalkKit
import Derived.ProofKit
import Derived.OpenShut
import Derived.ShutString
import Derived.ChangeOld
import Derived.Below
import Derived.Test.YtibbligidncocaaM08
import Derived.Test.YtibbligidncocaaM48
import Derived.Test.YtibbligidncocaaM05
namespace Go.Proofs.Ytibbligidncocaa.sortedAll
open Go.ChangeShapes Go.WideShapes Go.ChangeAt Go.RowKit
open Go.ChangeMaps (open_string shut_string)
set_option linter.unusedVariables false

theorem own : ownKnob Try.prog.godebug = none := by kernel_rfl
theorem laidOut : laidOutB Try.prog = true := by kernel_rfl

set_option maxHeartbeats 4000000 in
set_option maxRecDepth 100000 in
theorem walk (w : World) (a0 : Option Addr) (len0 cap0 : Nat) (l0 : List RecT) (w0 : RRec w (.slice a0 len0 cap0) l0) (a1 : ByteArray) (w1 : a1.size ≤ maxLen) :
    Calls Try.prog 3 #[.slice a0 len0 cap0, .string a1] w fun e w' => e = .returned (.bool true) ∧ Below w.heap.size w w' := by
  have CBG := Go.Lib.hid begun22_c
  have CP := Go.Lib.hid fun W (hb : Below w.heap.size w W) => spairs_c (.slice a0 len0 cap0) l0 W (w0.below hb)
  have CC := Go.Lib.hid fun W => lcut_c a1 20 W w1 (by omega)
  have HASK := Go.Lib.hid (show (str ((bl a1).take 20)).size ≤ 1000000 from by rw [str_size, List.length_take]; omega)
  clear w0 w1
  generalize str ((bl a1).take 20) = ask at *
  go_enter Try.func3, Try.ntmps3
  go_wp2_with fail
  refine (CBG.out _).mono ?_
  rintro e w2 ⟨rfl, hc⟩
  have HB := Go.Lib.hid hc
  clear hc CBG
  go_wp2_with fail
  refine (CP.out _ HB.out).mono ?_
  rintro e w3 ⟨v3, P, rfl, hp, ho, hc⟩
  have HP := Go.Lib.hid hp
  have HO := Go.Lib.hid ho.r
  have HB := Go.Lib.hid (HB.out.trans (hc.mono HB.out.size))
  clear hp ho hc CP
  go_wp2_with fail
  refine (CC.out _).mono ?_
  rintro e w4 ⟨rfl, rfl⟩
  clear CC
  have CN := Go.Lib.hid (snew_ok HP.out.may v3 w3 HO.out)
  go_wp2_with fail
  refine CN.out.mono ?_
  rintro e w5 ⟨p, rfl, hw, hc⟩
  have H := Go.Lib.hid hw
  have HO := Go.Lib.hid (HO.out.below hc)
  have HB := Go.Lib.hid (HB.out.trans (hc.mono HB.out.size))
  clear hw hc CN
  have CR := Go.Lib.hid (sright_c H.out v3 HO.out HP.out.ok ask HASK.out)
  go_wp2_with fail
  refine CR.out.mono ?_
  rintro e w6 ⟨rfl, hc⟩
  have H := Go.Lib.hid (H.out.below hc)
  have HO := Go.Lib.hid (HO.out.below hc)
  have HB := Go.Lib.hid (HB.out.trans (hc.mono HB.out.size))
  clear hc CR
  have CBY := Go.Lib.hid (sbytes_c H.out HP.out.ok)
  go_wp2_with fail
  refine CBY.out.mono ?_
  rintro e w7 ⟨v7, rfl, ho, hc⟩
  rw [(srow_back HP.out.may HP.out.live HP.out.ok).1] at ho
  have HRB := Go.Lib.hid ho.rb
  have HO := Go.Lib.hid (HO.out.below hc)
  have HB := Go.Lib.hid (HB.out.trans (hc.mono HB.out.size))
  clear hc ho CBY H
  have COP := Go.Lib.hid (sopen_ok HP.out.may HP.out.live HP.out.ok v7 w7 HRB.out)
  go_wp2_with fail
  refine COP.out.mono ?_
  rintro e w8 ⟨p2, rfl, hw, hc⟩
  have H := Go.Lib.hid hw
  have HO := Go.Lib.hid (HO.out.below hc)
  have HB := Go.Lib.hid (HB.out.trans (hc.mono HB.out.size))
  clear hw hc COP HRB
  have CR := Go.Lib.hid (sright_c H.out v3 HO.out HP.out.ok ask HASK.out)
  go_wp2_with fail
  refine CR.out.mono ?_
  rintro e w9 ⟨rfl, hc⟩
  have HB := Go.Lib.hid (HB.out.trans (hc.mono HB.out.size))
  clear hc CR
  go_wp2_with fail
  go_ret
  exact ⟨rfl, HB.out⟩

/-! ### THE ROW -/
set_option maxRecDepth 100000 in
theorem lifted (os : Os) (started : os.Started) (H : Type) (enc : TypeId × Value → H) :
    ReturnsInHanded {} Try.checked os 3 .any (Rows.sortedAllSpec.pre6 enc Try.prog Try.f3 Rows.sortedAllRow.domain false) (Rows.sortedAllSpec.post enc Try.prog Try.f3 false true false false) := by
  refine returnsInHanded_of_change (C := Try.checked) own started (by kernel_rfl) Try.func3
    (ChangeSpec.witness6 (enc := enc) (C := Try.checked) false ⟨#[], #[.slice none 0 0, .string ByteArray.empty], []⟩ 8 (by kernel_rfl) (by kernel_rfl) (by kernel_rfl) (by kernel_rfl)) ?_
  intro W base args ds gs before hval0 hW hcnd _
  have hval : ∀ (j : Nat) t v, Try.f3.params[j]? = some t → args[j]? = some v → Value.okWide Try.prog W .any base t v := hval0
  have hW' := hW
  obtain ⟨p, q, hA0, hV, rfl, hfz, hnd⟩ := hW
  have hA : DataW.TrodAll enc Try.prog W 0 (fun _ => true) true Try.f3.params.toList args.toList ds p := hA0
  rw [Try.params3] at hA hval
  obtain ⟨v0, vs0, d0, ds0, p0, q0, hargs, rfl, rfl, h0, r0⟩ := trodAll_cons hA
  obtain ⟨v1, vs1, d1, ds1, p1, q1, rfl, rfl, rfl, h1, r1⟩ := trodAll_cons r0
  obtain ⟨rfl, rfl, rfl⟩ := trodAll_nil r1
  obtain rfl : args = #[v0, v1] := by cases args; simp_all
  obtain ⟨rfl, rfl⟩ := trodVars_none hV
  have kk0 := h0
  have lt0 : ∀ x ∈ p0, x.block < W.heap.size := by obtain ⟨m, hm⟩ := kk0; exact DataW.trod_lt m _ _ _ hm
  have kk1 := h1
  have lt1 : ∀ x ∈ p1, x.block < W.heap.size := by obtain ⟨m, hm⟩ := kk1; exact DataW.trod_lt m _ _ _ hm
  obtain ⟨a0, len0, cap0, rfl⟩ := okWide_slice Try.underlying22 (hval 0 22 v0 rfl rfl)
  obtain ⟨l0, w0⟩ := open_recs h0
  obtain ⟨a1, rfl, rfl, rfl, w1⟩ := open_string Try.underlying9 (hval 1 9 v1 rfl rfl) h1
  clear hA0 hval0
  refine (walk W a0 len0 cap0 l0 w0 a1 w1).mono fun e W' ⟨he, bel⟩ => ?_
  subst he
  exact ⟨_, rfl, _, _, _, [], _, [], hW', trodAll_mk1 (shut_bool Try.underlying4 _), (trodAll_cons_mk (Below.trod laidOut (by kernel_rfl) (of_decide_eq_true (by kernel_rfl)) kk0 bel lt0) (trodAll_cons_mk (Below.trod laidOut (by kernel_rfl) (of_decide_eq_true (by kernel_rfl)) kk1 bel lt1) trodAll_mk0)), rfl, bel.frame _, fun h => by cases h⟩

theorem over : Rows.sortedAllRow.holds Try.pinned (OpenSpec.ofChange Rows.sortedAllSpec) :=
  OpenClaim.holds_of_wide 3 Try.f3 rfl rfl rfl rfl rfl rfl rfl ⟨rfl, rfl, rfl, rfl, rfl⟩ rfl rfl rfl rfl rfl (by kernel_rfl) Try.func3 (by kernel_rfl)
    (of_decide_eq_true (by kernel_rfl)) (by unfold Func.isWrapper; first | (rw [if_pos (by decide +kernel)]; kernel_rfl) | (rw [if_neg (by decide +kernel)]; exact ⟨rfl, rfl⟩))
    (fun os started H enc _ => lifted os started H enc)

theorem proved : Rows.SortedAllSaid := over
#print axioms proved
end Go.Proofs.Ytibbligidncocaa.sortedAll
