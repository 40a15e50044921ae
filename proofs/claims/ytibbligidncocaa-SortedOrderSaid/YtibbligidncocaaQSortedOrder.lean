/- SortedOrder: keys stand by their hashes, of one hash by themselves; the order of any three is one: for any three texts the law returns true. -/
import Derived.Test.YtibbligidncocaaRows
import Derived.WalkKit
import Derived.ProofKit
import Derived.OpenShut
import Derived.ShutString
import Derived.Test.YtibbligidncocaaM48
namespace Go.Proofs.Ytibbligidncocaa.sortedOrder
open Go.ChangeShapes Go.WideShapes Go.ChangeAt Go.RowKit
open Go.ChangeMaps (open_string shut_string)
set_option linter.unusedVariables false      -- a walk need not use every 'w<i>' (that an integer argument fits its kind)

theorem own : ownKnob Try.prog.godebug = none := by kernel_rfl

set_option maxHeartbeats 4000000 in
set_option maxRecDepth 100000 in
theorem walk (a0 : ByteArray) (a1 : ByteArray) (a2 : ByteArray) (w0 : a0.size ≤ maxLen) (w1 : a1.size ≤ maxLen) (w2 : a2.size ≤ maxLen) (w : World) :
    Calls Try.prog 9 #[.string a0, .string a1, .string a2] w fun e w' => e = .returned (.bool true) ∧ Below w.heap.size w w' := by
  have CBG := Go.Lib.hid begun22_c
  unfold maxLen at w0 w1 w2
  by_cases hbig : 16 < a0.size ∨ 16 < a1.size ∨ 16 < a2.size
  · go_enter Try.func9, Try.ntmps9
    go_wp2_with fail
    refine (CBG.out _).mono ?_
    rintro e w2 ⟨rfl, hc⟩
    have HB := Go.Lib.hid hc
    clear hc CBG
    have hd : (decide (16 < (a0.size : Int)) || decide (16 < (a1.size : Int)) || decide (16 < (a2.size : Int))) = true := by
      rcases hbig with h | h | h
      · rw [show decide (16 < (a0.size : Int)) = true from decide_eq_true (by omega)]; simp
      · rw [show decide (16 < (a1.size : Int)) = true from decide_eq_true (by omega)]; simp
      · rw [show decide (16 < (a2.size : Int)) = true from decide_eq_true (by omega)]; simp
    by_cases h0 : 16 < a0.size
    · have h0i : 16 < (a0.size : Int) := by omega
      clear hd hbig
      go_wp2_with fail
      go_ret
      exact ⟨rfl, HB.out⟩
    · have h0i : ¬ 16 < (a0.size : Int) := by omega
      by_cases h1 : 16 < a1.size
      · have h1i : 16 < (a1.size : Int) := by omega
        clear hd hbig
        go_wp2_with fail
        go_ret
        exact ⟨rfl, HB.out⟩
      · have h1i : ¬ 16 < (a1.size : Int) := by omega
        have h2i : 16 < (a2.size : Int) := by omega
        clear hd hbig
        go_wp2_with fail
        go_ret
        exact ⟨rfl, HB.out⟩
  · have h0i : ¬ 16 < (a0.size : Int) := by omega
    have h1i : ¬ 16 < (a1.size : Int) := by omega
    have h2i : ¬ 16 < (a2.size : Int) := by omega
    have CAA := Go.Lib.hid fun W => sless_c a0 a0 false W (by omega) (by omega) (lessK_irr a0)
    have CAB := Go.Lib.hid fun W => sless_c a0 a1 _ W (by omega) (by omega) rfl
    have CBA := Go.Lib.hid fun W => sless_c a1 a0 _ W (by omega) (by omega) rfl
    have CBC := Go.Lib.hid fun W => sless_c a1 a2 _ W (by omega) (by omega) rfl
    have CAC := Go.Lib.hid fun W => sless_c a0 a2 _ W (by omega) (by omega) rfl
    have CRC := Go.Lib.hid fun W => rless_c a0 a2 _ W (by omega) (by omega) rfl
    have hasy : lessK a0 a1 = true → lessK a1 a0 = false := lessK_asymm
    have htri : (a0.toList != a1.toList) = true → lessK a0 a1 = false → lessK a1 a0 = true := fun hne h1 => by
      rcases lessK_tri a0 a1 with h | h | h
      · rw [h1] at h; cases h
      · subst h; simp at hne
      · exact h
    have htr : lessK a0 a1 = true → lessK a1 a2 = true → lessK a0 a2 = true := lessK_trans
    clear hbig
    generalize lessK a0 a1 = ab at *
    generalize lessK a1 a0 = ba at *
    generalize lessK a1 a2 = bc at *
    generalize lessK a0 a2 = ac at *
    obtain ⟨ne, hne⟩ : ∃ ne, (a0.toList != a1.toList) = ne := ⟨_, rfl⟩
    rw [hne] at htri
    have hne2 : (a0.toList == a1.toList) = !ne := by rw [← hne]; simp [bne]
    go_enter Try.func9, Try.ntmps9
    go_wp2_with fail
    refine (CBG.out _).mono ?_
    rintro e w2 ⟨rfl, hc⟩
    have HB := Go.Lib.hid hc
    clear hc CBG
    go_wp2_with fail
    refine (CAA.out _).mono ?_
    rintro e w3 ⟨rfl, hc⟩
    have HB := Go.Lib.hid (HB.out.trans (hc.mono HB.out.size))
    clear hc
    cases ab with
    | true =>
      obtain rfl : ba = false := by simpa using hasy
      clear hasy htri
      go_wp2_with fail
      refine (CAB.out _).mono ?_
      rintro e w4 ⟨rfl, hc⟩
      have HB := Go.Lib.hid (HB.out.trans (hc.mono HB.out.size))
      clear hc
      go_wp2_with fail
      refine (CBA.out _).mono ?_
      rintro e w5 ⟨rfl, hc⟩
      have HB := Go.Lib.hid (HB.out.trans (hc.mono HB.out.size))
      clear hc
      cases ne with
      | true =>
        go_wp2_with fail
        refine (CAB.out _).mono ?_
        rintro e w6 ⟨rfl, hc⟩
        have HB := Go.Lib.hid (HB.out.trans (hc.mono HB.out.size))
        clear hc
        go_wp2_with fail
        refine (CAB.out _).mono ?_
        rintro e w7 ⟨rfl, hc⟩
        have HB := Go.Lib.hid (HB.out.trans (hc.mono HB.out.size))
        clear hc
        go_wp2_with fail
        refine (CBC.out _).mono ?_
        rintro e w8 ⟨rfl, hc⟩
        have HB := Go.Lib.hid (HB.out.trans (hc.mono HB.out.size))
        clear hc
        cases bc with
        | true =>
          obtain rfl : ac = true := by simpa using htr
          clear htr
          go_wp2_with fail
          refine (CAC.out _).mono ?_
          rintro e w9 ⟨rfl, hc⟩
          have HB := Go.Lib.hid (HB.out.trans (hc.mono HB.out.size))
          clear hc
          go_wp2_with fail
          refine (CRC.out _).mono ?_
          rintro e w10 ⟨rfl, hc⟩
          have HB := Go.Lib.hid (HB.out.trans (hc.mono HB.out.size))
          clear hc
          go_wp2_with fail
          go_ret
          exact ⟨rfl, HB.out⟩
        | false =>
          go_wp2_with fail
          go_ret
          exact ⟨rfl, HB.out⟩
      | false =>
        go_wp2_with fail
        refine (CAB.out _).mono ?_
        rintro e w11 ⟨rfl, hc⟩
        have HB := Go.Lib.hid (HB.out.trans (hc.mono HB.out.size))
        clear hc
        go_wp2_with fail
        refine (CBC.out _).mono ?_
        rintro e w12 ⟨rfl, hc⟩
        have HB := Go.Lib.hid (HB.out.trans (hc.mono HB.out.size))
        clear hc
        cases bc with
        | true =>
          obtain rfl : ac = true := by simpa using htr
          clear htr
          go_wp2_with fail
          refine (CAC.out _).mono ?_
          rintro e w13 ⟨rfl, hc⟩
          have HB := Go.Lib.hid (HB.out.trans (hc.mono HB.out.size))
          clear hc
          go_wp2_with fail
          refine (CRC.out _).mono ?_
          rintro e w14 ⟨rfl, hc⟩
          have HB := Go.Lib.hid (HB.out.trans (hc.mono HB.out.size))
          clear hc
          go_wp2_with fail
          go_ret
          exact ⟨rfl, HB.out⟩
        | false =>
          go_wp2_with fail
          go_ret
          exact ⟨rfl, HB.out⟩
    | false =>
      clear hasy htr
      go_wp2_with fail
      refine (CAB.out _).mono ?_
      rintro e w15 ⟨rfl, hc⟩
      have HB := Go.Lib.hid (HB.out.trans (hc.mono HB.out.size))
      clear hc
      cases ne with
      | true =>
        obtain rfl : ba = true := by simpa using htri
        clear htri
        go_wp2_with fail
        refine (CAB.out _).mono ?_
        rintro e w16 ⟨rfl, hc⟩
        have HB := Go.Lib.hid (HB.out.trans (hc.mono HB.out.size))
        clear hc
        go_wp2_with fail
        refine (CBA.out _).mono ?_
        rintro e w17 ⟨rfl, hc⟩
        have HB := Go.Lib.hid (HB.out.trans (hc.mono HB.out.size))
        clear hc
        go_wp2_with fail
        refine (CAB.out _).mono ?_
        rintro e w18 ⟨rfl, hc⟩
        have HB := Go.Lib.hid (HB.out.trans (hc.mono HB.out.size))
        clear hc
        go_wp2_with fail
        go_ret
        exact ⟨rfl, HB.out⟩
      | false =>
        clear htri
        go_wp2_with fail
        refine (CAB.out _).mono ?_
        rintro e w19 ⟨rfl, hc⟩
        have HB := Go.Lib.hid (HB.out.trans (hc.mono HB.out.size))
        clear hc
        go_wp2_with fail
        go_ret
        exact ⟨rfl, HB.out⟩

/-! ### THE ROW's STEP: WRITTEN OUT: LEAVE IT -/
set_option maxRecDepth 100000 in
theorem lifted (os : Os) (started : os.Started) (H : Type) (enc : TypeId × Value → H) :
    ReturnsInHanded {} Try.checked os 9 .any (Rows.sortedOrderSpec.pre6 enc Try.prog Try.f9 Rows.sortedOrderRow.domain false) (Rows.sortedOrderSpec.post enc Try.prog Try.f9 false true false false) := by
  refine returnsInHanded_of_change (C := Try.checked) own started (by kernel_rfl) Try.func9
    (ChangeSpec.witness6 (enc := enc) (C := Try.checked) false ⟨#[], #[.string ByteArray.empty, .string ByteArray.empty, .string ByteArray.empty], []⟩ 8 (by kernel_rfl) (by kernel_rfl) (by kernel_rfl) (by kernel_rfl)) ?_
  intro W base args ds gs before hval0 hW hcnd _
  have hval : ∀ (j : Nat) t v, Try.f9.params[j]? = some t → args[j]? = some v → Value.okWide Try.prog W .any base t v := hval0
  have hW' := hW
  obtain ⟨p, q, hA0, hV, rfl, hfz, hnd⟩ := hW
  have hA : DataW.TrodAll enc Try.prog W 0 (fun _ => true) true Try.f9.params.toList args.toList ds p := hA0
  rw [Try.params9] at hA hval
  obtain ⟨v0, vs0, d0, ds0, p0, q0, hargs, rfl, rfl, h0, r0⟩ := trodAll_cons hA
  obtain ⟨v1, vs1, d1, ds1, p1, q1, rfl, rfl, rfl, h1, r1⟩ := trodAll_cons r0
  obtain ⟨v2, vs2, d2, ds2, p2, q2, rfl, rfl, rfl, h2, r2⟩ := trodAll_cons r1
  obtain ⟨rfl, rfl, rfl⟩ := trodAll_nil r2
  obtain rfl : args = #[v0, v1, v2] := by cases args; simp_all
  obtain ⟨rfl, rfl⟩ := trodVars_none hV
  obtain ⟨a0, rfl, rfl, rfl, w0⟩ := open_string Try.underlying9 (hval 0 9 v0 rfl rfl) h0
  obtain ⟨a1, rfl, rfl, rfl, w1⟩ := open_string Try.underlying9 (hval 1 9 v1 rfl rfl) h1
  obtain ⟨a2, rfl, rfl, rfl, w2⟩ := open_string Try.underlying9 (hval 2 9 v2 rfl rfl) h2
  clear hA0 hval0
  refine (walk a0 a1 a2 w0 w1 w2 W).mono fun e W' ⟨he, hg⟩ => ?_
  subst he
  exact ⟨_, rfl, _, _, _, [], _, [], hW', (trodAll_cons_mk (shut_bool Try.underlying4 _) trodAll_mk0), (trodAll_cons_mk (shut_string Try.underlying9 w0) (trodAll_cons_mk (shut_string Try.underlying9 w1) (trodAll_cons_mk (shut_string Try.underlying9 w2) trodAll_mk0))), rfl, hg.frame _, fun h => by cases h⟩

theorem over : Rows.sortedOrderRow.holds Try.pinned (OpenSpec.ofChange Rows.sortedOrderSpec) :=
  OpenClaim.holds_of_wide 9 Try.f9 rfl rfl rfl rfl rfl rfl rfl ⟨rfl, rfl, rfl, rfl, rfl⟩ rfl rfl rfl rfl rfl (by kernel_rfl) Try.func9 (by kernel_rfl)
    (of_decide_eq_true (by kernel_rfl)) (by unfold Func.isWrapper; first | (rw [if_pos (by decide +kernel)]; kernel_rfl) | (rw [if_neg (by decide +kernel)]; exact ⟨rfl, rfl⟩))
    (fun os started H enc _ => lifted os started H enc)

/-- ████ THE STATEMENT ████ -/
theorem proved : Rows.SortedOrderSaid :=
  over
#print axioms proved
end Go.Proofs.Ytibbligidncocaa.sortedOrder
