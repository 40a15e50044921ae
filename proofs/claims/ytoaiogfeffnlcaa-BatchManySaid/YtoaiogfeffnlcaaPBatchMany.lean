/- BatchMany: a row has at most a thousand records: for every number the law returns true. -/
import Derived.Test.YtoaiogfeffnlcaaRows
import Derived.WalkKit
import Derived.ProofKit
import Derived.OpenShut
import Derived.ShutString
import Derived.Test.YtoaiogfeffnlcaaBatL
import Derived.Test.YtoaiogfeffnlcaaRecSet
import Derived.LoopTactic
namespace Go.Proofs.Ytoaiogfeffnlcaa.batchMany
open Go.ChangeShapes Go.WideShapes Go.ChangeAt Go.RowKit
open Go.ChangeMaps (open_string shut_string)
set_option linter.unusedVariables false      -- a walk need not use every 'w<i>' (that an integer argument fits its kind)

theorem own : ownKnob Try.prog.godebug = none := by kernel_rfl

def kR : RecT := (⟨#[107]⟩, true, 0, 0, ⟨#[]⟩)
theorem kR_may : mayT kR = true := by decide +kernel
theorem kR_ok : RecOk kR := ⟨by decide, by decide, by decide, by decide⟩
def lK (n k : Nat) : List RecT := List.replicate k kR ++ List.replicate (n - k) zR
theorem lK_len {n k : Nat} (h : k ≤ n) : (lK n k).length = n := by unfold lK; rw [List.length_append, List.length_replicate, List.length_replicate]; omega
theorem lK_zero (n : Nat) : lK n 0 = List.replicate n zR := by simp [lK]
theorem lK_all (n : Nat) : lK n n = List.replicate n kR := by simp [lK]
theorem lK_set {n k : Nat} (h : k < n) : (lK n k).set k kR = lK n (k + 1) := by
  unfold lK
  rw [List.set_append_right _ _ (by rw [List.length_replicate]; exact Nat.le_refl _), List.length_replicate, Nat.sub_self, show n - k = (n - (k + 1)) + 1 by omega, List.replicate_succ, List.set_cons_zero, List.replicate_succ', List.append_assoc]
  rfl
theorem all_may (n : Nat) : mayRow (List.replicate n kR) = decide (n ≤ 1000) := by
  unfold mayRow
  rw [List.length_replicate, show (List.replicate n kR).all mayT = true from List.all_eq_true.2 (fun x hx => by rw [List.eq_of_mem_replicate hx]; exact kR_may), Bool.and_true]
theorem all_ok (n : Nat) : ∀ x ∈ List.replicate n kR, RecOk x := fun x hx => by rw [List.eq_of_mem_replicate hx]; exact kR_ok

set_option maxHeartbeats 4000000 in
set_option maxRecDepth 100000 in
theorem walk (a0 : Int) (w0 : (Lit.int .i64 a0).wf = true) (w : World) :
    Calls Try.prog 5 #[.int .i64 a0] w fun e w' => e = .returned (.bool true) ∧ Below w.heap.size w w' := by
  clear w0
  by_cases h : a0 < 0
  · go_enter Try.func5, Try.ntmps5
    go_wp2_with fail
    refine (begun_c _).mono ?_
    rintro e w1 ⟨rfl, hc⟩
    go_wp2_with fail
    go_ret
    exact ⟨rfl, hc⟩
  have ha0 := h; clear h
  by_cases h : 1100 < a0
  · go_enter Try.func5, Try.ntmps5
    go_wp2_with fail
    refine (begun_c _).mono ?_
    rintro e w1 ⟨rfl, hc⟩
    go_wp2_with fail
    go_ret
    exact ⟨rfl, hc⟩
  have hb0 := h; clear h
  obtain ⟨n, rfl⟩ : ∃ n : Nat, a0 = (n : Int) := ⟨a0.toNat, by omega⟩
  have hn : n ≤ 1100 := by omega
  go_enter Try.func5, Try.ntmps5
  go_wp2_with fail
  refine (begun_c _).mono ?_
  rintro e w1 ⟨rfl, hc⟩
  have HB := Go.Lib.hid hc
  clear hc
  go_wp2_with (first
    | (with_reducible show wpList _ _ _ (⟨some 19, _, _, _, _, _⟩ :: _) _ _; go_loud (refine wpList_make_all rfl (.tmp 18) (.tmp 18) rfl .i64 .i64 _ _ n rfl rfl rfl rfl (by omega) ?_); intro g w2 hown hg)
    | fail)
  have hown := hown.mono HB.out.size
  have HB := Go.Lib.hid (HB.out.grown hg HB.out.size (fun k hk => by cases hk))
  go_loopw [22] (fun i wr => ∃ k : Nat, k ≤ n ∧ i = .int .i64 (k : Int) ∧ OwnRec wr w.heap.size (.slice (some ⟨g, 0, none⟩) n n) (lK n k) ∧ Below w.heap.size w wr) (fun i _ => n - (intOf i).toNat)
  case atStart => exact ⟨0, by omega, rfl, by rw [lK_zero]; exact hown, HB.out⟩
  case round =>
    obtain ⟨k, hk, rfl, hown, hbc⟩ := hrel
    by_cases hlt : k < n
    · have hkl : k < (lK n k).length := by rw [lK_len hk]; exact hlt
      obtain ⟨hst, hgr⟩ := hown.store k hkl kR
      rw [lK_set hlt] at hst
      have HT := Go.Lib.hid (hown.there k hkl)
      have HST := Go.Lib.hid hst
      have HBC := Go.Lib.hid (hbc.grown hgr hbc.size (fun q hq => hown.row q hq))
      have Hlt := Go.Lib.hid hlt
      have hix := run_idx5 g 0 n n k hlt
      rw [Nat.zero_add] at hix
      have hltI : (k : Int) < (n : Int) := by omega
      clear hst hgr hown hbc hlt hkl
      go_wp2_with (first
        | (with_reducible show wpList _ _ _ (⟨none, Op.store 38 _ _, _, _, _, _⟩ :: _) _ _; go_loud (refine wpList_store_rec rfl rfl (.tmp 28) (.tmp 27) rfl g k kR rfl rfl HT.out ?_))
        | fail)
      go_roundw
      case rel => exact ⟨k + 1, by have := Hlt.out; omega, by go_num, HST.out, HBC.out⟩
      case measure => simp only [intOf]; have := Hlt.out; omega
    · obtain rfl : k = n := by omega
      rw [lK_all] at hown
      have hL := List.length_replicate (n := k) (a := kR)
      have hM := all_may k
      have hO := all_ok k
      have HR := Go.Lib.hid hown.rs
      have HB := Go.Lib.hid hbc
      clear hown hbc hlt
      generalize List.replicate k kR = L at *
      have HLn := Go.Lib.hid hL
      have OKL := Go.Lib.hid hO
      clear hL hO
      by_cases h1 : 1000 < k
      · have hm : mayRow L = false := by rw [hM]; exact decide_eq_false (by omega)
        have HM := Go.Lib.hid hm
        have hI : (1000 : Int) < (k : Int) := by omega
        clear hm hM
        go_wp2_with fail
        refine (bencode_ok HR.out OKL.out (rowE_no HM.out)).mono ?_
        rintro e w3 ⟨v3, rfl, hown3, hc⟩
        obtain ⟨a3, c3, rfl, -⟩ := hown3.rb
        have HR := Go.Lib.hid (HR.out.below hc)
        have HB := Go.Lib.hid (below_to HB.out (Nat.le_refl _) hc)
        clear hown3 hc
        go_wp2_with fail
        refine (bmay_ok HR.out OKL.out HM.out).mono ?_
        rintro e w4 ⟨rfl, hc⟩
        have HB := Go.Lib.hid (below_to HB.out (Nat.le_refl _) hc)
        clear hc
        go_wp2_with fail
        go_ret
        exact ⟨rfl, HB.out⟩
      · have hm : mayRow L = true := by rw [hM]; exact decide_eq_true (by omega)
        have HM := Go.Lib.hid hm
        have hI : ¬ (1000 : Int) < (k : Int) := by omega
        have HD := Go.Lib.hid (rowD_put HM.out OKL.out)
        clear hm hM
        go_wp2_with fail
        refine (bencode_ok HR.out OKL.out (rowE_of HM.out)).mono ?_
        rintro e w3 ⟨v3, rfl, hown3, hc⟩
        have HRB := Go.Lib.hid hown3.rb
        have HR := Go.Lib.hid (HR.out.below hc)
        have HB := Go.Lib.hid (below_to HB.out (Nat.le_refl _) hc)
        clear hown3 hc
        go_wp2_with fail
        refine (bdecode_c HRB.out HD.out).mono ?_
        rintro e w4 ⟨v4, rfl, hown4, hc⟩
        obtain ⟨a4, c4, e4, -⟩ := hown4.rs.form
        rw [HLn.out] at e4
        subst e4
        have HR := Go.Lib.hid (HR.out.below hc)
        have HB := Go.Lib.hid (below_to HB.out (Nat.le_refl _) hc)
        clear hown4 hc
        go_wp2_with fail
        refine (bmay_ok HR.out OKL.out HM.out).mono ?_
        rintro e w5 ⟨rfl, hc⟩
        have HB := Go.Lib.hid (below_to HB.out (Nat.le_refl _) hc)
        clear hc
        go_wp2_with fail
        go_ret
        exact ⟨rfl, HB.out⟩

/-! ### THE ROW's STEP: WRITTEN OUT: LEAVE IT -/
set_option maxRecDepth 100000 in
theorem lifted (os : Os) (started : os.Started) (H : Type) (enc : TypeId × Value → H) :
    ReturnsInHanded {} Try.checked os 5 .any (Rows.batchManySpec.pre6 enc Try.prog Try.f5 Rows.batchManyRow.domain false) (Rows.batchManySpec.post enc Try.prog Try.f5 false true false false) := by
  refine returnsInHanded_of_change (C := Try.checked) own started (by kernel_rfl) Try.func5
    (ChangeSpec.witness6 (enc := enc) (C := Try.checked) false ⟨#[], #[.int .i64 0], []⟩ 8 (by kernel_rfl) (by kernel_rfl) (by kernel_rfl) (by kernel_rfl)) ?_
  intro W base args ds gs before hval0 hW hcnd _
  have hval : ∀ (j : Nat) t v, Try.f5.params[j]? = some t → args[j]? = some v → Value.okWide Try.prog W .any base t v := hval0
  have hW' := hW
  obtain ⟨p, q, hA0, hV, rfl, hfz, hnd⟩ := hW
  have hA : DataW.TrodAll enc Try.prog W 0 (fun _ => true) true Try.f5.params.toList args.toList ds p := hA0
  rw [Try.params5] at hA hval
  obtain ⟨v0, vs0, d0, ds0, p0, q0, hargs, rfl, rfl, h0, r0⟩ := trodAll_cons hA
  obtain ⟨rfl, rfl, rfl⟩ := trodAll_nil r0
  obtain rfl : args = #[v0] := by cases args; simp_all
  obtain ⟨rfl, rfl⟩ := trodVars_none hV
  obtain ⟨a0, rfl, rfl, rfl, w0⟩ := open_int Try.underlying3 (hval 0 3 v0 rfl rfl) h0
  clear hA0 hval0
  refine (walk a0 w0 W).mono fun e W' ⟨he, hg⟩ => ?_
  subst he
  exact ⟨_, rfl, _, _, _, [], _, [], hW', (trodAll_cons_mk (shut_bool Try.underlying4 _) trodAll_mk0), (trodAll_cons_mk (shut_int Try.underlying3 w0) trodAll_mk0), rfl, hg.frame _, fun h => by cases h⟩

theorem over : Rows.batchManyRow.holds Try.pinned (OpenSpec.ofChange Rows.batchManySpec) :=
  OpenClaim.holds_of_wide 5 Try.f5 rfl rfl rfl rfl rfl rfl rfl ⟨rfl, rfl, rfl, rfl, rfl⟩ rfl rfl rfl rfl rfl (by kernel_rfl) Try.func5 (by kernel_rfl)
    (of_decide_eq_true (by kernel_rfl)) (by unfold Func.isWrapper; first | (rw [if_pos (by decide +kernel)]; kernel_rfl) | (rw [if_neg (by decide +kernel)]; exact ⟨rfl, rfl⟩))
    (fun os started H enc _ => lifted os started H enc)

/-- ████ THE STATEMENT ████ -/
theorem proved : Rows.BatchManySaid :=
  over
#print axioms proved
end Go.Proofs.Ytoaiogfeffnlcaa.batchMany
