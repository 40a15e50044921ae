/- ValueCut: a value whose bytes are cut off is not all there: for every raw value and number the law returns true. -/
import Derived.Test.YtpelcnehndlinaaRows
import Derived.WalkKit
import Derived.ProofKit
import Derived.OpenShut
import Derived.ShutString
import Derived.ChangeOld
import Derived.Below
import Derived.Test.YtpelcnehndlinaaRaw
import Derived.Test.YtpelcnehndlinaaBegun4
import Derived.Test.YtpelcnehndlinaaValGet
import Derived.Test.YtpelcnehndlinaaValPut
namespace Go.Proofs.Ytpelcnehndlinaa.valueCut
open Go.ChangeShapes Go.WideShapes Go.ChangeAt Go.RowKit
open Go.ChangeMaps (open_string shut_string)
set_option linter.unusedVariables false

theorem own : ownKnob Try.prog.godebug = none := by kernel_rfl
theorem laidOut : laidOutB Try.prog = true := by kernel_rfl

set_option maxHeartbeats 2000000 in
set_option maxRecDepth 100000 in
theorem walk (w : World) (k0 n0 : Int) (s0 : ByteArray) (wk0 : (Lit.int .i64 k0).wf = true) (wn0 : (Lit.int .i64 n0).wf = true) (ws0 : s0.size ≤ maxLen) (a1 : Int) (wa1 : (Lit.int .i64 a1).wf = true) :
    Calls Try.prog 10 #[rawV k0 n0 s0, .int .i64 a1] w fun e w' => e = .returned (.bool true) ∧ Below w.heap.size w w' := by
  obtain ⟨b1, b2⟩ := bounds_i64 wn0
  have b2 : n0 ≤ 9223372036854775807 := by omega
  clear wk0 wn0

  have C0 := Go.Lib.hid fun W => vcut_c k0 n0 s0 W ws0
  have ht30 : ((bl s0).take 30).length ≤ 30 := by rw [List.length_take]; omega
  generalize htt : (bl s0).take 30 = t at *
  clear htt
  unfold rawV at C0 ⊢
  go_enter Try.func10, Try.ntmps10
  go_wp2_with fail
  refine (begun_c _).mono ?_
  rintro e w1 ⟨rfl, hc⟩
  obtain ⟨x0, x1, x2⟩ := box_cells _ _ _ _ _ _ hc
  have hA := (hc.block _ (Array.getElem?_eq_some_iff.1 (heap_alloc_new w (.cells #[.int .i64 k0, .int .i64 n0, .string s0] 23))).1).trans (heap_alloc_new w _)
  have hbb := (below_one w (.cells #[.int .i64 k0, .int .i64 n0, .string s0] 23)).trans (hc.mono (below_one w _).size)
  clear hc
  have HA := Go.Lib.hid hA; clear hA
  go_wp2_with fail
  refine (C0.out _).mono ?_
  rintro e w2 ⟨rfl, hc⟩
  have hA2 := (hc.block _ (Array.getElem?_eq_some_iff.1 HA.out).1).trans HA.out
  have hbb := hbb.trans (hc.mono hbb.size)
  clear hc x0 x1 x2 HA C0
  have hS := setRow_heap w2 w.heap.size #[.int .i64 k0, .int .i64 n0, .string s0] #[.int .i64 k0, .int .i64 n0, .string (str t)] 23 (0, 0) hA2
  have y0 := cell_of_row _ _ 0 _ _ _ hS
  have y1 := cell_of_row _ _ 1 _ _ _ hS
  have y2 := cell_of_row _ _ 2 _ _ _ hS
  simp only [List.getElem?_toArray, List.getElem?_cons_zero, List.getElem?_cons_succ] at y0 y1 y2
  have hbb := setRow_below #[.int .i64 k0, .int .i64 n0, .string (str t)] hbb (Nat.le_refl _)
  clear hS
  have HA2 := Go.Lib.hid hA2; clear hA2
  go_wp2_with (first
    | (with_reducible show wpList _ _ _ (⟨none, Op.store 23 (.tmp 2) (.tmp 14), _, _, _, _⟩ :: _) _ _; go_loud (refine wpList_store_row rfl 23 (.tmp 2) (.tmp 14) rfl w.heap.size #[.int .i64 k0, .int .i64 n0, .string (str t)] rfl rfl 23 _ HA2.out (by kernel_rfl) rfl (raw_cells_one ..) ?_))
    | fail)
  clear HA2
  generalize w2.setRow w.heap.size #[.int .i64 k0, .int .i64 n0, .string (str t)] = u at *
  have C1 := Go.Lib.hid fun W => mayval_c k0 n0 (str t) W (by rw [str_size]; unfold maxLen; omega)
  refine (C1.out _).mono ?_
  rintro e w3 ⟨rfl, hc⟩
  have y0 := cell_kept y0 hc
  have y1 := cell_kept y1 hc
  have y2 := cell_kept y2 hc
  have hbb := hbb.trans (hc.mono hbb.size)
  clear hc C1
  cases hmay : mayR k0 n0 (str t) with
  | false =>
    clear y0 y1 y2
    go_wp2_with fail
    go_ret
    exact ⟨rfl, hbb⟩
  | true =>
    have C2 := Go.Lib.hid fun W => vput_c (.slice none 0 0) [] k0 n0 t W (RB.nil W) hmay b1 b2 (by simp)
    have Hcut := Go.Lib.hid fun j hj => valB_cut k0 n0 t hmay b1 b2 j hj
    have Hmay := Go.Lib.hid hmay
    clear b1 b2 hmay
    unfold rawV at C2
    simp only [List.nil_append] at C2
    generalize putV k0 n0 t = B at *
    go_wp2_with fail
    refine (C2.out _).mono ?_
    rintro e w4 ⟨v, rfl, hown, hc⟩
    have hv := hown.rb
    have hbb := hbb.trans (hc.mono hbb.size)
    clear hc C2 hown y0 y1 y2
    obtain ⟨a, cap, hve, hl1, hl2, -⟩ := id hv
    subst hve
    have hBl : B.length ≤ 9223372036854775807 := by unfold maxLen at hl2; omega
    clear hl1 hl2
    by_cases h1 : a1 < 1
    · clear ht30
      go_wp2_with fail
      go_ret
      exact ⟨rfl, hbb⟩
    by_cases h2 : (B.length : Int) < a1
    · clear ht30
      go_wp2_with fail
      go_ret
      exact ⟨rfl, hbb⟩
    obtain ⟨c, rfl⟩ : ∃ c : Nat, a1 = (c : Int) := ⟨a1.toNat, by omega⟩
    have hsub : IntKind.i64.wrap ((B.length : Int) - (c : Int)) = ((B.length - c : Nat) : Int) := by rw [IntKind.wrap_i64]; omega
    have hsb : (B.length : Int) - (c : Int) = ((B.length - c : Nat) : Int) := by omega
    have hj : B.length - c ≤ B.length := by omega
    have hcut := Hcut.out (B.length - c) (by omega)
    have C3 := fun v' W (h : RB W v' (B.take (B.length - c))) => vget_c v' (B.take (B.length - c)) W h
    rw [hcut] at C3
    unfold vv rawV at C3
    simp only [] at C3
    have C3 := Go.Lib.hid C3
    clear ht30 Hcut hcut wa1
    go_wp2_with (first
      | (with_reducible show wpList _ _ _ (⟨some 34, _, _, _, _, _⟩ :: _) _ _; go_loud (refine wpList_slice_h rfl (.tmp 29) (.tmp 33) 39 rfl 5 Try.underlying39 info8 (.slice a B.length cap) B .i64 _ (B.length - c) rfl rfl rfl hv hj ?_); intro v3 hv3)
      | fail)
    refine (C3.out _ _ hv3).mono ?_
    rintro e w5 ⟨rfl, hc⟩
    have hbb := hbb.trans (hc.mono hbb.size)
    clear hc hv hv3 C3
    go_wp2_with fail
    go_ret
    exact ⟨rfl, hbb.trans ((below_one w5 _).mono hbb.size)⟩

/-! ### THE ROW -/
set_option maxRecDepth 100000 in
theorem lifted (os : Os) (started : os.Started) (H : Type) (enc : TypeId × Value → H) :
    ReturnsInHanded {} Try.checked os 10 .any (Rows.valueCutSpec.pre6 enc Try.prog Try.f10 Rows.valueCutRow.domain false) (Rows.valueCutSpec.post enc Try.prog Try.f10 false true false false) := by
  refine returnsInHanded_of_change (C := Try.checked) own started (by kernel_rfl) Try.func10
    (ChangeSpec.witness6 (enc := enc) (C := Try.checked) false ⟨#[], #[.agg #[.int .i64 0, .int .i64 0, .string ByteArray.empty], .int .i64 0], []⟩ 8 (by kernel_rfl) (by kernel_rfl) (by kernel_rfl) (by kernel_rfl)) ?_
  intro W base args ds gs before hval0 hW hcnd _
  have hval : ∀ (j : Nat) t v, Try.f10.params[j]? = some t → args[j]? = some v → Value.okWide Try.prog W .any base t v := hval0
  have hW' := hW
  obtain ⟨p, q, hA0, hV, rfl, hfz, hnd⟩ := hW
  have hA : DataW.TrodAll enc Try.prog W 0 (fun _ => true) true Try.f10.params.toList args.toList ds p := hA0
  rw [Try.params10] at hA hval
  obtain ⟨v0, vs0, d0, ds0, p0, q0, hargs, rfl, rfl, h0, r0⟩ := trodAll_cons hA
  obtain ⟨v1, vs1, d1, ds1, p1, q1, rfl, rfl, rfl, h1, r1⟩ := trodAll_cons r0
  obtain ⟨rfl, rfl, rfl⟩ := trodAll_nil r1
  obtain rfl : args = #[v0, v1] := by cases args; simp_all
  obtain ⟨rfl, rfl⟩ := trodVars_none hV
  have kk0 := h0
  have lt0 : ∀ x ∈ p0, x.block < W.heap.size := by obtain ⟨m, hm⟩ := kk0; exact DataW.trod_lt m _ _ _ hm
  have kk1 := h1
  have lt1 : ∀ x ∈ p1, x.block < W.heap.size := by obtain ⟨m, hm⟩ := kk1; exact DataW.trod_lt m _ _ _ hm
  obtain ⟨k0, n0, s0, rfl, wk0, wn0, ws0⟩ := open_raw (hval 0 23 v0 rfl rfl) h0
  obtain ⟨a1, rfl, rfl, rfl, w1⟩ := open_int Try.underlying3 (hval 1 3 v1 rfl rfl) h1
  clear hA0 hval0
  refine (walk W k0 n0 s0 wk0 wn0 ws0 a1 w1).mono fun e W' ⟨he, bel⟩ => ?_
  subst he
  exact ⟨_, rfl, _, _, _, [], _, [], hW', trodAll_mk1 (shut_bool Try.underlying4 _), (trodAll_cons_mk (Below.trod laidOut (by kernel_rfl) (of_decide_eq_true (by kernel_rfl)) kk0 bel lt0) (trodAll_cons_mk (Below.trod laidOut (by kernel_rfl) (of_decide_eq_true (by kernel_rfl)) kk1 bel lt1) trodAll_mk0)), rfl, bel.frame _, fun h => by cases h⟩

theorem over : Rows.valueCutRow.holds Try.pinned (OpenSpec.ofChange Rows.valueCutSpec) :=
  OpenClaim.holds_of_wide 10 Try.f10 rfl rfl rfl rfl rfl rfl rfl ⟨rfl, rfl, rfl, rfl, rfl⟩ rfl rfl rfl rfl rfl (by kernel_rfl) Try.func10 (by kernel_rfl)
    (of_decide_eq_true (by kernel_rfl)) (by unfold Func.isWrapper; first | (rw [if_pos (by decide +kernel)]; kernel_rfl) | (rw [if_neg (by decide +kernel)]; exact ⟨rfl, rfl⟩))
    (fun os started H enc _ => lifted os started H enc)

theorem proved : Rows.ValueCutSaid := over
#print axioms proved
end Go.Proofs.Ytpelcnehndlinaa.valueCut
