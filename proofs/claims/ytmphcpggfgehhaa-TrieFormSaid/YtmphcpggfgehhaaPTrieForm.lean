/- TrieForm: what does not rise has no tree; a tree of one, or none, has no bit: for every input the law returns true. -/
import Derived.Test.YtmphcpggfgehhaaRows
import Derived.WalkKit
import Derived.ProofKit
import Derived.OpenShut
import Derived.ShutString
import Derived.ChangeOld
import Derived.Below
import Derived.Test.YtmphcpggfgehhaaBegun21
import Derived.Test.YtmphcpggfgehhaaTrieU
import Derived.Deep.DeepCutAuto
import Derived.Deep.QuietTactic
import Derived.BigQuiet
namespace Go.Proofs.Ytmphcpggfgehhaa.trieForm
open Go.ChangeShapes Go.WideShapes Go.ChangeAt Go.RowKit
open Go.ChangeMaps (open_string shut_string)
set_option linter.unusedVariables false

theorem own : ownKnob Try.prog.godebug = none := by kernel_rfl
theorem laidOut : laidOutB Try.prog = true := by kernel_rfl

/-- WHAT THE WALK IS TOLD OF A SLICE OF INTEGERS THAT CAME IN: it is nil; or it leads to a row of 'cap' cells, the numbers 'zs' (the first 'len' are its elements, the rest its spare room), each fitting its kind. -/
def IsRow (k : IntKind) (w : World) (a : Option Addr) (len cap : Nat) (zs : List Int) : Prop :=
  (a = none ∧ len = 0 ∧ cap = 0 ∧ zs = []) ∨
  ∃ x, a = some x ∧ len ≤ cap ∧ cap ≤ maxLen ∧ zs.length = cap ∧ (∀ i, i < zs.length → w.cell? (x.add i) = some (.int k (zs.getD i 0))) ∧ ∀ n ∈ zs, (Lit.int k n).wf = true

theorem rank_nil (z : Nat) : rankB [] z 64 0 1 0 = some 0 := by rw [rankB_fork, if_pos (by omega), if_pos rfl]
theorem tree_one (x : Nat) : treeL 64 [x] = [] := treeL_short (by simp) 64
theorem sliced_zero (a : Option Addr) (n c s : Nat) : sliced a 0 n c s = .slice a n c := by
  unfold sliced
  have e : a.map (fun p : Addr => p.add (0 * s)) = a := by
    cases a with
    | none => rfl
    | some p => simp only [Option.map_some, Nat.zero_mul]; congr 1
  rw [e]
  split <;> rfl
/-- What the walk reads of the law's sum. -/
theorem wrap_some (x : Int) : ∃ z : Nat, IntKind.u64.wrap x = (z : Int) := by
  refine ⟨(IntKind.u64.wrap x).toNat, ?_⟩
  have h := IntKind.wrap_u64 x
  rw [h]
  omega

set_option maxHeartbeats 2000000 in
set_option maxRecDepth 100000 in
theorem walk (a0 : Option Addr) (len0 cap0 : Nat) (z0 : List Int) (a1 : Int) (w : World) (w0 : IsRow .u64 w a0 len0 cap0 z0) (w1 : (Lit.int .u64 a1).wf = true) :
    Calls Try.prog 5 #[.slice a0 len0 cap0, .int .u64 a1] w fun e w' => e = .returned (.bool true) ∧ Below w.heap.size w w' := by
  obtain ⟨x0, x1⟩ := bounds_u64 w1
  obtain ⟨x, rfl⟩ : ∃ x : Nat, a1 = (x : Int) := ⟨a1.toNat, by omega⟩
  obtain ⟨L, hL, hL64⟩ := ku_of_row w0
  obtain ⟨hl1, hl2, hl3⟩ := hL.len
  subst hl1
  have HL := Go.Lib.hid hL
  have HB := Go.Lib.hid hL64
  clear w0 w1 hL hL64
  go_enter Try.func5, Try.ntmps5
  go_upto_if 19 with (refine (begun21_c _).mono ?_; rintro e w1 ⟨rfl, hbb⟩)
  go_cut [0] (fun s wx => wx = w1 ∧ ∃ S : List Nat, S.length ≤ 30 ∧ KU.R wx s S ∧ Hid (∀ y ∈ S, y < 18446744073709551616))
  case first =>
    by_cases h30 : 30 < L.length
    · have hR0 := (HL.out.below hbb).cut KU_ok 0 30 cap0 (by omega) (by omega) (by omega) (Nat.le_refl _)
      rw [sliced_zero] at hR0
      have hR := Go.Lib.hid hR0
      have hlt := Go.Lib.hid (show ((L.take 30).drop 0).length ≤ 30 by rw [List.drop_zero, List.length_take]; omega)
      have hB2 : Hid (∀ y ∈ (L.take 30).drop 0, y < 18446744073709551616) := Go.Lib.hid fun y hy => HB.out y (List.mem_of_mem_take (List.mem_of_mem_drop hy))
      have Hsl : Hid (∀ W, (Instr.slice 22 (.slice a0 L.length cap0) none (some (.int .i64 30)) none).run Try.prog W = .ok (.slice a0 30 cap0) W) := Go.Lib.hid fun W => (sliced_zero a0 30 cap0 KU.size) ▸ KU_ok.run_h a0 L.length cap0 30 (by omega) .i64 W
      go_wp2_with (first
        | (with_reducible show wpList _ _ _ (⟨some 21, _, _, _, _, _⟩ :: _) _ _; go_must (refine wpList_cut_h rfl (.tmp 20) (.const (.int .i64 30)) 22 rfl (by kernel_rfl) a0 L.length cap0 (.int .i64 30) (.slice a0 30 cap0) rfl rfl Hsl.out ?_))
        | fail)
      go_meet
      exact ⟨rfl, _, hlt.out, hR.out, hB2⟩
    · have hR := Go.Lib.hid (HL.out.below hbb)
      go_wp2_with fail
      go_meet
      exact ⟨rfl, L, by omega, hR.out, HB⟩
  case rest =>
    obtain ⟨rfl, S, hS30, hS, HS⟩ := hcut
    clear HL HB hl2 hl3
    obtain ⟨ad, cp, rfl, -⟩ := hS.form
    have HR := Go.Lib.hid hS
    clear hS
    go_wp2_with fail
    go_loopw [6, 7] (fun t' i' wr => ∃ (t : Bool) (i : Nat), t' = .bool t ∧ i' = .int .i64 (i : Int) ∧ 1 ≤ i ∧ (i ≤ S.length ∨ i = 1) ∧ Hid (t = true ↔ ∀ j, j + 1 < i → S.getD j 0 < S.getD (j + 1) 0) ∧ Below wc.heap.size wc wr) (fun _ i' _ => S.length - (intOf i').toNat)
    case atStart => exact ⟨true, 1, rfl, rfl, by omega, by omega, Go.Lib.hid ⟨fun _ j hj => by omega, fun _ => rfl⟩, Below.refl _ _⟩
    case round =>
      obtain ⟨t, i, rfl, rfl, hi1, hi2, HI, hb⟩ := hrel
      by_cases hlt : i < S.length
      · obtain ⟨q, rfl⟩ : ∃ q, i = q + 1 := ⟨i - 1, by omega⟩
        cases t with
        | false =>
          have HI2 : Hid (false = true ↔ ∀ j, j + 1 < q + 2 → S.getD j 0 < S.getD (j + 1) 0) := Go.Lib.hid ⟨fun h => (by cases h), fun h => HI.out.2 fun j hj => h j (by omega)⟩
          clear HI
          go_wp2_with fail
          go_quiet (fail)
          go_wp2_with fail
          go_roundw
          case rel => exact ⟨false, q + 2, rfl, by go_num, by omega, by omega, HI2, below_drewN hb _⟩
          case measure => simp only [intOf]; omega
        | true =>
          obtain ⟨b, o, rfl, -, hbl, c1⟩ := KU.at' HR.out q (by omega)
          obtain ⟨b', o', e, -, hbl', c2⟩ := KU.at' HR.out (q + 1) hlt
          cases e
          have d1 := (hb.cell (p := ⟨b, o + q, none⟩) hbl).trans c1
          have d2 := (hb.cell (p := ⟨b, o + (q + 1), none⟩) hbl).trans c2
          have i1 := idxU b o S.length cp q (by omega)
          have i2 := idxU b o S.length cp (q + 1) hlt
          have e1 : S.getD q 0 = S[q] := by rw [List.getD_eq_getElem?_getD, List.getElem?_eq_getElem (by omega)]; rfl
          have e2 : S.getD (q + 1) 0 = S[q + 1] := by rw [List.getD_eq_getElem?_getD, List.getElem?_eq_getElem hlt]; rfl
          generalize S[q] = y1 at *
          generalize S[q + 1] = y2 at *
          have HI2 : Hid (decide ((y1 : Int) < (y2 : Int)) = true ↔ ∀ j, j + 1 < q + 2 → S.getD j 0 < S.getD (j + 1) 0) := by
            refine Go.Lib.hid ⟨fun h j hj => ?_, fun h => ?_⟩
            · rcases Nat.lt_or_ge (j + 1) (q + 1) with h1 | h1
              · exact HI.out.1 rfl j h1
              · obtain rfl : j = q := by omega
                rw [e1, e2]
                have := of_decide_eq_true h
                omega
            · have := h q (by omega)
              rw [e1, e2] at this
              exact decide_eq_true (by omega)
          obtain ⟨t2, ht2⟩ : ∃ t2, t2 = decide ((y1 : Int) < (y2 : Int)) := ⟨_, rfl⟩
          rw [← ht2] at HI2
          have ht2 := ht2.symm
          have hq : ((q + 1 : Nat) : Int) - 1 = (q : Int) := by omega
          clear c1 c2 e1 e2 HI
          go_wp2_with fail
          go_quiet (fail)
          go_wp2_with fail
          go_roundw
          case rel => exact ⟨t2, q + 2, congrArg Value.bool (by rw [← ht2]; exact decide_eq_decide.2 (by omega)), by go_num, by omega, by omega, HI2, below_drewN hb _⟩
          case measure => simp only [intOf]; omega
      · have ht : riseB S = t := by
          rw [Bool.eq_iff_iff, riseB_iff, HI.out]
          constructor
          · intro h j hj
            exact h j (by omega)
          · intro h j hj
            exact h j (by omega)
        have hR2 := HR.out.below hb
        have hb0 := hbb.trans (hb.mono hbb.size)
        have Hb := Go.Lib.hid hb0
        have HT := Go.Lib.hid (tree_one x)
        obtain ⟨z, hz⟩ := wrap_some ((x : Int) + 1)
        have HN := Go.Lib.hid (rank_nil z)
        have L1 := Go.Lib.hid fun (W : World) => KU.lits W 23 [x] #[.int .u64 (x : Int)] 1 rfl rfl (by simp)
        have LB := Go.Lib.hid fun (W : World) => ((Below.refl _ W).alloc (Nat.le_refl _) (.cells #[.int .u64 (x : Int)] 23))
        clear HI hb hb0
        cases t with
        | true =>
          have K2 := Go.Lib.hid (build_yes _ S wr hR2 HS.out (by omega) ht)
          clear hR2 ht
          go_wp2_with fail
          refine K2.out.mono ?_
          rintro e w2 ⟨B0, u0, rfl, -, -, hb2⟩
          have hb3 := Hb.out.trans (hb2.mono Hb.out.size)
          have l1 := L1.out w2
          have lb := LB.out w2
          have K3 := Go.Lib.hid (build_yes _ [x] _ l1 (by intro y hy; rw [List.mem_singleton.1 hy]; omega) (by simp) (by simp [riseB]))
          have hb4 := Go.Lib.hid (hb3.trans (lb.mono hb3.size))
          clear l1 lb L1 LB K2 hb3 Hb hb2
          go_wp2_with fail
          refine K3.out.mono ?_
          rintro e w3 ⟨B, u, rfl, hbt, hB, hb5⟩
          rw [HT.out] at hbt
          have hb6 := hb4.out.trans (hb5.mono hb4.out.size)
          have K4 := Go.Lib.hid (rank_c 1 z w3 B B u [] hbt (by simp) (by decide) _ HN.out)
          have K5 := Go.Lib.hid fun W (h : Below w3.heap.size w3 W) => len_c W B B u _ _ (hbt.below h)
          simp only [endV] at K4
          clear hbt hb4 hb5 K3
          go_wp2_with fail
          refine K4.out.mono ?_
          rintro e w4 ⟨rfl, hb7⟩
          go_wp2_with fail
          refine (K5.out w4 hb7).mono ?_
          rintro e w5 ⟨rfl, rfl⟩
          have hb8 := hb6.trans (hb7.mono hb6.size)
          have hl0 : ((([] : List Bool).length : Nat) : Int) = 0 := rfl
          go_wp2_with fail
          go_ret
          exact ⟨rfl, hb8⟩
        | false =>
          have K2 := Go.Lib.hid (build_no _ S wr hR2 (by omega) (.inr ht))
          clear hR2 ht
          go_wp2_with fail
          refine K2.out.mono ?_
          rintro e w2 ⟨rfl, hb2⟩
          have hb3 := Hb.out.trans (hb2.mono Hb.out.size)
          have l1 := L1.out w2
          have lb := LB.out w2
          have K3 := Go.Lib.hid (build_yes _ [x] _ l1 (by intro y hy; rw [List.mem_singleton.1 hy]; omega) (by simp) (by simp [riseB]))
          have hb4 := Go.Lib.hid (hb3.trans (lb.mono hb3.size))
          clear l1 lb L1 LB K2 hb3 Hb hb2
          go_wp2_with fail
          refine K3.out.mono ?_
          rintro e w3 ⟨B, u, rfl, hbt, hB, hb5⟩
          rw [HT.out] at hbt
          have hb6 := hb4.out.trans (hb5.mono hb4.out.size)
          have K4 := Go.Lib.hid (rank_c 1 z w3 B B u [] hbt (by simp) (by decide) _ HN.out)
          have K5 := Go.Lib.hid fun W (h : Below w3.heap.size w3 W) => len_c W B B u _ _ (hbt.below h)
          simp only [endV] at K4
          clear hbt hb4 hb5 K3
          go_wp2_with fail
          refine K4.out.mono ?_
          rintro e w4 ⟨rfl, hb7⟩
          go_wp2_with fail
          refine (K5.out w4 hb7).mono ?_
          rintro e w5 ⟨rfl, rfl⟩
          have hb8 := hb6.trans (hb7.mono hb6.size)
          have hl0 : ((([] : List Bool).length : Nat) : Int) = 0 := rfl
          go_wp2_with fail
          go_ret
          exact ⟨rfl, hb8⟩

/-! ### THE ROW's STEP: WRITTEN OUT: LEAVE IT -/
set_option maxRecDepth 100000 in
theorem lifted (os : Os) (started : os.Started) (H : Type) (enc : TypeId × Value → H) :
    ReturnsInHanded {} Try.checked os 5 .any (Rows.trieFormSpec.pre6 enc Try.prog Try.f5 Rows.trieFormRow.domain false) (Rows.trieFormSpec.post enc Try.prog Try.f5 false true false false) := by
  refine returnsInHanded_of_change (C := Try.checked) own started (by kernel_rfl) Try.func5
    (ChangeSpec.witness6 (enc := enc) (C := Try.checked) false ⟨#[], #[.slice none 0 0, .int .u64 0], []⟩ 8 (by kernel_rfl) (by kernel_rfl) (by kernel_rfl) (by kernel_rfl)) ?_
  intro W base args ds gs before hval0 hW hcnd _
  have hval : ∀ (j : Nat) t v, Try.f5.params[j]? = some t → args[j]? = some v → Value.okWide Try.prog W .any base t v := hval0
  have hW' := hW
  obtain ⟨p, q, hA0, hV, rfl, hfz, hnd⟩ := hW
  have hA : DataW.TrodAll enc Try.prog W 0 (fun _ => true) true Try.f5.params.toList args.toList ds p := hA0
  rw [Try.params5] at hA hval
  obtain ⟨v0, vs0, d0, ds0, p0, q0, hargs, rfl, rfl, h0, r0⟩ := trodAll_cons hA
  obtain ⟨v1, vs1, d1, ds1, p1, q1, rfl, rfl, rfl, h1, r1⟩ := trodAll_cons r0
  obtain ⟨rfl, rfl, rfl⟩ := trodAll_nil r1
  obtain rfl : args = #[v0, v1] := by cases args; simp_all
  obtain ⟨rfl, rfl⟩ := trodVars_none hV
  obtain ⟨a0, len0, cap0, rfl⟩ := okWide_slice Try.underlying22 (hval 0 22 v0 rfl rfl)
  have k0 := h0
  have lt0 : ∀ x ∈ p0, x.block < W.heap.size := by obtain ⟨m, hm⟩ := k0; exact DataW.trod_lt m _ _ _ hm
  obtain ⟨z0, w0⟩ : ∃ zs, IsRow .u64 W a0 len0 cap0 zs := by
    obtain ⟨fuel, hf⟩ := h0
    rcases open_ints Try.underlying22 Try.underlying23 (by kernel_rfl) hf with ⟨hcs, _⟩ | ⟨x, l, c, zs, hcs, _, hl, hm, hz, _, hcell, hwz⟩
    · simp [Value.cells] at hcs
      obtain ⟨rfl, rfl, rfl⟩ := hcs
      exact ⟨[], .inl ⟨rfl, rfl, rfl, rfl⟩⟩
    · simp [Value.cells] at hcs
      obtain ⟨rfl, rfl, rfl⟩ := hcs
      exact ⟨zs, .inr ⟨_, rfl, hl, hm, by simpa using hz, hcell, hwz⟩⟩
  obtain ⟨a1, rfl, rfl, rfl, w1⟩ := open_int Try.underlying23 (hval 1 23 v1 rfl rfl) h1
  clear hA0 hval0
  refine (walk a0 len0 cap0 z0 a1 W w0 w1).mono fun e W' ⟨he, bel⟩ => ?_
  subst he
  exact ⟨_, rfl, _, _, _, [], _, [], hW', trodAll_mk1 (shut_bool Try.underlying4 _), (trodAll_cons_mk (Below.trod laidOut (by kernel_rfl) (of_decide_eq_true (by kernel_rfl)) k0 bel lt0) (trodAll_cons_mk (shut_int Try.underlying23 w1) trodAll_mk0)), rfl, bel.frame _, fun h => by cases h⟩

theorem over : Rows.trieFormRow.holds Try.pinned (OpenSpec.ofChange Rows.trieFormSpec) :=
  OpenClaim.holds_of_wide 5 Try.f5 rfl rfl rfl rfl rfl rfl rfl ⟨rfl, rfl, rfl, rfl, rfl⟩ rfl rfl rfl rfl rfl (by kernel_rfl) Try.func5 (by kernel_rfl)
    (of_decide_eq_true (by kernel_rfl)) (by unfold Func.isWrapper; first | (rw [if_pos (by decide +kernel)]; kernel_rfl) | (rw [if_neg (by decide +kernel)]; exact ⟨rfl, rfl⟩))
    (fun os started H enc _ => lifted os started H enc)

/-- ████ THE STATEMENT ████ -/
theorem proved : Rows.TrieFormSaid := over
#print axioms proved
end Go.Proofs.Ytmphcpggfgehhaa.trieForm
