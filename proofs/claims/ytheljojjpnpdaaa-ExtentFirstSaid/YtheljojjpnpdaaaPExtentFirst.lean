/- ExtentFirst: of rows that are free the first one that is long enough is taken, however many shorter ones stand ahead: for every input the law returns true. -/
import Derived.Test.YtheljojjpnpdaaaRows
import Derived.WalkKit
import Derived.ProofKit
import Derived.OpenShut
import Derived.ShutString
import Derived.ChangeOld
import Derived.Below
import Derived.Test.YtheljojjpnpdaaaBegun13
import Derived.Test.YtheljojjpnpdaaaRow
namespace Go.Proofs.Ytheljojjpnpdaaa.extentFirst
open Go.ChangeShapes Go.WideShapes Go.ChangeAt Go.RowKit
open Go.ChangeMaps (open_string shut_string)
set_option linter.unusedVariables false

theorem own : ownKnob Try.prog.godebug = none := by kernel_rfl
theorem laidOut : laidOutB Try.prog = true := by kernel_rfl

/-- WHAT THE WALK IS TOLD OF A SLICE OF INTEGERS THAT CAME IN: it is nil; or it leads to a row of 'cap' cells, the numbers 'zs' (the first 'len' are its elements, the rest its spare room), each fitting its kind. -/
def IsRow (k : IntKind) (w : World) (a : Option Addr) (len cap : Nat) (zs : List Int) : Prop :=
  (a = none ∧ len = 0 ∧ cap = 0 ∧ zs = []) ∨
  ∃ x, a = some x ∧ len ≤ cap ∧ cap ≤ maxLen ∧ zs.length = cap ∧ (∀ i, i < zs.length → w.cell? (x.add i) = some (.int k (zs.getD i 0))) ∧ ∀ n ∈ zs, (Lit.int k n).wf = true

theorem mod20 (z : Int) (h1 : -9223372036854775808 ≤ z) (h2 : z ≤ 9223372036854775807) : (wrap64 (z.tmod 20 + 20)).tmod 20 = z % 20 := by
  have h : z.tmod 20 = z % 20 ∨ z.tmod 20 = -((-z) % 20) := by
    by_cases h0 : 0 ≤ z
    · exact .inl (Int.tmod_eq_emod_of_nonneg h0)
    · right
      have h3 := Int.neg_tmod (-z) 20
      rw [Int.neg_neg] at h3
      rw [h3, Int.tmod_eq_emod_of_nonneg (by omega)]
  have hw : wrap64 (z.tmod 20 + 20) = z.tmod 20 + 20 := by
    unfold wrap64
    omega
  rw [hw, Int.tmod_eq_emod_of_nonneg (by omega)]
  omega
/-- The rows ahead of p are S; from p on all is free, to 400. -/
structure FS (G : Nat → Bool) (p : Nat) (S : List (Nat × Nat)) : Prop where
  sp : S = spS G p
  at0 : p = 0 ∨ G (p - 1) = false
  free : ∀ k, p ≤ k → G k = decide (k < 400)
theorem FS.step {G : Nat → Bool} {p k : Nat} {S : List (Nat × Nat)} (h : FS G p S) (hk : 0 < k) (hp : p + k < 400) : FS (setF G (p + k) 1 false) (p + k + 1) (S ++ [(p, k)]) := by
  refine ⟨?_, .inr ?_, fun j hj => ?_⟩
  · have hr := spS_run (setF G (p + k) 1 false) p k hk (fun j j1 j2 => by rw [setF_out (by omega), h.free j j1]; simp; omega) (by
      rcases h.at0 with h0 | h0
      · exact .inl h0
      · rcases Nat.eq_zero_or_pos p with e | e
        · exact .inl e
        · exact .inr (by rw [setF_out (by omega)]; exact h0))
    rw [spS_off (setF_in (Nat.le_refl _) (by omega)), hr, h.sp, spS_congr (f := setF G (p + k) 1 false) (f' := G) fun j hj => setF_out (by omega)]
  · rw [Nat.add_sub_cancel]
    exact setF_in (Nat.le_refl _) (by omega)
  · rw [setF_out (by omega)]
    exact h.free j (by omega)
/-- What is wanted, so far. -/
def wantF (S : List (Nat × Nat)) (m : Nat) : Int := match S.find? fun x => decide (m ≤ x.2) with
  | some x => (x.1 : Int)
  | none => -1
theorem want_some {S : List (Nat × Nat)} {m : Nat} (h : 0 ≤ wantF S m) : ∃ x, S.find? (fun x => decide (m ≤ x.2)) = some x ∧ wantF S m = (x.1 : Int) := by
  unfold wantF at h ⊢
  cases hf : S.find? fun x => decide (m ≤ x.2) with
  | some x => exact ⟨x, rfl, rfl⟩
  | none => rw [hf] at h; simp at h
theorem want_none {S : List (Nat × Nat)} {m : Nat} (h : wantF S m < 0) : S.find? (fun x => decide (m ≤ x.2)) = none := by
  unfold wantF at h
  cases hf : S.find? fun x => decide (m ≤ x.2) with
  | some x => rw [hf] at h; simp at h; omega
  | none => rfl
theorem want_old {S : List (Nat × Nat)} {m p k : Nat} (h : 0 ≤ wantF S m) : wantF (S ++ [(p, k)]) m = wantF S m := by
  obtain ⟨x, h1, -⟩ := want_some h
  unfold wantF
  rw [List.find?_append, h1]
  rfl
theorem want_new {S : List (Nat × Nat)} {m p k : Nat} (h : wantF S m < 0) (hk : m ≤ k) : wantF (S ++ [(p, k)]) m = (p : Int) := by
  unfold wantF
  rw [List.find?_append, want_none h]
  simp [hk]
theorem want_not {S : List (Nat × Nat)} {m p k : Nat} (h : wantF S m < 0) (hk : k < m) : wantF (S ++ [(p, k)]) m = wantF S m := by
  have h1 := want_none h
  unfold wantF
  rw [List.find?_append, h1]
  simp [Nat.not_le.2 hk]
theorem FS.fit {G : Nat → Bool} {p m : Nat} {S : List (Nat × Nat)} (h : FS G p S) (hp : p + 20 < 400) (hm : m ≤ 20) : ∃ x, fitF G (0 + 400) m = some x ∧ (x.1 : Int) = if wantF S m < 0 then (p : Int) else wantF S m := by
  have e : spS G (0 + 400) = S ++ [(p, 400 - p)] := by
    rw [h.sp, ← spS_run G p (400 - p) (by omega) (fun j j1 j2 => by rw [h.free j j1]; simp; omega) h.at0]
    congr 1
    omega
  unfold fitF
  rw [e, List.find?_append]
  by_cases hw : wantF S m < 0
  · rw [want_none hw, if_pos hw]
    refine ⟨(p, 400 - p), ?_, rfl⟩
    simp; omega
  · obtain ⟨x, h1, h2⟩ := want_some (by omega : 0 ≤ wantF S m)
    rw [h1, if_neg hw]
    exact ⟨x, rfl, h2.symm⟩

set_option maxHeartbeats 1000000 in
set_option maxRecDepth 100000 in
theorem walk (a0 : Option Addr) (len0 cap0 : Nat) (z0 : List Int) (a1 : Int) (w : World) (w0 : IsRow .i64 w a0 len0 cap0 z0) (w1 : (Lit.int .i64 a1).wf = true) :
    Calls Try.prog 7 #[.slice a0 len0 cap0, .int .i64 a1] w fun e w' => e = .returned (.bool true) ∧ Below w.heap.size w w' := by
  obtain ⟨X, hX0, hX, hX63, hXf⟩ := rv_of_row w0
  clear w0 w1
  have HX := Go.Lib.hid hX
  have HX0 := Go.Lib.hid hX0
  have HXf := Go.Lib.hid hXf
  clear hX hX0 hXf
  go_enter Try.func7, Try.ntmps7
  go_wp2_with fail
  refine (begun_c _).mono ?_
  rintro e w2 ⟨rfl, k2⟩
  by_cases h1 : a1 < 1
  · go_wp2_with fail
    go_ret
    exact ⟨rfl, k2⟩
  by_cases h2 : 20 < a1
  · go_wp2_with fail
    go_ret
    exact ⟨rfl, k2⟩
  obtain ⟨m, rfl⟩ : ∃ m : Nat, a1 = (m : Int) := ⟨a1.toNat, by omega⟩
  have HM := Go.Lib.hid (show 1 ≤ m ∧ m ≤ 20 by omega)
  have C1 := Go.Lib.hid (new_q w2 0 400 0 400 (iv 0 400) rfl rfl (by decide) (by decide) rfl)
  have K2 := Go.Lib.hid k2; clear k2
  go_wp2_with fail
  refine C1.out.mono ?_
  rintro e w3 ⟨r, v, rfl, hr3, hb3⟩
  have HR3 := Go.Lib.hid (hr3.mono K2.out.size)
  have HB3 := Go.Lib.hid (below_on K2.out hb3)
  clear C1 hr3 hb3 K2
  go_wp2_with fail
  go_loopw [7, 8, 9] (fun pv xv iv' wr => ∃ (i p : Nat) (W : Int) (S : List (Nat × Nat)) (G : Nat → Bool), i ≤ 12 ∧ i ≤ len0 ∧ iv' = .int .i64 (i : Int) ∧ pv = .int .i64 (p : Int) ∧ xv = .int .i64 W ∧ Hid (p ≤ 21 * i) ∧ Hid (wantF S m = W) ∧ Hid (FS G p S) ∧ RM wr w.heap.size r 0 400 v G ∧ Below w.heap.size w wr) (fun _ _ iv' _ => 12 - (intOf iv').toNat)
  case atStart => exact ⟨0, 0, -1, [], _, by omega, by omega, rfl, rfl, rfl, Go.Lib.hid (by omega), Go.Lib.hid rfl, Go.Lib.hid ⟨rfl, .inl rfl, fun k _ => by unfold iv; simp⟩, HR3.out, HB3.out⟩
  case round =>
    obtain ⟨i, p, W, S, G, hi12, hil, rfl, rfl, rfl, hp, hW, hFS, hr, hb⟩ := hrel
    clear HR3 HB3
    by_cases hin : i < len0 ∧ i < 12
    · obtain ⟨hi2, hi⟩ := hin
      have hiI : (i : Int) < (len0 : Int) := by omega
      have hiI2 : (i : Int) < 12 := by omega
      obtain ⟨b, o, rfl, hc, hbl⟩ := HX.out.at i (by rw [List.length_map, HX0.out]; exact hi2)
      rw [List.getElem_map] at hc
      have hz := HXf.out (X[i]'(by rw [HX0.out]; exact hi2)) (List.getElem_mem _)
      obtain ⟨z, hzd⟩ : ∃ z, z = X[i]'(by rw [HX0.out]; exact hi2) := ⟨_, rfl⟩
      rw [← hzd] at hc hz
      have hc := (hb.cell (p := ⟨b, o + i, none⟩) hbl).trans hc
      have hzb := bounds_i64 hz
      obtain ⟨q, hq⟩ : ∃ q : Nat, (q : Int) = z % 20 := ⟨(z % 20).toNat, by omega⟩
      have hmod : (wrap64 (z.tmod 20 + 20)).tmod 20 = (q : Int) := by rw [mod20 z (by omega) (by omega), hq]
      have hq20 : q < 20 := by omega
      obtain ⟨k, hk⟩ : ∃ k, k = q + 1 := ⟨_, rfl⟩
      have hk1 : IntKind.i64.wrap (1 + (q : Int)) = (k : Int) := by rw [IntKind.wrap_i64, hk]; omega
      have hkr := Go.Lib.hid (show 1 ≤ k ∧ k ≤ 20 by omega)
      obtain ⟨A, hA⟩ : ∃ A : Int, A = (p : Int) + (k : Int) := ⟨_, rfl⟩
      have e1 : IntKind.i64.wrap ((p : Int) + (k : Int)) = A := by rw [hA, IntKind.wrap_i64]; have := hp.out; omega
      obtain ⟨D, hD⟩ : ∃ D : Int, D = (k : Int) + 1 := ⟨_, rfl⟩
      have e2 : IntKind.i64.wrap ((k : Int) + 1) = D := by rw [hD, IntKind.wrap_i64]; omega
      obtain ⟨E, hE⟩ : ∃ E : Int, E = (p : Int) + D := ⟨_, rfl⟩
      have e3 : IntKind.i64.wrap ((p : Int) + D) = E := by rw [hE, hD, IntKind.wrap_i64]; have := hp.out; omega
      have HE := Go.Lib.hid (show E = ((p + k + 1 : Nat) : Int) by rw [hE, hD]; omega)
      have hpk : p + k < 400 := by have := hp.out; omega
      have C2 := Go.Lib.hid (use_q hr (p + k) 1 A 1 _ (by rw [hA]; omega) rfl (by decide) (fun j j1 j2 => by rw [hFS.out.free j (by omega)]; simp; omega) rfl)
      have HF := Go.Lib.hid (hFS.out.step (by omega) hpk)
      have HP := Go.Lib.hid (show p + k + 1 ≤ 21 * (i + 1) by have := hp.out; omega)
      have HR := Go.Lib.hid hr
      have HB := Go.Lib.hid hb
      have HI := Go.Lib.hid hi
      have HI2 := Go.Lib.hid hi2
      clear hr hb hzd hz hq hk hA hD hE hpk hq20 hzb hFS hp hil hi12 hi hi2 hbl
      by_cases hw : W < 0
      · by_cases hmk : m ≤ k
        · have hmkI : (m : Int) ≤ (k : Int) := by omega
          have HW := Go.Lib.hid (want_new (p := p) (show wantF S m < 0 by rw [hW.out]; exact hw) hmk)
          clear hW hmk
          go_wp2_with fail
          refine C2.out.mono ?_
          rintro e w4 ⟨rfl, hr4, hg4⟩
          have HR4 := Go.Lib.hid hr4
          have HB4 := Go.Lib.hid (below_gr HB.out HR.out hg4)
          clear hr4 hg4 C2 HR HB
          go_wp2_with fail
          go_roundw
          case rel => exact ⟨i + 1, p + k + 1, _, _, _, by have := HI.out; omega, by have := HI2.out; omega, by go_num, by rw [HE.out], rfl, HP, HW, HF, HR4.out, HB4.out⟩
          case measure => simp only [intOf]; have := HI.out; omega
        · have hmkI : ¬ (m : Int) ≤ (k : Int) := by omega
          have HW := Go.Lib.hid ((want_not (p := p) (k := k) (show wantF S m < 0 by rw [hW.out]; exact hw) (by omega)).trans hW.out)
          clear hW hmk
          go_wp2_with fail
          refine C2.out.mono ?_
          rintro e w4 ⟨rfl, hr4, hg4⟩
          have HR4 := Go.Lib.hid hr4
          have HB4 := Go.Lib.hid (below_gr HB.out HR.out hg4)
          clear hr4 hg4 C2 HR HB
          go_wp2_with fail
          go_roundw
          case rel => exact ⟨i + 1, p + k + 1, _, _, _, by have := HI.out; omega, by have := HI2.out; omega, by go_num, by rw [HE.out], rfl, HP, HW, HF, HR4.out, HB4.out⟩
          case measure => simp only [intOf]; have := HI.out; omega
      · have HW := Go.Lib.hid ((want_old (p := p) (k := k) (show 0 ≤ wantF S m by rw [hW.out]; omega)).trans hW.out)
        clear hW
        go_wp2_with fail
        refine C2.out.mono ?_
        rintro e w4 ⟨rfl, hr4, hg4⟩
        have HR4 := Go.Lib.hid hr4
        have HB4 := Go.Lib.hid (below_gr HB.out HR.out hg4)
        clear hr4 hg4 C2 HR HB
        go_wp2_with fail
        go_roundw
        case rel => exact ⟨i + 1, p + k + 1, _, _, _, by have := HI.out; omega, by have := HI2.out; omega, by go_num, by rw [HE.out], rfl, HP, HW, HF, HR4.out, HB4.out⟩
        case measure => simp only [intOf]; have := HI.out; omega
    · have hnin : ¬ ((i : Int) < (len0 : Int) ∧ (i : Int) < 12) := by omega
      obtain ⟨x, hx1, hx2⟩ := hFS.out.fit (m := m) (by have := hp.out; omega) HM.out.2
      rw [hW.out] at hx2
      have HRr := Go.Lib.hid hr
      have HBb := Go.Lib.hid hb
      have hcond : ((i : Int) < (len0 : Int) → ¬ (i : Int) < 12) := fun a b => hnin ⟨a, b⟩
      by_cases hi2 : (i : Int) < (len0 : Int)
      · have hi : ¬ (i : Int) < 12 := hcond hi2
        by_cases hw : W < 0
        · rw [if_pos hw] at hx2
          have C3 := Go.Lib.hid (take_q hr m (m : Int) (p : Int) x _ rfl hx2.symm (by have := HM.out; omega) hx1 rfl)
          clear hnin hcond hx1 hx2 hin hr hb hp hFS hW hil hi12
          go_wp2_with fail
          refine C3.out.mono ?_
          rintro e w4 ⟨rfl, hr4, hg4⟩
          have HB4 := Go.Lib.hid (below_on (below_gr HBb.out HRr.out hg4) (below_alloc w4 (.cells #[.int .i64 (p : Int), .int .i64 (m : Int)] 30)))
          clear hr4 hg4
          go_wp2_with fail
          go_ret
          exact ⟨by simp, HB4.out⟩
        · rw [if_neg hw] at hx2
          have C3 := Go.Lib.hid (take_q hr m (m : Int) W x _ rfl hx2.symm (by have := HM.out; omega) hx1 rfl)
          clear hnin hcond hx1 hx2 hin hr hb hp hFS hW hil hi12
          go_wp2_with fail
          refine C3.out.mono ?_
          rintro e w4 ⟨rfl, hr4, hg4⟩
          have HB4 := Go.Lib.hid (below_on (below_gr HBb.out HRr.out hg4) (below_alloc w4 (.cells #[.int .i64 W, .int .i64 (m : Int)] 30)))
          clear hr4 hg4
          go_wp2_with fail
          go_ret
          exact ⟨by simp, HB4.out⟩
      · by_cases hw : W < 0
        · rw [if_pos hw] at hx2
          have C3 := Go.Lib.hid (take_q hr m (m : Int) (p : Int) x _ rfl hx2.symm (by have := HM.out; omega) hx1 rfl)
          clear hnin hcond hx1 hx2 hin hr hb hp hFS hW hil hi12
          go_wp2_with fail
          refine C3.out.mono ?_
          rintro e w4 ⟨rfl, hr4, hg4⟩
          have HB4 := Go.Lib.hid (below_on (below_gr HBb.out HRr.out hg4) (below_alloc w4 (.cells #[.int .i64 (p : Int), .int .i64 (m : Int)] 30)))
          clear hr4 hg4
          go_wp2_with fail
          go_ret
          exact ⟨by simp, HB4.out⟩
        · rw [if_neg hw] at hx2
          have C3 := Go.Lib.hid (take_q hr m (m : Int) W x _ rfl hx2.symm (by have := HM.out; omega) hx1 rfl)
          clear hnin hcond hx1 hx2 hin hr hb hp hFS hW hil hi12
          go_wp2_with fail
          refine C3.out.mono ?_
          rintro e w4 ⟨rfl, hr4, hg4⟩
          have HB4 := Go.Lib.hid (below_on (below_gr HBb.out HRr.out hg4) (below_alloc w4 (.cells #[.int .i64 W, .int .i64 (m : Int)] 30)))
          clear hr4 hg4
          go_wp2_with fail
          go_ret
          exact ⟨by simp, HB4.out⟩

/-! ### THE ROW's STEP: WRITTEN OUT: LEAVE IT -/
set_option maxRecDepth 100000 in
theorem lifted (os : Os) (started : os.Started) (H : Type) (enc : TypeId × Value → H) :
    ReturnsInHanded {} Try.checked os 7 .any (Rows.extentFirstSpec.pre6 enc Try.prog Try.f7 Rows.extentFirstRow.domain false) (Rows.extentFirstSpec.post enc Try.prog Try.f7 false true false false) := by
  refine returnsInHanded_of_change (C := Try.checked) own started (by kernel_rfl) Try.func7
    (ChangeSpec.witness6 (enc := enc) (C := Try.checked) false ⟨#[], #[.slice none 0 0, .int .i64 0], []⟩ 8 (by kernel_rfl) (by kernel_rfl) (by kernel_rfl) (by kernel_rfl)) ?_
  intro W base args ds gs before hval0 hW hcnd _
  have hval : ∀ (j : Nat) t v, Try.f7.params[j]? = some t → args[j]? = some v → Value.okWide Try.prog W .any base t v := hval0
  have hW' := hW
  obtain ⟨p, q, hA0, hV, rfl, hfz, hnd⟩ := hW
  have hA : DataW.TrodAll enc Try.prog W 0 (fun _ => true) true Try.f7.params.toList args.toList ds p := hA0
  rw [Try.params7] at hA hval
  obtain ⟨v0, vs0, d0, ds0, p0, q0, hargs, rfl, rfl, h0, r0⟩ := trodAll_cons hA
  obtain ⟨v1, vs1, d1, ds1, p1, q1, rfl, rfl, rfl, h1, r1⟩ := trodAll_cons r0
  obtain ⟨rfl, rfl, rfl⟩ := trodAll_nil r1
  obtain rfl : args = #[v0, v1] := by cases args; simp_all
  obtain ⟨rfl, rfl⟩ := trodVars_none hV
  obtain ⟨a0, len0, cap0, rfl⟩ := okWide_slice Try.underlying36 (hval 0 36 v0 rfl rfl)
  have k0 := h0
  have lt0 : ∀ x ∈ p0, x.block < W.heap.size := by obtain ⟨m, hm⟩ := k0; exact DataW.trod_lt m _ _ _ hm
  obtain ⟨z0, w0⟩ : ∃ zs, IsRow .i64 W a0 len0 cap0 zs := by
    obtain ⟨fuel, hf⟩ := h0
    rcases open_ints Try.underlying36 Try.underlying3 (by kernel_rfl) hf with ⟨hcs, _⟩ | ⟨x, l, c, zs, hcs, _, hl, hm, hz, _, hcell, hwz⟩
    · simp [Value.cells] at hcs
      obtain ⟨rfl, rfl, rfl⟩ := hcs
      exact ⟨[], .inl ⟨rfl, rfl, rfl, rfl⟩⟩
    · simp [Value.cells] at hcs
      obtain ⟨rfl, rfl, rfl⟩ := hcs
      exact ⟨zs, .inr ⟨_, rfl, hl, hm, by simpa using hz, hcell, hwz⟩⟩
  obtain ⟨a1, rfl, rfl, rfl, w1⟩ := open_int Try.underlying3 (hval 1 3 v1 rfl rfl) h1
  clear hA0 hval0
  refine (walk a0 len0 cap0 z0 a1 W w0 w1).mono fun e W' ⟨he, bel⟩ => ?_
  subst he
  exact ⟨_, rfl, _, _, _, [], _, [], hW', trodAll_mk1 (shut_bool Try.underlying4 _), (trodAll_cons_mk (Below.trod laidOut (by kernel_rfl) (of_decide_eq_true (by kernel_rfl)) k0 bel lt0) (trodAll_cons_mk (shut_int Try.underlying3 w1) trodAll_mk0)), rfl, bel.frame _, fun h => by cases h⟩

theorem over : Rows.extentFirstRow.holds Try.pinned (OpenSpec.ofChange Rows.extentFirstSpec) :=
  OpenClaim.holds_of_wide 7 Try.f7 rfl rfl rfl rfl rfl rfl rfl ⟨rfl, rfl, rfl, rfl, rfl⟩ rfl rfl rfl rfl rfl (by kernel_rfl) Try.func7 (by kernel_rfl)
    (of_decide_eq_true (by kernel_rfl)) (by unfold Func.isWrapper; first | (rw [if_pos (by decide +kernel)]; kernel_rfl) | (rw [if_neg (by decide +kernel)]; exact ⟨rfl, rfl⟩))
    (fun os started H enc _ => lifted os started H enc)

/-- ████ THE STATEMENT ████ -/
theorem proved : Rows.ExtentFirstSaid := over
#print axioms proved
end Go.Proofs.Ytheljojjpnpdaaa.extentFirst
