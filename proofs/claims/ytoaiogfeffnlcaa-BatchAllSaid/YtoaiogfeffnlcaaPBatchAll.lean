/- BatchAll: which rows may be; those go to bytes and back; two have one text just if they are the same: for every two slices of records the law returns true. -/
import Derived.Test.YtoaiogfeffnlcaaRows
import Derived.WalkKit
import Derived.ProofKit
import Derived.OpenShut
import Derived.ShutString
import Derived.ChangeOld
import Derived.Below
import Derived.Test.YtoaiogfeffnlcaaRec
import Derived.Test.YtoaiogfeffnlcaaBatL
import Derived.Test.YtoaiogfeffnlcaaBatT
import Derived.Test.YtoaiogfeffnlcaaDraw
namespace Go.Proofs.Ytoaiogfeffnlcaa.batchAll
open Go.ChangeShapes Go.WideShapes Go.ChangeAt Go.RowKit
open Go.ChangeMaps (open_string shut_string)
set_option linter.unusedVariables false

theorem own : ownKnob Try.prog.godebug = none := by kernel_rfl
theorem laidOut : laidOutB Try.prog = true := by kernel_rfl

def W6 (u0 u1 ub : Value) (A : List UInt8) (ml t : Bool) : Nat → World → Value → Prop
  | 18, _, v => v = u0
  | 19, _, v => v = .bool ml
  | 20, _, v => v = u0
  | 21, _, v => v = .bool ml
  | 22, _, v => v = .bool false
  | 23, _, v => v = .bool false
  | 24, _, v => v = ub
  | 25, _, v => v = .string (str A)
  | 26, _, v => v = u0
  | 27, w, v => RB w v A
  | 28, _, v => v = .string (str A)
  | 29, _, v => v = .bool false
  | 30, _, v => v = .bool false
  | 31, _, v => v = .bool false
  | 32, _, v => v = u0
  | 33, _, v => v = u1
  | 34, _, v => v = .bool t
  | 35, _, v => v = u0
  | 36, _, v => v = u1
  | 37, _, v => v = .bool t
  | 38, _, v => v = .bool false
  | 39, _, v => v = .bool false
  | _, _, _ => True

theorem W6_below (u0 u1 ub : Value) (A : List UInt8) (ml t : Bool) : ∀ (i : Nat) (w w' : World) (v : Value), W6 u0 u1 ub A ml t i w v → Below w.heap.size w w' → W6 u0 u1 ub A ml t i w' v := by
  intro i w w' v h hb
  unfold W6 at h ⊢
  split at h <;> first | exact h | trivial | exact RB.below h hb | exact Own.below h hb | exact OwnV.below h hb

def WT (u0 u1 ub ux : Value) (A B : List UInt8) (t : Bool) : Nat → World → Value → Prop
  | 4, _, v => v = .bool true
  | 51, _, v => v = .int .i64 0
  | 52, _, v => v = .bool true
  | 53, _, v => v = .bool true
  | 54, _, v => v = ux
  | 55, _, v => v = u0
  | 56, _, v => v = .bool true
  | 57, _, v => v = .bool true
  | 58, _, v => v = .bool true
  | 59, _, v => v = u1
  | 60, _, v => v = .bool true
  | 61, _, v => v = .bool false
  | 62, _, v => v = .bool false
  | 63, _, v => v = u1
  | 64, w, v => RB w v B
  | 65, _, v => v = .string (str B)
  | 66, _, v => v = ub
  | 67, _, v => v = .string (str A)
  | 68, _, v => v = .bool t
  | 69, _, v => v = u0
  | 70, _, v => v = u1
  | 71, _, v => v = .bool t
  | 72, _, v => v = .bool true
  | 73, _, v => v = .bool true
  | 74, _, v => v = .bool true
  | _, _, _ => True

theorem WT_below (u0 u1 ub ux : Value) (A B : List UInt8) (t : Bool) : ∀ (i : Nat) (w w' : World) (v : Value), WT u0 u1 ub ux A B t i w v → Below w.heap.size w w' → WT u0 u1 ub ux A B t i w' v := by
  intro i w w' v h hb
  unfold WT at h ⊢
  split at h <;> first | exact h | trivial | exact RB.below h hb | exact Own.below h hb | exact OwnV.below h hb

def WF (u0 u1 ub ux : Value) (A B : List UInt8) (t : Bool) : Nat → World → Value → Prop
  | 4, _, v => v = .bool true
  | 51, _, v => v = .int .i64 0
  | 52, _, v => v = .bool true
  | 53, _, v => v = .bool true
  | 54, _, v => v = ux
  | 55, _, v => v = u0
  | 56, _, v => v = .bool true
  | 57, _, v => v = .bool true
  | 58, _, v => v = .bool true
  | 59, _, v => v = u1
  | 60, _, v => v = .bool false
  | 61, _, v => v = .bool true
  | 62, _, v => v = .bool true
  | 63, _, v => v = undef
  | 64, _, v => v = undef
  | 65, _, v => v = undef
  | 66, _, v => v = undef
  | 67, _, v => v = undef
  | 68, _, v => v = undef
  | 69, _, v => v = undef
  | 70, _, v => v = undef
  | 71, _, v => v = undef
  | 72, _, v => v = undef
  | 73, _, v => v = .bool true
  | 74, _, v => v = .bool true
  | _, _, _ => True

theorem WF_below (u0 u1 ub ux : Value) (A B : List UInt8) (t : Bool) : ∀ (i : Nat) (w w' : World) (v : Value), WF u0 u1 ub ux A B t i w v → Below w.heap.size w w' → WF u0 u1 ub ux A B t i w' v := by
  intro i w w' v h hb
  unfold WF at h ⊢
  split at h <;> first | exact h | trivial | exact RB.below h hb | exact Own.below h hb | exact OwnV.below h hb

set_option maxHeartbeats 4000000 in
set_option maxRecDepth 100000 in
theorem walk (w : World) (a0 : Option Addr) (len0 cap0 : Nat) (l0 : List RecT) (w0 : RRec w (.slice a0 len0 cap0) l0) (a1 : Option Addr) (len1 cap1 : Nat) (l1 : List RecT) (w1 : RRec w (.slice a1 len1 cap1) l1) :
    Calls Try.prog 3 #[.slice a0 len0 cap0, .slice a1 len1 cap1] w fun e w' => e = .returned (.bool true) ∧ Below w.heap.size w w' := by
  have C0 := Go.Lib.hid fun W (h : RRec W (.slice a0 len0 cap0) l0) => recs_c (.slice a0 len0 cap0) l0 20 W h (by omega)
  have C1 := Go.Lib.hid fun W (h : RRec W (.slice a1 len1 cap1) l1) => recs_c (.slice a1 len1 cap1) l1 20 W h (by omega)
  have hL := ok_cut w0.ok 20
  have hM := ok_cut w1.ok 20
  generalize (l0.take 20).map cutR = L at *
  generalize (l1.take 20).map cutR = M at *
  have OKL := Go.Lib.hid hL
  have OKM := Go.Lib.hid hM
  have HR0 := Go.Lib.hid w0
  have HR1 := Go.Lib.hid w1
  clear hL hM w0 w1
  obtain ⟨ml, hml⟩ : ∃ ml, mayRow L = ml := ⟨_, rfl⟩
  obtain ⟨mb, hmb⟩ : ∃ mb, mayRow M = mb := ⟨_, rfl⟩
  obtain ⟨t, ht⟩ : ∃ t, decide (L = M) = t := ⟨_, rfl⟩
  obtain ⟨A, hA⟩ : ∃ A, rowE L = A := ⟨_, rfl⟩
  obtain ⟨B, hB⟩ : ∃ B, rowE M = B := ⟨_, rfl⟩
  have HML := Go.Lib.hid hml
  have HMB := Go.Lib.hid hmb
  have HT := Go.Lib.hid ht
  have HA := Go.Lib.hid hA
  have HBB := Go.Lib.hid hB
  clear hml hmb ht hA hB
  go_enter Try.func3, Try.ntmps3
  go_wp2_with fail
  refine (begun_c _).mono ?_
  rintro e w2 ⟨rfl, hc⟩
  have HR0 := Go.Lib.hid (HR0.out.below hc)
  have HR1 := Go.Lib.hid (HR1.out.below hc)
  have HB := Go.Lib.hid hc
  clear hc
  go_wp2_with fail
  refine (C0.out _ HR0.out).mono ?_
  rintro e w3 ⟨u0, rfl, hown, hc⟩
  have HU0 := Go.Lib.hid hown.rs
  have HR1 := Go.Lib.hid (HR1.out.below hc)
  have HB := Go.Lib.hid (below_to HB.out (Nat.le_refl _) hc)
  clear hc hown HR0 C0
  go_wp2_with fail
  refine (C1.out _ HR1.out).mono ?_
  rintro e w4 ⟨u1, rfl, hown, hc⟩
  have HU1 := Go.Lib.hid hown.rs
  have HU0 := Go.Lib.hid (HU0.out.below hc)
  have HB := Go.Lib.hid (below_to HB.out (Nat.le_refl _) hc)
  clear hc hown HR1 C1
  go_wp2_with fail
  refine (bencode_ok HU0.out OKL.out HA.out).mono ?_
  rintro e w5 ⟨ub, rfl, hown, hc⟩
  have HUB := Go.Lib.hid hown.rb
  have HU0 := Go.Lib.hid (HU0.out.below hc)
  have HU1 := Go.Lib.hid (HU1.out.below hc)
  have HB := Go.Lib.hid (below_to HB.out (Nat.le_refl _) hc)
  clear hc hown
  have CM := Go.Lib.hid fun W (h : RS W u0 L) => bmay_ok h OKL.out HML.out
  have CMA := Go.Lib.hid fun W (h : RS W u0 L) => rmayall_ok h OKL.out HML.out
  have CRW := Go.Lib.hid fun W (h : RS W u0 L) => rrow_ok h OKL.out HA.out
  have CE := Go.Lib.hid fun W (h : RS W u0 L) (g : RS W u1 M) => beq_ok h g HT.out
  have CER := Go.Lib.hid fun W (h : RS W u0 L) (g : RS W u1 M) => reqrecs_ok h g HT.out
  go_upto_region 6 with (fail)
  refine wp_region_each (by kernel_rfl) (W6 u0 u1 ub A ml t) (W6_below u0 u1 ub A ml t) (by decide +kernel) (by decide +kernel) (by rfl) [18, 19, 20, 21, 22, 23, 24, 25, 26, 27, 28, 29, 30, 31, 32, 33, 34, 35, 36, 37, 38, 39] (by rfl) ?_ ?_
  · intro i o ho a w6 hb6 hlen hg
    match i, ho with
    | 0, ho =>
      obtain rfl := Option.some.inj ho
      have h0 := given_old hg 0 (by decide +kernel)
      clear hg
      exact st_yield ho (wanted_none rfl) (u0) w6 (by simp [execOp, Act.eval, h0, go_sem]) ⟨_, rfl, Below.refl _ _, by rintro t' ⟨⟩; rfl⟩
    | 1, ho =>
      obtain rfl := Option.some.inj ho
      obtain ⟨v18', h18, p18⟩ := given_fed hg 18 (by decide +kernel)
      have p18 : v18' = u0 := p18
      rw [p18] at h18
      clear hg
      exact st_enter (w1 := w6) ho (wanted_none rfl) 10 #[u0] (by simp [execOp, Act.eval, h18, resolve, go_sem]) ((CM.out _ (HU0.out.below hb6)).mono (by rintro e w7 ⟨rfl, hb7⟩; exact ⟨_, rfl, _, rfl, hb7, by rintro t' ⟨⟩; rfl⟩))
    | 2, ho =>
      obtain rfl := Option.some.inj ho
      have h0 := given_old hg 0 (by decide +kernel)
      clear hg
      exact st_yield ho (wanted_none rfl) (u0) w6 (by simp [execOp, Act.eval, h0, go_sem]) ⟨_, rfl, Below.refl _ _, by rintro t' ⟨⟩; rfl⟩
    | 3, ho =>
      obtain rfl := Option.some.inj ho
      obtain ⟨v20', h20, p20⟩ := given_fed hg 20 (by decide +kernel)
      have p20 : v20' = u0 := p20
      rw [p20] at h20
      clear hg
      exact st_enter (w1 := w6) ho (wanted_none rfl) 11 #[u0] (by simp [execOp, Act.eval, h20, resolve, go_sem]) ((CMA.out _ (HU0.out.below hb6)).mono (by rintro e w7 ⟨rfl, hb7⟩; exact ⟨_, rfl, _, rfl, hb7, by rintro t' ⟨⟩; rfl⟩))
    | 4, ho =>
      obtain rfl := Option.some.inj ho
      obtain ⟨_, h19, rfl⟩ := given_fed hg 19 (by decide +kernel)
      obtain ⟨_, h21, rfl⟩ := given_fed hg 21 (by decide +kernel)
      clear hg
      exact st_yield ho (wanted_none rfl) (.bool false) w6 (by simp [execOp, Act.eval, h19, h21, go_sem]) ⟨_, rfl, Below.refl _ _, by rintro t' ⟨⟩; rfl⟩
    | 5, ho =>
      obtain rfl := Option.some.inj ho
      obtain ⟨_, h22, rfl⟩ := given_fed hg 22 (by decide +kernel)
      clear hg
      exact st_yield ho (wanted_none rfl) (.bool false) w6 (by simp [execOp, Act.eval, h22, go_sem]) ⟨_, rfl, Below.refl _ _, by rintro t' ⟨⟩; rfl⟩
    | 6, ho =>
      obtain rfl := Option.some.inj ho
      have h6 := given_old hg 6 (by decide +kernel)
      obtain ⟨_, h23, rfl⟩ := given_fed hg 23 (by decide +kernel)
      clear hg
      exact st_yield ho (wanted_some rfl rfl h23 rfl) (ub) w6 (by simp [execOp, Act.eval, h6, go_sem]) ⟨_, rfl, Below.refl _ _, by rintro t' ⟨⟩; rfl⟩
    | 7, ho =>
      obtain rfl := Option.some.inj ho
      obtain ⟨v24', h24, p24⟩ := given_fed hg 24 (by decide +kernel)
      have p24 : v24' = ub := p24
      rw [p24] at h24
      obtain ⟨_, h23, rfl⟩ := given_fed hg 23 (by decide +kernel)
      clear hg
      have cv := run_string_RB w6 25 5 9 Try.underlying25 Try.underlying5 Try.underlying9 ub _ (HUB.out.below hb6)
      exact st_yield ho (wanted_some rfl rfl h23 rfl) (.string (str A)) w6 (by simp [execOp, Act.eval, h24, go_sem, cv, Result.andThen]) ⟨_, rfl, Below.refl _ _, by rintro t' ⟨⟩; rfl⟩
    | 8, ho =>
      obtain rfl := Option.some.inj ho
      have h0 := given_old hg 0 (by decide +kernel)
      obtain ⟨_, h23, rfl⟩ := given_fed hg 23 (by decide +kernel)
      clear hg
      exact st_yield ho (wanted_some rfl rfl h23 rfl) (u0) w6 (by simp [execOp, Act.eval, h0, go_sem]) ⟨_, rfl, Below.refl _ _, by rintro t' ⟨⟩; rfl⟩
    | 9, ho =>
      obtain rfl := Option.some.inj ho
      obtain ⟨v26', h26, p26⟩ := given_fed hg 26 (by decide +kernel)
      have p26 : v26' = u0 := p26
      rw [p26] at h26
      obtain ⟨_, h23, rfl⟩ := given_fed hg 23 (by decide +kernel)
      clear hg
      exact st_enter (w1 := w6) ho (wanted_some rfl rfl h23 rfl) 12 #[u0] (by simp [execOp, Act.eval, h26, resolve, go_sem]) ((CRW.out _ (HU0.out.below hb6)).mono (by rintro e w7 ⟨v, rfl, hown, hb7⟩; exact ⟨v, rfl, _, rfl, hb7, by rintro t' ⟨⟩; exact hown.rb⟩))
    | 10, ho =>
      obtain rfl := Option.some.inj ho
      obtain ⟨v27, h27, p27⟩ := given_fed hg 27 (by decide +kernel)
      obtain ⟨_, h23, rfl⟩ := given_fed hg 23 (by decide +kernel)
      clear hg
      have cv := run_string_RB w6 25 5 9 Try.underlying25 Try.underlying5 Try.underlying9 v27 _ p27
      exact st_yield ho (wanted_some rfl rfl h23 rfl) (.string (str A)) w6 (by simp [execOp, Act.eval, h27, go_sem, cv, Result.andThen]) ⟨_, rfl, Below.refl _ _, by rintro t' ⟨⟩; rfl⟩
    | 11, ho =>
      obtain rfl := Option.some.inj ho
      obtain ⟨_, h25, rfl⟩ := given_fed hg 25 (by decide +kernel)
      obtain ⟨_, h28, rfl⟩ := given_fed hg 28 (by decide +kernel)
      obtain ⟨_, h23, rfl⟩ := given_fed hg 23 (by decide +kernel)
      clear hg
      exact st_yield ho (wanted_some rfl rfl h23 rfl) (.bool false) w6 (by simp [execOp, Act.eval, h25, h28, go_sem]) ⟨_, rfl, Below.refl _ _, by rintro t' ⟨⟩; rfl⟩
    | 12, ho =>
      obtain rfl := Option.some.inj ho
      obtain ⟨_, h23, rfl⟩ := given_fed hg 23 (by decide +kernel)
      obtain ⟨_, h29, rfl⟩ := given_fed hg 29 (by decide +kernel)
      clear hg
      exact st_yield ho (wanted_none rfl) (.bool false) w6 (by simp [execOp, Act.eval, h23, h29, go_sem]) ⟨_, rfl, Below.refl _ _, by rintro t' ⟨⟩; rfl⟩
    | 13, ho =>
      obtain rfl := Option.some.inj ho
      obtain ⟨_, h30, rfl⟩ := given_fed hg 30 (by decide +kernel)
      clear hg
      exact st_yield ho (wanted_none rfl) (.bool false) w6 (by simp [execOp, Act.eval, h30, go_sem]) ⟨_, rfl, Below.refl _ _, by rintro t' ⟨⟩; rfl⟩
    | 14, ho =>
      obtain rfl := Option.some.inj ho
      have h0 := given_old hg 0 (by decide +kernel)
      obtain ⟨_, h31, rfl⟩ := given_fed hg 31 (by decide +kernel)
      clear hg
      exact st_yield ho (wanted_some rfl rfl h31 rfl) (u0) w6 (by simp [execOp, Act.eval, h0, go_sem]) ⟨_, rfl, Below.refl _ _, by rintro t' ⟨⟩; rfl⟩
    | 15, ho =>
      obtain rfl := Option.some.inj ho
      have h1 := given_old hg 1 (by decide +kernel)
      obtain ⟨_, h31, rfl⟩ := given_fed hg 31 (by decide +kernel)
      clear hg
      exact st_yield ho (wanted_some rfl rfl h31 rfl) (u1) w6 (by simp [execOp, Act.eval, h1, go_sem]) ⟨_, rfl, Below.refl _ _, by rintro t' ⟨⟩; rfl⟩
    | 16, ho =>
      obtain rfl := Option.some.inj ho
      obtain ⟨v32', h32, p32⟩ := given_fed hg 32 (by decide +kernel)
      have p32 : v32' = u0 := p32
      rw [p32] at h32
      obtain ⟨v33', h33, p33⟩ := given_fed hg 33 (by decide +kernel)
      have p33 : v33' = u1 := p33
      rw [p33] at h33
      obtain ⟨_, h31, rfl⟩ := given_fed hg 31 (by decide +kernel)
      clear hg
      exact st_enter (w1 := w6) ho (wanted_some rfl rfl h31 rfl) 13 #[u0, u1] (by simp [execOp, Act.eval, h32, h33, resolve, go_sem]) ((CE.out _ (HU0.out.below hb6) (HU1.out.below hb6)).mono (by rintro e w7 ⟨rfl, hb7⟩; exact ⟨_, rfl, _, rfl, hb7, by rintro t' ⟨⟩; rfl⟩))
    | 17, ho =>
      obtain rfl := Option.some.inj ho
      have h0 := given_old hg 0 (by decide +kernel)
      obtain ⟨_, h31, rfl⟩ := given_fed hg 31 (by decide +kernel)
      clear hg
      exact st_yield ho (wanted_some rfl rfl h31 rfl) (u0) w6 (by simp [execOp, Act.eval, h0, go_sem]) ⟨_, rfl, Below.refl _ _, by rintro t' ⟨⟩; rfl⟩
    | 18, ho =>
      obtain rfl := Option.some.inj ho
      have h1 := given_old hg 1 (by decide +kernel)
      obtain ⟨_, h31, rfl⟩ := given_fed hg 31 (by decide +kernel)
      clear hg
      exact st_yield ho (wanted_some rfl rfl h31 rfl) (u1) w6 (by simp [execOp, Act.eval, h1, go_sem]) ⟨_, rfl, Below.refl _ _, by rintro t' ⟨⟩; rfl⟩
    | 19, ho =>
      obtain rfl := Option.some.inj ho
      obtain ⟨v35', h35, p35⟩ := given_fed hg 35 (by decide +kernel)
      have p35 : v35' = u0 := p35
      rw [p35] at h35
      obtain ⟨v36', h36, p36⟩ := given_fed hg 36 (by decide +kernel)
      have p36 : v36' = u1 := p36
      rw [p36] at h36
      obtain ⟨_, h31, rfl⟩ := given_fed hg 31 (by decide +kernel)
      clear hg
      exact st_enter (w1 := w6) ho (wanted_some rfl rfl h31 rfl) 14 #[u0, u1] (by simp [execOp, Act.eval, h35, h36, resolve, go_sem]) ((CER.out _ (HU0.out.below hb6) (HU1.out.below hb6)).mono (by rintro e w7 ⟨rfl, hb7⟩; exact ⟨_, rfl, _, rfl, hb7, by rintro t' ⟨⟩; rfl⟩))
    | 20, ho =>
      obtain rfl := Option.some.inj ho
      obtain ⟨_, h34, rfl⟩ := given_fed hg 34 (by decide +kernel)
      obtain ⟨_, h37, rfl⟩ := given_fed hg 37 (by decide +kernel)
      obtain ⟨_, h31, rfl⟩ := given_fed hg 31 (by decide +kernel)
      clear hg
      exact st_yield ho (wanted_some rfl rfl h31 rfl) (.bool false) w6 (by simp [execOp, Act.eval, h34, h37, go_sem]) ⟨_, rfl, Below.refl _ _, by rintro t' ⟨⟩; rfl⟩
    | 21, ho =>
      obtain rfl := Option.some.inj ho
      obtain ⟨_, h31, rfl⟩ := given_fed hg 31 (by decide +kernel)
      obtain ⟨_, h38, rfl⟩ := given_fed hg 38 (by decide +kernel)
      clear hg
      exact st_yield ho (wanted_none rfl) (.bool false) w6 (by simp [execOp, Act.eval, h31, h38, go_sem]) ⟨_, rfl, Below.refl _ _, by rintro t' ⟨⟩; rfl⟩
    | n + 22, ho => simp at ho
  · intro f w6 hb6 hv
    have h39 := hv 39 (by decide)
    simp only [W6] at h39
    have HUB := Go.Lib.hid (HUB.out.below hb6)
    have HU0 := Go.Lib.hid (HU0.out.below hb6)
    have HU1 := Go.Lib.hid (HU1.out.below hb6)
    have HB := Go.Lib.hid (below_to HB.out (Nat.le_refl _) hb6)
    clear hv hb6 CM CRW CE
    unfold putAll
    simp only [List.foldl]
    simp only [h39]
    go_simp
    go_wp2_with fail
    refine (CMA.out _ HU0.out).mono ?_
    rintro e w7 ⟨rfl, hc⟩
    have HUB := Go.Lib.hid (HUB.out.below hc)
    have HU0 := Go.Lib.hid (HU0.out.below hc)
    have HU1 := Go.Lib.hid (HU1.out.below hc)
    have HB := Go.Lib.hid (below_to HB.out (Nat.le_refl _) hc)
    clear hc CMA
    cases ml with
    | false =>
      have hA0 : A = [] := HA.out.symm.trans (rowE_no HML.out)
      have hub := HUB.out
      rw [hA0] at hub
      obtain ⟨a, c, rfl, -⟩ := hub
      clear HUB HA
      go_wp2_with fail
      go_ret
      exact ⟨rfl, HB.out⟩
    | true =>
      have hDA : rowD A = some L := by rw [← HA.out, rowE_of HML.out]; exact rowD_put HML.out OKL.out
      have HDA := Go.Lib.hid hDA
      clear hDA
      go_wp2_with fail
      refine (bdecode_c HUB.out HDA.out).mono ?_
      rintro e w8 ⟨ux, rfl, hown, hc⟩
      have HX := Go.Lib.hid hown.rs
      have HUB := Go.Lib.hid (HUB.out.below hc)
      have HU0 := Go.Lib.hid (HU0.out.below hc)
      have HU1 := Go.Lib.hid (HU1.out.below hc)
      have HB := Go.Lib.hid (below_to HB.out (Nat.le_refl _) hc)
      clear hc hown HDA
      have CEX := Go.Lib.hid fun W (h : RS W ux L) (g : RS W u0 L) => reqrecs_ok h g (decide_eq_true rfl)
      have CMB := Go.Lib.hid fun W (h : RS W u1 M) => rmayall_ok h OKM.out HMB.out
      have CEN := Go.Lib.hid fun W (h : RS W u1 M) => bencode_ok h OKM.out HBB.out
      cases mb with
      | true =>
        have HP := Go.Lib.hid (show ((str B).toList == (str A).toList) = t by rw [← HA.out, ← HBB.out, rows_one HML.out OKL.out HMB.out OKM.out]; exact HT.out)
        go_upto_region 11 with (fail)
        refine wp_region_each (by kernel_rfl) (WT u0 u1 ub ux A B t) (WT_below u0 u1 ub ux A B t) (by decide +kernel) (by decide +kernel) (by rfl) [51, 52, 53, 54, 55, 56, 57, 58, 59, 60, 61, 62, 63, 64, 65, 66, 67, 68, 69, 70, 71, 72, 73, 74, 4] (by rfl) ?_ ?_
        · intro i o ho a w6 hb6 hlen hg
          match i, ho with
          | 0, ho =>
            obtain rfl := Option.some.inj ho
            have h8 := given_old hg 8 (by decide +kernel)
            clear hg
            exact st_yield ho (wanted_none rfl) (.int .i64 0) w6 (by simp [execOp, Act.eval, h8, go_sem]) ⟨_, rfl, Below.refl _ _, by rintro t' ⟨⟩; rfl⟩
          | 1, ho =>
            obtain rfl := Option.some.inj ho
            obtain ⟨_, h51, rfl⟩ := given_fed hg 51 (by decide +kernel)
            clear hg
            exact st_yield ho (wanted_none rfl) (.bool true) w6 (by simp [execOp, Act.eval, h51, go_sem]) ⟨_, rfl, Below.refl _ _, by rintro t' ⟨⟩; rfl⟩
          | 2, ho =>
            obtain rfl := Option.some.inj ho
            obtain ⟨_, h52, rfl⟩ := given_fed hg 52 (by decide +kernel)
            clear hg
            exact st_yield ho (wanted_none rfl) (.bool true) w6 (by simp [execOp, Act.eval, h52, go_sem]) ⟨_, rfl, Below.refl _ _, by rintro t' ⟨⟩; rfl⟩
          | 3, ho =>
            obtain rfl := Option.some.inj ho
            have h7 := given_old hg 7 (by decide +kernel)
            obtain ⟨_, h53, rfl⟩ := given_fed hg 53 (by decide +kernel)
            clear hg
            exact st_yield ho (wanted_some rfl rfl h53 rfl) (ux) w6 (by simp [execOp, Act.eval, h7, go_sem]) ⟨_, rfl, Below.refl _ _, by rintro t' ⟨⟩; rfl⟩
          | 4, ho =>
            obtain rfl := Option.some.inj ho
            have h0 := given_old hg 0 (by decide +kernel)
            obtain ⟨_, h53, rfl⟩ := given_fed hg 53 (by decide +kernel)
            clear hg
            exact st_yield ho (wanted_some rfl rfl h53 rfl) (u0) w6 (by simp [execOp, Act.eval, h0, go_sem]) ⟨_, rfl, Below.refl _ _, by rintro t' ⟨⟩; rfl⟩
          | 5, ho =>
            obtain rfl := Option.some.inj ho
            obtain ⟨v54', h54, p54⟩ := given_fed hg 54 (by decide +kernel)
            have p54 : v54' = ux := p54
            rw [p54] at h54
            obtain ⟨v55', h55, p55⟩ := given_fed hg 55 (by decide +kernel)
            have p55 : v55' = u0 := p55
            rw [p55] at h55
            obtain ⟨_, h53, rfl⟩ := given_fed hg 53 (by decide +kernel)
            clear hg
            exact st_enter (w1 := w6) ho (wanted_some rfl rfl h53 rfl) 14 #[ux, u0] (by simp [execOp, Act.eval, h54, h55, resolve, go_sem]) ((CEX.out _ (HX.out.below hb6) (HU0.out.below hb6)).mono (by rintro e w7 ⟨rfl, hb7⟩; exact ⟨_, rfl, _, rfl, hb7, by rintro t' ⟨⟩; rfl⟩))
          | 6, ho =>
            obtain rfl := Option.some.inj ho
            obtain ⟨_, h53, rfl⟩ := given_fed hg 53 (by decide +kernel)
            obtain ⟨_, h56, rfl⟩ := given_fed hg 56 (by decide +kernel)
            clear hg
            exact st_yield ho (wanted_none rfl) (.bool true) w6 (by simp [execOp, Act.eval, h53, h56, go_sem]) ⟨_, rfl, Below.refl _ _, by rintro t' ⟨⟩; rfl⟩
          | 7, ho =>
            obtain rfl := Option.some.inj ho
            obtain ⟨_, h57, rfl⟩ := given_fed hg 57 (by decide +kernel)
            clear hg
            exact st_yield ho (wanted_none rfl) (.bool true) w6 (by simp [execOp, Act.eval, h57, go_sem]) ⟨_, rfl, Below.refl _ _, by rintro t' ⟨⟩; rfl⟩
          | 8, ho =>
            obtain rfl := Option.some.inj ho
            have h1 := given_old hg 1 (by decide +kernel)
            obtain ⟨_, h58, rfl⟩ := given_fed hg 58 (by decide +kernel)
            clear hg
            exact st_yield ho (wanted_some rfl rfl h58 rfl) (u1) w6 (by simp [execOp, Act.eval, h1, go_sem]) ⟨_, rfl, Below.refl _ _, by rintro t' ⟨⟩; rfl⟩
          | 9, ho =>
            obtain rfl := Option.some.inj ho
            obtain ⟨v59', h59, p59⟩ := given_fed hg 59 (by decide +kernel)
            have p59 : v59' = u1 := p59
            rw [p59] at h59
            obtain ⟨_, h58, rfl⟩ := given_fed hg 58 (by decide +kernel)
            clear hg
            exact st_enter (w1 := w6) ho (wanted_some rfl rfl h58 rfl) 11 #[u1] (by simp [execOp, Act.eval, h59, resolve, go_sem]) ((CMB.out _ (HU1.out.below hb6)).mono (by rintro e w7 ⟨rfl, hb7⟩; exact ⟨_, rfl, _, rfl, hb7, by rintro t' ⟨⟩; rfl⟩))
          | 10, ho =>
            obtain rfl := Option.some.inj ho
            obtain ⟨_, h60, rfl⟩ := given_fed hg 60 (by decide +kernel)
            obtain ⟨_, h58, rfl⟩ := given_fed hg 58 (by decide +kernel)
            clear hg
            exact st_yield ho (wanted_some rfl rfl h58 rfl) (.bool false) w6 (by simp [execOp, Act.eval, h60, go_sem]) ⟨_, rfl, Below.refl _ _, by rintro t' ⟨⟩; rfl⟩
          | 11, ho =>
            obtain rfl := Option.some.inj ho
            obtain ⟨_, h61, rfl⟩ := given_fed hg 61 (by decide +kernel)
            obtain ⟨_, h58, rfl⟩ := given_fed hg 58 (by decide +kernel)
            clear hg
            exact st_yield ho (wanted_some rfl rfl h58 rfl) (.bool false) w6 (by simp [execOp, Act.eval, h61, go_sem]) ⟨_, rfl, Below.refl _ _, by rintro t' ⟨⟩; rfl⟩
          | 12, ho =>
            obtain rfl := Option.some.inj ho
            have h1 := given_old hg 1 (by decide +kernel)
            obtain ⟨_, h62, rfl⟩ := given_fed hg 62 (by decide +kernel)
            clear hg
            exact st_yield ho (wanted_some rfl rfl h62 rfl) (u1) w6 (by simp [execOp, Act.eval, h1, go_sem]) ⟨_, rfl, Below.refl _ _, by rintro t' ⟨⟩; rfl⟩
          | 13, ho =>
            obtain rfl := Option.some.inj ho
            obtain ⟨v63', h63, p63⟩ := given_fed hg 63 (by decide +kernel)
            have p63 : v63' = u1 := p63
            rw [p63] at h63
            obtain ⟨_, h62, rfl⟩ := given_fed hg 62 (by decide +kernel)
            clear hg
            exact st_enter (w1 := w6) ho (wanted_some rfl rfl h62 rfl) 9 #[u1] (by simp [execOp, Act.eval, h63, resolve, go_sem]) ((CEN.out _ (HU1.out.below hb6)).mono (by rintro e w7 ⟨v, rfl, hown, hb7⟩; exact ⟨v, rfl, _, rfl, hb7, by rintro t' ⟨⟩; exact hown.rb⟩))
          | 14, ho =>
            obtain rfl := Option.some.inj ho
            obtain ⟨v64, h64, p64⟩ := given_fed hg 64 (by decide +kernel)
            obtain ⟨_, h62, rfl⟩ := given_fed hg 62 (by decide +kernel)
            clear hg
            have cv := run_string_RB w6 25 5 9 Try.underlying25 Try.underlying5 Try.underlying9 v64 _ p64
            exact st_yield ho (wanted_some rfl rfl h62 rfl) (.string (str B)) w6 (by simp [execOp, Act.eval, h64, go_sem, cv, Result.andThen]) ⟨_, rfl, Below.refl _ _, by rintro t' ⟨⟩; rfl⟩
          | 15, ho =>
            obtain rfl := Option.some.inj ho
            have h6 := given_old hg 6 (by decide +kernel)
            obtain ⟨_, h62, rfl⟩ := given_fed hg 62 (by decide +kernel)
            clear hg
            exact st_yield ho (wanted_some rfl rfl h62 rfl) (ub) w6 (by simp [execOp, Act.eval, h6, go_sem]) ⟨_, rfl, Below.refl _ _, by rintro t' ⟨⟩; rfl⟩
          | 16, ho =>
            obtain rfl := Option.some.inj ho
            obtain ⟨v66', h66, p66⟩ := given_fed hg 66 (by decide +kernel)
            have p66 : v66' = ub := p66
            rw [p66] at h66
            obtain ⟨_, h62, rfl⟩ := given_fed hg 62 (by decide +kernel)
            clear hg
            have cv := run_string_RB w6 25 5 9 Try.underlying25 Try.underlying5 Try.underlying9 ub _ (HUB.out.below hb6)
            exact st_yield ho (wanted_some rfl rfl h62 rfl) (.string (str A)) w6 (by simp [execOp, Act.eval, h66, go_sem, cv, Result.andThen]) ⟨_, rfl, Below.refl _ _, by rintro t' ⟨⟩; rfl⟩
          | 17, ho =>
            obtain rfl := Option.some.inj ho
            obtain ⟨_, h65, rfl⟩ := given_fed hg 65 (by decide +kernel)
            obtain ⟨_, h67, rfl⟩ := given_fed hg 67 (by decide +kernel)
            obtain ⟨_, h62, rfl⟩ := given_fed hg 62 (by decide +kernel)
            clear hg
            exact st_yield ho (wanted_some rfl rfl h62 rfl) (.bool t) w6 (by simp [execOp, Act.eval, h65, h67, go_sem, HP.out]) ⟨_, rfl, Below.refl _ _, by rintro t' ⟨⟩; rfl⟩
          | 18, ho =>
            obtain rfl := Option.some.inj ho
            have h0 := given_old hg 0 (by decide +kernel)
            obtain ⟨_, h62, rfl⟩ := given_fed hg 62 (by decide +kernel)
            clear hg
            exact st_yield ho (wanted_some rfl rfl h62 rfl) (u0) w6 (by simp [execOp, Act.eval, h0, go_sem]) ⟨_, rfl, Below.refl _ _, by rintro t' ⟨⟩; rfl⟩
          | 19, ho =>
            obtain rfl := Option.some.inj ho
            have h1 := given_old hg 1 (by decide +kernel)
            obtain ⟨_, h62, rfl⟩ := given_fed hg 62 (by decide +kernel)
            clear hg
            exact st_yield ho (wanted_some rfl rfl h62 rfl) (u1) w6 (by simp [execOp, Act.eval, h1, go_sem]) ⟨_, rfl, Below.refl _ _, by rintro t' ⟨⟩; rfl⟩
          | 20, ho =>
            obtain rfl := Option.some.inj ho
            obtain ⟨v69', h69, p69⟩ := given_fed hg 69 (by decide +kernel)
            have p69 : v69' = u0 := p69
            rw [p69] at h69
            obtain ⟨v70', h70, p70⟩ := given_fed hg 70 (by decide +kernel)
            have p70 : v70' = u1 := p70
            rw [p70] at h70
            obtain ⟨_, h62, rfl⟩ := given_fed hg 62 (by decide +kernel)
            clear hg
            exact st_enter (w1 := w6) ho (wanted_some rfl rfl h62 rfl) 14 #[u0, u1] (by simp [execOp, Act.eval, h69, h70, resolve, go_sem]) ((CER.out _ (HU0.out.below hb6) (HU1.out.below hb6)).mono (by rintro e w7 ⟨rfl, hb7⟩; exact ⟨_, rfl, _, rfl, hb7, by rintro t' ⟨⟩; rfl⟩))
          | 21, ho =>
            obtain rfl := Option.some.inj ho
            obtain ⟨_, h68, rfl⟩ := given_fed hg 68 (by decide +kernel)
            obtain ⟨_, h71, rfl⟩ := given_fed hg 71 (by decide +kernel)
            obtain ⟨_, h62, rfl⟩ := given_fed hg 62 (by decide +kernel)
            clear hg
            exact st_yield ho (wanted_some rfl rfl h62 rfl) (.bool true) w6 (by simp [execOp, Act.eval, h68, h71, go_sem]) ⟨_, rfl, Below.refl _ _, by rintro t' ⟨⟩; rfl⟩
          | 22, ho =>
            obtain rfl := Option.some.inj ho
            obtain ⟨_, h62, rfl⟩ := given_fed hg 62 (by decide +kernel)
            obtain ⟨_, h72, rfl⟩ := given_fed hg 72 (by decide +kernel)
            obtain ⟨_, h58, rfl⟩ := given_fed hg 58 (by decide +kernel)
            clear hg
            exact st_yield ho (wanted_some rfl rfl h58 rfl) (.bool true) w6 (by simp [execOp, Act.eval, h62, h72, go_sem]) ⟨_, rfl, Below.refl _ _, by rintro t' ⟨⟩; rfl⟩
          | 23, ho =>
            obtain rfl := Option.some.inj ho
            obtain ⟨_, h58, rfl⟩ := given_fed hg 58 (by decide +kernel)
            obtain ⟨_, h73, rfl⟩ := given_fed hg 73 (by decide +kernel)
            clear hg
            exact st_yield ho (wanted_none rfl) (.bool true) w6 (by simp [execOp, Act.eval, h58, h73, go_sem]) ⟨_, rfl, Below.refl _ _, by rintro t' ⟨⟩; rfl⟩
          | 24, ho =>
            obtain rfl := Option.some.inj ho
            obtain ⟨_, h74, rfl⟩ := given_fed hg 74 (by decide +kernel)
            clear hg
            exact st_yield ho (wanted_none rfl) (.bool true) w6 (by simp [execOp, Act.eval, h74, go_sem]) ⟨_, rfl, Below.refl _ _, by rintro t' ⟨⟩; rfl⟩
          | n + 25, ho => simp at ho
        · intro f w9 hb9 hv
          have h4 := hv 4 (by decide)
          simp only [WT] at h4
          have HB := Go.Lib.hid (below_to HB.out (Nat.le_refl _) hb9)
          clear hv hb9
          unfold putAll
          simp only [List.foldl]
          simp only [h4]
          go_simp
          go_wp2_with fail
          go_ret
          exact ⟨rfl, HB.out⟩
      | false =>
        go_upto_region 11 with (fail)
        refine wp_region_each (by kernel_rfl) (WF u0 u1 ub ux A B t) (WF_below u0 u1 ub ux A B t) (by decide +kernel) (by decide +kernel) (by rfl) [51, 52, 53, 54, 55, 56, 57, 58, 59, 60, 61, 62, 63, 64, 65, 66, 67, 68, 69, 70, 71, 72, 73, 74, 4] (by rfl) ?_ ?_
        · intro i o ho a w6 hb6 hlen hg
          match i, ho with
          | 0, ho =>
            obtain rfl := Option.some.inj ho
            have h8 := given_old hg 8 (by decide +kernel)
            clear hg
            exact st_yield ho (wanted_none rfl) (.int .i64 0) w6 (by simp [execOp, Act.eval, h8, go_sem]) ⟨_, rfl, Below.refl _ _, by rintro t' ⟨⟩; rfl⟩
          | 1, ho =>
            obtain rfl := Option.some.inj ho
            obtain ⟨_, h51, rfl⟩ := given_fed hg 51 (by decide +kernel)
            clear hg
            exact st_yield ho (wanted_none rfl) (.bool true) w6 (by simp [execOp, Act.eval, h51, go_sem]) ⟨_, rfl, Below.refl _ _, by rintro t' ⟨⟩; rfl⟩
          | 2, ho =>
            obtain rfl := Option.some.inj ho
            obtain ⟨_, h52, rfl⟩ := given_fed hg 52 (by decide +kernel)
            clear hg
            exact st_yield ho (wanted_none rfl) (.bool true) w6 (by simp [execOp, Act.eval, h52, go_sem]) ⟨_, rfl, Below.refl _ _, by rintro t' ⟨⟩; rfl⟩
          | 3, ho =>
            obtain rfl := Option.some.inj ho
            have h7 := given_old hg 7 (by decide +kernel)
            obtain ⟨_, h53, rfl⟩ := given_fed hg 53 (by decide +kernel)
            clear hg
            exact st_yield ho (wanted_some rfl rfl h53 rfl) (ux) w6 (by simp [execOp, Act.eval, h7, go_sem]) ⟨_, rfl, Below.refl _ _, by rintro t' ⟨⟩; rfl⟩
          | 4, ho =>
            obtain rfl := Option.some.inj ho
            have h0 := given_old hg 0 (by decide +kernel)
            obtain ⟨_, h53, rfl⟩ := given_fed hg 53 (by decide +kernel)
            clear hg
            exact st_yield ho (wanted_some rfl rfl h53 rfl) (u0) w6 (by simp [execOp, Act.eval, h0, go_sem]) ⟨_, rfl, Below.refl _ _, by rintro t' ⟨⟩; rfl⟩
          | 5, ho =>
            obtain rfl := Option.some.inj ho
            obtain ⟨v54', h54, p54⟩ := given_fed hg 54 (by decide +kernel)
            have p54 : v54' = ux := p54
            rw [p54] at h54
            obtain ⟨v55', h55, p55⟩ := given_fed hg 55 (by decide +kernel)
            have p55 : v55' = u0 := p55
            rw [p55] at h55
            obtain ⟨_, h53, rfl⟩ := given_fed hg 53 (by decide +kernel)
            clear hg
            exact st_enter (w1 := w6) ho (wanted_some rfl rfl h53 rfl) 14 #[ux, u0] (by simp [execOp, Act.eval, h54, h55, resolve, go_sem]) ((CEX.out _ (HX.out.below hb6) (HU0.out.below hb6)).mono (by rintro e w7 ⟨rfl, hb7⟩; exact ⟨_, rfl, _, rfl, hb7, by rintro t' ⟨⟩; rfl⟩))
          | 6, ho =>
            obtain rfl := Option.some.inj ho
            obtain ⟨_, h53, rfl⟩ := given_fed hg 53 (by decide +kernel)
            obtain ⟨_, h56, rfl⟩ := given_fed hg 56 (by decide +kernel)
            clear hg
            exact st_yield ho (wanted_none rfl) (.bool true) w6 (by simp [execOp, Act.eval, h53, h56, go_sem]) ⟨_, rfl, Below.refl _ _, by rintro t' ⟨⟩; rfl⟩
          | 7, ho =>
            obtain rfl := Option.some.inj ho
            obtain ⟨_, h57, rfl⟩ := given_fed hg 57 (by decide +kernel)
            clear hg
            exact st_yield ho (wanted_none rfl) (.bool true) w6 (by simp [execOp, Act.eval, h57, go_sem]) ⟨_, rfl, Below.refl _ _, by rintro t' ⟨⟩; rfl⟩
          | 8, ho =>
            obtain rfl := Option.some.inj ho
            have h1 := given_old hg 1 (by decide +kernel)
            obtain ⟨_, h58, rfl⟩ := given_fed hg 58 (by decide +kernel)
            clear hg
            exact st_yield ho (wanted_some rfl rfl h58 rfl) (u1) w6 (by simp [execOp, Act.eval, h1, go_sem]) ⟨_, rfl, Below.refl _ _, by rintro t' ⟨⟩; rfl⟩
          | 9, ho =>
            obtain rfl := Option.some.inj ho
            obtain ⟨v59', h59, p59⟩ := given_fed hg 59 (by decide +kernel)
            have p59 : v59' = u1 := p59
            rw [p59] at h59
            obtain ⟨_, h58, rfl⟩ := given_fed hg 58 (by decide +kernel)
            clear hg
            exact st_enter (w1 := w6) ho (wanted_some rfl rfl h58 rfl) 11 #[u1] (by simp [execOp, Act.eval, h59, resolve, go_sem]) ((CMB.out _ (HU1.out.below hb6)).mono (by rintro e w7 ⟨rfl, hb7⟩; exact ⟨_, rfl, _, rfl, hb7, by rintro t' ⟨⟩; rfl⟩))
          | 10, ho =>
            obtain rfl := Option.some.inj ho
            obtain ⟨_, h60, rfl⟩ := given_fed hg 60 (by decide +kernel)
            obtain ⟨_, h58, rfl⟩ := given_fed hg 58 (by decide +kernel)
            clear hg
            exact st_yield ho (wanted_some rfl rfl h58 rfl) (.bool true) w6 (by simp [execOp, Act.eval, h60, go_sem]) ⟨_, rfl, Below.refl _ _, by rintro t' ⟨⟩; rfl⟩
          | 11, ho =>
            obtain rfl := Option.some.inj ho
            obtain ⟨_, h61, rfl⟩ := given_fed hg 61 (by decide +kernel)
            obtain ⟨_, h58, rfl⟩ := given_fed hg 58 (by decide +kernel)
            clear hg
            exact st_yield ho (wanted_some rfl rfl h58 rfl) (.bool true) w6 (by simp [execOp, Act.eval, h61, go_sem]) ⟨_, rfl, Below.refl _ _, by rintro t' ⟨⟩; rfl⟩
          | 12, ho =>
            obtain rfl := Option.some.inj ho
            obtain ⟨_, h62, rfl⟩ := given_fed hg 62 (by decide +kernel)
            clear hg
            exact st_skip ho (wanted_not rfl rfl h62 (by decide)) ⟨_, rfl, Below.refl _ _, by rintro t' ⟨⟩; rfl⟩
          | 13, ho =>
            obtain rfl := Option.some.inj ho
            obtain ⟨_, h62, rfl⟩ := given_fed hg 62 (by decide +kernel)
            clear hg
            exact st_skip ho (wanted_not rfl rfl h62 (by decide)) ⟨_, rfl, Below.refl _ _, by rintro t' ⟨⟩; rfl⟩
          | 14, ho =>
            obtain rfl := Option.some.inj ho
            obtain ⟨_, h62, rfl⟩ := given_fed hg 62 (by decide +kernel)
            clear hg
            exact st_skip ho (wanted_not rfl rfl h62 (by decide)) ⟨_, rfl, Below.refl _ _, by rintro t' ⟨⟩; rfl⟩
          | 15, ho =>
            obtain rfl := Option.some.inj ho
            obtain ⟨_, h62, rfl⟩ := given_fed hg 62 (by decide +kernel)
            clear hg
            exact st_skip ho (wanted_not rfl rfl h62 (by decide)) ⟨_, rfl, Below.refl _ _, by rintro t' ⟨⟩; rfl⟩
          | 16, ho =>
            obtain rfl := Option.some.inj ho
            obtain ⟨_, h62, rfl⟩ := given_fed hg 62 (by decide +kernel)
            clear hg
            exact st_skip ho (wanted_not rfl rfl h62 (by decide)) ⟨_, rfl, Below.refl _ _, by rintro t' ⟨⟩; rfl⟩
          | 17, ho =>
            obtain rfl := Option.some.inj ho
            obtain ⟨_, h62, rfl⟩ := given_fed hg 62 (by decide +kernel)
            clear hg
            exact st_skip ho (wanted_not rfl rfl h62 (by decide)) ⟨_, rfl, Below.refl _ _, by rintro t' ⟨⟩; rfl⟩
          | 18, ho =>
            obtain rfl := Option.some.inj ho
            obtain ⟨_, h62, rfl⟩ := given_fed hg 62 (by decide +kernel)
            clear hg
            exact st_skip ho (wanted_not rfl rfl h62 (by decide)) ⟨_, rfl, Below.refl _ _, by rintro t' ⟨⟩; rfl⟩
          | 19, ho =>
            obtain rfl := Option.some.inj ho
            obtain ⟨_, h62, rfl⟩ := given_fed hg 62 (by decide +kernel)
            clear hg
            exact st_skip ho (wanted_not rfl rfl h62 (by decide)) ⟨_, rfl, Below.refl _ _, by rintro t' ⟨⟩; rfl⟩
          | 20, ho =>
            obtain rfl := Option.some.inj ho
            obtain ⟨_, h62, rfl⟩ := given_fed hg 62 (by decide +kernel)
            clear hg
            exact st_skip ho (wanted_not rfl rfl h62 (by decide)) ⟨_, rfl, Below.refl _ _, by rintro t' ⟨⟩; rfl⟩
          | 21, ho =>
            obtain rfl := Option.some.inj ho
            obtain ⟨_, h62, rfl⟩ := given_fed hg 62 (by decide +kernel)
            clear hg
            exact st_skip ho (wanted_not rfl rfl h62 (by decide)) ⟨_, rfl, Below.refl _ _, by rintro t' ⟨⟩; rfl⟩
          | 22, ho =>
            obtain rfl := Option.some.inj ho
            obtain ⟨_, h62, rfl⟩ := given_fed hg 62 (by decide +kernel)
            obtain ⟨_, h72, rfl⟩ := given_fed hg 72 (by decide +kernel)
            obtain ⟨_, h58, rfl⟩ := given_fed hg 58 (by decide +kernel)
            clear hg
            exact st_yield ho (wanted_some rfl rfl h58 rfl) (.bool true) w6 (by simp [execOp, Act.eval, h62, h72, go_sem]) ⟨_, rfl, Below.refl _ _, by rintro t' ⟨⟩; rfl⟩
          | 23, ho =>
            obtain rfl := Option.some.inj ho
            obtain ⟨_, h58, rfl⟩ := given_fed hg 58 (by decide +kernel)
            obtain ⟨_, h73, rfl⟩ := given_fed hg 73 (by decide +kernel)
            clear hg
            exact st_yield ho (wanted_none rfl) (.bool true) w6 (by simp [execOp, Act.eval, h58, h73, go_sem]) ⟨_, rfl, Below.refl _ _, by rintro t' ⟨⟩; rfl⟩
          | 24, ho =>
            obtain rfl := Option.some.inj ho
            obtain ⟨_, h74, rfl⟩ := given_fed hg 74 (by decide +kernel)
            clear hg
            exact st_yield ho (wanted_none rfl) (.bool true) w6 (by simp [execOp, Act.eval, h74, go_sem]) ⟨_, rfl, Below.refl _ _, by rintro t' ⟨⟩; rfl⟩
          | n + 25, ho => simp at ho
        · intro f w9 hb9 hv
          have h4 := hv 4 (by decide)
          simp only [WF] at h4
          have HB := Go.Lib.hid (below_to HB.out (Nat.le_refl _) hb9)
          clear hv hb9
          unfold putAll
          simp only [List.foldl]
          simp only [h4]
          go_simp
          go_wp2_with fail
          go_ret
          exact ⟨rfl, HB.out⟩

/-! ### THE ROW -/
set_option maxRecDepth 100000 in
theorem lifted (os : Os) (started : os.Started) (H : Type) (enc : TypeId × Value → H) :
    ReturnsInHanded {} Try.checked os 3 .any (Rows.batchAllSpec.pre6 enc Try.prog Try.f3 Rows.batchAllRow.domain false) (Rows.batchAllSpec.post enc Try.prog Try.f3 false true false false) := by
  refine returnsInHanded_of_change (C := Try.checked) own started (by kernel_rfl) Try.func3
    (ChangeSpec.witness6 (enc := enc) (C := Try.checked) false ⟨#[], #[.slice none 0 0, .slice none 0 0], []⟩ 8 (by kernel_rfl) (by kernel_rfl) (by kernel_rfl) (by kernel_rfl)) ?_
  intro W base args ds gs before hval0 hW hcnd _
  have hval : ∀ (j : Nat) t v, Try.f3.params[j]? = some t → args[j]? = some v → Value.okWide Try.prog W .any base t v := hval0
  have hW' := hW
  obtain ⟨p, q, hA0, hV, rfl, hfz, hnd⟩ := hW
  have hA : DataW.TrodAll enc Try.prog W 0 (fun _ => true) true Try.f3.params.toList args.toList ds p := hA0
  rw [Try.params3] at hA hval
  obtain ⟨v0, vs0, d0, ds0, p0, q0, hargs, rfl, rfl, h0, r0⟩ := trodAll_cons hA
  obtain ⟨v1, vs1, d1, ds1, p1, q1, rfl, rfl, rfl, h1, r1⟩ := trodAll_cons r0
  obtain ⟨rfl, rfl, rfl⟩ := trodAll_nil r1
  obtain rfl : args = #[v0, v1] := by cases args; simp_all
  obtain ⟨rfl, rfl⟩ := trodVars_none hV
  have kk0 := h0
  have lt0 : ∀ x ∈ p0, x.block < W.heap.size := by obtain ⟨m, hm⟩ := kk0; exact DataW.trod_lt m _ _ _ hm
  have kk1 := h1
  have lt1 : ∀ x ∈ p1, x.block < W.heap.size := by obtain ⟨m, hm⟩ := kk1; exact DataW.trod_lt m _ _ _ hm
  obtain ⟨a0, len0, cap0, rfl⟩ := okWide_slice Try.underlying22 (hval 0 22 v0 rfl rfl)
  obtain ⟨l0, w0⟩ := open_recs h0
  obtain ⟨a1, len1, cap1, rfl⟩ := okWide_slice Try.underlying22 (hval 1 22 v1 rfl rfl)
  obtain ⟨l1, w1⟩ := open_recs h1
  clear hA0 hval0
  refine (walk W a0 len0 cap0 l0 w0 a1 len1 cap1 l1 w1).mono fun e W' ⟨he, bel⟩ => ?_
  subst he
  exact ⟨_, rfl, _, _, _, [], _, [], hW', trodAll_mk1 (shut_bool Try.underlying4 _), (trodAll_cons_mk (Below.trod laidOut (by kernel_rfl) (of_decide_eq_true (by kernel_rfl)) kk0 bel lt0) (trodAll_cons_mk (Below.trod laidOut (by kernel_rfl) (of_decide_eq_true (by kernel_rfl)) kk1 bel lt1) trodAll_mk0)), rfl, bel.frame _, fun h => by cases h⟩

theorem over : Rows.batchAllRow.holds Try.pinned (OpenSpec.ofChange Rows.batchAllSpec) :=
  OpenClaim.holds_of_wide 3 Try.f3 rfl rfl rfl rfl rfl rfl rfl ⟨rfl, rfl, rfl, rfl, rfl⟩ rfl rfl rfl rfl rfl (by kernel_rfl) Try.func3 (by kernel_rfl)
    (of_decide_eq_true (by kernel_rfl)) (by unfold Func.isWrapper; first | (rw [if_pos (by decide +kernel)]; kernel_rfl) | (rw [if_neg (by decide +kernel)]; exact ⟨rfl, rfl⟩))
    (fun os started H enc _ => lifted os started H enc)

theorem proved : Rows.BatchAllSaid := over
#print axioms proved
end Go.Proofs.Ytoaiogfeffnlcaa.batchAll
