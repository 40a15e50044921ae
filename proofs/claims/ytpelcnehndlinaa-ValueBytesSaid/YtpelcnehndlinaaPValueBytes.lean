/- ValueBytes: values go to bytes and back, whatever stands about; two have one text just if they are the same: for every input the law returns true. -/
import Derived.Test.YtpelcnehndlinaaRows
import Derived.WalkKit
import Derived.ProofKit
import Derived.OpenShut
import Derived.ShutString
import Derived.ChangeOld
import Derived.Below
import Derived.Test.YtpelcnehndlinaaRaw
import Derived.Test.YtpelcnehndlinaaRaws
import Derived.Test.YtpelcnehndlinaaHead
import Derived.Deep.DeepCutAuto
namespace Go.Proofs.Ytpelcnehndlinaa.valueBytes
open Go.ChangeShapes Go.WideShapes Go.ChangeAt Go.RowKit
open Go.ChangeMaps (open_string shut_string)
set_option linter.unusedVariables false

theorem own : ownKnob Try.prog.godebug = none := by kernel_rfl
theorem laidOut : laidOutB Try.prog = true := by kernel_rfl

def IsRow (k : IntKind) (w : World) (a : Option Addr) (len cap : Nat) (zs : List Int) : Prop :=
  (a = none ∧ len = 0 ∧ cap = 0 ∧ zs = []) ∨
  ∃ x, a = some x ∧ len ≤ cap ∧ cap ≤ maxLen ∧ zs.length = cap ∧ (∀ i, i < zs.length → w.cell? (x.add i) = some (.int k (zs.getD i 0))) ∧ ∀ n ∈ zs, (Lit.int k n).wf = true

theorem may_vi {k n : Int} {s : ByteArray} (h : mayR k n s = true) : ∃ (x : VI) (bn : Bool), ofV k n s = .tuple #[.agg #[x.v], .int .i64 0] ∧ x.k = k ∧ x.n = n ∧ x.s = s ∧ x.isN = bn ∧ x.isT = (!bn) ∧ (k == 1) = bn ∧ s.size ≤ 24 := by
  have h0 := h
  rw [← str_toList s] at h
  rcases mayR_cases h with ⟨rfl, hs⟩ | ⟨rfl, rfl, hs⟩
  · obtain rfl : s = ⟨#[]⟩ := by rw [← str_toList s, hs]; rfl
    exact ⟨.num n, true, of_num h0, rfl, rfl, rfl, rfl, rfl, rfl, by show 0 ≤ 24; omega⟩
  · exact ⟨.text s, false, of_text h0, rfl, rfl, rfl, rfl, rfl, rfl, by rw [Go.Lib.size_eq]; exact hs⟩
theorem eqR_comm (k1 n1 : Int) (s1 : ByteArray) (k2 n2 : Int) (s2 : ByteArray) : eqR k1 n1 s1 k2 n2 s2 = eqR k2 n2 s2 k1 n1 s1 := by
  rw [Bool.eq_iff_iff, eqR_iff, eqR_iff]
  constructor <;> rintro ⟨rfl, rfl, rfl⟩ <;> exact ⟨rfl, rfl, rfl⟩
/-- Two values have one text just if they are the same. -/
theorem put_eq {k0 n0 k1 n1 : Int} {T0 T1 : List UInt8} (h0 : mayR k0 n0 (str T0) = true) (a0 : -9223372036854775808 ≤ n0) (b0 : n0 ≤ 9223372036854775807) (h1 : mayR k1 n1 (str T1) = true) (a1 : -9223372036854775808 ≤ n1) (b1 : n1 ≤ 9223372036854775807) :
    ((str (putV k1 n1 T1)).toList == (str (putV k0 n0 T0)).toList) = eqR k0 n0 (str T0) k1 n1 (str T1) := by
  rw [Bool.eq_iff_iff, eqR_iff, beq_iff_eq, ByteArray.toList_eq, ByteArray.toList_eq]
  constructor
  · intro h
    have h : putV k1 n1 T1 = putV k0 n0 T0 := by simpa [str] using h
    have e0 := valB_put k0 n0 T0 [] h0 a0 b0
    have e1 := valB_put k1 n1 T1 [] h1 a1 b1
    rw [h, e0] at e1
    simp only [Prod.mk.injEq] at e1
    obtain ⟨⟨e2, e3, e4⟩, -⟩ := e1
    exact ⟨e2, e3, by rw [e4]⟩
  · rintro ⟨rfl, rfl, e⟩
    rw [str_inj e]

def W4 (k0 n0 : Int) (s0 : ByteArray) (T0 : List UInt8) (k1 n1 : Int) (s1 : ByteArray) (T1 : List UInt8) (a2 : Option Addr) (len2 m2 cap2 : Nat) (a3 : Option Addr) (len3 m3 cap3 : Nat) : Nat → World → Value → Prop
  | 21, _, v => v = .agg #[.int .i64 k0, .int .i64 n0, .string s0]
  | 22, _, v => v = .agg #[.int .i64 k0, .int .i64 n0, .string (str T0)]
  | 23, _, v => v = .agg #[.int .i64 k1, .int .i64 n1, .string s1]
  | 24, _, v => v = .agg #[.int .i64 k1, .int .i64 n1, .string (str T1)]
  | 25, _, v => v = .slice a2 len2 cap2
  | 26, _, v => v = .slice a2 m2 cap2
  | 27, _, v => v = .slice a3 len3 cap3
  | 28, _, v => v = .slice a3 m3 cap3
  | _, _, _ => True

theorem W4_below (k0 n0 : Int) (s0 : ByteArray) (T0 : List UInt8) (k1 n1 : Int) (s1 : ByteArray) (T1 : List UInt8) (a2 : Option Addr) (len2 m2 cap2 : Nat) (a3 : Option Addr) (len3 m3 cap3 : Nat) : ∀ (i : Nat) (w w' : World) (v : Value), W4 k0 n0 s0 T0 k1 n1 s1 T1 a2 len2 m2 cap2 a3 len3 m3 cap3 i w v → Below w.heap.size w w' → W4 k0 n0 s0 T0 k1 n1 s1 T1 a2 len2 m2 cap2 a3 len3 m3 cap3 i w' v := by
  intro i w w' v h hb
  unfold W4 at h ⊢
  split at h <;> first | exact h | trivial | exact RB.below h hb | exact Own.below h hb

def W7 (k0 n0 : Int) (T0 : List UInt8) (a2 : Option Addr) (A L : List UInt8) (cap2 : Nat) : Nat → World → Value → Prop
  | 32, _, v => v = .slice a2 A.length cap2
  | 33, w, v => RB w v A
  | 34, _, v => v = .agg #[.int .i64 k0, .int .i64 n0, .string (str T0)]
  | 35, w, v => RB w v L
  | 10, w, v => RB w v L
  | _, _, _ => True

theorem W7_below (k0 n0 : Int) (T0 : List UInt8) (a2 : Option Addr) (A L : List UInt8) (cap2 : Nat) : ∀ (i : Nat) (w w' : World) (v : Value), W7 k0 n0 T0 a2 A L cap2 i w v → Below w.heap.size w w' → W7 k0 n0 T0 a2 A L cap2 i w' v := by
  intro i w w' v h hb
  unfold W7 at h ⊢
  split at h <;> first | exact h | trivial | exact RB.below h hb | exact Own.below h hb

def W8 (k0 n0 : Int) (T0 : List UInt8) (a2 : Option Addr) (A B L : List UInt8) (cap2 : Nat) (a10 : Option Addr) (c10 : Nat) : Nat → World → Value → Prop
  | 36, _, v => v = .slice a10 L.length c10
  | 37, _, v => v = .string (str L)
  | 38, _, v => v = .slice a2 A.length cap2
  | 39, _, v => v = .string (str A)
  | 40, _, v => v = .agg #[.int .i64 k0, .int .i64 n0, .string (str T0)]
  | 41, w, v => RB w v B
  | 42, _, v => v = .string (str B)
  | 43, _, v => v = .string (str L)
  | 44, _, v => v = .bool false
  | _, _, _ => True

theorem W8_below (k0 n0 : Int) (T0 : List UInt8) (a2 : Option Addr) (A B L : List UInt8) (cap2 : Nat) (a10 : Option Addr) (c10 : Nat) : ∀ (i : Nat) (w w' : World) (v : Value), W8 k0 n0 T0 a2 A B L cap2 a10 c10 i w v → Below w.heap.size w w' → W8 k0 n0 T0 a2 A B L cap2 a10 c10 i w' v := by
  intro i w w' v h hb
  unfold W8 at h ⊢
  split at h <;> first | exact h | trivial | exact RB.below h hb | exact Own.below h hb

def WT (k0 n0 : Int) (T0 : List UInt8) (k1 n1 : Int) (T1 : List UInt8) (a2 : Option Addr) (A B B2 L : List UInt8) (cap2 : Nat) (a10 : Option Addr) (c10 : Nat) (v101 xv0 xv1 : Value) (t : Bool) : Nat → World → Value → Prop
  | 84, _, v => v = .int .i64 0
  | 85, _, v => v = .bool false
  | 86, _, v => v = .bool false
  | 87, _, v => v = .agg #[xv0]
  | 88, _, v => v = .agg #[xv1]
  | 89, _, v => v = .bool t
  | 90, _, v => v = .agg #[.int .i64 k0, .int .i64 n0, .string (str T0)]
  | 91, _, v => v = .agg #[.int .i64 k1, .int .i64 n1, .string (str T1)]
  | 92, _, v => v = .bool t
  | 93, _, v => v = .bool true
  | 94, _, v => v = .bool true
  | 95, _, v => v = .agg #[.int .i64 k1, .int .i64 n1, .string (str T1)]
  | 96, w, v => RB w v B2
  | 97, _, v => v = .string (str B2)
  | 98, _, v => v = .slice a10 L.length c10
  | 99, _, v => v = .slice a2 A.length cap2
  | 100, _, v => v = .int .i64 (A.length : Int)
  | 101, _, v => v = v101
  | 102, _, v => v = .string (str B)
  | 103, _, v => v = .bool t
  | 104, _, v => v = .agg #[xv0]
  | 105, _, v => v = .agg #[xv1]
  | 106, _, v => v = .bool t
  | 107, _, v => v = .bool true
  | 108, _, v => v = .bool true
  | 109, _, v => v = .bool true
  | 110, _, v => v = .agg #[xv1]
  | 111, _, v => v = .agg #[xv0]
  | 112, _, v => v = .bool t
  | 113, _, v => v = .agg #[xv0]
  | 114, _, v => v = .agg #[xv1]
  | 115, _, v => v = .bool t
  | 116, _, v => v = .bool true
  | 117, _, v => v = .bool true
  | 118, _, v => v = .bool true
  | 8, _, v => v = .bool true
  | _, _, _ => True

theorem WT_below (k0 n0 : Int) (T0 : List UInt8) (k1 n1 : Int) (T1 : List UInt8) (a2 : Option Addr) (A B B2 L : List UInt8) (cap2 : Nat) (a10 : Option Addr) (c10 : Nat) (v101 xv0 xv1 : Value) (t : Bool) : ∀ (i : Nat) (w w' : World) (v : Value), WT k0 n0 T0 k1 n1 T1 a2 A B B2 L cap2 a10 c10 v101 xv0 xv1 t i w v → Below w.heap.size w w' → WT k0 n0 T0 k1 n1 T1 a2 A B B2 L cap2 a10 c10 v101 xv0 xv1 t i w' v := by
  intro i w w' v h hb
  unfold WT at h ⊢
  split at h <;> first | exact h | trivial | exact RB.below h hb | exact Own.below h hb

def WF (t : Bool) : Nat → World → Value → Prop
  | 84, _, v => v = .int .i64 1
  | 85, _, v => v = .bool true
  | 86, _, v => v = .bool true
  | 87, _, v => v = undef
  | 88, _, v => v = undef
  | 89, _, v => v = undef
  | 90, _, v => v = undef
  | 91, _, v => v = undef
  | 92, _, v => v = undef
  | 93, _, v => v = undef
  | 94, _, v => v = undef
  | 95, _, v => v = undef
  | 96, _, v => v = undef
  | 97, _, v => v = undef
  | 98, _, v => v = undef
  | 99, _, v => v = undef
  | 100, _, v => v = undef
  | 101, _, v => v = undef
  | 102, _, v => v = undef
  | 103, _, v => v = undef
  | 104, _, v => v = undef
  | 105, _, v => v = undef
  | 106, _, v => v = undef
  | 107, _, v => v = undef
  | 108, _, v => v = undef
  | 109, _, v => v = undef
  | 110, _, v => v = undef
  | 111, _, v => v = undef
  | 112, _, v => v = undef
  | 113, _, v => v = undef
  | 114, _, v => v = undef
  | 115, _, v => v = undef
  | 116, _, v => v = undef
  | 117, _, v => v = undef
  | 118, _, v => v = .bool true
  | 8, _, v => v = .bool true
  | _, _, _ => True

theorem WF_below (t : Bool) : ∀ (i : Nat) (w w' : World) (v : Value), WF t i w v → Below w.heap.size w w' → WF t i w' v := by
  intro i w w' v h hb
  unfold WF at h ⊢
  split at h <;> first | exact h | trivial | exact RB.below h hb | exact Own.below h hb

set_option maxHeartbeats 4000000 in
set_option maxRecDepth 100000 in
theorem walk (w : World) (k0 n0 : Int) (s0 : ByteArray) (wk0 : (Lit.int .i64 k0).wf = true) (wn0 : (Lit.int .i64 n0).wf = true) (ws0 : s0.size ≤ maxLen) (k1 n1 : Int) (s1 : ByteArray) (wk1 : (Lit.int .i64 k1).wf = true) (wn1 : (Lit.int .i64 n1).wf = true) (ws1 : s1.size ≤ maxLen) (a2 : Option Addr) (len2 cap2 : Nat) (z2 : List Int) (w2 : IsRow .u8 w a2 len2 cap2 z2) (a3 : Option Addr) (len3 cap3 : Nat) (z3 : List Int) (w3 : IsRow .u8 w a3 len3 cap3 z3) :
    Calls Try.prog 4 #[rawV k0 n0 s0, rawV k1 n1 s1, .slice a2 len2 cap2, .slice a3 len3 cap3] w fun e w' => e = .returned (.bool true) ∧ Below w.heap.size w w' := by
  obtain ⟨b1, b2⟩ := bounds_i64 wn0
  have b2 : n0 ≤ 9223372036854775807 := by omega
  obtain ⟨b3, b4⟩ := bounds_i64 wn1
  have b4 : n1 ≤ 9223372036854775807 := by omega
  clear wk0 wn0 wk1 wn1
  obtain ⟨la, hla⟩ := rb_of_row w2
  obtain ⟨lr, hlr⟩ := rb_of_row w3
  clear w2 w3
  have C0 := Go.Lib.hid fun W => vcut_c k0 n0 s0 W ws0
  have C1 := Go.Lib.hid fun W => vcut_c k1 n1 s1 W ws1
  have ht0 : ((bl s0).take 30).length ≤ 30 := by rw [List.length_take]; omega
  have ht1 : ((bl s1).take 30).length ≤ 30 := by rw [List.length_take]; omega
  generalize (bl s0).take 30 = T0 at *
  generalize (bl s1).take 30 = T1 at *
  unfold rawV at C0 C1 ⊢
  have hA0 := rb_take hla 10
  have hR0 := rb_take hlr 10
  have hAl : (la.take 10).length ≤ 10 := List.length_take_le _ _
  have hRl : (lr.take 10).length ≤ 10 := List.length_take_le _ _
  have CS2 := Go.Lib.hid fun W (h : RB W (.slice a2 len2 cap2) la) => (short_v a2 len2 cap2 la 10 W h (by omega)).mono (R' := fun e w' => e = .returned (.slice a2 (min 10 len2) cap2) ∧ Below W.heap.size W w') (by rintro e w' ⟨rfl, rfl⟩; exact ⟨rfl, Below.refl _ _⟩)
  have CS3 := Go.Lib.hid fun W (h : RB W (.slice a3 len3 cap3) lr) => (short_v a3 len3 cap3 lr 10 W h (by omega)).mono (R' := fun e w' => e = .returned (.slice a3 (min 10 len3) cap3) ∧ Below W.heap.size W w') (by rintro e w' ⟨rfl, rfl⟩; exact ⟨rfl, Below.refl _ _⟩)
  generalize min 10 len2 = m2 at *
  generalize min 10 len3 = m3 at *
  generalize la.take 10 = A at *
  generalize lr.take 10 = R at *
  have Ht0 := Go.Lib.hid ht0; clear ht0
  have Ht1 := Go.Lib.hid ht1; clear ht1
  have B1 := Go.Lib.hid b1; clear b1
  have B2' := Go.Lib.hid b2; clear b2
  have B3 := Go.Lib.hid b3; clear b3
  have B4 := Go.Lib.hid b4; clear b4
  have hAlen := hA0.len.1
  have hRlen := hR0.len.1
  subst hAlen hRlen
  have HA0 := Go.Lib.hid hA0; clear hA0
  have HR0 := Go.Lib.hid hR0; clear hR0
  have Hla := Go.Lib.hid hla; clear hla
  have Hlr := Go.Lib.hid hlr; clear hlr
  go_enter Try.func4, Try.ntmps4
  go_wp2_with fail
  refine (begun_c _).mono ?_
  rintro e w1 ⟨rfl, hc⟩
  obtain ⟨gA, gB, hbb⟩ := two_kept _ _ _ _ hc
  clear hc
  have x0 := cell_of_row _ _ 0 _ _ _ gA
  have x1 := cell_of_row _ _ 1 _ _ _ gA
  have x2 := cell_of_row _ _ 2 _ _ _ gA
  have z0 := cell_of_row _ _ 0 _ _ _ gB
  have z1 := cell_of_row _ _ 1 _ _ _ gB
  have z2 := cell_of_row _ _ 2 _ _ _ gB
  simp only [List.getElem?_toArray, List.getElem?_cons_zero, List.getElem?_cons_succ] at x0 x1 x2 z0 z1 z2
  have HA1 := Go.Lib.hid (Hla.out.below hbb)
  have HR1 := Go.Lib.hid (Hlr.out.below hbb)
  have GA := Go.Lib.hid gA; clear gA
  have GB := Go.Lib.hid gB; clear gB
  clear Hla Hlr
  go_upto_region 4 with (fail)
  refine wp_region_head 8 (by decide) (by kernel_rfl) (W4 k0 n0 s0 T0 k1 n1 s1 T1 a2 len2 A.length cap2 a3 len3 R.length cap3) (W4_below k0 n0 s0 T0 k1 n1 s1 T1 a2 len2 A.length cap2 a3 len3 R.length cap3) (by decide +kernel) (by rfl) [21, 22, 23, 24, 25, 26, 27, 28] (by rfl) ?_ ?_
  · intro i o hin ho a w6 hb6 hlen hg
    have x0 := cell_kept x0 hb6
    have x1 := cell_kept x1 hb6
    have x2 := cell_kept x2 hb6
    have z0 := cell_kept z0 hb6
    have z1 := cell_kept z1 hb6
    have z2 := cell_kept z2 hb6
    match i, hin, ho with
    | 0, hin, ho =>
      obtain rfl := Option.some.inj ho
      have h4 := given_old hg 4 (by decide +kernel)
      clear hg
      exact st_yield ho (wanted_none rfl) (.agg #[.int .i64 k0, .int .i64 n0, .string s0]) w6 (by simp [execOp, Act.eval, h4, go_sem, x0, x1, x2]) ⟨_, rfl, Below.refl _ _, by rintro t' ⟨⟩; rfl⟩
    | 1, hin, ho =>
      obtain rfl := Option.some.inj ho
      obtain ⟨_, h21, rfl⟩ := given_fed hg 21 (by decide +kernel)
      clear hg
      exact st_enter (w1 := w6) ho (wanted_none rfl) 12 #[.agg #[.int .i64 k0, .int .i64 n0, .string s0]] (by simp [execOp, Act.eval, h21, resolve, go_sem]) ((C0.out _).mono (by rintro e w7 ⟨rfl, hb7⟩; exact ⟨_, rfl, _, rfl, hb7, by rintro t' ⟨⟩; rfl⟩))
    | 2, hin, ho =>
      obtain rfl := Option.some.inj ho
      have h5 := given_old hg 5 (by decide +kernel)
      clear hg
      exact st_yield ho (wanted_none rfl) (.agg #[.int .i64 k1, .int .i64 n1, .string s1]) w6 (by simp [execOp, Act.eval, h5, go_sem, z0, z1, z2]) ⟨_, rfl, Below.refl _ _, by rintro t' ⟨⟩; rfl⟩
    | 3, hin, ho =>
      obtain rfl := Option.some.inj ho
      obtain ⟨_, h23, rfl⟩ := given_fed hg 23 (by decide +kernel)
      clear hg
      exact st_enter (w1 := w6) ho (wanted_none rfl) 12 #[.agg #[.int .i64 k1, .int .i64 n1, .string s1]] (by simp [execOp, Act.eval, h23, resolve, go_sem]) ((C1.out _).mono (by rintro e w7 ⟨rfl, hb7⟩; exact ⟨_, rfl, _, rfl, hb7, by rintro t' ⟨⟩; rfl⟩))
    | 4, hin, ho =>
      obtain rfl := Option.some.inj ho
      have h2 := given_old hg 2 (by decide +kernel)
      clear hg
      exact st_yield ho (wanted_none rfl) (.slice a2 len2 cap2) w6 (by simp [execOp, Act.eval, h2, go_sem]) ⟨_, rfl, Below.refl _ _, by rintro t' ⟨⟩; rfl⟩
    | 5, hin, ho =>
      obtain rfl := Option.some.inj ho
      obtain ⟨_, h25, rfl⟩ := given_fed hg 25 (by decide +kernel)
      clear hg
      exact st_enter (w1 := w6) ho (wanted_none rfl) 21 #[.slice a2 len2 cap2, .int .i64 10] (by simp [execOp, Act.eval, h25, resolve, go_sem]) ((CS2.out _ (HA1.out.below hb6)).mono (by rintro e w7 ⟨rfl, hb7⟩; exact ⟨_, rfl, _, rfl, hb7, by rintro t' ⟨⟩; rfl⟩))
    | 6, hin, ho =>
      obtain rfl := Option.some.inj ho
      have h3 := given_old hg 3 (by decide +kernel)
      clear hg
      exact st_yield ho (wanted_none rfl) (.slice a3 len3 cap3) w6 (by simp [execOp, Act.eval, h3, go_sem]) ⟨_, rfl, Below.refl _ _, by rintro t' ⟨⟩; rfl⟩
    | 7, hin, ho =>
      obtain rfl := Option.some.inj ho
      obtain ⟨_, h27, rfl⟩ := given_fed hg 27 (by decide +kernel)
      clear hg
      exact st_enter (w1 := w6) ho (wanted_none rfl) 21 #[.slice a3 len3 cap3, .int .i64 10] (by simp [execOp, Act.eval, h27, resolve, go_sem]) ((CS3.out _ (HR1.out.below hb6)).mono (by rintro e w7 ⟨rfl, hb7⟩; exact ⟨_, rfl, _, rfl, hb7, by rintro t' ⟨⟩; rfl⟩))
    | n + 8, hin, ho => omega
  · intro f w8 hb8 hv
    have h22 := hv 22 (by simp)
    have h24 := hv 24 (by simp)
    have h26 := hv 26 (by simp)
    have h28 := hv 28 (by simp)
    clear hv
    simp only [W4] at h22 h24 h26 h28
    unfold putAll
    simp only [List.foldl, List.drop]
    simp only [h22, h24, h26, h28]
    go_simp
    have gA := (hb8.block _ (Array.getElem?_eq_some_iff.1 GA.out).1).trans GA.out
    have gB := (hb8.block _ (Array.getElem?_eq_some_iff.1 GB.out).1).trans GB.out
    have hbb := hbb.trans (hb8.mono hbb.size)
    clear hb8 x0 x1 x2 z0 z1 z2 GA GB HA1 HR1 h22 h24 h26 h28 C0 C1 CS2 CS3
    have gA1 := setRow_heap w8 w.heap.size _ #[.int .i64 k0, .int .i64 n0, .string (str T0)] _ (0, 0) gA
    have gB1 := (setRow_other w8 w.heap.size (w.heap.size + 1) #[.int .i64 k0, .int .i64 n0, .string (str T0)] (by omega)).trans gB
    have gB2 := setRow_heap (w8.setRow w.heap.size #[.int .i64 k0, .int .i64 n0, .string (str T0)]) (w.heap.size + 1) _ #[.int .i64 k1, .int .i64 n1, .string (str T1)] _ (0, 0) gB1
    have gA2 := (setRow_other (w8.setRow w.heap.size #[.int .i64 k0, .int .i64 n0, .string (str T0)]) (w.heap.size + 1) w.heap.size #[.int .i64 k1, .int .i64 n1, .string (str T1)] (by omega)).trans gA1
    have hbb := setRow_below #[.int .i64 k1, .int .i64 n1, .string (str T1)] (setRow_below #[.int .i64 k0, .int .i64 n0, .string (str T0)] hbb (Nat.le_refl _)) (Nat.le_succ _)
    have y0 := cell_of_row _ _ 0 _ _ _ gA2
    have y1 := cell_of_row _ _ 1 _ _ _ gA2
    have y2 := cell_of_row _ _ 2 _ _ _ gA2
    have z0 := cell_of_row _ _ 0 _ _ _ gB2
    have z1 := cell_of_row _ _ 1 _ _ _ gB2
    have z2 := cell_of_row _ _ 2 _ _ _ gB2
    simp only [List.getElem?_toArray, List.getElem?_cons_zero, List.getElem?_cons_succ] at y0 y1 y2 z0 z1 z2
    have GA := Go.Lib.hid gA; clear gA
    have GB := Go.Lib.hid gB1; clear gB1 gB gA1 gB2 gA2
    go_wp2_with (first
      | (with_reducible show wpList _ _ _ (⟨none, Op.store 23 (.tmp 4) (.tmp 22), _, _, _, _⟩ :: _) _ _; go_loud (refine wpList_store_row rfl 23 (.tmp 4) (.tmp 22) rfl w.heap.size #[.int .i64 k0, .int .i64 n0, .string (str T0)] rfl rfl 23 _ GA.out (by kernel_rfl) rfl (raw_cells_one ..) ?_))
      | (with_reducible show wpList _ _ _ (⟨none, Op.store 23 (.tmp 5) (.tmp 24), _, _, _, _⟩ :: _) _ _; go_loud (refine wpList_store_row rfl 23 (.tmp 5) (.tmp 24) rfl (w.heap.size + 1) #[.int .i64 k1, .int .i64 n1, .string (str T1)] rfl rfl 23 _ GB.out (by kernel_rfl) rfl (raw_cells_one ..) ?_))
      | fail)
    clear GA GB
    generalize (w8.setRow w.heap.size #[.int .i64 k0, .int .i64 n0, .string (str T0)]).setRow (w.heap.size + 1) #[.int .i64 k1, .int .i64 n1, .string (str T1)] = u at *
    have C4 := Go.Lib.hid fun W => mayval_c k0 n0 (str T0) W (by rw [str_size]; have := Ht0.out; unfold maxLen; omega)
    unfold rawV at C4
    refine (C4.out _).mono ?_
    rintro e u2 ⟨rfl, hc⟩
    have y0 := cell_kept y0 hc
    have y1 := cell_kept y1 hc
    have y2 := cell_kept y2 hc
    have z0 := cell_kept z0 hc
    have z1 := cell_kept z1 hc
    have z2 := cell_kept z2 hc
    have hbb := hbb.trans (hc.mono hbb.size)
    clear hc C4
    cases hmay : mayR k0 n0 (str T0) with
    | false =>
      clear y0 y1 y2 z0 z1 z2
      go_wp2_with fail
      go_ret
      exact ⟨rfl, hbb⟩
    | true =>
      have HAu := Go.Lib.hid (HA0.out.below hbb)
      have HRu := Go.Lib.hid (HR0.out.below hbb)
      have Hmay := Go.Lib.hid hmay
      have cp := fun v' W (h : RB W v' A) => vput_c v' A k0 n0 T0 W h hmay B1.out B2'.out (by omega)
      have cr := fun W => rputVal_c k0 n0 T0 W (by rcases mayR_cases hmay with ⟨rfl, -⟩ | ⟨rfl, -⟩ <;> omega) (by rcases mayR_cases hmay with ⟨rfl, -⟩ | ⟨rfl, -⟩ <;> omega) B1.out B2'.out (by have := Ht0.out; omega)
      have hvb := Go.Lib.hid fun r => valB_put k0 n0 T0 r hmay B1.out B2'.out
      have hBl := putV_len hmay B1.out B2'.out
      have hHB := Go.Lib.hid (show putV k0 n0 T0 = putV k0 n0 T0 from rfl)
      unfold rawV at cp cr
      obtain ⟨B, hB⟩ : ∃ B, putV k0 n0 T0 = B := ⟨_, rfl⟩
      rw [hB] at cp cr hvb hBl
      obtain ⟨L, hL⟩ : ∃ L, A ++ B = L := ⟨_, rfl⟩
      have hLl : L.length = A.length + B.length := by rw [← hL, List.length_append]
      have hLd : L.drop A.length = B := by rw [← hL, List.drop_left]
      have hLs : str A ++ str B = str L := by rw [← hL]; apply ByteArray.ext; apply Array.toList_inj.1; simp [str]
      rw [hL] at cp
      have HB := Go.Lib.hid hB; clear hB hHB
      have HLd := Go.Lib.hid hLd; clear hLd hL
      have HLl := Go.Lib.hid hLl; clear hLl
      have HAB := Go.Lib.hid hLs; clear hLs
      have CP := Go.Lib.hid cp; clear cp
      have CR := Go.Lib.hid cr; clear cr hmay
      go_upto_region 7 with (fail)
      refine wp_region_each (by kernel_rfl) (W7 k0 n0 T0 a2 A L cap2) (W7_below k0 n0 T0 a2 A L cap2) (by decide +kernel) (by decide +kernel) (by rfl) [32, 33, 34, 35, 10] (by rfl) ?_ ?_
      · intro i o ho a w6 hb6 hlen hg
        have y0 := cell_kept y0 hb6
        have y1 := cell_kept y1 hb6
        have y2 := cell_kept y2 hb6
        match i, ho with
        | 0, ho =>
          obtain rfl := Option.some.inj ho
          have h2 := given_old hg 2 (by decide +kernel)
          clear hg
          exact st_yield ho (wanted_none rfl) (.slice a2 A.length cap2) w6 (by simp [execOp, Act.eval, h2, go_sem]) ⟨_, rfl, Below.refl _ _, by rintro t' ⟨⟩; rfl⟩
        | 1, ho =>
          obtain rfl := Option.some.inj ho
          obtain ⟨_, h32, rfl⟩ := given_fed hg 32 (by decide +kernel)
          clear hg
          exact st_list ho (wanted_none rfl) fun Q' hQ => wpList_append_RB rfl (.const (.slice none 0 0)) (.tmp 32) 39 rfl w6.heap.size 5 Try.underlying39 info8 (.slice none 0 0) (.slice a2 A.length cap2) [] A rfl (by simp [Act.eval, h32]) (Own.nil _ _ _) (HAu.out.below hb6) (by simp; omega) (Nat.le_refl _) (fun v' w' hown hg => wpList_nil (hQ _ _ ⟨v', rfl, grown_below hg (Nat.le_refl _) (by simp [Value.ownBlock]), by rintro t' ⟨⟩; exact hown.rb⟩))
        | 2, ho =>
          obtain rfl := Option.some.inj ho
          have h4 := given_old hg 4 (by decide +kernel)
          clear hg
          exact st_yield ho (wanted_none rfl) (.agg #[.int .i64 k0, .int .i64 n0, .string (str T0)]) w6 (by simp [execOp, Act.eval, h4, go_sem, y0, y1, y2]) ⟨_, rfl, Below.refl _ _, by rintro t' ⟨⟩; rfl⟩
        | 3, ho =>
          obtain rfl := Option.some.inj ho
          obtain ⟨v33, h33, p33⟩ := given_fed hg 33 (by decide +kernel)
          obtain ⟨_, h34, rfl⟩ := given_fed hg 34 (by decide +kernel)
          clear hg
          exact st_enter (w1 := w6) ho (wanted_none rfl) 22 #[v33, .agg #[.int .i64 k0, .int .i64 n0, .string (str T0)]] (by simp [execOp, Act.eval, h33, h34, resolve, go_sem]) ((CP.out _ _ p33).mono (by rintro e w7 ⟨v, rfl, hown, hb7⟩; exact ⟨v, rfl, _, rfl, hb7, by rintro t' ⟨⟩; exact hown.rb⟩))
        | 4, ho =>
          obtain rfl := Option.some.inj ho
          obtain ⟨v35, h35, p35⟩ := given_fed hg 35 (by decide +kernel)
          clear hg
          exact st_yield ho (wanted_none rfl) v35 w6 (by simp [execOp, Act.eval, h35, go_sem]) ⟨_, rfl, Below.refl _ _, by rintro t' ⟨⟩; exact p35⟩
        | n + 5, ho => simp at ho
      · intro f w9 hb9 hv
        have h10 := hv 10 (by simp)
        clear hv
        simp only [W7] at h10
        unfold putAll
        simp only [List.foldl]
        have y0 := cell_kept y0 hb9
        have y1 := cell_kept y1 hb9
        have y2 := cell_kept y2 hb9
        have z0 := cell_kept z0 hb9
        have z1 := cell_kept z1 hb9
        have z2 := cell_kept z2 hb9
        have HA9 := Go.Lib.hid (HAu.out.below hb9)
        have HR9 := Go.Lib.hid (HRu.out.below hb9)
        have hbb := hbb.trans (hb9.mono hbb.size)
        clear hb9 HAu HRu CP
        go_simp
        generalize f 10 = v10 at *
        obtain ⟨a10, c10, rfl, hq1, hq2, -⟩ := id h10
        have hLm : L.length ≤ 9223372036854775807 := by unfold maxLen at hq2; omega
        have H10 := Go.Lib.hid h10; clear h10 hq1 hq2
        have hs1 : ¬ 9223372036854775807 < (str A).size + (str B).size := by rw [str_size, str_size]; have := HLl.out; omega
        have Hs1 := Go.Lib.hid hs1; clear hs1
        go_upto_region 8 with (fail)
        refine wp_region_each (by kernel_rfl) (W8 k0 n0 T0 a2 A B L cap2 a10 c10) (W8_below k0 n0 T0 a2 A B L cap2 a10 c10) (by decide +kernel) (by decide +kernel) (by rfl) [36, 37, 38, 39, 40, 41, 42, 43, 44] (by rfl) ?_ ?_
        · intro i o ho a w6 hb6 hlen hg
          have y0 := cell_kept y0 hb6
          have y1 := cell_kept y1 hb6
          have y2 := cell_kept y2 hb6
          have cv10 := run_string_RB w6 39 5 9 Try.underlying39 Try.underlying5 Try.underlying9 (.slice a10 L.length c10) L (H10.out.below hb6)
          have cvA := run_string_RB w6 39 5 9 Try.underlying39 Try.underlying5 Try.underlying9 (.slice a2 A.length cap2) A (HA9.out.below hb6)
          have hs1 := Hs1.out
          have hAB := HAB.out
          match i, ho with
          | 0, ho =>
            obtain rfl := Option.some.inj ho
            have h10 := given_old hg 10 (by decide +kernel)
            clear hg
            exact st_yield ho (wanted_none rfl) (.slice a10 L.length c10) w6 (by simp [execOp, Act.eval, h10, go_sem]) ⟨_, rfl, Below.refl _ _, by rintro t' ⟨⟩; rfl⟩
          | 1, ho =>
            obtain rfl := Option.some.inj ho
            obtain ⟨_, h36, rfl⟩ := given_fed hg 36 (by decide +kernel)
            clear hg
            exact st_yield ho (wanted_none rfl) (.string (str L)) w6 (by simp [execOp, Act.eval, h36, go_sem, cv10]) ⟨_, rfl, Below.refl _ _, by rintro t' ⟨⟩; rfl⟩
          | 2, ho =>
            obtain rfl := Option.some.inj ho
            have h2 := given_old hg 2 (by decide +kernel)
            clear hg
            exact st_yield ho (wanted_none rfl) (.slice a2 A.length cap2) w6 (by simp [execOp, Act.eval, h2, go_sem]) ⟨_, rfl, Below.refl _ _, by rintro t' ⟨⟩; rfl⟩
          | 3, ho =>
            obtain rfl := Option.some.inj ho
            obtain ⟨_, h38, rfl⟩ := given_fed hg 38 (by decide +kernel)
            clear hg
            exact st_yield ho (wanted_none rfl) (.string (str A)) w6 (by simp [execOp, Act.eval, h38, go_sem, cvA]) ⟨_, rfl, Below.refl _ _, by rintro t' ⟨⟩; rfl⟩
          | 4, ho =>
            obtain rfl := Option.some.inj ho
            have h4 := given_old hg 4 (by decide +kernel)
            clear hg
            exact st_yield ho (wanted_none rfl) (.agg #[.int .i64 k0, .int .i64 n0, .string (str T0)]) w6 (by simp [execOp, Act.eval, h4, go_sem, y0, y1, y2]) ⟨_, rfl, Below.refl _ _, by rintro t' ⟨⟩; rfl⟩
          | 5, ho =>
            obtain rfl := Option.some.inj ho
            obtain ⟨_, h40, rfl⟩ := given_fed hg 40 (by decide +kernel)
            clear hg
            exact st_enter (w1 := w6) ho (wanted_none rfl) 23 #[.agg #[.int .i64 k0, .int .i64 n0, .string (str T0)]] (by simp [execOp, Act.eval, h40, resolve, go_sem]) ((CR.out _).mono (by rintro e w7 ⟨v, rfl, hown, hb7⟩; exact ⟨v, rfl, _, rfl, hb7, by rintro t' ⟨⟩; exact hown.rb⟩))
          | 6, ho =>
            obtain rfl := Option.some.inj ho
            obtain ⟨v41, h41, p41⟩ := given_fed hg 41 (by decide +kernel)
            clear hg
            have cv := run_string_RB w6 39 5 9 Try.underlying39 Try.underlying5 Try.underlying9 v41 B p41
            exact st_yield ho (wanted_none rfl) (.string (str B)) w6 (by simp [execOp, Act.eval, h41, go_sem, cv]) ⟨_, rfl, Below.refl _ _, by rintro t' ⟨⟩; rfl⟩
          | 7, ho =>
            obtain rfl := Option.some.inj ho
            obtain ⟨_, h39, rfl⟩ := given_fed hg 39 (by decide +kernel)
            obtain ⟨_, h42, rfl⟩ := given_fed hg 42 (by decide +kernel)
            clear hg
            exact st_yield ho (wanted_none rfl) (.string (str L)) w6 (by simp [execOp, Act.eval, h39, h42, go_sem, hs1, hAB]) ⟨_, rfl, Below.refl _ _, by rintro t' ⟨⟩; rfl⟩
          | 8, ho =>
            obtain rfl := Option.some.inj ho
            obtain ⟨_, h37, rfl⟩ := given_fed hg 37 (by decide +kernel)
            obtain ⟨_, h43, rfl⟩ := given_fed hg 43 (by decide +kernel)
            clear hg
            exact st_yield ho (wanted_none rfl) (.bool false) w6 (by simp [execOp, Act.eval, h37, h43, go_sem]) ⟨_, rfl, Below.refl _ _, by rintro t' ⟨⟩; rfl⟩
          | n + 9, ho => simp at ho
        · intro f2 w10 hb10 hv
          have h44 := hv 44 (by simp)
          clear hv
          simp only [W8] at h44
          unfold putAll
          simp only [List.foldl]
          have y0 := cell_kept y0 hb10
          have y1 := cell_kept y1 hb10
          have y2 := cell_kept y2 hb10
          have z0 := cell_kept z0 hb10
          have z1 := cell_kept z1 hb10
          have z2 := cell_kept z2 hb10
          have hA10 := HA9.out.below hb10
          have hR10 := HR9.out.below hb10
          have hL10 := H10.out.below hb10
          have hbb := hbb.trans (hb10.mono hbb.size)
          clear hb10 HA9 HR9 H10 CR Hs1 HAB
          go_simp
          have hdl : (L.drop A.length).length = B.length := by rw [HLd.out]
          go_wp2_with (first
            | (with_reducible show wpList _ _ _ (⟨some 49, _, _, _, _, _⟩ :: _) _ _; go_loud (refine wpList_slice_l rfl (.tmp 46) (.tmp 48) 39 rfl 5 Try.underlying39 info8 (.slice a10 L.length c10) L .i64 _ A.length rfl rfl rfl hL10 (by have := HLl.out; omega) ?_); intro v49 hv49)
            | (with_reducible show wpList _ _ _ (⟨some 50, _, _, _, _, _⟩ :: _) _ _; go_loud (refine wpList_append_RB rfl (.const (.slice none 0 0)) (.tmp 49) 39 rfl w10.heap.size 5 Try.underlying39 info8 (.slice none 0 0) v49 [] (L.drop A.length) rfl rfl (Own.nil _ _ _) hv49 (by rw [hdl]; simp; omega) (Nat.le_refl _) ?_); intro v50 w50 hown50 hg50)
            | (with_reducible show wpList _ _ _ (⟨some 52, _, _, _, _, _⟩ :: _) _ _; go_loud (refine wpList_append_RB rfl (.tmp 50) (.tmp 51) 39 rfl w10.heap.size 5 Try.underlying39 info8 v50 (.slice a3 R.length cap3) ([] ++ L.drop A.length) R rfl rfl hown50 (hR10.below (grown_below hg50 (Nat.le_refl _) (by simp [Value.ownBlock]))) (by rw [List.nil_append, hdl]; omega) hg50.size ?_); intro v52 w52 hown52 hg52)
            | fail)
          have hbl : Below w10.heap.size w10 w52 := (grown_below hg50 (Nat.le_refl _) (by simp [Value.ownBlock])).grown hg52 hg50.size hown50.row
          have hrb52 := hown52.rb
          rw [List.nil_append, HLd.out] at hrb52
          have y0 := cell_kept y0 hbl
          have y1 := cell_kept y1 hbl
          have y2 := cell_kept y2 hbl
          have z0 := cell_kept z0 hbl
          have z1 := cell_kept z1 hbl
          have z2 := cell_kept z2 hbl
          have hL10 := hL10.below hbl
          have hbb := hbb.trans ((hbl).mono hbb.size)
          clear hbl hg50 hg52 hown50 hown52 hv49 hR10 hdl
          have cg := fun v' W (h : RB W v' (B ++ R)) => vget_c v' (B ++ R) W h
          rw [hvb.out R] at cg
          unfold vv rawV at cg
          have CG := Go.Lib.hid cg; clear cg hvb
          have ce := fun W => eqval_c k0 n0 (str T0) k0 n0 (str T0) W
          rw [eqR_refl] at ce
          unfold rawV at ce
          have CEr := Go.Lib.hid ce; clear ce
          have hsb : (L.length : Int) - (A.length : Int) = (B.length : Int) := by have := HLl.out; omega
          have hsub : IntKind.i64.wrap ((L.length : Int) - (A.length : Int)) = (B.length : Int) := by rw [hsb, IntKind.wrap_i64]; omega
          have Hsb := Go.Lib.hid hsb; clear hsb
          have Hsub := Go.Lib.hid hsub; clear hsub
          refine (CG.out _ _ hrb52).mono ?_
          rintro e w11 ⟨rfl, hc⟩
          have y0 := cell_kept y0 hc
          have y1 := cell_kept y1 hc
          have y2 := cell_kept y2 hc
          have z0 := cell_kept z0 hc
          have z1 := cell_kept z1 hc
          have z2 := cell_kept z2 hc
          have hL10 := hL10.below hc
          have hbb := hbb.trans ((hc).mono hbb.size)
          clear hc hrb52 CG
          have p0 := cell_of_row _ _ 0 _ _ _ (heap_alloc_new w11 (.cells #[.int .i64 k0, .int .i64 n0, .string (str T0)] 23))
          have p1 := cell_of_row _ _ 1 _ _ _ (heap_alloc_new w11 (.cells #[.int .i64 k0, .int .i64 n0, .string (str T0)] 23))
          have p2 := cell_of_row _ _ 2 _ _ _ (heap_alloc_new w11 (.cells #[.int .i64 k0, .int .i64 n0, .string (str T0)] 23))
          simp only [List.getElem?_toArray, List.getElem?_cons_zero, List.getElem?_cons_succ] at p0 p1 p2
          have y0 := cell_kept y0 (below_one w11 (.cells #[.int .i64 k0, .int .i64 n0, .string (str T0)] 23))
          have y1 := cell_kept y1 (below_one w11 (.cells #[.int .i64 k0, .int .i64 n0, .string (str T0)] 23))
          have y2 := cell_kept y2 (below_one w11 (.cells #[.int .i64 k0, .int .i64 n0, .string (str T0)] 23))
          have z0 := cell_kept z0 (below_one w11 (.cells #[.int .i64 k0, .int .i64 n0, .string (str T0)] 23))
          have z1 := cell_kept z1 (below_one w11 (.cells #[.int .i64 k0, .int .i64 n0, .string (str T0)] 23))
          have z2 := cell_kept z2 (below_one w11 (.cells #[.int .i64 k0, .int .i64 n0, .string (str T0)] 23))
          have hL10 := hL10.below (below_one w11 (.cells #[.int .i64 k0, .int .i64 n0, .string (str T0)] 23))
          have hbb := hbb.trans (((below_one w11 (.cells #[.int .i64 k0, .int .i64 n0, .string (str T0)] 23))).mono hbb.size)
          have hsub := Hsub.out
          have hsb := Hsb.out
          clear Hsub Hsb
          go_wp2_with fail
          refine (CEr.out _).mono ?_
          rintro e w12 ⟨rfl, hc⟩
          have y0 := cell_kept y0 hc
          have y1 := cell_kept y1 hc
          have y2 := cell_kept y2 hc
          have z0 := cell_kept z0 hc
          have z1 := cell_kept z1 hc
          have z2 := cell_kept z2 hc
          have hL10 := hL10.below hc
          have hbb := hbb.trans ((hc).mono hbb.size)
          clear hc p0 p1 p2 CEr hsub hsb
          obtain ⟨xa, ba, hoa, ea1, ea2, ea3, -, -, -, ea7⟩ := may_vi Hmay.out
          have c13 := of_k k0 n0 (str T0) _ hoa
          unfold rawV at c13
          have C13 := Go.Lib.hid c13; clear c13 hoa
          have hsta := store_vi xa
          go_wp2_with fail
          refine (C13.out _).mono ?_
          rintro e w13 ⟨rfl, hc⟩
          have y0 := cell_kept y0 hc
          have y1 := cell_kept y1 hc
          have y2 := cell_kept y2 hc
          have z0 := cell_kept z0 hc
          have z1 := cell_kept z1 hc
          have z2 := cell_kept z2 hc
          have hL10 := hL10.below hc
          have hbb := hbb.trans ((hc).mono hbb.size)
          clear hc C13
          have g0 := cell_new w13 xa.v 27
          have y0 := cell_kept y0 (below_one w13 (.cells #[xa.v] 27))
          have y1 := cell_kept y1 (below_one w13 (.cells #[xa.v] 27))
          have y2 := cell_kept y2 (below_one w13 (.cells #[xa.v] 27))
          have z0 := cell_kept z0 (below_one w13 (.cells #[xa.v] 27))
          have z1 := cell_kept z1 (below_one w13 (.cells #[xa.v] 27))
          have z2 := cell_kept z2 (below_one w13 (.cells #[xa.v] 27))
          have hL10 := hL10.below (below_one w13 (.cells #[xa.v] 27))
          have hbb := hbb.trans (((below_one w13 (.cells #[xa.v] 27))).mono hbb.size)
          go_wp2_with fail
          generalize w13.alloc (.cells #[xa.v] 27) = w14 at *
          generalize w13.heap.size = b14 at *
          clear hsta
          cases hm1 : mayR k1 n1 (str T1) with
          | false =>
            have c14 := of_k k1 n1 (str T1) _ (of_bad hm1)
            simp only [VI.val, VI.v, rawV] at c14
            have C14 := Go.Lib.hid c14; clear c14
            clear hm1
            refine (C14.out _).mono ?_
            rintro e w15 ⟨rfl, hc⟩
            have hbb := hbb.trans (hc.mono hbb.size)
            have hbb := hbb.trans ((below_one w15 (.cells #[.nilIface] 27)).mono hbb.size)
            clear hc y0 y1 y2 z0 z1 z2 g0
            go_upto_region 15 with (fail)
            refine wp_region_each (by kernel_rfl) (WF true) (WF_below true) (by decide +kernel) (by decide +kernel) (by rfl) [84, 85, 86, 87, 88, 89, 90, 91, 92, 93, 94, 95, 96, 97, 98, 99, 100, 101, 102, 103, 104, 105, 106, 107, 108, 109, 110, 111, 112, 113, 114, 115, 116, 117, 118, 8] (by rfl) ?_ ?_
            · intro i o ho a w6 hb6 hlen hg
              match i, ho with
              | 0, ho =>
                obtain rfl := Option.some.inj ho
                have h17 := given_old hg 17 (by decide +kernel)
                clear hg
                exact st_yield ho (wanted_none rfl) (.int .i64 1) w6 (by simp [execOp, Act.eval, h17, go_sem]) ⟨_, rfl, Below.refl _ _, by rintro t' ⟨⟩; rfl⟩
              | 1, ho =>
                obtain rfl := Option.some.inj ho
                obtain ⟨_, h84, rfl⟩ := given_fed hg 84 (by decide +kernel)
                clear hg
                exact st_yield ho (wanted_none rfl) (.bool true) w6 (by simp [execOp, Act.eval, h84, go_sem]) ⟨_, rfl, Below.refl _ _, by rintro t' ⟨⟩; rfl⟩
              | 2, ho =>
                obtain rfl := Option.some.inj ho
                obtain ⟨_, h85, rfl⟩ := given_fed hg 85 (by decide +kernel)
                clear hg
                exact st_yield ho (wanted_none rfl) (.bool true) w6 (by simp [execOp, Act.eval, h85, go_sem]) ⟨_, rfl, Below.refl _ _, by rintro t' ⟨⟩; rfl⟩
              | 3, ho =>
                obtain rfl := Option.some.inj ho
                obtain ⟨_, h86, rfl⟩ := given_fed hg 86 (by decide +kernel)
                clear hg
                exact st_skip ho (wanted_not rfl rfl h86 (by decide)) ⟨_, rfl, Below.refl _ _, by rintro t' ⟨⟩; rfl⟩
              | 4, ho =>
                obtain rfl := Option.some.inj ho
                obtain ⟨_, h86, rfl⟩ := given_fed hg 86 (by decide +kernel)
                clear hg
                exact st_skip ho (wanted_not rfl rfl h86 (by decide)) ⟨_, rfl, Below.refl _ _, by rintro t' ⟨⟩; rfl⟩
              | 5, ho =>
                obtain rfl := Option.some.inj ho
                obtain ⟨_, h86, rfl⟩ := given_fed hg 86 (by decide +kernel)
                clear hg
                exact st_skip ho (wanted_not rfl rfl h86 (by decide)) ⟨_, rfl, Below.refl _ _, by rintro t' ⟨⟩; rfl⟩
              | 6, ho =>
                obtain rfl := Option.some.inj ho
                obtain ⟨_, h86, rfl⟩ := given_fed hg 86 (by decide +kernel)
                clear hg
                exact st_skip ho (wanted_not rfl rfl h86 (by decide)) ⟨_, rfl, Below.refl _ _, by rintro t' ⟨⟩; rfl⟩
              | 7, ho =>
                obtain rfl := Option.some.inj ho
                obtain ⟨_, h86, rfl⟩ := given_fed hg 86 (by decide +kernel)
                clear hg
                exact st_skip ho (wanted_not rfl rfl h86 (by decide)) ⟨_, rfl, Below.refl _ _, by rintro t' ⟨⟩; rfl⟩
              | 8, ho =>
                obtain rfl := Option.some.inj ho
                obtain ⟨_, h86, rfl⟩ := given_fed hg 86 (by decide +kernel)
                clear hg
                exact st_skip ho (wanted_not rfl rfl h86 (by decide)) ⟨_, rfl, Below.refl _ _, by rintro t' ⟨⟩; rfl⟩
              | 9, ho =>
                obtain rfl := Option.some.inj ho
                obtain ⟨_, h86, rfl⟩ := given_fed hg 86 (by decide +kernel)
                clear hg
                exact st_skip ho (wanted_not rfl rfl h86 (by decide)) ⟨_, rfl, Below.refl _ _, by rintro t' ⟨⟩; rfl⟩
              | 10, ho =>
                obtain rfl := Option.some.inj ho
                obtain ⟨_, h86, rfl⟩ := given_fed hg 86 (by decide +kernel)
                clear hg
                exact st_skip ho (wanted_not rfl rfl h86 (by decide)) ⟨_, rfl, Below.refl _ _, by rintro t' ⟨⟩; rfl⟩
              | 11, ho =>
                obtain rfl := Option.some.inj ho
                obtain ⟨_, h94, rfl⟩ := given_fed hg 94 (by decide +kernel)
                clear hg
                exact st_skip ho (wanted_undef rfl rfl h94) ⟨_, rfl, Below.refl _ _, by rintro t' ⟨⟩; rfl⟩
              | 12, ho =>
                obtain rfl := Option.some.inj ho
                obtain ⟨_, h94, rfl⟩ := given_fed hg 94 (by decide +kernel)
                clear hg
                exact st_skip ho (wanted_undef rfl rfl h94) ⟨_, rfl, Below.refl _ _, by rintro t' ⟨⟩; rfl⟩
              | 13, ho =>
                obtain rfl := Option.some.inj ho
                obtain ⟨_, h94, rfl⟩ := given_fed hg 94 (by decide +kernel)
                clear hg
                exact st_skip ho (wanted_undef rfl rfl h94) ⟨_, rfl, Below.refl _ _, by rintro t' ⟨⟩; rfl⟩
              | 14, ho =>
                obtain rfl := Option.some.inj ho
                obtain ⟨_, h94, rfl⟩ := given_fed hg 94 (by decide +kernel)
                clear hg
                exact st_skip ho (wanted_undef rfl rfl h94) ⟨_, rfl, Below.refl _ _, by rintro t' ⟨⟩; rfl⟩
              | 15, ho =>
                obtain rfl := Option.some.inj ho
                obtain ⟨_, h94, rfl⟩ := given_fed hg 94 (by decide +kernel)
                clear hg
                exact st_skip ho (wanted_undef rfl rfl h94) ⟨_, rfl, Below.refl _ _, by rintro t' ⟨⟩; rfl⟩
              | 16, ho =>
                obtain rfl := Option.some.inj ho
                obtain ⟨_, h94, rfl⟩ := given_fed hg 94 (by decide +kernel)
                clear hg
                exact st_skip ho (wanted_undef rfl rfl h94) ⟨_, rfl, Below.refl _ _, by rintro t' ⟨⟩; rfl⟩
              | 17, ho =>
                obtain rfl := Option.some.inj ho
                obtain ⟨_, h94, rfl⟩ := given_fed hg 94 (by decide +kernel)
                clear hg
                exact st_skip ho (wanted_undef rfl rfl h94) ⟨_, rfl, Below.refl _ _, by rintro t' ⟨⟩; rfl⟩
              | 18, ho =>
                obtain rfl := Option.some.inj ho
                obtain ⟨_, h94, rfl⟩ := given_fed hg 94 (by decide +kernel)
                clear hg
                exact st_skip ho (wanted_undef rfl rfl h94) ⟨_, rfl, Below.refl _ _, by rintro t' ⟨⟩; rfl⟩
              | 19, ho =>
                obtain rfl := Option.some.inj ho
                obtain ⟨_, h94, rfl⟩ := given_fed hg 94 (by decide +kernel)
                clear hg
                exact st_skip ho (wanted_undef rfl rfl h94) ⟨_, rfl, Below.refl _ _, by rintro t' ⟨⟩; rfl⟩
              | 20, ho =>
                obtain rfl := Option.some.inj ho
                obtain ⟨_, h94, rfl⟩ := given_fed hg 94 (by decide +kernel)
                clear hg
                exact st_skip ho (wanted_undef rfl rfl h94) ⟨_, rfl, Below.refl _ _, by rintro t' ⟨⟩; rfl⟩
              | 21, ho =>
                obtain rfl := Option.some.inj ho
                obtain ⟨_, h94, rfl⟩ := given_fed hg 94 (by decide +kernel)
                clear hg
                exact st_skip ho (wanted_undef rfl rfl h94) ⟨_, rfl, Below.refl _ _, by rintro t' ⟨⟩; rfl⟩
              | 22, ho =>
                obtain rfl := Option.some.inj ho
                obtain ⟨_, h94, rfl⟩ := given_fed hg 94 (by decide +kernel)
                clear hg
                exact st_skip ho (wanted_undef rfl rfl h94) ⟨_, rfl, Below.refl _ _, by rintro t' ⟨⟩; rfl⟩
              | 23, ho =>
                obtain rfl := Option.some.inj ho
                obtain ⟨_, h94, rfl⟩ := given_fed hg 94 (by decide +kernel)
                clear hg
                exact st_skip ho (wanted_undef rfl rfl h94) ⟨_, rfl, Below.refl _ _, by rintro t' ⟨⟩; rfl⟩
              | 24, ho =>
                obtain rfl := Option.some.inj ho
                obtain ⟨_, h86, rfl⟩ := given_fed hg 86 (by decide +kernel)
                clear hg
                exact st_skip ho (wanted_not rfl rfl h86 (by decide)) ⟨_, rfl, Below.refl _ _, by rintro t' ⟨⟩; rfl⟩
              | 25, ho =>
                obtain rfl := Option.some.inj ho
                obtain ⟨_, h86, rfl⟩ := given_fed hg 86 (by decide +kernel)
                clear hg
                exact st_skip ho (wanted_not rfl rfl h86 (by decide)) ⟨_, rfl, Below.refl _ _, by rintro t' ⟨⟩; rfl⟩
              | 26, ho =>
                obtain rfl := Option.some.inj ho
                obtain ⟨_, h109, rfl⟩ := given_fed hg 109 (by decide +kernel)
                clear hg
                exact st_skip ho (wanted_undef rfl rfl h109) ⟨_, rfl, Below.refl _ _, by rintro t' ⟨⟩; rfl⟩
              | 27, ho =>
                obtain rfl := Option.some.inj ho
                obtain ⟨_, h109, rfl⟩ := given_fed hg 109 (by decide +kernel)
                clear hg
                exact st_skip ho (wanted_undef rfl rfl h109) ⟨_, rfl, Below.refl _ _, by rintro t' ⟨⟩; rfl⟩
              | 28, ho =>
                obtain rfl := Option.some.inj ho
                obtain ⟨_, h109, rfl⟩ := given_fed hg 109 (by decide +kernel)
                clear hg
                exact st_skip ho (wanted_undef rfl rfl h109) ⟨_, rfl, Below.refl _ _, by rintro t' ⟨⟩; rfl⟩
              | 29, ho =>
                obtain rfl := Option.some.inj ho
                obtain ⟨_, h109, rfl⟩ := given_fed hg 109 (by decide +kernel)
                clear hg
                exact st_skip ho (wanted_undef rfl rfl h109) ⟨_, rfl, Below.refl _ _, by rintro t' ⟨⟩; rfl⟩
              | 30, ho =>
                obtain rfl := Option.some.inj ho
                obtain ⟨_, h109, rfl⟩ := given_fed hg 109 (by decide +kernel)
                clear hg
                exact st_skip ho (wanted_undef rfl rfl h109) ⟨_, rfl, Below.refl _ _, by rintro t' ⟨⟩; rfl⟩
              | 31, ho =>
                obtain rfl := Option.some.inj ho
                obtain ⟨_, h109, rfl⟩ := given_fed hg 109 (by decide +kernel)
                clear hg
                exact st_skip ho (wanted_undef rfl rfl h109) ⟨_, rfl, Below.refl _ _, by rintro t' ⟨⟩; rfl⟩
              | 32, ho =>
                obtain rfl := Option.some.inj ho
                obtain ⟨_, h109, rfl⟩ := given_fed hg 109 (by decide +kernel)
                clear hg
                exact st_skip ho (wanted_undef rfl rfl h109) ⟨_, rfl, Below.refl _ _, by rintro t' ⟨⟩; rfl⟩
              | 33, ho =>
                obtain rfl := Option.some.inj ho
                obtain ⟨_, h86, rfl⟩ := given_fed hg 86 (by decide +kernel)
                clear hg
                exact st_skip ho (wanted_not rfl rfl h86 (by decide)) ⟨_, rfl, Below.refl _ _, by rintro t' ⟨⟩; rfl⟩
              | 34, ho =>
                obtain rfl := Option.some.inj ho
                obtain ⟨_, h86, rfl⟩ := given_fed hg 86 (by decide +kernel)
                obtain ⟨_, h117, rfl⟩ := given_fed hg 117 (by decide +kernel)
                clear hg
                exact st_yield ho (wanted_none rfl) (.bool true) w6 (by simp [execOp, Act.eval, h86, h117, go_sem]) ⟨_, rfl, Below.refl _ _, by rintro t' ⟨⟩; rfl⟩
              | 35, ho =>
                obtain rfl := Option.some.inj ho
                obtain ⟨_, h118, rfl⟩ := given_fed hg 118 (by decide +kernel)
                clear hg
                exact st_yield ho (wanted_none rfl) (.bool true) w6 (by simp [execOp, Act.eval, h118, go_sem]) ⟨_, rfl, Below.refl _ _, by rintro t' ⟨⟩; rfl⟩
              | n + 36, ho => simp at ho
            · intro f3 w16 hb16 hv
              have h8 := hv 8 (by simp)
              clear hv
              simp only [WF] at h8
              unfold putAll
              simp only [List.foldl]
              go_simp
              go_wp2
              go_ret
              exact ⟨rfl, hbb.trans (hb16.mono hbb.size)⟩
          | true =>
            obtain ⟨xb, bb, hob, eb1, eb2, eb3, -, -, -, eb7⟩ := may_vi hm1
            have c14 := of_k k1 n1 (str T1) _ hob
            unfold rawV at c14
            have C14 := Go.Lib.hid c14; clear c14 hob
            have hstb := store_vi xb
            obtain ⟨t, ht⟩ : ∃ t, eqR k0 n0 (str T0) k1 n1 (str T1) = t := ⟨_, rfl⟩
            have ce1 := fun W => veq_c xa xb W (by rw [ea3]; omega) (by rw [eb3]; omega)
            have ce3 := fun W => veq_c xb xa W (by rw [eb3]; omega) (by rw [ea3]; omega)
            rw [ea1, ea2, ea3, eb1, eb2, eb3] at ce1 ce3
            rw [eqR_comm k1 n1 _ k0 n0 _] at ce3
            have ce2 := fun W => eqval_c k0 n0 (str T0) k1 n1 (str T1) W
            have hb2 := put_eq Hmay.out B1.out B2'.out hm1 B3.out B4.out
            rw [ht] at ce1 ce2 ce3 hb2
            rw [HB.out] at hb2
            have cp2 := fun W => vput_c (.slice none 0 0) [] k1 n1 T1 W (RB.nil W) hm1 B3.out B4.out (by simp)
            simp only [List.nil_append] at cp2
            unfold rawV at ce2 cp2
            unfold VI.val at ce1 ce3
            generalize putV k1 n1 T1 = B2 at hb2 cp2
            have HB2 := Go.Lib.hid hb2; clear hb2
            have CP2 := Go.Lib.hid cp2; clear cp2
            have CE1 := Go.Lib.hid ce1; clear ce1
            have CE2 := Go.Lib.hid ce2; clear ce2
            have CE3 := Go.Lib.hid ce3; clear ce3
            clear hm1 ht ea1 ea2 ea3 ea7 eb1 eb2 eb3 eb7
            refine (C14.out _).mono ?_
            rintro e w15 ⟨rfl, hc⟩
            have g0 := cell_kept g0 hc
            have y0 := cell_kept y0 hc
            have y1 := cell_kept y1 hc
            have y2 := cell_kept y2 hc
            have z0 := cell_kept z0 hc
            have z1 := cell_kept z1 hc
            have z2 := cell_kept z2 hc
            have hL10 := hL10.below hc
            have hbb := hbb.trans ((hc).mono hbb.size)
            clear hc C14
            have g1 := cell_new w15 xb.v 27
            have g0 := cell_kept g0 (below_one w15 (.cells #[xb.v] 27))
            have y0 := cell_kept y0 (below_one w15 (.cells #[xb.v] 27))
            have y1 := cell_kept y1 (below_one w15 (.cells #[xb.v] 27))
            have y2 := cell_kept y2 (below_one w15 (.cells #[xb.v] 27))
            have z0 := cell_kept z0 (below_one w15 (.cells #[xb.v] 27))
            have z1 := cell_kept z1 (below_one w15 (.cells #[xb.v] 27))
            have z2 := cell_kept z2 (below_one w15 (.cells #[xb.v] 27))
            have hL10 := hL10.below (below_one w15 (.cells #[xb.v] 27))
            have hbb := hbb.trans (((below_one w15 (.cells #[xb.v] 27))).mono hbb.size)
            obtain ⟨v101, hrb101, hsl⟩ := RB.run_l (P := Try.prog) hL10 39 5 Try.underlying39 info8 A.length (by have := HLl.out; omega) .i64
            rw [HLd.out] at hrb101
            have HRB101 := Go.Lib.hid hrb101; clear hrb101
            have Hsl := Go.Lib.hid hsl; clear hsl
            have H10 := Go.Lib.hid hL10; clear hL10
            go_upto_region 15 with (fail)
            generalize xa.v = xv0 at *
            generalize xb.v = xv1 at *
            clear hstb
            refine wp_region_each (by kernel_rfl) (WT k0 n0 T0 k1 n1 T1 a2 A B B2 L cap2 a10 c10 v101 xv0 xv1 t) (WT_below k0 n0 T0 k1 n1 T1 a2 A B B2 L cap2 a10 c10 v101 xv0 xv1 t) (by decide +kernel) (by decide +kernel) (by rfl) [84, 85, 86, 87, 88, 89, 90, 91, 92, 93, 94, 95, 96, 97, 98, 99, 100, 101, 102, 103, 104, 105, 106, 107, 108, 109, 110, 111, 112, 113, 114, 115, 116, 117, 118, 8] (by rfl) ?_ ?_
            · intro i o ho a w6 hb6 hlen hg
              have y0 := cell_kept y0 hb6
              have y1 := cell_kept y1 hb6
              have y2 := cell_kept y2 hb6
              have z0 := cell_kept z0 hb6
              have z1 := cell_kept z1 hb6
              have z2 := cell_kept z2 hb6
              have g0 := cell_kept g0 hb6
              have g1 := cell_kept g1 hb6
              have hsl := fun W => Hsl.out W
              have cv101 := run_string_RB w6 39 5 9 Try.underlying39 Try.underlying5 Try.underlying9 v101 B (HRB101.out _ (H10.out.below hb6))
              have hB2 := HB2.out
              match i, ho with
              | 0, ho =>
                obtain rfl := Option.some.inj ho
                have h17 := given_old hg 17 (by decide +kernel)
                clear hg
                exact st_yield ho (wanted_none rfl) (.int .i64 0) w6 (by simp [execOp, Act.eval, h17, go_sem]) ⟨_, rfl, Below.refl _ _, by rintro t' ⟨⟩; rfl⟩
              | 1, ho =>
                obtain rfl := Option.some.inj ho
                obtain ⟨_, h84, rfl⟩ := given_fed hg 84 (by decide +kernel)
                clear hg
                exact st_yield ho (wanted_none rfl) (.bool false) w6 (by simp [execOp, Act.eval, h84, go_sem]) ⟨_, rfl, Below.refl _ _, by rintro t' ⟨⟩; rfl⟩
              | 2, ho =>
                obtain rfl := Option.some.inj ho
                obtain ⟨_, h85, rfl⟩ := given_fed hg 85 (by decide +kernel)
                clear hg
                exact st_yield ho (wanted_none rfl) (.bool false) w6 (by simp [execOp, Act.eval, h85, go_sem]) ⟨_, rfl, Below.refl _ _, by rintro t' ⟨⟩; rfl⟩
              | 3, ho =>
                obtain rfl := Option.some.inj ho
                have h14 := given_old hg 14 (by decide +kernel)
                obtain ⟨_, h86, rfl⟩ := given_fed hg 86 (by decide +kernel)
                clear hg
                exact st_yield ho (wanted_some rfl rfl h86 rfl) (.agg #[xv0]) w6 (by simp [execOp, Act.eval, h14, go_sem, g0]) ⟨_, rfl, Below.refl _ _, by rintro t' ⟨⟩; rfl⟩
              | 4, ho =>
                obtain rfl := Option.some.inj ho
                have h16 := given_old hg 16 (by decide +kernel)
                obtain ⟨_, h86, rfl⟩ := given_fed hg 86 (by decide +kernel)
                clear hg
                exact st_yield ho (wanted_some rfl rfl h86 rfl) (.agg #[xv1]) w6 (by simp [execOp, Act.eval, h16, go_sem, g1]) ⟨_, rfl, Below.refl _ _, by rintro t' ⟨⟩; rfl⟩
              | 5, ho =>
                obtain rfl := Option.some.inj ho
                obtain ⟨_, h87, rfl⟩ := given_fed hg 87 (by decide +kernel)
                obtain ⟨_, h88, rfl⟩ := given_fed hg 88 (by decide +kernel)
                obtain ⟨_, h86, rfl⟩ := given_fed hg 86 (by decide +kernel)
                clear hg
                exact st_enter (w1 := w6) ho (wanted_some rfl rfl h86 rfl) 25 #[.agg #[xv0], .agg #[xv1]] (by simp [execOp, Act.eval, h87, h88, resolve, go_sem]) ((CE1.out _).mono (by rintro e w7 ⟨rfl, hb7⟩; exact ⟨_, rfl, _, rfl, hb7, by rintro t' ⟨⟩; rfl⟩))
              | 6, ho =>
                obtain rfl := Option.some.inj ho
                have h4 := given_old hg 4 (by decide +kernel)
                obtain ⟨_, h86, rfl⟩ := given_fed hg 86 (by decide +kernel)
                clear hg
                exact st_yield ho (wanted_some rfl rfl h86 rfl) (.agg #[.int .i64 k0, .int .i64 n0, .string (str T0)]) w6 (by simp [execOp, Act.eval, h4, go_sem, y0, y1, y2]) ⟨_, rfl, Below.refl _ _, by rintro t' ⟨⟩; rfl⟩
              | 7, ho =>
                obtain rfl := Option.some.inj ho
                have h5 := given_old hg 5 (by decide +kernel)
                obtain ⟨_, h86, rfl⟩ := given_fed hg 86 (by decide +kernel)
                clear hg
                exact st_yield ho (wanted_some rfl rfl h86 rfl) (.agg #[.int .i64 k1, .int .i64 n1, .string (str T1)]) w6 (by simp [execOp, Act.eval, h5, go_sem, z0, z1, z2]) ⟨_, rfl, Below.refl _ _, by rintro t' ⟨⟩; rfl⟩
              | 8, ho =>
                obtain rfl := Option.some.inj ho
                obtain ⟨_, h90, rfl⟩ := given_fed hg 90 (by decide +kernel)
                obtain ⟨_, h91, rfl⟩ := given_fed hg 91 (by decide +kernel)
                obtain ⟨_, h86, rfl⟩ := given_fed hg 86 (by decide +kernel)
                clear hg
                exact st_enter (w1 := w6) ho (wanted_some rfl rfl h86 rfl) 20 #[.agg #[.int .i64 k0, .int .i64 n0, .string (str T0)], .agg #[.int .i64 k1, .int .i64 n1, .string (str T1)]] (by simp [execOp, Act.eval, h90, h91, resolve, go_sem]) ((CE2.out _).mono (by rintro e w7 ⟨rfl, hb7⟩; exact ⟨_, rfl, _, rfl, hb7, by rintro t' ⟨⟩; rfl⟩))
              | 9, ho =>
                obtain rfl := Option.some.inj ho
                obtain ⟨_, h89, rfl⟩ := given_fed hg 89 (by decide +kernel)
                obtain ⟨_, h92, rfl⟩ := given_fed hg 92 (by decide +kernel)
                obtain ⟨_, h86, rfl⟩ := given_fed hg 86 (by decide +kernel)
                clear hg
                exact st_yield ho (wanted_some rfl rfl h86 rfl) (.bool true) w6 (by simp [execOp, Act.eval, h89, h92, go_sem]) ⟨_, rfl, Below.refl _ _, by rintro t' ⟨⟩; rfl⟩
              | 10, ho =>
                obtain rfl := Option.some.inj ho
                obtain ⟨_, h93, rfl⟩ := given_fed hg 93 (by decide +kernel)
                obtain ⟨_, h86, rfl⟩ := given_fed hg 86 (by decide +kernel)
                clear hg
                exact st_yield ho (wanted_some rfl rfl h86 rfl) (.bool true) w6 (by simp [execOp, Act.eval, h93, go_sem]) ⟨_, rfl, Below.refl _ _, by rintro t' ⟨⟩; rfl⟩
              | 11, ho =>
                obtain rfl := Option.some.inj ho
                have h5 := given_old hg 5 (by decide +kernel)
                obtain ⟨_, h94, rfl⟩ := given_fed hg 94 (by decide +kernel)
                clear hg
                exact st_yield ho (wanted_some rfl rfl h94 rfl) (.agg #[.int .i64 k1, .int .i64 n1, .string (str T1)]) w6 (by simp [execOp, Act.eval, h5, go_sem, z0, z1, z2]) ⟨_, rfl, Below.refl _ _, by rintro t' ⟨⟩; rfl⟩
              | 12, ho =>
                obtain rfl := Option.some.inj ho
                obtain ⟨_, h95, rfl⟩ := given_fed hg 95 (by decide +kernel)
                obtain ⟨_, h94, rfl⟩ := given_fed hg 94 (by decide +kernel)
                clear hg
                exact st_enter (w1 := w6) ho (wanted_some rfl rfl h94 rfl) 22 #[.slice none 0 0, .agg #[.int .i64 k1, .int .i64 n1, .string (str T1)]] (by simp [execOp, Act.eval, h95, resolve, go_sem]) ((CP2.out _).mono (by rintro e w7 ⟨v, rfl, hown, hb7⟩; exact ⟨v, rfl, _, rfl, hb7, by rintro t' ⟨⟩; exact hown.rb⟩))
              | 13, ho =>
                obtain rfl := Option.some.inj ho
                obtain ⟨v96, h96, p96⟩ := given_fed hg 96 (by decide +kernel)
                obtain ⟨_, h94, rfl⟩ := given_fed hg 94 (by decide +kernel)
                clear hg
                have cv := run_string_RB w6 39 5 9 Try.underlying39 Try.underlying5 Try.underlying9 v96 B2 p96
                exact st_yield ho (wanted_some rfl rfl h94 rfl) (.string (str B2)) w6 (by simp [execOp, Act.eval, h96, go_sem, cv]) ⟨_, rfl, Below.refl _ _, by rintro t' ⟨⟩; rfl⟩
              | 14, ho =>
                obtain rfl := Option.some.inj ho
                have h10 := given_old hg 10 (by decide +kernel)
                obtain ⟨_, h94, rfl⟩ := given_fed hg 94 (by decide +kernel)
                clear hg
                exact st_yield ho (wanted_some rfl rfl h94 rfl) (.slice a10 L.length c10) w6 (by simp [execOp, Act.eval, h10, go_sem]) ⟨_, rfl, Below.refl _ _, by rintro t' ⟨⟩; rfl⟩
              | 15, ho =>
                obtain rfl := Option.some.inj ho
                have h2 := given_old hg 2 (by decide +kernel)
                obtain ⟨_, h94, rfl⟩ := given_fed hg 94 (by decide +kernel)
                clear hg
                exact st_yield ho (wanted_some rfl rfl h94 rfl) (.slice a2 A.length cap2) w6 (by simp [execOp, Act.eval, h2, go_sem]) ⟨_, rfl, Below.refl _ _, by rintro t' ⟨⟩; rfl⟩
              | 16, ho =>
                obtain rfl := Option.some.inj ho
                obtain ⟨_, h99, rfl⟩ := given_fed hg 99 (by decide +kernel)
                obtain ⟨_, h94, rfl⟩ := given_fed hg 94 (by decide +kernel)
                clear hg
                exact st_yield ho (wanted_some rfl rfl h94 rfl) (.int .i64 (A.length : Int)) w6 (by simp [execOp, Act.eval, h99, go_sem, resolve]) ⟨_, rfl, Below.refl _ _, by rintro t' ⟨⟩; rfl⟩
              | 17, ho =>
                obtain rfl := Option.some.inj ho
                obtain ⟨_, h98, rfl⟩ := given_fed hg 98 (by decide +kernel)
                obtain ⟨_, h100, rfl⟩ := given_fed hg 100 (by decide +kernel)
                obtain ⟨_, h94, rfl⟩ := given_fed hg 94 (by decide +kernel)
                clear hg
                exact st_yield ho (wanted_some rfl rfl h94 rfl) (v101) w6 (by simp [execOp, Act.eval, h98, h100, go_sem, hsl]) ⟨_, rfl, Below.refl _ _, by rintro t' ⟨⟩; rfl⟩
              | 18, ho =>
                obtain rfl := Option.some.inj ho
                obtain ⟨_, h101, rfl⟩ := given_fed hg 101 (by decide +kernel)
                obtain ⟨_, h94, rfl⟩ := given_fed hg 94 (by decide +kernel)
                clear hg
                exact st_yield ho (wanted_some rfl rfl h94 rfl) (.string (str B)) w6 (by simp [execOp, Act.eval, h101, go_sem, cv101]) ⟨_, rfl, Below.refl _ _, by rintro t' ⟨⟩; rfl⟩
              | 19, ho =>
                obtain rfl := Option.some.inj ho
                obtain ⟨_, h97, rfl⟩ := given_fed hg 97 (by decide +kernel)
                obtain ⟨_, h102, rfl⟩ := given_fed hg 102 (by decide +kernel)
                obtain ⟨_, h94, rfl⟩ := given_fed hg 94 (by decide +kernel)
                clear hg
                exact st_yield ho (wanted_some rfl rfl h94 rfl) (.bool t) w6 (by simp [execOp, Act.eval, h97, h102, go_sem, hB2]) ⟨_, rfl, Below.refl _ _, by rintro t' ⟨⟩; rfl⟩
              | 20, ho =>
                obtain rfl := Option.some.inj ho
                have h14 := given_old hg 14 (by decide +kernel)
                obtain ⟨_, h94, rfl⟩ := given_fed hg 94 (by decide +kernel)
                clear hg
                exact st_yield ho (wanted_some rfl rfl h94 rfl) (.agg #[xv0]) w6 (by simp [execOp, Act.eval, h14, go_sem, g0]) ⟨_, rfl, Below.refl _ _, by rintro t' ⟨⟩; rfl⟩
              | 21, ho =>
                obtain rfl := Option.some.inj ho
                have h16 := given_old hg 16 (by decide +kernel)
                obtain ⟨_, h94, rfl⟩ := given_fed hg 94 (by decide +kernel)
                clear hg
                exact st_yield ho (wanted_some rfl rfl h94 rfl) (.agg #[xv1]) w6 (by simp [execOp, Act.eval, h16, go_sem, g1]) ⟨_, rfl, Below.refl _ _, by rintro t' ⟨⟩; rfl⟩
              | 22, ho =>
                obtain rfl := Option.some.inj ho
                obtain ⟨_, h104, rfl⟩ := given_fed hg 104 (by decide +kernel)
                obtain ⟨_, h105, rfl⟩ := given_fed hg 105 (by decide +kernel)
                obtain ⟨_, h94, rfl⟩ := given_fed hg 94 (by decide +kernel)
                clear hg
                exact st_enter (w1 := w6) ho (wanted_some rfl rfl h94 rfl) 25 #[.agg #[xv0], .agg #[xv1]] (by simp [execOp, Act.eval, h104, h105, resolve, go_sem]) ((CE1.out _).mono (by rintro e w7 ⟨rfl, hb7⟩; exact ⟨_, rfl, _, rfl, hb7, by rintro t' ⟨⟩; rfl⟩))
              | 23, ho =>
                obtain rfl := Option.some.inj ho
                obtain ⟨_, h103, rfl⟩ := given_fed hg 103 (by decide +kernel)
                obtain ⟨_, h106, rfl⟩ := given_fed hg 106 (by decide +kernel)
                obtain ⟨_, h94, rfl⟩ := given_fed hg 94 (by decide +kernel)
                clear hg
                exact st_yield ho (wanted_some rfl rfl h94 rfl) (.bool true) w6 (by simp [execOp, Act.eval, h103, h106, go_sem]) ⟨_, rfl, Below.refl _ _, by rintro t' ⟨⟩; rfl⟩
              | 24, ho =>
                obtain rfl := Option.some.inj ho
                obtain ⟨_, h94, rfl⟩ := given_fed hg 94 (by decide +kernel)
                obtain ⟨_, h107, rfl⟩ := given_fed hg 107 (by decide +kernel)
                obtain ⟨_, h86, rfl⟩ := given_fed hg 86 (by decide +kernel)
                clear hg
                exact st_yield ho (wanted_some rfl rfl h86 rfl) (.bool true) w6 (by simp [execOp, Act.eval, h94, h107, go_sem]) ⟨_, rfl, Below.refl _ _, by rintro t' ⟨⟩; rfl⟩
              | 25, ho =>
                obtain rfl := Option.some.inj ho
                obtain ⟨_, h108, rfl⟩ := given_fed hg 108 (by decide +kernel)
                obtain ⟨_, h86, rfl⟩ := given_fed hg 86 (by decide +kernel)
                clear hg
                exact st_yield ho (wanted_some rfl rfl h86 rfl) (.bool true) w6 (by simp [execOp, Act.eval, h108, go_sem]) ⟨_, rfl, Below.refl _ _, by rintro t' ⟨⟩; rfl⟩
              | 26, ho =>
                obtain rfl := Option.some.inj ho
                have h16 := given_old hg 16 (by decide +kernel)
                obtain ⟨_, h109, rfl⟩ := given_fed hg 109 (by decide +kernel)
                clear hg
                exact st_yield ho (wanted_some rfl rfl h109 rfl) (.agg #[xv1]) w6 (by simp [execOp, Act.eval, h16, go_sem, g1]) ⟨_, rfl, Below.refl _ _, by rintro t' ⟨⟩; rfl⟩
              | 27, ho =>
                obtain rfl := Option.some.inj ho
                have h14 := given_old hg 14 (by decide +kernel)
                obtain ⟨_, h109, rfl⟩ := given_fed hg 109 (by decide +kernel)
                clear hg
                exact st_yield ho (wanted_some rfl rfl h109 rfl) (.agg #[xv0]) w6 (by simp [execOp, Act.eval, h14, go_sem, g0]) ⟨_, rfl, Below.refl _ _, by rintro t' ⟨⟩; rfl⟩
              | 28, ho =>
                obtain rfl := Option.some.inj ho
                obtain ⟨_, h110, rfl⟩ := given_fed hg 110 (by decide +kernel)
                obtain ⟨_, h111, rfl⟩ := given_fed hg 111 (by decide +kernel)
                obtain ⟨_, h109, rfl⟩ := given_fed hg 109 (by decide +kernel)
                clear hg
                exact st_enter (w1 := w6) ho (wanted_some rfl rfl h109 rfl) 25 #[.agg #[xv1], .agg #[xv0]] (by simp [execOp, Act.eval, h110, h111, resolve, go_sem]) ((CE3.out _).mono (by rintro e w7 ⟨rfl, hb7⟩; exact ⟨_, rfl, _, rfl, hb7, by rintro t' ⟨⟩; rfl⟩))
              | 29, ho =>
                obtain rfl := Option.some.inj ho
                have h14 := given_old hg 14 (by decide +kernel)
                obtain ⟨_, h109, rfl⟩ := given_fed hg 109 (by decide +kernel)
                clear hg
                exact st_yield ho (wanted_some rfl rfl h109 rfl) (.agg #[xv0]) w6 (by simp [execOp, Act.eval, h14, go_sem, g0]) ⟨_, rfl, Below.refl _ _, by rintro t' ⟨⟩; rfl⟩
              | 30, ho =>
                obtain rfl := Option.some.inj ho
                have h16 := given_old hg 16 (by decide +kernel)
                obtain ⟨_, h109, rfl⟩ := given_fed hg 109 (by decide +kernel)
                clear hg
                exact st_yield ho (wanted_some rfl rfl h109 rfl) (.agg #[xv1]) w6 (by simp [execOp, Act.eval, h16, go_sem, g1]) ⟨_, rfl, Below.refl _ _, by rintro t' ⟨⟩; rfl⟩
              | 31, ho =>
                obtain rfl := Option.some.inj ho
                obtain ⟨_, h113, rfl⟩ := given_fed hg 113 (by decide +kernel)
                obtain ⟨_, h114, rfl⟩ := given_fed hg 114 (by decide +kernel)
                obtain ⟨_, h109, rfl⟩ := given_fed hg 109 (by decide +kernel)
                clear hg
                exact st_enter (w1 := w6) ho (wanted_some rfl rfl h109 rfl) 25 #[.agg #[xv0], .agg #[xv1]] (by simp [execOp, Act.eval, h113, h114, resolve, go_sem]) ((CE1.out _).mono (by rintro e w7 ⟨rfl, hb7⟩; exact ⟨_, rfl, _, rfl, hb7, by rintro t' ⟨⟩; rfl⟩))
              | 32, ho =>
                obtain rfl := Option.some.inj ho
                obtain ⟨_, h112, rfl⟩ := given_fed hg 112 (by decide +kernel)
                obtain ⟨_, h115, rfl⟩ := given_fed hg 115 (by decide +kernel)
                obtain ⟨_, h109, rfl⟩ := given_fed hg 109 (by decide +kernel)
                clear hg
                exact st_yield ho (wanted_some rfl rfl h109 rfl) (.bool true) w6 (by simp [execOp, Act.eval, h112, h115, go_sem]) ⟨_, rfl, Below.refl _ _, by rintro t' ⟨⟩; rfl⟩
              | 33, ho =>
                obtain rfl := Option.some.inj ho
                obtain ⟨_, h109, rfl⟩ := given_fed hg 109 (by decide +kernel)
                obtain ⟨_, h116, rfl⟩ := given_fed hg 116 (by decide +kernel)
                obtain ⟨_, h86, rfl⟩ := given_fed hg 86 (by decide +kernel)
                clear hg
                exact st_yield ho (wanted_some rfl rfl h86 rfl) (.bool true) w6 (by simp [execOp, Act.eval, h109, h116, go_sem]) ⟨_, rfl, Below.refl _ _, by rintro t' ⟨⟩; rfl⟩
              | 34, ho =>
                obtain rfl := Option.some.inj ho
                obtain ⟨_, h86, rfl⟩ := given_fed hg 86 (by decide +kernel)
                obtain ⟨_, h117, rfl⟩ := given_fed hg 117 (by decide +kernel)
                clear hg
                exact st_yield ho (wanted_none rfl) (.bool true) w6 (by simp [execOp, Act.eval, h86, h117, go_sem]) ⟨_, rfl, Below.refl _ _, by rintro t' ⟨⟩; rfl⟩
              | 35, ho =>
                obtain rfl := Option.some.inj ho
                obtain ⟨_, h118, rfl⟩ := given_fed hg 118 (by decide +kernel)
                clear hg
                exact st_yield ho (wanted_none rfl) (.bool true) w6 (by simp [execOp, Act.eval, h118, go_sem]) ⟨_, rfl, Below.refl _ _, by rintro t' ⟨⟩; rfl⟩
              | n + 36, ho => simp at ho
            · intro f3 w16 hb16 hv
              have h8 := hv 8 (by simp)
              clear hv
              simp only [WT] at h8
              unfold putAll
              simp only [List.foldl]
              go_simp
              go_wp2
              go_ret
              exact ⟨rfl, hbb.trans (hb16.mono hbb.size)⟩

/-! ### THE ROW -/
set_option maxRecDepth 100000 in
theorem lifted (os : Os) (started : os.Started) (H : Type) (enc : TypeId × Value → H) :
    ReturnsInHanded {} Try.checked os 4 .any (Rows.valueBytesSpec.pre6 enc Try.prog Try.f4 Rows.valueBytesRow.domain false) (Rows.valueBytesSpec.post enc Try.prog Try.f4 false true false false) := by
  refine returnsInHanded_of_change (C := Try.checked) own started (by kernel_rfl) Try.func4
    (ChangeSpec.witness6 (enc := enc) (C := Try.checked) false ⟨#[], #[.agg #[.int .i64 0, .int .i64 0, .string ByteArray.empty], .agg #[.int .i64 0, .int .i64 0, .string ByteArray.empty], .slice none 0 0, .slice none 0 0], []⟩ 8 (by kernel_rfl) (by kernel_rfl) (by kernel_rfl) (by kernel_rfl)) ?_
  intro W base args ds gs before hval0 hW hcnd _
  have hval : ∀ (j : Nat) t v, Try.f4.params[j]? = some t → args[j]? = some v → Value.okWide Try.prog W .any base t v := hval0
  have hW' := hW
  obtain ⟨p, q, hA0, hV, rfl, hfz, hnd⟩ := hW
  have hA : DataW.TrodAll enc Try.prog W 0 (fun _ => true) true Try.f4.params.toList args.toList ds p := hA0
  rw [Try.params4] at hA hval
  obtain ⟨v0, vs0, d0, ds0, p0, q0, hargs, rfl, rfl, h0, r0⟩ := trodAll_cons hA
  obtain ⟨v1, vs1, d1, ds1, p1, q1, rfl, rfl, rfl, h1, r1⟩ := trodAll_cons r0
  obtain ⟨v2, vs2, d2, ds2, p2, q2, rfl, rfl, rfl, h2, r2⟩ := trodAll_cons r1
  obtain ⟨v3, vs3, d3, ds3, p3, q3, rfl, rfl, rfl, h3, r3⟩ := trodAll_cons r2
  obtain ⟨rfl, rfl, rfl⟩ := trodAll_nil r3
  obtain rfl : args = #[v0, v1, v2, v3] := by cases args; simp_all
  obtain ⟨rfl, rfl⟩ := trodVars_none hV
  have kk0 := h0
  have lt0 : ∀ x ∈ p0, x.block < W.heap.size := by obtain ⟨m, hm⟩ := kk0; exact DataW.trod_lt m _ _ _ hm
  have kk1 := h1
  have lt1 : ∀ x ∈ p1, x.block < W.heap.size := by obtain ⟨m, hm⟩ := kk1; exact DataW.trod_lt m _ _ _ hm
  have kk2 := h2
  have lt2 : ∀ x ∈ p2, x.block < W.heap.size := by obtain ⟨m, hm⟩ := kk2; exact DataW.trod_lt m _ _ _ hm
  have kk3 := h3
  have lt3 : ∀ x ∈ p3, x.block < W.heap.size := by obtain ⟨m, hm⟩ := kk3; exact DataW.trod_lt m _ _ _ hm
  obtain ⟨k0, n0, s0, rfl, wk0, wn0, ws0⟩ := open_raw (hval 0 23 v0 rfl rfl) h0
  obtain ⟨k1, n1, s1, rfl, wk1, wn1, ws1⟩ := open_raw (hval 1 23 v1 rfl rfl) h1
  obtain ⟨a2, len2, cap2, rfl⟩ := okWide_slice Try.underlying39 (hval 2 39 v2 rfl rfl)
  obtain ⟨z2, w2⟩ : ∃ zs, IsRow .u8 W a2 len2 cap2 zs := by
    obtain ⟨fuel, hf⟩ := h2
    rcases open_ints Try.underlying39 Try.underlying5 (by kernel_rfl) hf with ⟨hcs, _⟩ | ⟨x, l, c, zs, hcs, _, hl, hm, hz, _, hcell, hwz⟩
    · simp [Value.cells] at hcs
      obtain ⟨rfl, rfl, rfl⟩ := hcs
      exact ⟨[], .inl ⟨rfl, rfl, rfl, rfl⟩⟩
    · simp [Value.cells] at hcs
      obtain ⟨rfl, rfl, rfl⟩ := hcs
      exact ⟨zs, .inr ⟨_, rfl, hl, hm, by simpa using hz, hcell, hwz⟩⟩
  obtain ⟨a3, len3, cap3, rfl⟩ := okWide_slice Try.underlying39 (hval 3 39 v3 rfl rfl)
  obtain ⟨z3, w3⟩ : ∃ zs, IsRow .u8 W a3 len3 cap3 zs := by
    obtain ⟨fuel, hf⟩ := h3
    rcases open_ints Try.underlying39 Try.underlying5 (by kernel_rfl) hf with ⟨hcs, _⟩ | ⟨x, l, c, zs, hcs, _, hl, hm, hz, _, hcell, hwz⟩
    · simp [Value.cells] at hcs
      obtain ⟨rfl, rfl, rfl⟩ := hcs
      exact ⟨[], .inl ⟨rfl, rfl, rfl, rfl⟩⟩
    · simp [Value.cells] at hcs
      obtain ⟨rfl, rfl, rfl⟩ := hcs
      exact ⟨zs, .inr ⟨_, rfl, hl, hm, by simpa using hz, hcell, hwz⟩⟩
  clear hA0 hval0
  refine (walk W k0 n0 s0 wk0 wn0 ws0 k1 n1 s1 wk1 wn1 ws1 a2 len2 cap2 z2 w2 a3 len3 cap3 z3 w3).mono fun e W' ⟨he, bel⟩ => ?_
  subst he
  exact ⟨_, rfl, _, _, _, [], _, [], hW', trodAll_mk1 (shut_bool Try.underlying4 _), (trodAll_cons_mk (Below.trod laidOut (by kernel_rfl) (of_decide_eq_true (by kernel_rfl)) kk0 bel lt0) (trodAll_cons_mk (Below.trod laidOut (by kernel_rfl) (of_decide_eq_true (by kernel_rfl)) kk1 bel lt1) (trodAll_cons_mk (Below.trod laidOut (by kernel_rfl) (of_decide_eq_true (by kernel_rfl)) kk2 bel lt2) (trodAll_cons_mk (Below.trod laidOut (by kernel_rfl) (of_decide_eq_true (by kernel_rfl)) kk3 bel lt3) trodAll_mk0)))), rfl, bel.frame _, fun h => by cases h⟩

theorem over : Rows.valueBytesRow.holds Try.pinned (OpenSpec.ofChange Rows.valueBytesSpec) :=
  OpenClaim.holds_of_wide 4 Try.f4 rfl rfl rfl rfl rfl rfl rfl ⟨rfl, rfl, rfl, rfl, rfl⟩ rfl rfl rfl rfl rfl (by kernel_rfl) Try.func4 (by kernel_rfl)
    (of_decide_eq_true (by kernel_rfl)) (by unfold Func.isWrapper; first | (rw [if_pos (by decide +kernel)]; kernel_rfl) | (rw [if_neg (by decide +kernel)]; exact ⟨rfl, rfl⟩))
    (fun os started H enc _ => lifted os started H enc)

theorem proved : Rows.ValueBytesSaid := over
#print axioms proved
end Go.Proofs.Ytpelcnehndlinaa.valueBytes
