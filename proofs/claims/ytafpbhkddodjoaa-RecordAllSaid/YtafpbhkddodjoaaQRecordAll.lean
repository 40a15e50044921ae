/- RecordAll: which records may be; those go to bytes and back; two have one text just if they are the same: for every input the law returns true. -/
import Derived.Test.YtafpbhkddodjoaaRows
import Derived.WalkKit
import Derived.ProofKit
import Derived.OpenShut
import Derived.ShutString
import Derived.ChangeOld
import Derived.Below
import Derived.Test.YtafpbhkddodjoaaM01
import Derived.Test.YtafpbhkddodjoaaM18
import Derived.Test.YtafpbhkddodjoaaM14
import Derived.Test.YtafpbhkddodjoaaM21
import Derived.Test.YtafpbhkddodjoaaM13
import Derived.Deep.DeepCutAuto
namespace Go.Proofs.Ytafpbhkddodjoaa.recordAll
open Go.ChangeShapes Go.WideShapes Go.ChangeAt Go.RowKit
open Go.ChangeMaps (open_string shut_string)
set_option linter.unusedVariables false

theorem own : ownKnob Try.prog.godebug = none := by kernel_rfl
theorem laidOut : laidOutB Try.prog = true := by kernel_rfl

def IsRow (k : IntKind) (w : World) (a : Option Addr) (len cap : Nat) (zs : List Int) : Prop :=
  (a = none ∧ len = 0 ∧ cap = 0 ∧ zs = []) ∨
  ∃ x, a = some x ∧ len ≤ cap ∧ cap ≤ maxLen ∧ zs.length = cap ∧ (∀ i, i < zs.length → w.cell? (x.add i) = some (.int k (zs.getD i 0))) ∧ ∀ n ∈ zs, (Lit.int k n).wf = true

theorem eqRec_self (k : ByteArray) (g : Bool) (a b : Int) (s : ByteArray) : eqRec k g a b s k g a b s = true := by
  have h := eqRec_iff (k, g, a, b, s) (k, g, a, b, s)
  simp only [decide_true] at h
  exact h
/-- Two records have one text just if they are the same. -/
theorem rput_eq {K0 T0 K1 T1 : List UInt8} {g0 g1 : Bool} {k0 n0 k1 n1 : Int} (h0 : mayRec (str K0) g0 k0 n0 (str T0) = true) (a0 : -9223372036854775808 ≤ n0) (b0 : n0 ≤ 9223372036854775807) (h1 : mayRec (str K1) g1 k1 n1 (str T1) = true) (a1 : -9223372036854775808 ≤ n1) (b1 : n1 ≤ 9223372036854775807) :
    ((str (recB K1 g1 k1 n1 T1)).toList == (str (recB K0 g0 k0 n0 T0)).toList) = eqRec (str K0) g0 k0 n0 (str T0) (str K1) g1 k1 n1 (str T1) := by
  have he := eqRec_iff (str K0, g0, k0, n0, str T0) (str K1, g1, k1, n1, str T1)
  simp only [] at he
  rw [he, Bool.eq_iff_iff, beq_iff_eq, decide_eq_true_eq, ByteArray.toList_eq, ByteArray.toList_eq]
  constructor
  · intro h
    have h : recB K1 g1 k1 n1 T1 = recB K0 g0 k0 n0 T0 := by simpa [str] using h
    have e0 := readB_put K0 g0 k0 n0 T0 [] h0 a0 b0
    have e1 := readB_put K1 g1 k1 n1 T1 [] h1 a1 b1
    rw [h, e0] at e1
    simp only [Prod.mk.injEq] at e1
    obtain ⟨⟨rfl, rfl, rfl, rfl, rfl⟩, -⟩ := e1
    rfl
  · intro h
    simp only [Prod.mk.injEq] at h
    obtain ⟨q1, rfl, rfl, rfl, q5⟩ := h
    rw [str_inj q1, str_inj q5]

def W4 (y0 : ByteArray) (g0 : Bool) (k0 n0 : Int) (s0 ks ts y1 : ByteArray) (g1 : Bool) (k1 n1 : Int) (s1 kt tt : ByteArray) (a2 : Option Addr) (len2 m2 cap2 : Nat) (a3 : Option Addr) (len3 m3 cap3 : Nat) : Nat → World → Value → Prop
  | 18, _, v => v = .agg #[.string y0, .bool g0, .int .i64 k0, .int .i64 n0, .string s0]
  | 19, _, v => v = .agg #[.string ks, .bool g0, .int .i64 k0, .int .i64 n0, .string ts]
  | 20, _, v => v = .agg #[.string y1, .bool g1, .int .i64 k1, .int .i64 n1, .string s1]
  | 21, _, v => v = .agg #[.string kt, .bool g1, .int .i64 k1, .int .i64 n1, .string tt]
  | 22, _, v => v = .slice a2 len2 cap2
  | 23, _, v => v = .slice a2 m2 cap2
  | 24, _, v => v = .slice a3 len3 cap3
  | 25, _, v => v = .slice a3 m3 cap3
  | _, _, _ => True

theorem W4_below (y0 : ByteArray) (g0 : Bool) (k0 n0 : Int) (s0 ks ts y1 : ByteArray) (g1 : Bool) (k1 n1 : Int) (s1 kt tt : ByteArray) (a2 : Option Addr) (len2 m2 cap2 : Nat) (a3 : Option Addr) (len3 m3 cap3 : Nat) : ∀ (i : Nat) (w w' : World) (v : Value), W4 y0 g0 k0 n0 s0 ks ts y1 g1 k1 n1 s1 kt tt a2 len2 m2 cap2 a3 len3 m3 cap3 i w v → Below w.heap.size w w' → W4 y0 g0 k0 n0 s0 ks ts y1 g1 k1 n1 s1 kt tt a2 len2 m2 cap2 a3 len3 m3 cap3 i w' v := by
  intro i w w' v h hb
  unfold W4 at h ⊢
  split at h <;> first | exact h | trivial | exact RB.below h hb | exact Own.below h hb

def W6 (ks : ByteArray) (g0 : Bool) (k0 n0 : Int) (ts kt : ByteArray) (g1 : Bool) (k1 n1 : Int) (tt : ByteArray) (pa pb t : Bool) : Nat → World → Value → Prop
  | 28, _, v => v = .agg #[.string ks, .bool g0, .int .i64 k0, .int .i64 n0, .string ts]
  | 29, _, v => v = .bool pa
  | 30, _, v => v = .bool pa
  | 31, _, v => v = .bool false
  | 32, _, v => v = .bool false
  | 33, _, v => v = .agg #[.string kt, .bool g1, .int .i64 k1, .int .i64 n1, .string tt]
  | 34, _, v => v = .bool pb
  | 35, _, v => v = .agg #[.string kt, .bool g1, .int .i64 k1, .int .i64 n1, .string tt]
  | 36, _, v => v = .bool pb
  | 37, _, v => v = .bool false
  | 38, _, v => v = .bool false
  | 39, _, v => v = .bool false
  | 40, _, v => v = .agg #[.string ks, .bool g0, .int .i64 k0, .int .i64 n0, .string ts]
  | 41, _, v => v = .agg #[.string kt, .bool g1, .int .i64 k1, .int .i64 n1, .string tt]
  | 42, _, v => v = .bool t
  | 43, _, v => v = .agg #[.string ks, .bool g0, .int .i64 k0, .int .i64 n0, .string ts]
  | 44, _, v => v = .agg #[.string kt, .bool g1, .int .i64 k1, .int .i64 n1, .string tt]
  | 45, _, v => v = .bool t
  | 46, _, v => v = .bool false
  | 47, _, v => v = .bool false
  | _, _, _ => True

theorem W6_below (ks : ByteArray) (g0 : Bool) (k0 n0 : Int) (ts kt : ByteArray) (g1 : Bool) (k1 n1 : Int) (tt : ByteArray) (pa pb t : Bool) : ∀ (i : Nat) (w w' : World) (v : Value), W6 ks g0 k0 n0 ts kt g1 k1 n1 tt pa pb t i w v → Below w.heap.size w w' → W6 ks g0 k0 n0 ts kt g1 k1 n1 tt pa pb t i w' v := by
  intro i w w' v h hb
  unfold W6 at h ⊢
  split at h <;> first | exact h | trivial | exact RB.below h hb | exact Own.below h hb

def W10 (ks : ByteArray) (g0 : Bool) (k0 n0 : Int) (ts : ByteArray) (a2 : Option Addr) (A L : List UInt8) (cap2 : Nat) : Nat → World → Value → Prop
  | 50, _, v => v = .slice a2 A.length cap2
  | 51, w, v => RB w v A
  | 52, _, v => v = .agg #[.string ks, .bool g0, .int .i64 k0, .int .i64 n0, .string ts]
  | 53, w, v => RB w v L
  | 11, w, v => RB w v L
  | _, _, _ => True

theorem W10_below (ks : ByteArray) (g0 : Bool) (k0 n0 : Int) (ts : ByteArray) (a2 : Option Addr) (A L : List UInt8) (cap2 : Nat) : ∀ (i : Nat) (w w' : World) (v : Value), W10 ks g0 k0 n0 ts a2 A L cap2 i w v → Below w.heap.size w w' → W10 ks g0 k0 n0 ts a2 A L cap2 i w' v := by
  intro i w w' v h hb
  unfold W10 at h ⊢
  split at h <;> first | exact h | trivial | exact RB.below h hb | exact Own.below h hb

def W11 (ks : ByteArray) (g0 : Bool) (k0 n0 : Int) (ts : ByteArray) (a2 : Option Addr) (A B L : List UInt8) (cap2 : Nat) (a11 : Option Addr) (c11 : Nat) : Nat → World → Value → Prop
  | 54, _, v => v = .slice a11 L.length c11
  | 55, _, v => v = .string (str L)
  | 56, _, v => v = .slice a2 A.length cap2
  | 57, _, v => v = .string (str A)
  | 58, _, v => v = .agg #[.string ks, .bool g0, .int .i64 k0, .int .i64 n0, .string ts]
  | 59, w, v => RB w v B
  | 60, _, v => v = .string (str B)
  | 61, _, v => v = .string (str L)
  | 62, _, v => v = .bool false
  | _, _, _ => True

theorem W11_below (ks : ByteArray) (g0 : Bool) (k0 n0 : Int) (ts : ByteArray) (a2 : Option Addr) (A B L : List UInt8) (cap2 : Nat) (a11 : Option Addr) (c11 : Nat) : ∀ (i : Nat) (w w' : World) (v : Value), W11 ks g0 k0 n0 ts a2 A B L cap2 a11 c11 i w v → Below w.heap.size w w' → W11 ks g0 k0 n0 ts a2 A B L cap2 a11 c11 i w' v := by
  intro i w w' v h hb
  unfold W11 at h ⊢
  split at h <;> first | exact h | trivial | exact RB.below h hb | exact Own.below h hb

def WT (ks : ByteArray) (g0 : Bool) (k0 n0 : Int) (ts kt : ByteArray) (g1 : Bool) (k1 n1 : Int) (tt : ByteArray) (a2 : Option Addr) (A B B2 L : List UInt8) (cap2 : Nat) (a11 : Option Addr) (c11 : Nat) (v102 : Value) (t : Bool) : Nat → World → Value → Prop
  | 92, _, v => v = .agg #[.string kt, .bool g1, .int .i64 k1, .int .i64 n1, .string tt]
  | 93, _, v => v = .bool true
  | 94, _, v => v = .bool false
  | 95, _, v => v = .bool false
  | 96, _, v => v = .agg #[.string kt, .bool g1, .int .i64 k1, .int .i64 n1, .string tt]
  | 97, w, v => RB w v B2
  | 98, _, v => v = .string (str B2)
  | 99, _, v => v = .slice a11 L.length c11
  | 100, _, v => v = .slice a2 A.length cap2
  | 101, _, v => v = .int .i64 (A.length : Int)
  | 102, _, v => v = v102
  | 103, _, v => v = .string (str B)
  | 104, _, v => v = .bool t
  | 105, _, v => v = .agg #[.string ks, .bool g0, .int .i64 k0, .int .i64 n0, .string ts]
  | 106, _, v => v = .agg #[.string kt, .bool g1, .int .i64 k1, .int .i64 n1, .string tt]
  | 107, _, v => v = .bool t
  | 108, _, v => v = .bool true
  | 109, _, v => v = .bool true
  | 8, _, v => v = .bool true
  | _, _, _ => True

theorem WT_below (ks : ByteArray) (g0 : Bool) (k0 n0 : Int) (ts kt : ByteArray) (g1 : Bool) (k1 n1 : Int) (tt : ByteArray) (a2 : Option Addr) (A B B2 L : List UInt8) (cap2 : Nat) (a11 : Option Addr) (c11 : Nat) (v102 : Value) (t : Bool) : ∀ (i : Nat) (w w' : World) (v : Value), WT ks g0 k0 n0 ts kt g1 k1 n1 tt a2 A B B2 L cap2 a11 c11 v102 t i w v → Below w.heap.size w w' → WT ks g0 k0 n0 ts kt g1 k1 n1 tt a2 A B B2 L cap2 a11 c11 v102 t i w' v := by
  intro i w w' v h hb
  unfold WT at h ⊢
  split at h <;> first | exact h | trivial | exact RB.below h hb | exact Own.below h hb

def WF (kt : ByteArray) (g1 : Bool) (k1 n1 : Int) (tt : ByteArray) : Nat → World → Value → Prop
  | 92, _, v => v = .agg #[.string kt, .bool g1, .int .i64 k1, .int .i64 n1, .string tt]
  | 93, _, v => v = .bool false
  | 94, _, v => v = .bool true
  | 95, _, v => v = .bool true
  | 96, _, v => v = undef
  | 97, _, v => v = undef
  | 98, _, v => v = undef
  | 99, _, v => v = undef
  | 100, _, v => v = undef
  | 101, _, v => v = undef
  | 102, _, v => v = undef
  | 103, _, v => v = undef
  | 104, _, v => v = undef
  | 105, _, v => v = undef
  | 106, _, v => v = undef
  | 107, _, v => v = undef
  | 108, _, v => v = undef
  | 109, _, v => v = .bool true
  | 8, _, v => v = .bool true
  | _, _, _ => True

theorem WF_below (kt : ByteArray) (g1 : Bool) (k1 n1 : Int) (tt : ByteArray) : ∀ (i : Nat) (w w' : World) (v : Value), WF kt g1 k1 n1 tt i w v → Below w.heap.size w w' → WF kt g1 k1 n1 tt i w' v := by
  intro i w w' v h hb
  unfold WF at h ⊢
  split at h <;> first | exact h | trivial | exact RB.below h hb | exact Own.below h hb

set_option maxHeartbeats 4000000 in
set_option maxRecDepth 100000 in
theorem walk (w : World) (y0 : ByteArray) (g0 : Bool) (k0 n0 : Int) (s0 : ByteArray) (w0 : RecOk (y0, g0, k0, n0, s0)) (y1 : ByteArray) (g1 : Bool) (k1 n1 : Int) (s1 : ByteArray) (w1 : RecOk (y1, g1, k1, n1, s1)) (a2 : Option Addr) (len2 cap2 : Nat) (i2 : List Int) (w2 : IsRow .u8 w a2 len2 cap2 i2) (a3 : Option Addr) (len3 cap3 : Nat) (i3 : List Int) (w3 : IsRow .u8 w a3 len3 cap3 i3) :
    Calls Try.prog 3 #[recV y0 g0 k0 n0 s0, recV y1 g1 k1 n1 s1, .slice a2 len2 cap2, .slice a3 len3 cap3] w fun e w' => e = .returned (.bool true) ∧ Below w.heap.size w w' := by
  obtain ⟨wy0, wk0, wn0, ws0⟩ := w0
  obtain ⟨wy1, wk1, wn1, ws1⟩ := w1
  simp only [] at wy0 wk0 wn0 ws0 wy1 wk1 wn1 ws1
  obtain ⟨la, hla⟩ := rb_of_row w2
  obtain ⟨lr, hlr⟩ := rb_of_row w3
  clear w2 w3
  have c0 := fun W => rcut_c y0 g0 k0 n0 s0 W wy0 ws0
  have c1 := fun W => rcut_c y1 g1 k1 n1 s1 W wy1 ws1
  have hK0 : ((bl y0).take 20).length ≤ 20 := List.length_take_le _ _
  have hT0 : ((bl s0).take 30).length ≤ 30 := List.length_take_le _ _
  have hK1 : ((bl y1).take 20).length ≤ 20 := List.length_take_le _ _
  have hT1 : ((bl s1).take 30).length ≤ 30 := List.length_take_le _ _
  generalize (bl y0).take 20 = K0 at *
  generalize (bl s0).take 30 = T0 at *
  generalize (bl y1).take 20 = K1 at *
  generalize (bl s1).take 30 = T1 at *
  obtain ⟨b1, b2⟩ := bounds_i64 wn0
  have b2 : n0 ≤ 9223372036854775807 := by omega
  obtain ⟨b3, b4⟩ := bounds_i64 wn1
  have b4 : n1 ≤ 9223372036854775807 := by omega
  obtain ⟨b5, b6⟩ := bounds_i64 wk0
  have b6 : k0 ≤ 9223372036854775807 := by omega
  have cm0 := fun W => rmayrec_c (str K0) g0 k0 n0 (str T0) W (by rw [str_size]; unfold maxLen; omega) (by rw [str_size]; unfold maxLen; omega)
  have cm1 := fun W => rmayrec_c (str K1) g1 k1 n1 (str T1) W (by rw [str_size]; unfold maxLen; omega) (by rw [str_size]; unfold maxLen; omega)
  have cp0 := fun W => pmay_c (str K0) g0 k0 n0 (str T0) W (by rw [str_size]; unfold maxLen; omega) (by rw [str_size]; unfold maxLen; omega)
  have cp1 := fun W => pmay_c (str K1) g1 k1 n1 (str T1) W (by rw [str_size]; unfold maxLen; omega) (by rw [str_size]; unfold maxLen; omega)
  have cr := fun W => rbytes_c K0 g0 k0 n0 T0 W (by omega) b5 b6 b1 b2 (by omega)
  have ce1 := fun W => peq_c (str K0) g0 k0 n0 (str T0) (str K1) g1 k1 n1 (str T1) W
  have ce2 := fun W => reqrec_c (str K0) g0 k0 n0 (str T0) (str K1) g1 k1 n1 (str T1) W
  have cex := fun W => reqrec_c (str K0) g0 k0 n0 (str T0) (str K0) g0 k0 n0 (str T0) W
  rw [eqRec_self] at cex
  have hput := fun h0 h1 => rput_eq (K0 := K0) (g0 := g0) (k0 := k0) (n0 := n0) (T0 := T0) (K1 := K1) (g1 := g1) (k1 := k1) (n1 := n1) (T1 := T1) h0 b1 b2 h1 b3 b4
  clear wy0 wk0 wn0 ws0 wy1 wk1 wn1 ws1 hK0 hT0 hK1 hT1 b5 b6
  have hA0 := rb_take hla 10
  have hR0 := rb_take hlr 10
  have hAl : (la.take 10).length ≤ 10 := List.length_take_le _ _
  have hRl : (lr.take 10).length ≤ 10 := List.length_take_le _ _
  have CS2 := Go.Lib.hid fun W (h : RB W (.slice a2 len2 cap2) la) => (short_v a2 len2 cap2 la 10 W h (by omega)).mono (R' := fun e w' => e = .returned (.slice a2 (min 10 len2) cap2) ∧ Below W.heap.size W w') (by rintro e w' ⟨rfl, rfl⟩; exact ⟨rfl, Below.refl _ _⟩)
  have CS3 := Go.Lib.hid fun W (h : RB W (.slice a3 len3 cap3) lr) => (short_v a3 len3 cap3 lr 10 W h (by omega)).mono (R' := fun e w' => e = .returned (.slice a3 (min 10 len3) cap3) ∧ Below W.heap.size W w') (by rintro e w' ⟨rfl, rfl⟩; exact ⟨rfl, Below.refl _ _⟩)
  generalize min 10 len2 = m2 at *
  generalize min 10 len3 = m3 at *
  generalize la.take 10 = A at *
  generalize lr.take 10 = R at *
  have hAlen := hA0.len.1
  have hRlen := hR0.len.1
  subst hAlen hRlen
  have HA0 := Go.Lib.hid hA0; clear hA0
  have HR0 := Go.Lib.hid hR0; clear hR0
  have Hla := Go.Lib.hid hla; clear hla
  have Hlr := Go.Lib.hid hlr; clear hlr
  have Bd1 := Go.Lib.hid b1; clear b1
  have Bd2 := Go.Lib.hid b2; clear b2
  have Bd3 := Go.Lib.hid b3; clear b3
  have Bd4 := Go.Lib.hid b4; clear b4
  have Hput := Go.Lib.hid hput; clear hput
  generalize hks : str K0 = ks at *
  generalize hts : str T0 = ts at *
  generalize hkt : str K1 = kt at *
  generalize htt : str T1 = tt at *
  have Hks := Go.Lib.hid hks; clear hks
  have Hts := Go.Lib.hid hts; clear hts
  have Hkt := Go.Lib.hid hkt; clear hkt
  have Htt := Go.Lib.hid htt; clear htt
  unfold recV at c0 c1 cm0 cm1 cp0 cp1 cr ce1 ce2 cex ⊢
  have C0 := Go.Lib.hid c0; clear c0
  have C1 := Go.Lib.hid c1; clear c1
  have CR := Go.Lib.hid cr; clear cr
  have CEX := Go.Lib.hid cex; clear cex
  obtain ⟨pa, hpa⟩ : ∃ p, mayRec ks g0 k0 n0 ts = p := ⟨_, rfl⟩
  obtain ⟨pb, hpb⟩ : ∃ p, mayRec kt g1 k1 n1 tt = p := ⟨_, rfl⟩
  obtain ⟨t, ht⟩ : ∃ t, eqRec ks g0 k0 n0 ts kt g1 k1 n1 tt = t := ⟨_, rfl⟩
  rw [hpa] at cm0 cp0
  rw [hpb] at cm1 cp1
  rw [ht] at ce1 ce2 Hput
  have CM0 := Go.Lib.hid cm0; clear cm0
  have CM1 := Go.Lib.hid cm1; clear cm1
  have CP0 := Go.Lib.hid cp0; clear cp0
  have CP1 := Go.Lib.hid cp1; clear cp1
  have CE1 := Go.Lib.hid ce1; clear ce1
  have CE2 := Go.Lib.hid ce2; clear ce2
  have Hpa := Go.Lib.hid hpa; clear hpa
  have Hpb := Go.Lib.hid hpb; clear hpb ht
  have hA := two_first w (.cells #[.string y0, .bool g0, .int .i64 k0, .int .i64 n0, .string s0] 25) (.cells #[.string y1, .bool g1, .int .i64 k1, .int .i64 n1, .string s1] 25)
  have hB := heap_alloc2_new w (.cells #[.string y0, .bool g0, .int .i64 k0, .int .i64 n0, .string s0] 25) (.cells #[.string y1, .bool g1, .int .i64 k1, .int .i64 n1, .string s1] 25)
  have hbb := below_two w (.cells #[.string y0, .bool g0, .int .i64 k0, .int .i64 n0, .string s0] 25) (.cells #[.string y1, .bool g1, .int .i64 k1, .int .i64 n1, .string s1] 25)
  go_enter Try.func3, Try.ntmps3
  go_wp2_with fail
  refine (begun_c _).mono ?_
  rintro e w1 ⟨rfl, hc⟩
  have hA := row_kept hA hc
  have hB := row_kept hB hc
  have hbb := hbb.trans (hc.mono hbb.size)
  clear hc
  obtain ⟨x0, x1, x2, x3, x4⟩ := row5 hA
  obtain ⟨z0, z1, z2, z3, z4⟩ := row5 hB
  have HA1 := Go.Lib.hid (Hla.out.below hbb)
  have HR1 := Go.Lib.hid (Hlr.out.below hbb)
  have GA := Go.Lib.hid hA; clear hA
  have GB := Go.Lib.hid hB; clear hB
  clear Hla Hlr
  go_upto_region 4 with (fail)
  refine wp_region_head 8 (by decide) (by kernel_rfl) (W4 y0 g0 k0 n0 s0 ks ts y1 g1 k1 n1 s1 kt tt a2 len2 A.length cap2 a3 len3 R.length cap3) (W4_below y0 g0 k0 n0 s0 ks ts y1 g1 k1 n1 s1 kt tt a2 len2 A.length cap2 a3 len3 R.length cap3) (by decide +kernel) (by rfl) [18, 19, 20, 21, 22, 23, 24, 25] (by rfl) ?_ ?_
  · intro i o hin ho a w6 hb6 hlen hg
    have x0 := cell_kept x0 hb6
    have x1 := cell_kept x1 hb6
    have x2 := cell_kept x2 hb6
    have x3 := cell_kept x3 hb6
    have x4 := cell_kept x4 hb6
    have z0 := cell_kept z0 hb6
    have z1 := cell_kept z1 hb6
    have z2 := cell_kept z2 hb6
    have z3 := cell_kept z3 hb6
    have z4 := cell_kept z4 hb6
    match i, hin, ho with
    | 0, hin, ho =>
      obtain rfl := Option.some.inj ho
      have h4 := given_old hg 4 (by decide +kernel)
      clear hg
      exact st_yield ho (wanted_none rfl) (.agg #[.string y0, .bool g0, .int .i64 k0, .int .i64 n0, .string s0]) w6 (by simp [execOp, Act.eval, h4, go_sem, x0, x1, x2, x3, x4]) ⟨_, rfl, Below.refl _ _, by rintro t' ⟨⟩; rfl⟩
    | 1, hin, ho =>
      obtain rfl := Option.some.inj ho
      obtain ⟨_, h18, rfl⟩ := given_fed hg 18 (by decide +kernel)
      clear hg
      exact st_enter (w1 := w6) ho (wanted_none rfl) 9 #[.agg #[.string y0, .bool g0, .int .i64 k0, .int .i64 n0, .string s0]] (by simp [execOp, Act.eval, h18, resolve, go_sem]) ((C0.out _).mono (by rintro e w7 ⟨rfl, hb7⟩; exact ⟨_, rfl, _, rfl, hb7, by rintro t' ⟨⟩; rfl⟩))
    | 2, hin, ho =>
      obtain rfl := Option.some.inj ho
      have h5 := given_old hg 5 (by decide +kernel)
      clear hg
      exact st_yield ho (wanted_none rfl) (.agg #[.string y1, .bool g1, .int .i64 k1, .int .i64 n1, .string s1]) w6 (by simp [execOp, Act.eval, h5, go_sem, z0, z1, z2, z3, z4]) ⟨_, rfl, Below.refl _ _, by rintro t' ⟨⟩; rfl⟩
    | 3, hin, ho =>
      obtain rfl := Option.some.inj ho
      obtain ⟨_, h20, rfl⟩ := given_fed hg 20 (by decide +kernel)
      clear hg
      exact st_enter (w1 := w6) ho (wanted_none rfl) 9 #[.agg #[.string y1, .bool g1, .int .i64 k1, .int .i64 n1, .string s1]] (by simp [execOp, Act.eval, h20, resolve, go_sem]) ((C1.out _).mono (by rintro e w7 ⟨rfl, hb7⟩; exact ⟨_, rfl, _, rfl, hb7, by rintro t' ⟨⟩; rfl⟩))
    | 4, hin, ho =>
      obtain rfl := Option.some.inj ho
      have h2 := given_old hg 2 (by decide +kernel)
      clear hg
      exact st_yield ho (wanted_none rfl) (.slice a2 len2 cap2) w6 (by simp [execOp, Act.eval, h2, go_sem]) ⟨_, rfl, Below.refl _ _, by rintro t' ⟨⟩; rfl⟩
    | 5, hin, ho =>
      obtain rfl := Option.some.inj ho
      obtain ⟨_, h22, rfl⟩ := given_fed hg 22 (by decide +kernel)
      clear hg
      exact st_enter (w1 := w6) ho (wanted_none rfl) 10 #[.slice a2 len2 cap2, .int .i64 10] (by simp [execOp, Act.eval, h22, resolve, go_sem]) ((CS2.out _ (HA1.out.below hb6)).mono (by rintro e w7 ⟨rfl, hb7⟩; exact ⟨_, rfl, _, rfl, hb7, by rintro t' ⟨⟩; rfl⟩))
    | 6, hin, ho =>
      obtain rfl := Option.some.inj ho
      have h3 := given_old hg 3 (by decide +kernel)
      clear hg
      exact st_yield ho (wanted_none rfl) (.slice a3 len3 cap3) w6 (by simp [execOp, Act.eval, h3, go_sem]) ⟨_, rfl, Below.refl _ _, by rintro t' ⟨⟩; rfl⟩
    | 7, hin, ho =>
      obtain rfl := Option.some.inj ho
      obtain ⟨_, h24, rfl⟩ := given_fed hg 24 (by decide +kernel)
      clear hg
      exact st_enter (w1 := w6) ho (wanted_none rfl) 10 #[.slice a3 len3 cap3, .int .i64 10] (by simp [execOp, Act.eval, h24, resolve, go_sem]) ((CS3.out _ (HR1.out.below hb6)).mono (by rintro e w7 ⟨rfl, hb7⟩; exact ⟨_, rfl, _, rfl, hb7, by rintro t' ⟨⟩; rfl⟩))
    | n + 8, hin, ho => omega
  · intro f w8 hb8 hv
    have h19 := hv 19 (by simp)
    have h21 := hv 21 (by simp)
    have h23 := hv 23 (by simp)
    have h25 := hv 25 (by simp)
    clear hv
    simp only [W4] at h19 h21 h23 h25
    unfold putAll
    simp only [List.foldl, List.drop]
    simp only [h19, h21, h23, h25]
    go_simp
    have gA := row_kept GA.out hb8
    have gB := row_kept GB.out hb8
    have hbb := hbb.trans (hb8.mono hbb.size)
    clear hb8 x0 x1 x2 x3 x4 z0 z1 z2 z3 z4 GA GB HA1 HR1 h19 h21 h23 h25 C0 C1 CS2 CS3
    have gA1 := setRow_heap w8 w.heap.size _ #[.string ks, .bool g0, .int .i64 k0, .int .i64 n0, .string ts] 25 (0, 0) gA
    have gB1 := (setRow_other w8 w.heap.size (w.heap.size + 1) #[.string ks, .bool g0, .int .i64 k0, .int .i64 n0, .string ts] (by omega)).trans gB
    have gB2 := setRow_heap (w8.setRow w.heap.size #[.string ks, .bool g0, .int .i64 k0, .int .i64 n0, .string ts]) (w.heap.size + 1) _ #[.string kt, .bool g1, .int .i64 k1, .int .i64 n1, .string tt] 25 (0, 0) gB1
    have gA2 := (setRow_other (w8.setRow w.heap.size #[.string ks, .bool g0, .int .i64 k0, .int .i64 n0, .string ts]) (w.heap.size + 1) w.heap.size #[.string kt, .bool g1, .int .i64 k1, .int .i64 n1, .string tt] (by omega)).trans gA1
    have hbb := setRow_below #[.string kt, .bool g1, .int .i64 k1, .int .i64 n1, .string tt] (setRow_below #[.string ks, .bool g0, .int .i64 k0, .int .i64 n0, .string ts] hbb (Nat.le_refl _)) (Nat.le_succ _)
    have GA := Go.Lib.hid gA; clear gA
    have GB := Go.Lib.hid gB1; clear gB1 gB gA1
    have HA2 := Go.Lib.hid gA2; clear gA2
    have HB2r := Go.Lib.hid gB2; clear gB2
    go_wp2_with (first
      | (with_reducible show wpList _ _ _ (⟨none, Op.store 25 (.tmp 4) (.tmp 19), _, _, _, _⟩ :: _) _ _; go_loud (refine wpList_store_row rfl 25 (.tmp 4) (.tmp 19) rfl w.heap.size #[.string ks, .bool g0, .int .i64 k0, .int .i64 n0, .string ts] rfl rfl 25 _ GA.out (by kernel_rfl) rfl (rec_cells_one ..) ?_))
      | (with_reducible show wpList _ _ _ (⟨none, Op.store 25 (.tmp 5) (.tmp 21), _, _, _, _⟩ :: _) _ _; go_loud (refine wpList_store_row rfl 25 (.tmp 5) (.tmp 21) rfl (w.heap.size + 1) #[.string kt, .bool g1, .int .i64 k1, .int .i64 n1, .string tt] rfl rfl 25 _ GB.out (by kernel_rfl) rfl (rec_cells_one ..) ?_; have hA := HA2.out; obtain ⟨x0, x1, x2, x3, x4⟩ := row5 hA))
      | fail)
    clear GA GB x0 x1 x2 x3 x4 hA
    have hA := HA2.out
    have hB := HB2r.out
    clear HA2 HB2r
    generalize (w8.setRow w.heap.size #[.string ks, .bool g0, .int .i64 k0, .int .i64 n0, .string ts]).setRow (w.heap.size + 1) #[.string kt, .bool g1, .int .i64 k1, .int .i64 n1, .string tt] = u at *
    refine (CM0.out _).mono ?_
    rintro e u2 ⟨rfl, hc⟩
    have hA := row_kept hA hc
    have hB := row_kept hB hc
    have hbb := hbb.trans (hc.mono hbb.size)
    clear hc CM0
    obtain ⟨x0, x1, x2, x3, x4⟩ := row5 hA
    obtain ⟨z0, z1, z2, z3, z4⟩ := row5 hB
    have GA := Go.Lib.hid hA; clear hA
    have GB := Go.Lib.hid hB; clear hB
    go_upto_region 6 with (fail)
    refine wp_region_each (by kernel_rfl) (W6 ks g0 k0 n0 ts kt g1 k1 n1 tt pa pb t) (W6_below ks g0 k0 n0 ts kt g1 k1 n1 tt pa pb t) (by decide +kernel) (by decide +kernel) (by rfl) [28, 29, 30, 31, 32, 33, 34, 35, 36, 37, 38, 39, 40, 41, 42, 43, 44, 45, 46, 47] (by rfl) ?_ ?_
    · intro i o ho a w6 hb6 hlen hg
      have x0 := cell_kept x0 hb6
      have x1 := cell_kept x1 hb6
      have x2 := cell_kept x2 hb6
      have x3 := cell_kept x3 hb6
      have x4 := cell_kept x4 hb6
      have z0 := cell_kept z0 hb6
      have z1 := cell_kept z1 hb6
      have z2 := cell_kept z2 hb6
      have z3 := cell_kept z3 hb6
      have z4 := cell_kept z4 hb6
      match i, ho with
      | 0, ho =>
        obtain rfl := Option.some.inj ho
        have h4 := given_old hg 4 (by decide +kernel)
        clear hg
        exact st_yield ho (wanted_none rfl) (.agg #[.string ks, .bool g0, .int .i64 k0, .int .i64 n0, .string ts]) w6 (by simp [execOp, Act.eval, h4, go_sem, x0, x1, x2, x3, x4]) ⟨_, rfl, Below.refl _ _, by rintro t' ⟨⟩; rfl⟩
      | 1, ho =>
        obtain rfl := Option.some.inj ho
        obtain ⟨_, h28, rfl⟩ := given_fed hg 28 (by decide +kernel)
        clear hg
        exact st_enter (w1 := w6) ho (wanted_none rfl) 12 #[.agg #[.string ks, .bool g0, .int .i64 k0, .int .i64 n0, .string ts]] (by simp [execOp, Act.eval, h28, resolve, go_sem]) ((CP0.out _).mono (by rintro e w7 ⟨rfl, hb7⟩; exact ⟨_, rfl, _, rfl, hb7, by rintro t' ⟨⟩; rfl⟩))
      | 2, ho =>
        obtain rfl := Option.some.inj ho
        have h10 := given_old hg 10 (by decide +kernel)
        clear hg
        exact st_yield ho (wanted_none rfl) (.bool pa) w6 (by simp [execOp, Act.eval, h10, go_sem]) ⟨_, rfl, Below.refl _ _, by rintro t' ⟨⟩; rfl⟩
      | 3, ho =>
        obtain rfl := Option.some.inj ho
        obtain ⟨_, h29, rfl⟩ := given_fed hg 29 (by decide +kernel)
        obtain ⟨_, h30, rfl⟩ := given_fed hg 30 (by decide +kernel)
        clear hg
        exact st_yield ho (wanted_none rfl) (.bool false) w6 (by simp [execOp, Act.eval, h29, h30, go_sem]) ⟨_, rfl, Below.refl _ _, by rintro t' ⟨⟩; rfl⟩
      | 4, ho =>
        obtain rfl := Option.some.inj ho
        obtain ⟨_, h31, rfl⟩ := given_fed hg 31 (by decide +kernel)
        clear hg
        exact st_yield ho (wanted_none rfl) (.bool false) w6 (by simp [execOp, Act.eval, h31, go_sem]) ⟨_, rfl, Below.refl _ _, by rintro t' ⟨⟩; rfl⟩
      | 5, ho =>
        obtain rfl := Option.some.inj ho
        have h5 := given_old hg 5 (by decide +kernel)
        obtain ⟨_, h32, rfl⟩ := given_fed hg 32 (by decide +kernel)
        clear hg
        exact st_yield ho (wanted_some rfl rfl h32 rfl) (.agg #[.string kt, .bool g1, .int .i64 k1, .int .i64 n1, .string tt]) w6 (by simp [execOp, Act.eval, h5, go_sem, z0, z1, z2, z3, z4]) ⟨_, rfl, Below.refl _ _, by rintro t' ⟨⟩; rfl⟩
      | 6, ho =>
        obtain rfl := Option.some.inj ho
        obtain ⟨_, h33, rfl⟩ := given_fed hg 33 (by decide +kernel)
        obtain ⟨_, h32, rfl⟩ := given_fed hg 32 (by decide +kernel)
        clear hg
        exact st_enter (w1 := w6) ho (wanted_some rfl rfl h32 rfl) 12 #[.agg #[.string kt, .bool g1, .int .i64 k1, .int .i64 n1, .string tt]] (by simp [execOp, Act.eval, h33, resolve, go_sem]) ((CP1.out _).mono (by rintro e w7 ⟨rfl, hb7⟩; exact ⟨_, rfl, _, rfl, hb7, by rintro t' ⟨⟩; rfl⟩))
      | 7, ho =>
        obtain rfl := Option.some.inj ho
        have h5 := given_old hg 5 (by decide +kernel)
        obtain ⟨_, h32, rfl⟩ := given_fed hg 32 (by decide +kernel)
        clear hg
        exact st_yield ho (wanted_some rfl rfl h32 rfl) (.agg #[.string kt, .bool g1, .int .i64 k1, .int .i64 n1, .string tt]) w6 (by simp [execOp, Act.eval, h5, go_sem, z0, z1, z2, z3, z4]) ⟨_, rfl, Below.refl _ _, by rintro t' ⟨⟩; rfl⟩
      | 8, ho =>
        obtain rfl := Option.some.inj ho
        obtain ⟨_, h35, rfl⟩ := given_fed hg 35 (by decide +kernel)
        obtain ⟨_, h32, rfl⟩ := given_fed hg 32 (by decide +kernel)
        clear hg
        exact st_enter (w1 := w6) ho (wanted_some rfl rfl h32 rfl) 11 #[.agg #[.string kt, .bool g1, .int .i64 k1, .int .i64 n1, .string tt]] (by simp [execOp, Act.eval, h35, resolve, go_sem]) ((CM1.out _).mono (by rintro e w7 ⟨rfl, hb7⟩; exact ⟨_, rfl, _, rfl, hb7, by rintro t' ⟨⟩; rfl⟩))
      | 9, ho =>
        obtain rfl := Option.some.inj ho
        obtain ⟨_, h34, rfl⟩ := given_fed hg 34 (by decide +kernel)
        obtain ⟨_, h36, rfl⟩ := given_fed hg 36 (by decide +kernel)
        obtain ⟨_, h32, rfl⟩ := given_fed hg 32 (by decide +kernel)
        clear hg
        exact st_yield ho (wanted_some rfl rfl h32 rfl) (.bool false) w6 (by simp [execOp, Act.eval, h34, h36, go_sem]) ⟨_, rfl, Below.refl _ _, by rintro t' ⟨⟩; rfl⟩
      | 10, ho =>
        obtain rfl := Option.some.inj ho
        obtain ⟨_, h32, rfl⟩ := given_fed hg 32 (by decide +kernel)
        obtain ⟨_, h37, rfl⟩ := given_fed hg 37 (by decide +kernel)
        clear hg
        exact st_yield ho (wanted_none rfl) (.bool false) w6 (by simp [execOp, Act.eval, h32, h37, go_sem]) ⟨_, rfl, Below.refl _ _, by rintro t' ⟨⟩; rfl⟩
      | 11, ho =>
        obtain rfl := Option.some.inj ho
        obtain ⟨_, h38, rfl⟩ := given_fed hg 38 (by decide +kernel)
        clear hg
        exact st_yield ho (wanted_none rfl) (.bool false) w6 (by simp [execOp, Act.eval, h38, go_sem]) ⟨_, rfl, Below.refl _ _, by rintro t' ⟨⟩; rfl⟩
      | 12, ho =>
        obtain rfl := Option.some.inj ho
        have h4 := given_old hg 4 (by decide +kernel)
        obtain ⟨_, h39, rfl⟩ := given_fed hg 39 (by decide +kernel)
        clear hg
        exact st_yield ho (wanted_some rfl rfl h39 rfl) (.agg #[.string ks, .bool g0, .int .i64 k0, .int .i64 n0, .string ts]) w6 (by simp [execOp, Act.eval, h4, go_sem, x0, x1, x2, x3, x4]) ⟨_, rfl, Below.refl _ _, by rintro t' ⟨⟩; rfl⟩
      | 13, ho =>
        obtain rfl := Option.some.inj ho
        have h5 := given_old hg 5 (by decide +kernel)
        obtain ⟨_, h39, rfl⟩ := given_fed hg 39 (by decide +kernel)
        clear hg
        exact st_yield ho (wanted_some rfl rfl h39 rfl) (.agg #[.string kt, .bool g1, .int .i64 k1, .int .i64 n1, .string tt]) w6 (by simp [execOp, Act.eval, h5, go_sem, z0, z1, z2, z3, z4]) ⟨_, rfl, Below.refl _ _, by rintro t' ⟨⟩; rfl⟩
      | 14, ho =>
        obtain rfl := Option.some.inj ho
        obtain ⟨_, h40, rfl⟩ := given_fed hg 40 (by decide +kernel)
        obtain ⟨_, h41, rfl⟩ := given_fed hg 41 (by decide +kernel)
        obtain ⟨_, h39, rfl⟩ := given_fed hg 39 (by decide +kernel)
        clear hg
        exact st_enter (w1 := w6) ho (wanted_some rfl rfl h39 rfl) 13 #[.agg #[.string ks, .bool g0, .int .i64 k0, .int .i64 n0, .string ts], .agg #[.string kt, .bool g1, .int .i64 k1, .int .i64 n1, .string tt]] (by simp [execOp, Act.eval, h40, h41, resolve, go_sem]) ((CE1.out _).mono (by rintro e w7 ⟨rfl, hb7⟩; exact ⟨_, rfl, _, rfl, hb7, by rintro t' ⟨⟩; rfl⟩))
      | 15, ho =>
        obtain rfl := Option.some.inj ho
        have h4 := given_old hg 4 (by decide +kernel)
        obtain ⟨_, h39, rfl⟩ := given_fed hg 39 (by decide +kernel)
        clear hg
        exact st_yield ho (wanted_some rfl rfl h39 rfl) (.agg #[.string ks, .bool g0, .int .i64 k0, .int .i64 n0, .string ts]) w6 (by simp [execOp, Act.eval, h4, go_sem, x0, x1, x2, x3, x4]) ⟨_, rfl, Below.refl _ _, by rintro t' ⟨⟩; rfl⟩
      | 16, ho =>
        obtain rfl := Option.some.inj ho
        have h5 := given_old hg 5 (by decide +kernel)
        obtain ⟨_, h39, rfl⟩ := given_fed hg 39 (by decide +kernel)
        clear hg
        exact st_yield ho (wanted_some rfl rfl h39 rfl) (.agg #[.string kt, .bool g1, .int .i64 k1, .int .i64 n1, .string tt]) w6 (by simp [execOp, Act.eval, h5, go_sem, z0, z1, z2, z3, z4]) ⟨_, rfl, Below.refl _ _, by rintro t' ⟨⟩; rfl⟩
      | 17, ho =>
        obtain rfl := Option.some.inj ho
        obtain ⟨_, h43, rfl⟩ := given_fed hg 43 (by decide +kernel)
        obtain ⟨_, h44, rfl⟩ := given_fed hg 44 (by decide +kernel)
        obtain ⟨_, h39, rfl⟩ := given_fed hg 39 (by decide +kernel)
        clear hg
        exact st_enter (w1 := w6) ho (wanted_some rfl rfl h39 rfl) 14 #[.agg #[.string ks, .bool g0, .int .i64 k0, .int .i64 n0, .string ts], .agg #[.string kt, .bool g1, .int .i64 k1, .int .i64 n1, .string tt]] (by simp [execOp, Act.eval, h43, h44, resolve, go_sem]) ((CE2.out _).mono (by rintro e w7 ⟨rfl, hb7⟩; exact ⟨_, rfl, _, rfl, hb7, by rintro t' ⟨⟩; rfl⟩))
      | 18, ho =>
        obtain rfl := Option.some.inj ho
        obtain ⟨_, h42, rfl⟩ := given_fed hg 42 (by decide +kernel)
        obtain ⟨_, h45, rfl⟩ := given_fed hg 45 (by decide +kernel)
        obtain ⟨_, h39, rfl⟩ := given_fed hg 39 (by decide +kernel)
        clear hg
        exact st_yield ho (wanted_some rfl rfl h39 rfl) (.bool false) w6 (by simp [execOp, Act.eval, h42, h45, go_sem]) ⟨_, rfl, Below.refl _ _, by rintro t' ⟨⟩; rfl⟩
      | 19, ho =>
        obtain rfl := Option.some.inj ho
        obtain ⟨_, h39, rfl⟩ := given_fed hg 39 (by decide +kernel)
        obtain ⟨_, h46, rfl⟩ := given_fed hg 46 (by decide +kernel)
        clear hg
        exact st_yield ho (wanted_none rfl) (.bool false) w6 (by simp [execOp, Act.eval, h39, h46, go_sem]) ⟨_, rfl, Below.refl _ _, by rintro t' ⟨⟩; rfl⟩
      | n + 20, ho => simp at ho
    · intro f6 w9 hb9 hv
      have h47 := hv 47 (by simp)
      clear hv
      simp only [W6] at h47
      unfold putAll
      simp only [List.foldl]
      simp only [h47]
      go_simp
      have hA := row_kept GA.out hb9
      have hB := row_kept GB.out hb9
      have hbb := hbb.trans (hb9.mono hbb.size)
      clear hb9 GA GB CP0 CP1 CE1 h47
      clear x0 x1 x2 x3 x4 z0 z1 z2 z3 z4
      cases pa with
      | false =>
        clear hA hB
        go_wp2_with fail
        go_ret
        exact ⟨rfl, hbb⟩
      | true =>
        have HAu := Go.Lib.hid (HA0.out.below hbb)
        have HRu := Go.Lib.hid (HR0.out.below hbb)
        have hm0 : mayRec (str K0) g0 k0 n0 (str T0) = true := by rw [Hks.out, Hts.out]; exact Hpa.out
        have cp := fun v' W (h : RB W v' A) => pput_c v' A K0 g0 k0 n0 T0 W h hm0 Bd1.out Bd2.out (by omega)
        rw [Hks.out, Hts.out] at cp
        have hvb := fun r => readB_put K0 g0 k0 n0 T0 r hm0 Bd1.out Bd2.out
        have hBl := recB_len hm0 Bd1.out Bd2.out
        have Hp2 := Go.Lib.hid (Hput.out Hpa.out); clear Hput hm0
        unfold recV at cp
        obtain ⟨B, hB0⟩ : ∃ B, recB K0 g0 k0 n0 T0 = B := ⟨_, rfl⟩
        rw [hB0] at cp hvb hBl CR Hp2
        obtain ⟨L, hL⟩ : ∃ L, A ++ B = L := ⟨_, rfl⟩
        have hLl : L.length = A.length + B.length := by rw [← hL, List.length_append]
        have hLd : L.drop A.length = B := by rw [← hL, List.drop_left]
        have hLs : str A ++ str B = str L := by rw [← hL]; apply ByteArray.ext; apply Array.toList_inj.1; simp [str]
        rw [hL] at cp
        have Hvb := Go.Lib.hid hvb; clear hvb
        have HBl := Go.Lib.hid hBl; clear hBl hB0
        have HLd := Go.Lib.hid hLd; clear hLd hL
        have HLl := Go.Lib.hid hLl; clear hLl
        have HAB := Go.Lib.hid hLs; clear hLs
        have CP := Go.Lib.hid cp; clear cp
        obtain ⟨x0, x1, x2, x3, x4⟩ := row5 hA
        obtain ⟨z0, z1, z2, z3, z4⟩ := row5 hB
        have GA := Go.Lib.hid hA; clear hA
        have GB := Go.Lib.hid hB; clear hB
        go_upto_region 10 with (fail)
        refine wp_region_each (by kernel_rfl) (W10 ks g0 k0 n0 ts a2 A L cap2) (W10_below ks g0 k0 n0 ts a2 A L cap2) (by decide +kernel) (by decide +kernel) (by rfl) [50, 51, 52, 53, 11] (by rfl) ?_ ?_
        · intro i o ho a w6 hb6 hlen hg
          have x0 := cell_kept x0 hb6
          have x1 := cell_kept x1 hb6
          have x2 := cell_kept x2 hb6
          have x3 := cell_kept x3 hb6
          have x4 := cell_kept x4 hb6
          have z0 := cell_kept z0 hb6
          have z1 := cell_kept z1 hb6
          have z2 := cell_kept z2 hb6
          have z3 := cell_kept z3 hb6
          have z4 := cell_kept z4 hb6
          match i, ho with
          | 0, ho =>
            obtain rfl := Option.some.inj ho
            have h2 := given_old hg 2 (by decide +kernel)
            clear hg
            exact st_yield ho (wanted_none rfl) (.slice a2 A.length cap2) w6 (by simp [execOp, Act.eval, h2, go_sem]) ⟨_, rfl, Below.refl _ _, by rintro t' ⟨⟩; rfl⟩
          | 1, ho =>
            obtain rfl := Option.some.inj ho
            obtain ⟨_, h50, rfl⟩ := given_fed hg 50 (by decide +kernel)
            clear hg
            exact st_list ho (wanted_none rfl) fun Q' hQ => wpList_append_RB rfl (.const (.slice none 0 0)) (.tmp 50) 26 rfl w6.heap.size 5 Try.underlying26 info8 (.slice none 0 0) (.slice a2 A.length cap2) [] A rfl (by simp [Act.eval, h50]) (Own.nil _ _ _) (HAu.out.below hb6) (by simp; omega) (Nat.le_refl _) (fun v' w' hown hg => wpList_nil (hQ _ _ ⟨v', rfl, grown_below hg (Nat.le_refl _) (by simp [Value.ownBlock]), by rintro t' ⟨⟩; exact hown.rb⟩))
          | 2, ho =>
            obtain rfl := Option.some.inj ho
            have h4 := given_old hg 4 (by decide +kernel)
            clear hg
            exact st_yield ho (wanted_none rfl) (.agg #[.string ks, .bool g0, .int .i64 k0, .int .i64 n0, .string ts]) w6 (by simp [execOp, Act.eval, h4, go_sem, x0, x1, x2, x3, x4]) ⟨_, rfl, Below.refl _ _, by rintro t' ⟨⟩; rfl⟩
          | 3, ho =>
            obtain rfl := Option.some.inj ho
            obtain ⟨v51, h51, p51⟩ := given_fed hg 51 (by decide +kernel)
            obtain ⟨_, h52, rfl⟩ := given_fed hg 52 (by decide +kernel)
            clear hg
            exact st_enter (w1 := w6) ho (wanted_none rfl) 15 #[v51, .agg #[.string ks, .bool g0, .int .i64 k0, .int .i64 n0, .string ts]] (by simp [execOp, Act.eval, h51, h52, resolve, go_sem]) ((CP.out _ _ p51).mono (by rintro e w7 ⟨v, rfl, hown, hb7⟩; exact ⟨v, rfl, _, rfl, hb7, by rintro t' ⟨⟩; exact hown.rb⟩))
          | 4, ho =>
            obtain rfl := Option.some.inj ho
            obtain ⟨v53, h53, p53⟩ := given_fed hg 53 (by decide +kernel)
            clear hg
            exact st_yield ho (wanted_none rfl) v53 w6 (by simp [execOp, Act.eval, h53, go_sem]) ⟨_, rfl, Below.refl _ _, by rintro t' ⟨⟩; exact p53⟩
          | n + 5, ho => simp at ho
        · intro f10 w9 hb9 hv
          have h11 := hv 11 (by simp)
          clear hv
          simp only [W10] at h11
          unfold putAll
          simp only [List.foldl]
          have hA := row_kept GA.out hb9
          have hB := row_kept GB.out hb9
          have HA9 := Go.Lib.hid (HAu.out.below hb9)
          have HR9 := Go.Lib.hid (HRu.out.below hb9)
          have hbb := hbb.trans (hb9.mono hbb.size)
          clear hb9 HAu HRu CP GA GB
          clear x0 x1 x2 x3 x4 z0 z1 z2 z3 z4
          go_simp
          generalize f10 11 = v11 at *
          obtain ⟨a11, c11, rfl, hq1, hq2, -⟩ := id h11
          have hLm : L.length ≤ 9223372036854775807 := by unfold maxLen at hq2; omega
          have H11 := Go.Lib.hid h11; clear h11 hq1 hq2
          have hs1 : ¬ 9223372036854775807 < (str A).size + (str B).size := by rw [str_size, str_size]; have := HLl.out; omega
          have Hs1 := Go.Lib.hid hs1; clear hs1
          obtain ⟨x0, x1, x2, x3, x4⟩ := row5 hA
          obtain ⟨z0, z1, z2, z3, z4⟩ := row5 hB
          have GA := Go.Lib.hid hA; clear hA
          have GB := Go.Lib.hid hB; clear hB
          go_upto_region 11 with (fail)
          refine wp_region_each (by kernel_rfl) (W11 ks g0 k0 n0 ts a2 A B L cap2 a11 c11) (W11_below ks g0 k0 n0 ts a2 A B L cap2 a11 c11) (by decide +kernel) (by decide +kernel) (by rfl) [54, 55, 56, 57, 58, 59, 60, 61, 62] (by rfl) ?_ ?_
          · intro i o ho a w6 hb6 hlen hg
            have x0 := cell_kept x0 hb6
            have x1 := cell_kept x1 hb6
            have x2 := cell_kept x2 hb6
            have x3 := cell_kept x3 hb6
            have x4 := cell_kept x4 hb6
            have z0 := cell_kept z0 hb6
            have z1 := cell_kept z1 hb6
            have z2 := cell_kept z2 hb6
            have z3 := cell_kept z3 hb6
            have z4 := cell_kept z4 hb6
            have cv11 := run_string_RB w6 26 5 9 Try.underlying26 Try.underlying5 Try.underlying9 (.slice a11 L.length c11) L (H11.out.below hb6)
            have cvA := run_string_RB w6 26 5 9 Try.underlying26 Try.underlying5 Try.underlying9 (.slice a2 A.length cap2) A (HA9.out.below hb6)
            have hs1 := Hs1.out
            have hAB := HAB.out
            match i, ho with
            | 0, ho =>
              obtain rfl := Option.some.inj ho
              have h11 := given_old hg 11 (by decide +kernel)
              clear hg
              exact st_yield ho (wanted_none rfl) (.slice a11 L.length c11) w6 (by simp [execOp, Act.eval, h11, go_sem]) ⟨_, rfl, Below.refl _ _, by rintro t' ⟨⟩; rfl⟩
            | 1, ho =>
              obtain rfl := Option.some.inj ho
              obtain ⟨_, h54, rfl⟩ := given_fed hg 54 (by decide +kernel)
              clear hg
              exact st_yield ho (wanted_none rfl) (.string (str L)) w6 (by simp [execOp, Act.eval, h54, go_sem, cv11]) ⟨_, rfl, Below.refl _ _, by rintro t' ⟨⟩; rfl⟩
            | 2, ho =>
              obtain rfl := Option.some.inj ho
              have h2 := given_old hg 2 (by decide +kernel)
              clear hg
              exact st_yield ho (wanted_none rfl) (.slice a2 A.length cap2) w6 (by simp [execOp, Act.eval, h2, go_sem]) ⟨_, rfl, Below.refl _ _, by rintro t' ⟨⟩; rfl⟩
            | 3, ho =>
              obtain rfl := Option.some.inj ho
              obtain ⟨_, h56, rfl⟩ := given_fed hg 56 (by decide +kernel)
              clear hg
              exact st_yield ho (wanted_none rfl) (.string (str A)) w6 (by simp [execOp, Act.eval, h56, go_sem, cvA]) ⟨_, rfl, Below.refl _ _, by rintro t' ⟨⟩; rfl⟩
            | 4, ho =>
              obtain rfl := Option.some.inj ho
              have h4 := given_old hg 4 (by decide +kernel)
              clear hg
              exact st_yield ho (wanted_none rfl) (.agg #[.string ks, .bool g0, .int .i64 k0, .int .i64 n0, .string ts]) w6 (by simp [execOp, Act.eval, h4, go_sem, x0, x1, x2, x3, x4]) ⟨_, rfl, Below.refl _ _, by rintro t' ⟨⟩; rfl⟩
            | 5, ho =>
              obtain rfl := Option.some.inj ho
              obtain ⟨_, h58, rfl⟩ := given_fed hg 58 (by decide +kernel)
              clear hg
              exact st_enter (w1 := w6) ho (wanted_none rfl) 16 #[.agg #[.string ks, .bool g0, .int .i64 k0, .int .i64 n0, .string ts]] (by simp [execOp, Act.eval, h58, resolve, go_sem]) ((CR.out _).mono (by rintro e w7 ⟨v, rfl, hown, hb7⟩; exact ⟨v, rfl, _, rfl, hb7, by rintro t' ⟨⟩; exact hown.rb⟩))
            | 6, ho =>
              obtain rfl := Option.some.inj ho
              obtain ⟨v59, h59, p59⟩ := given_fed hg 59 (by decide +kernel)
              clear hg
              have cv := run_string_RB w6 26 5 9 Try.underlying26 Try.underlying5 Try.underlying9 v59 B p59
              exact st_yield ho (wanted_none rfl) (.string (str B)) w6 (by simp [execOp, Act.eval, h59, go_sem, cv]) ⟨_, rfl, Below.refl _ _, by rintro t' ⟨⟩; rfl⟩
            | 7, ho =>
              obtain rfl := Option.some.inj ho
              obtain ⟨_, h57, rfl⟩ := given_fed hg 57 (by decide +kernel)
              obtain ⟨_, h60, rfl⟩ := given_fed hg 60 (by decide +kernel)
              clear hg
              exact st_yield ho (wanted_none rfl) (.string (str L)) w6 (by simp [execOp, Act.eval, h57, h60, go_sem, hs1, hAB]) ⟨_, rfl, Below.refl _ _, by rintro t' ⟨⟩; rfl⟩
            | 8, ho =>
              obtain rfl := Option.some.inj ho
              obtain ⟨_, h55, rfl⟩ := given_fed hg 55 (by decide +kernel)
              obtain ⟨_, h61, rfl⟩ := given_fed hg 61 (by decide +kernel)
              clear hg
              exact st_yield ho (wanted_none rfl) (.bool false) w6 (by simp [execOp, Act.eval, h55, h61, go_sem]) ⟨_, rfl, Below.refl _ _, by rintro t' ⟨⟩; rfl⟩
            | n + 9, ho => simp at ho
          · intro f11 w10 hb10 hv
            have h62 := hv 62 (by simp)
            clear hv
            simp only [W11] at h62
            unfold putAll
            simp only [List.foldl]
            have hA := row_kept GA.out hb10
            have hB := row_kept GB.out hb10
            have hA10 := HA9.out.below hb10
            have hR10 := HR9.out.below hb10
            have hL11 := H11.out.below hb10
            have hbb := hbb.trans (hb10.mono hbb.size)
            clear hb10 HA9 HR9 H11 CR Hs1 HAB GA GB
            clear x0 x1 x2 x3 x4 z0 z1 z2 z3 z4
            go_simp
            have hdl : (L.drop A.length).length = B.length := by rw [HLd.out]
            have hBl := HBl.out
            go_wp2_with (first
              | (with_reducible show wpList _ _ _ (⟨some 67, _, _, _, _, _⟩ :: _) _ _; go_loud (refine wpList_slice_l rfl (.tmp 64) (.tmp 66) 26 rfl 5 Try.underlying26 info8 (.slice a11 L.length c11) L .i64 _ A.length rfl rfl rfl hL11 (by have := HLl.out; omega) ?_); intro v67 hv67)
              | (with_reducible show wpList _ _ _ (⟨some 68, _, _, _, _, _⟩ :: _) _ _; go_loud (refine wpList_append_RB rfl (.const (.slice none 0 0)) (.tmp 67) 26 rfl w10.heap.size 5 Try.underlying26 info8 (.slice none 0 0) v67 [] (L.drop A.length) rfl rfl (Own.nil _ _ _) hv67 (by rw [hdl]; simp; omega) (Nat.le_refl _) ?_); intro v68 w50 hown50 hg50)
              | (with_reducible show wpList _ _ _ (⟨some 70, _, _, _, _, _⟩ :: _) _ _; go_loud (refine wpList_append_RB rfl (.tmp 68) (.tmp 69) 26 rfl w10.heap.size 5 Try.underlying26 info8 v68 (.slice a3 R.length cap3) ([] ++ L.drop A.length) R rfl rfl hown50 (hR10.below (grown_below hg50 (Nat.le_refl _) (by simp [Value.ownBlock]))) (by rw [List.nil_append, hdl]; omega) hg50.size ?_); intro v70 w52 hown52 hg52)
              | fail)
            have hbl : Below w10.heap.size w10 w52 := (grown_below hg50 (Nat.le_refl _) (by simp [Value.ownBlock])).grown hg52 hg50.size hown50.row
            have hrb52 := hown52.rb
            rw [List.nil_append, HLd.out] at hrb52
            have hA := row_kept hA hbl
            have hB := row_kept hB hbl
            have hL11 := hL11.below hbl
            have hbb := hbb.trans ((hbl).mono hbb.size)
            clear hbl hg50 hg52 hown50 hown52 hv67 hR10 hdl
            have cg := fun v' W (h : RB W v' (B ++ R)) => pget_c v' (B ++ R) W h
            rw [Hvb.out R] at cg
            unfold rr recV at cg
            simp only [] at cg
            rw [Hks.out, Hts.out] at cg
            have CG := Go.Lib.hid cg; clear cg Hvb
            have hsb : (L.length : Int) - (A.length : Int) = (B.length : Int) := by have := HLl.out; omega
            have hsub : IntKind.i64.wrap ((L.length : Int) - (A.length : Int)) = (B.length : Int) := by rw [hsb, IntKind.wrap_i64]; omega
            have Hsb := Go.Lib.hid hsb; clear hsb
            have Hsub := Go.Lib.hid hsub; clear hsub
            refine (CG.out _ _ hrb52).mono ?_
            rintro e w11 ⟨rfl, hc⟩
            have hA := row_kept hA hc
            have hB := row_kept hB hc
            have hL11 := hL11.below hc
            have hbb := hbb.trans ((hc).mono hbb.size)
            clear hc hrb52 CG
            have hP := heap_alloc_new w11 (.cells #[.string ks, .bool g0, .int .i64 k0, .int .i64 n0, .string ts] 25)
            have hA := row_kept hA (below_one w11 (.cells #[.string ks, .bool g0, .int .i64 k0, .int .i64 n0, .string ts] 25))
            have hB := row_kept hB (below_one w11 (.cells #[.string ks, .bool g0, .int .i64 k0, .int .i64 n0, .string ts] 25))
            have hL11 := hL11.below (below_one w11 (.cells #[.string ks, .bool g0, .int .i64 k0, .int .i64 n0, .string ts] 25))
            have hbb := hbb.trans (((below_one w11 (.cells #[.string ks, .bool g0, .int .i64 k0, .int .i64 n0, .string ts] 25))).mono hbb.size)
            obtain ⟨p0, p1, p2, p3, p4⟩ := row5 hP
            obtain ⟨x0, x1, x2, x3, x4⟩ := row5 hA
            obtain ⟨z0, z1, z2, z3, z4⟩ := row5 hB
            have hsub := Hsub.out
            have hsb := Hsb.out
            clear Hsub Hsb hP
            have GA := Go.Lib.hid hA; clear hA
            have GB := Go.Lib.hid hB; clear hB
            have HL11 := Go.Lib.hid hL11; clear hL11
            go_wp2_with fail
            refine (CEX.out _).mono ?_
            rintro e w12 ⟨rfl, hc⟩
            have hA := GA.out
            have hB := GB.out
            have hL11 := HL11.out
            have hA := row_kept hA hc
            have hB := row_kept hB hc
            have hL11 := hL11.below hc
            have hbb := hbb.trans ((hc).mono hbb.size)
            clear hc p0 p1 p2 p3 p4 CEX hsub hsb GA GB HL11
            clear x0 x1 x2 x3 x4 z0 z1 z2 z3 z4
            obtain ⟨v102, hrb102, hsl⟩ := RB.run_l (P := Try.prog) hL11 26 5 Try.underlying26 info8 A.length (by have := HLl.out; omega) .i64
            rw [HLd.out] at hrb102
            have HRB102 := Go.Lib.hid hrb102; clear hrb102
            have Hsl := Go.Lib.hid hsl; clear hsl
            have H11 := Go.Lib.hid hL11; clear hL11
            obtain ⟨x0, x1, x2, x3, x4⟩ := row5 hA
            obtain ⟨z0, z1, z2, z3, z4⟩ := row5 hB
            have GA := Go.Lib.hid hA; clear hA
            have GB := Go.Lib.hid hB; clear hB
            cases pb with
            | false =>
              go_upto_region 16 with (fail)
              refine wp_region_each (by kernel_rfl) (WF kt g1 k1 n1 tt) (WF_below kt g1 k1 n1 tt) (by decide +kernel) (by decide +kernel) (by rfl) [92, 93, 94, 95, 96, 97, 98, 99, 100, 101, 102, 103, 104, 105, 106, 107, 108, 109, 8] (by rfl) ?_ ?_
              · intro i o ho a w6 hb6 hlen hg
                have x0 := cell_kept x0 hb6
                have x1 := cell_kept x1 hb6
                have x2 := cell_kept x2 hb6
                have x3 := cell_kept x3 hb6
                have x4 := cell_kept x4 hb6
                have z0 := cell_kept z0 hb6
                have z1 := cell_kept z1 hb6
                have z2 := cell_kept z2 hb6
                have z3 := cell_kept z3 hb6
                have z4 := cell_kept z4 hb6
                match i, ho with
                | 0, ho =>
                  obtain rfl := Option.some.inj ho
                  have h5 := given_old hg 5 (by decide +kernel)
                  clear hg
                  exact st_yield ho (wanted_none rfl) (.agg #[.string kt, .bool g1, .int .i64 k1, .int .i64 n1, .string tt]) w6 (by simp [execOp, Act.eval, h5, go_sem, z0, z1, z2, z3, z4]) ⟨_, rfl, Below.refl _ _, by rintro t' ⟨⟩; rfl⟩
                | 1, ho =>
                  obtain rfl := Option.some.inj ho
                  obtain ⟨_, h92, rfl⟩ := given_fed hg 92 (by decide +kernel)
                  clear hg
                  exact st_enter (w1 := w6) ho (wanted_none rfl) 11 #[.agg #[.string kt, .bool g1, .int .i64 k1, .int .i64 n1, .string tt]] (by simp [execOp, Act.eval, h92, resolve, go_sem]) ((CM1.out _).mono (by rintro e w7 ⟨rfl, hb7⟩; exact ⟨_, rfl, _, rfl, hb7, by rintro t' ⟨⟩; rfl⟩))
                | 2, ho =>
                  obtain rfl := Option.some.inj ho
                  obtain ⟨_, h93, rfl⟩ := given_fed hg 93 (by decide +kernel)
                  clear hg
                  exact st_yield ho (wanted_none rfl) (.bool true) w6 (by simp [execOp, Act.eval, h93, go_sem]) ⟨_, rfl, Below.refl _ _, by rintro t' ⟨⟩; rfl⟩
                | 3, ho =>
                  obtain rfl := Option.some.inj ho
                  obtain ⟨_, h94, rfl⟩ := given_fed hg 94 (by decide +kernel)
                  clear hg
                  exact st_yield ho (wanted_none rfl) (.bool true) w6 (by simp [execOp, Act.eval, h94, go_sem]) ⟨_, rfl, Below.refl _ _, by rintro t' ⟨⟩; rfl⟩
                | 4, ho =>
                  obtain rfl := Option.some.inj ho
                  obtain ⟨_, h95, rfl⟩ := given_fed hg 95 (by decide +kernel)
                  clear hg
                  exact st_skip ho (wanted_not rfl rfl h95 (by decide)) ⟨_, rfl, Below.refl _ _, by rintro t' ⟨⟩; rfl⟩
                | 5, ho =>
                  obtain rfl := Option.some.inj ho
                  obtain ⟨_, h95, rfl⟩ := given_fed hg 95 (by decide +kernel)
                  clear hg
                  exact st_skip ho (wanted_not rfl rfl h95 (by decide)) ⟨_, rfl, Below.refl _ _, by rintro t' ⟨⟩; rfl⟩
                | 6, ho =>
                  obtain rfl := Option.some.inj ho
                  obtain ⟨_, h95, rfl⟩ := given_fed hg 95 (by decide +kernel)
                  clear hg
                  exact st_skip ho (wanted_not rfl rfl h95 (by decide)) ⟨_, rfl, Below.refl _ _, by rintro t' ⟨⟩; rfl⟩
                | 7, ho =>
                  obtain rfl := Option.some.inj ho
                  obtain ⟨_, h95, rfl⟩ := given_fed hg 95 (by decide +kernel)
                  clear hg
                  exact st_skip ho (wanted_not rfl rfl h95 (by decide)) ⟨_, rfl, Below.refl _ _, by rintro t' ⟨⟩; rfl⟩
                | 8, ho =>
                  obtain rfl := Option.some.inj ho
                  obtain ⟨_, h95, rfl⟩ := given_fed hg 95 (by decide +kernel)
                  clear hg
                  exact st_skip ho (wanted_not rfl rfl h95 (by decide)) ⟨_, rfl, Below.refl _ _, by rintro t' ⟨⟩; rfl⟩
                | 9, ho =>
                  obtain rfl := Option.some.inj ho
                  obtain ⟨_, h95, rfl⟩ := given_fed hg 95 (by decide +kernel)
                  clear hg
                  exact st_skip ho (wanted_not rfl rfl h95 (by decide)) ⟨_, rfl, Below.refl _ _, by rintro t' ⟨⟩; rfl⟩
                | 10, ho =>
                  obtain rfl := Option.some.inj ho
                  obtain ⟨_, h95, rfl⟩ := given_fed hg 95 (by decide +kernel)
                  clear hg
                  exact st_skip ho (wanted_not rfl rfl h95 (by decide)) ⟨_, rfl, Below.refl _ _, by rintro t' ⟨⟩; rfl⟩
                | 11, ho =>
                  obtain rfl := Option.some.inj ho
                  obtain ⟨_, h95, rfl⟩ := given_fed hg 95 (by decide +kernel)
                  clear hg
                  exact st_skip ho (wanted_not rfl rfl h95 (by decide)) ⟨_, rfl, Below.refl _ _, by rintro t' ⟨⟩; rfl⟩
                | 12, ho =>
                  obtain rfl := Option.some.inj ho
                  obtain ⟨_, h95, rfl⟩ := given_fed hg 95 (by decide +kernel)
                  clear hg
                  exact st_skip ho (wanted_not rfl rfl h95 (by decide)) ⟨_, rfl, Below.refl _ _, by rintro t' ⟨⟩; rfl⟩
                | 13, ho =>
                  obtain rfl := Option.some.inj ho
                  obtain ⟨_, h95, rfl⟩ := given_fed hg 95 (by decide +kernel)
                  clear hg
                  exact st_skip ho (wanted_not rfl rfl h95 (by decide)) ⟨_, rfl, Below.refl _ _, by rintro t' ⟨⟩; rfl⟩
                | 14, ho =>
                  obtain rfl := Option.some.inj ho
                  obtain ⟨_, h95, rfl⟩ := given_fed hg 95 (by decide +kernel)
                  clear hg
                  exact st_skip ho (wanted_not rfl rfl h95 (by decide)) ⟨_, rfl, Below.refl _ _, by rintro t' ⟨⟩; rfl⟩
                | 15, ho =>
                  obtain rfl := Option.some.inj ho
                  obtain ⟨_, h95, rfl⟩ := given_fed hg 95 (by decide +kernel)
                  clear hg
                  exact st_skip ho (wanted_not rfl rfl h95 (by decide)) ⟨_, rfl, Below.refl _ _, by rintro t' ⟨⟩; rfl⟩
                | 16, ho =>
                  obtain rfl := Option.some.inj ho
                  obtain ⟨_, h95, rfl⟩ := given_fed hg 95 (by decide +kernel)
                  clear hg
                  exact st_skip ho (wanted_not rfl rfl h95 (by decide)) ⟨_, rfl, Below.refl _ _, by rintro t' ⟨⟩; rfl⟩
                | 17, ho =>
                  obtain rfl := Option.some.inj ho
                  obtain ⟨_, h95, rfl⟩ := given_fed hg 95 (by decide +kernel)
                  obtain ⟨_, h108, rfl⟩ := given_fed hg 108 (by decide +kernel)
                  clear hg
                  exact st_yield ho (wanted_none rfl) (.bool true) w6 (by simp [execOp, Act.eval, h95, h108, go_sem]) ⟨_, rfl, Below.refl _ _, by rintro t' ⟨⟩; rfl⟩
                | 18, ho =>
                  obtain rfl := Option.some.inj ho
                  obtain ⟨_, h109, rfl⟩ := given_fed hg 109 (by decide +kernel)
                  clear hg
                  exact st_yield ho (wanted_none rfl) (.bool true) w6 (by simp [execOp, Act.eval, h109, go_sem]) ⟨_, rfl, Below.refl _ _, by rintro t' ⟨⟩; rfl⟩
                | n + 19, ho => simp at ho
              · intro f3 w16 hb16 hv
                have h8 := hv 8 (by simp)
                clear hv
                simp only [WF] at h8
                unfold putAll
                simp only [List.foldl]
                go_simp
                go_wp2
                go_ret
                exact ⟨rfl, hbb.trans (hb16.mono hbb.size)⟩
            | true =>
              have hm1 : mayRec (str K1) g1 k1 n1 (str T1) = true := by rw [Hkt.out, Htt.out]; exact Hpb.out
              have hb2 := Hp2.out Hpb.out
              have cp2 := fun W => pput_c (.slice none 0 0) [] K1 g1 k1 n1 T1 W (RB.nil W) hm1 Bd3.out Bd4.out (by simp)
              rw [List.nil_append, Hkt.out, Htt.out] at cp2
              unfold recV at cp2
              generalize recB K1 g1 k1 n1 T1 = B2 at hb2 cp2
              have HB2 := Go.Lib.hid hb2; clear hb2
              have CP2 := Go.Lib.hid cp2; clear cp2 hm1
              go_upto_region 16 with (fail)
              refine wp_region_each (by kernel_rfl) (WT ks g0 k0 n0 ts kt g1 k1 n1 tt a2 A B B2 L cap2 a11 c11 v102 t) (WT_below ks g0 k0 n0 ts kt g1 k1 n1 tt a2 A B B2 L cap2 a11 c11 v102 t) (by decide +kernel) (by decide +kernel) (by rfl) [92, 93, 94, 95, 96, 97, 98, 99, 100, 101, 102, 103, 104, 105, 106, 107, 108, 109, 8] (by rfl) ?_ ?_
              · intro i o ho a w6 hb6 hlen hg
                have x0 := cell_kept x0 hb6
                have x1 := cell_kept x1 hb6
                have x2 := cell_kept x2 hb6
                have x3 := cell_kept x3 hb6
                have x4 := cell_kept x4 hb6
                have z0 := cell_kept z0 hb6
                have z1 := cell_kept z1 hb6
                have z2 := cell_kept z2 hb6
                have z3 := cell_kept z3 hb6
                have z4 := cell_kept z4 hb6
                have hsl := fun W => Hsl.out W
                have cv102 := run_string_RB w6 26 5 9 Try.underlying26 Try.underlying5 Try.underlying9 v102 B (HRB102.out _ (H11.out.below hb6))
                have hB2 := HB2.out
                match i, ho with
                | 0, ho =>
                  obtain rfl := Option.some.inj ho
                  have h5 := given_old hg 5 (by decide +kernel)
                  clear hg
                  exact st_yield ho (wanted_none rfl) (.agg #[.string kt, .bool g1, .int .i64 k1, .int .i64 n1, .string tt]) w6 (by simp [execOp, Act.eval, h5, go_sem, z0, z1, z2, z3, z4]) ⟨_, rfl, Below.refl _ _, by rintro t' ⟨⟩; rfl⟩
                | 1, ho =>
                  obtain rfl := Option.some.inj ho
                  obtain ⟨_, h92, rfl⟩ := given_fed hg 92 (by decide +kernel)
                  clear hg
                  exact st_enter (w1 := w6) ho (wanted_none rfl) 11 #[.agg #[.string kt, .bool g1, .int .i64 k1, .int .i64 n1, .string tt]] (by simp [execOp, Act.eval, h92, resolve, go_sem]) ((CM1.out _).mono (by rintro e w7 ⟨rfl, hb7⟩; exact ⟨_, rfl, _, rfl, hb7, by rintro t' ⟨⟩; rfl⟩))
                | 2, ho =>
                  obtain rfl := Option.some.inj ho
                  obtain ⟨_, h93, rfl⟩ := given_fed hg 93 (by decide +kernel)
                  clear hg
                  exact st_yield ho (wanted_none rfl) (.bool false) w6 (by simp [execOp, Act.eval, h93, go_sem]) ⟨_, rfl, Below.refl _ _, by rintro t' ⟨⟩; rfl⟩
                | 3, ho =>
                  obtain rfl := Option.some.inj ho
                  obtain ⟨_, h94, rfl⟩ := given_fed hg 94 (by decide +kernel)
                  clear hg
                  exact st_yield ho (wanted_none rfl) (.bool false) w6 (by simp [execOp, Act.eval, h94, go_sem]) ⟨_, rfl, Below.refl _ _, by rintro t' ⟨⟩; rfl⟩
                | 4, ho =>
                  obtain rfl := Option.some.inj ho
                  have h5 := given_old hg 5 (by decide +kernel)
                  obtain ⟨_, h95, rfl⟩ := given_fed hg 95 (by decide +kernel)
                  clear hg
                  exact st_yield ho (wanted_some rfl rfl h95 rfl) (.agg #[.string kt, .bool g1, .int .i64 k1, .int .i64 n1, .string tt]) w6 (by simp [execOp, Act.eval, h5, go_sem, z0, z1, z2, z3, z4]) ⟨_, rfl, Below.refl _ _, by rintro t' ⟨⟩; rfl⟩
                | 5, ho =>
                  obtain rfl := Option.some.inj ho
                  obtain ⟨_, h96, rfl⟩ := given_fed hg 96 (by decide +kernel)
                  obtain ⟨_, h95, rfl⟩ := given_fed hg 95 (by decide +kernel)
                  clear hg
                  exact st_enter (w1 := w6) ho (wanted_some rfl rfl h95 rfl) 15 #[.slice none 0 0, .agg #[.string kt, .bool g1, .int .i64 k1, .int .i64 n1, .string tt]] (by simp [execOp, Act.eval, h96, resolve, go_sem]) ((CP2.out _).mono (by rintro e w7 ⟨v, rfl, hown, hb7⟩; exact ⟨v, rfl, _, rfl, hb7, by rintro t' ⟨⟩; exact hown.rb⟩))
                | 6, ho =>
                  obtain rfl := Option.some.inj ho
                  obtain ⟨v97, h97, p97⟩ := given_fed hg 97 (by decide +kernel)
                  obtain ⟨_, h95, rfl⟩ := given_fed hg 95 (by decide +kernel)
                  clear hg
                  have cv := run_string_RB w6 26 5 9 Try.underlying26 Try.underlying5 Try.underlying9 v97 B2 p97
                  exact st_yield ho (wanted_some rfl rfl h95 rfl) (.string (str B2)) w6 (by simp [execOp, Act.eval, h97, go_sem, cv]) ⟨_, rfl, Below.refl _ _, by rintro t' ⟨⟩; rfl⟩
                | 7, ho =>
                  obtain rfl := Option.some.inj ho
                  have h11 := given_old hg 11 (by decide +kernel)
                  obtain ⟨_, h95, rfl⟩ := given_fed hg 95 (by decide +kernel)
                  clear hg
                  exact st_yield ho (wanted_some rfl rfl h95 rfl) (.slice a11 L.length c11) w6 (by simp [execOp, Act.eval, h11, go_sem]) ⟨_, rfl, Below.refl _ _, by rintro t' ⟨⟩; rfl⟩
                | 8, ho =>
                  obtain rfl := Option.some.inj ho
                  have h2 := given_old hg 2 (by decide +kernel)
                  obtain ⟨_, h95, rfl⟩ := given_fed hg 95 (by decide +kernel)
                  clear hg
                  exact st_yield ho (wanted_some rfl rfl h95 rfl) (.slice a2 A.length cap2) w6 (by simp [execOp, Act.eval, h2, go_sem]) ⟨_, rfl, Below.refl _ _, by rintro t' ⟨⟩; rfl⟩
                | 9, ho =>
                  obtain rfl := Option.some.inj ho
                  obtain ⟨_, h100, rfl⟩ := given_fed hg 100 (by decide +kernel)
                  obtain ⟨_, h95, rfl⟩ := given_fed hg 95 (by decide +kernel)
                  clear hg
                  exact st_yield ho (wanted_some rfl rfl h95 rfl) (.int .i64 (A.length : Int)) w6 (by simp [execOp, Act.eval, h100, go_sem, resolve]) ⟨_, rfl, Below.refl _ _, by rintro t' ⟨⟩; rfl⟩
                | 10, ho =>
                  obtain rfl := Option.some.inj ho
                  obtain ⟨_, h99, rfl⟩ := given_fed hg 99 (by decide +kernel)
                  obtain ⟨_, h101, rfl⟩ := given_fed hg 101 (by decide +kernel)
                  obtain ⟨_, h95, rfl⟩ := given_fed hg 95 (by decide +kernel)
                  clear hg
                  exact st_yield ho (wanted_some rfl rfl h95 rfl) (v102) w6 (by simp [execOp, Act.eval, h99, h101, go_sem, hsl]) ⟨_, rfl, Below.refl _ _, by rintro t' ⟨⟩; rfl⟩
                | 11, ho =>
                  obtain rfl := Option.some.inj ho
                  obtain ⟨_, h102, rfl⟩ := given_fed hg 102 (by decide +kernel)
                  obtain ⟨_, h95, rfl⟩ := given_fed hg 95 (by decide +kernel)
                  clear hg
                  exact st_yield ho (wanted_some rfl rfl h95 rfl) (.string (str B)) w6 (by simp [execOp, Act.eval, h102, go_sem, cv102]) ⟨_, rfl, Below.refl _ _, by rintro t' ⟨⟩; rfl⟩
                | 12, ho =>
                  obtain rfl := Option.some.inj ho
                  obtain ⟨_, h98, rfl⟩ := given_fed hg 98 (by decide +kernel)
                  obtain ⟨_, h103, rfl⟩ := given_fed hg 103 (by decide +kernel)
                  obtain ⟨_, h95, rfl⟩ := given_fed hg 95 (by decide +kernel)
                  clear hg
                  exact st_yield ho (wanted_some rfl rfl h95 rfl) (.bool t) w6 (by simp [execOp, Act.eval, h98, h103, go_sem, hB2]) ⟨_, rfl, Below.refl _ _, by rintro t' ⟨⟩; rfl⟩
                | 13, ho =>
                  obtain rfl := Option.some.inj ho
                  have h4 := given_old hg 4 (by decide +kernel)
                  obtain ⟨_, h95, rfl⟩ := given_fed hg 95 (by decide +kernel)
                  clear hg
                  exact st_yield ho (wanted_some rfl rfl h95 rfl) (.agg #[.string ks, .bool g0, .int .i64 k0, .int .i64 n0, .string ts]) w6 (by simp [execOp, Act.eval, h4, go_sem, x0, x1, x2, x3, x4]) ⟨_, rfl, Below.refl _ _, by rintro t' ⟨⟩; rfl⟩
                | 14, ho =>
                  obtain rfl := Option.some.inj ho
                  have h5 := given_old hg 5 (by decide +kernel)
                  obtain ⟨_, h95, rfl⟩ := given_fed hg 95 (by decide +kernel)
                  clear hg
                  exact st_yield ho (wanted_some rfl rfl h95 rfl) (.agg #[.string kt, .bool g1, .int .i64 k1, .int .i64 n1, .string tt]) w6 (by simp [execOp, Act.eval, h5, go_sem, z0, z1, z2, z3, z4]) ⟨_, rfl, Below.refl _ _, by rintro t' ⟨⟩; rfl⟩
                | 15, ho =>
                  obtain rfl := Option.some.inj ho
                  obtain ⟨_, h105, rfl⟩ := given_fed hg 105 (by decide +kernel)
                  obtain ⟨_, h106, rfl⟩ := given_fed hg 106 (by decide +kernel)
                  obtain ⟨_, h95, rfl⟩ := given_fed hg 95 (by decide +kernel)
                  clear hg
                  exact st_enter (w1 := w6) ho (wanted_some rfl rfl h95 rfl) 14 #[.agg #[.string ks, .bool g0, .int .i64 k0, .int .i64 n0, .string ts], .agg #[.string kt, .bool g1, .int .i64 k1, .int .i64 n1, .string tt]] (by simp [execOp, Act.eval, h105, h106, resolve, go_sem]) ((CE2.out _).mono (by rintro e w7 ⟨rfl, hb7⟩; exact ⟨_, rfl, _, rfl, hb7, by rintro t' ⟨⟩; rfl⟩))
                | 16, ho =>
                  obtain rfl := Option.some.inj ho
                  obtain ⟨_, h104, rfl⟩ := given_fed hg 104 (by decide +kernel)
                  obtain ⟨_, h107, rfl⟩ := given_fed hg 107 (by decide +kernel)
                  obtain ⟨_, h95, rfl⟩ := given_fed hg 95 (by decide +kernel)
                  clear hg
                  exact st_yield ho (wanted_some rfl rfl h95 rfl) (.bool true) w6 (by simp [execOp, Act.eval, h104, h107, go_sem]) ⟨_, rfl, Below.refl _ _, by rintro t' ⟨⟩; rfl⟩
                | 17, ho =>
                  obtain rfl := Option.some.inj ho
                  obtain ⟨_, h95, rfl⟩ := given_fed hg 95 (by decide +kernel)
                  obtain ⟨_, h108, rfl⟩ := given_fed hg 108 (by decide +kernel)
                  clear hg
                  exact st_yield ho (wanted_none rfl) (.bool true) w6 (by simp [execOp, Act.eval, h95, h108, go_sem]) ⟨_, rfl, Below.refl _ _, by rintro t' ⟨⟩; rfl⟩
                | 18, ho =>
                  obtain rfl := Option.some.inj ho
                  obtain ⟨_, h109, rfl⟩ := given_fed hg 109 (by decide +kernel)
                  clear hg
                  exact st_yield ho (wanted_none rfl) (.bool true) w6 (by simp [execOp, Act.eval, h109, go_sem]) ⟨_, rfl, Below.refl _ _, by rintro t' ⟨⟩; rfl⟩
                | n + 19, ho => simp at ho
              · intro f3 w16 hb16 hv
                have h8 := hv 8 (by simp)
                clear hv
                simp only [WT] at h8
                unfold putAll
                simp only [List.foldl]
                go_simp
                go_wp2
                go_ret
                exact ⟨rfl, hbb.trans (hb16.mono hbb.size)⟩

/-! ### THE ROW -/
set_option maxRecDepth 100000 in
theorem lifted (os : Os) (started : os.Started) (H : Type) (enc : TypeId × Value → H) :
    ReturnsInHanded {} Try.checked os 3 .any (Rows.recordAllSpec.pre6 enc Try.prog Try.f3 Rows.recordAllRow.domain false) (Rows.recordAllSpec.post enc Try.prog Try.f3 false true false false) := by
  refine returnsInHanded_of_change (C := Try.checked) own started (by kernel_rfl) Try.func3
    (ChangeSpec.witness6 (enc := enc) (C := Try.checked) false ⟨#[], #[.agg #[.string ByteArray.empty, .bool false, .int .i64 0, .int .i64 0, .string ByteArray.empty], .agg #[.string ByteArray.empty, .bool false, .int .i64 0, .int .i64 0, .string ByteArray.empty], .slice none 0 0, .slice none 0 0], []⟩ 8 (by kernel_rfl) (by kernel_rfl) (by kernel_rfl) (by kernel_rfl)) ?_
  intro W base args ds gs before hval0 hW hcnd _
  have hval : ∀ (j : Nat) t v, Try.f3.params[j]? = some t → args[j]? = some v → Value.okWide Try.prog W .any base t v := hval0
  have hW' := hW
  obtain ⟨p, q, hA0, hV, rfl, hfz, hnd⟩ := hW
  have hA : DataW.TrodAll enc Try.prog W 0 (fun _ => true) true Try.f3.params.toList args.toList ds p := hA0
  rw [Try.params3] at hA hval
  obtain ⟨v0, vs0, d0, ds0, p0, q0, hargs, rfl, rfl, h0, r0⟩ := trodAll_cons hA
  obtain ⟨v1, vs1, d1, ds1, p1, q1, rfl, rfl, rfl, h1, r1⟩ := trodAll_cons r0
  obtain ⟨v2, vs2, d2, ds2, p2, q2, rfl, rfl, rfl, h2, r2⟩ := trodAll_cons r1
  obtain ⟨v3, vs3, d3, ds3, p3, q3, rfl, rfl, rfl, h3, r3⟩ := trodAll_cons r2
  obtain ⟨rfl, rfl, rfl⟩ := trodAll_nil r3
  obtain rfl : args = #[v0, v1, v2, v3] := by cases args; simp_all
  obtain ⟨rfl, rfl⟩ := trodVars_none hV
  have kk0 := h0
  have lt0 : ∀ x ∈ p0, x.block < W.heap.size := by obtain ⟨m, hm⟩ := kk0; exact DataW.trod_lt m _ _ _ hm
  have kk1 := h1
  have lt1 : ∀ x ∈ p1, x.block < W.heap.size := by obtain ⟨m, hm⟩ := kk1; exact DataW.trod_lt m _ _ _ hm
  have kk2 := h2
  have lt2 : ∀ x ∈ p2, x.block < W.heap.size := by obtain ⟨m, hm⟩ := kk2; exact DataW.trod_lt m _ _ _ hm
  have kk3 := h3
  have lt3 : ∀ x ∈ p3, x.block < W.heap.size := by obtain ⟨m, hm⟩ := kk3; exact DataW.trod_lt m _ _ _ hm
  obtain ⟨y0, g0, k0, n0, s0, rfl, w0⟩ := open_rec (hval 0 25 v0 rfl rfl) h0
  obtain ⟨y1, g1, k1, n1, s1, rfl, w1⟩ := open_rec (hval 1 25 v1 rfl rfl) h1
  obtain ⟨a2, len2, cap2, rfl⟩ := okWide_slice Try.underlying26 (hval 2 26 v2 rfl rfl)
  obtain ⟨z2, w2⟩ : ∃ zs, IsRow .u8 W a2 len2 cap2 zs := by
    obtain ⟨fuel, hf⟩ := h2
    rcases open_ints Try.underlying26 Try.underlying5 (by kernel_rfl) hf with ⟨hcs, _⟩ | ⟨x, l, c, zs, hcs, _, hl, hm, hz, _, hcell, hwz⟩
    · simp [Value.cells] at hcs
      obtain ⟨rfl, rfl, rfl⟩ := hcs
      exact ⟨[], .inl ⟨rfl, rfl, rfl, rfl⟩⟩
    · simp [Value.cells] at hcs
      obtain ⟨rfl, rfl, rfl⟩ := hcs
      exact ⟨zs, .inr ⟨_, rfl, hl, hm, by simpa using hz, hcell, hwz⟩⟩
  obtain ⟨a3, len3, cap3, rfl⟩ := okWide_slice Try.underlying26 (hval 3 26 v3 rfl rfl)
  obtain ⟨z3, w3⟩ : ∃ zs, IsRow .u8 W a3 len3 cap3 zs := by
    obtain ⟨fuel, hf⟩ := h3
    rcases open_ints Try.underlying26 Try.underlying5 (by kernel_rfl) hf with ⟨hcs, _⟩ | ⟨x, l, c, zs, hcs, _, hl, hm, hz, _, hcell, hwz⟩
    · simp [Value.cells] at hcs
      obtain ⟨rfl, rfl, rfl⟩ := hcs
      exact ⟨[], .inl ⟨rfl, rfl, rfl, rfl⟩⟩
    · simp [Value.cells] at hcs
      obtain ⟨rfl, rfl, rfl⟩ := hcs
      exact ⟨zs, .inr ⟨_, rfl, hl, hm, by simpa using hz, hcell, hwz⟩⟩
  clear hA0 hval0
  refine (walk W y0 g0 k0 n0 s0 w0 y1 g1 k1 n1 s1 w1 a2 len2 cap2 z2 w2 a3 len3 cap3 z3 w3).mono fun e W' ⟨he, bel⟩ => ?_
  subst he
  exact ⟨_, rfl, _, _, _, [], _, [], hW', trodAll_mk1 (shut_bool Try.underlying4 _), (trodAll_cons_mk (Below.trod laidOut (by kernel_rfl) (of_decide_eq_true (by kernel_rfl)) kk0 bel lt0) (trodAll_cons_mk (Below.trod laidOut (by kernel_rfl) (of_decide_eq_true (by kernel_rfl)) kk1 bel lt1) (trodAll_cons_mk (Below.trod laidOut (by kernel_rfl) (of_decide_eq_true (by kernel_rfl)) kk2 bel lt2) (trodAll_cons_mk (Below.trod laidOut (by kernel_rfl) (of_decide_eq_true (by kernel_rfl)) kk3 bel lt3) trodAll_mk0)))), rfl, bel.frame _, fun h => by cases h⟩

theorem over : Rows.recordAllRow.holds Try.pinned (OpenSpec.ofChange Rows.recordAllSpec) :=
  OpenClaim.holds_of_wide 3 Try.f3 rfl rfl rfl rfl rfl rfl rfl ⟨rfl, rfl, rfl, rfl, rfl⟩ rfl rfl rfl rfl rfl (by kernel_rfl) Try.func3 (by kernel_rfl)
    (of_decide_eq_true (by kernel_rfl)) (by unfold Func.isWrapper; first | (rw [if_pos (by decide +kernel)]; kernel_rfl) | (rw [if_neg (by decide +kernel)]; exact ⟨rfl, rfl⟩))
    (fun os started H enc _ => lifted os started H enc)

theorem proved : Rows.RecordAllSaid := over
#print axioms proved
end Go.Proofs.Ytafpbhkddodjoaa.recordAll
