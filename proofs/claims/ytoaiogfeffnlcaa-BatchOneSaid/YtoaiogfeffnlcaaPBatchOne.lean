/- BatchOne: one record that may not be makes a row none, wherever it stands: for every input the law returns true. -/
import Derived.Test.YtoaiogfeffnlcaaRows
import Derived.WalkKit
import Derived.ProofKit
import Derived.OpenShut
import Derived.ShutString
import Derived.ChangeOld
import Derived.Below
import Derived.Test.YtoaiogfeffnlcaaRec
import Derived.Test.YtoaiogfeffnlcaaBatL
import Derived.Test.YtoaiogfeffnlcaaRecSl
import Derived.Test.YtoaiogfeffnlcaaRecCut
import Derived.Test.YtoaiogfeffnlcaaHead
import Derived.Test.YtoaiogfeffnlcaaDrawT
namespace Go.Proofs.Ytoaiogfeffnlcaa.batchOne
open Go.ChangeShapes Go.WideShapes Go.ChangeAt Go.RowKit
open Go.ChangeMaps (open_string shut_string)
set_option linter.unusedVariables false

theorem own : ownKnob Try.prog.godebug = none := by kernel_rfl
theorem laidOut : laidOutB Try.prog = true := by kernel_rfl

def W4 (a0 : Option Addr) (len0 cap0 : Nat) (y1 : ByteArray) (g1 : Bool) (k1 n1 : Int) (s1 ks ts : ByteArray) (B : Nat) (L : List RecT) : Nat → World → Value → Prop
  | 13, _, v => v = .slice a0 len0 cap0
  | 14, w, v => OwnRec w B v L
  | 15, _, v => v = .agg #[.string y1, .bool g1, .int .i64 k1, .int .i64 n1, .string s1]
  | 16, _, v => v = .agg #[.string ks, .bool g1, .int .i64 k1, .int .i64 n1, .string ts]
  | _, _, _ => True

theorem W4_below (a0 : Option Addr) (len0 cap0 : Nat) (y1 : ByteArray) (g1 : Bool) (k1 n1 : Int) (s1 ks ts : ByteArray) (B : Nat) (L : List RecT) : ∀ (i : Nat) (w w' : World) (v : Value), W4 a0 len0 cap0 y1 g1 k1 n1 s1 ks ts B L i w v → Below w.heap.size w w' → W4 a0 len0 cap0 y1 g1 k1 n1 s1 ks ts B L i w' v := by
  intro i w w' v h hb
  unfold W4 at h ⊢
  split at h <;> first | exact h | trivial | exact RB.below h hb | exact Own.below h hb | exact OwnV.below h hb | exact OwnRec.below h hb

def W7 (au : Option Addr) (n cu j : Nat) (v32 v39 : Value) (ks : ByteArray) (g1 : Bool) (k1 n1 : Int) (ts : ByteArray) : Nat → World → Value → Prop
  | 30, _, v => v = .slice au n cu
  | 31, _, v => v = .int .i64 (j : Int)
  | 32, _, v => v = v32
  | 34, _, v => v = .agg #[.string ks, .bool g1, .int .i64 k1, .int .i64 n1, .string ts]
  | 37, _, v => v = .slice au n cu
  | 38, _, v => v = .int .i64 (j : Int)
  | 39, _, v => v = v39
  | _, _, _ => True

theorem W7_any (au : Option Addr) (n cu j : Nat) (v32 v39 : Value) (ks : ByteArray) (g1 : Bool) (k1 n1 : Int) (ts : ByteArray) : ∀ (i : Nat) (w w' : World) (v : Value), W7 au n cu j v32 v39 ks g1 k1 n1 ts i w v → W7 au n cu j v32 v39 ks g1 k1 n1 ts i w' v := by
  intro i w w' v h
  unfold W7 at h ⊢
  split at h <;> first | exact h | trivial

def W9 (um : Value) (ks : ByteArray) (g1 : Bool) (k1 n1 : Int) (ts : ByteArray) (ae : Option Addr) (ne ce : Nat) (mx : Bool) : Nat → World → Value → Prop
  | 6, _, v => v = .bool true
  | 43, _, v => v = um
  | 44, _, v => v = .bool mx
  | 45, _, v => v = .agg #[.string ks, .bool g1, .int .i64 k1, .int .i64 n1, .string ts]
  | 46, _, v => v = .bool mx
  | 47, _, v => v = .bool true
  | 48, _, v => v = .bool true
  | 49, _, v => v = .slice ae ne ce
  | 50, _, v => v = .int .i64 (ne : Int)
  | 51, _, v => v = .bool mx
  | 52, _, v => v = .agg #[.string ks, .bool g1, .int .i64 k1, .int .i64 n1, .string ts]
  | 53, _, v => v = .bool mx
  | 54, _, v => v = .bool true
  | 55, _, v => v = .bool true
  | _, _, _ => True

theorem W9_below (um : Value) (ks : ByteArray) (g1 : Bool) (k1 n1 : Int) (ts : ByteArray) (ae : Option Addr) (ne ce : Nat) (mx : Bool) : ∀ (i : Nat) (w w' : World) (v : Value), W9 um ks g1 k1 n1 ts ae ne ce mx i w v → Below w.heap.size w w' → W9 um ks g1 k1 n1 ts ae ne ce mx i w' v := by
  intro i w w' v h hb
  unfold W9 at h ⊢
  split at h <;> first | exact h | trivial | exact RB.below h hb | exact Own.below h hb | exact OwnV.below h hb | exact OwnRec.below h hb

theorem put_other {a : Act} {t s : Nat} {v : Value} (h : s ≠ t) : (a.put (some t) v).tmps[s]? = a.tmps[s]? := Array.getElem?_setIfInBounds_ne (Ne.symm h)
theorem put_same {a : Act} {t : Nat} {v : Value} (h : t < a.tmps.size) : (a.put (some t) v).tmps[t]? = some v := by simp [Act.put, h]
/-- What the three appends have made so far. -/
def IB (w0 : World) (B : Nat) (La : List RecT) (x : RecT) (Lb : List RecT) (done : Nat → Bool) (a : Act) (w : World) : Prop :=
  (Below B w0 w ∧ B ≤ w.heap.size) ∧
  (done 3 = true → done 6 = false → ∃ v, a.tmps[33]? = some v ∧ OwnRec w B v La) ∧
  (done 5 = true → done 6 = false → ∃ v, a.tmps[35]? = some v ∧ RS w v [x]) ∧
  (done 6 = true → done 10 = false → ∃ v, a.tmps[36]? = some v ∧ OwnRec w B v (La ++ [x])) ∧
  (done 10 = true → done 11 = false → ∃ v, a.tmps[40]? = some v ∧ OwnRec w B v (La ++ [x] ++ Lb)) ∧
  (done 11 = true → ∃ v, a.tmps[8]? = some v ∧ OwnRec w B v (La ++ [x] ++ Lb))
section
variable {w0 w w' : World} {B : Nat} {La Lb : List RecT} {x : RecT} {done : Nat → Bool} {a : Act} {v : Value}
theorem no_way {P : Prop} {b : Bool} (h : b = false) (g : b = true) : P := by rw [h] at g; cases g
theorem IB.start (w0 : World) (La : List RecT) (x : RecT) (Lb : List RecT) (a : Act) : IB w0 w0.heap.size La x Lb (fun _ => false) a w0.drew :=
  ⟨⟨(Below.refl _ _).drew, Nat.le_refl _⟩, fun h => Bool.noConfusion h, fun h => Bool.noConfusion h, fun h => Bool.noConfusion h, fun h => Bool.noConfusion h, fun h => Bool.noConfusion h⟩
theorem IB.keep (h : IB w0 B La x Lb done a w) (j : Nat) (hj : (j != 3 && j != 5 && j != 6 && j != 10 && j != 11) = true) (t : Nat) (ht : (t != 33 && t != 35 && t != 36 && t != 40 && t != 8) = true) (v : Value) (hb : Below w.heap.size w w') : IB w0 B La x Lb (doneToo done j) (a.put (some t) v) w' := by
  simp only [Bool.and_eq_true, bne_iff_ne, ne_eq] at hj ht
  obtain ⟨⟨⟨⟨j1, j2⟩, j3⟩, j4⟩, j5⟩ := hj
  obtain ⟨⟨⟨⟨t1, t2⟩, t3⟩, t4⟩, t5⟩ := ht
  obtain ⟨⟨b1, b2⟩, i1, i2, i3, i4, i5⟩ := h
  refine ⟨⟨b1.trans (hb.mono b2), Nat.le_trans b2 hb.size⟩, ?_, ?_, ?_, ?_, ?_⟩
  · rw [doneToo_other (Ne.symm j1), doneToo_other (Ne.symm j3), put_other (Ne.symm t1)]
    intro p q; obtain ⟨v, e, ho⟩ := i1 p q; exact ⟨v, e, ho.below hb⟩
  · rw [doneToo_other (Ne.symm j2), doneToo_other (Ne.symm j3), put_other (Ne.symm t2)]
    intro p q; obtain ⟨v, e, ho⟩ := i2 p q; exact ⟨v, e, ho.below hb⟩
  · rw [doneToo_other (Ne.symm j3), doneToo_other (Ne.symm j4), put_other (Ne.symm t3)]
    intro p q; obtain ⟨v, e, ho⟩ := i3 p q; exact ⟨v, e, ho.below hb⟩
  · rw [doneToo_other (Ne.symm j4), doneToo_other (Ne.symm j5), put_other (Ne.symm t4)]
    intro p q; obtain ⟨v, e, ho⟩ := i4 p q; exact ⟨v, e, ho.below hb⟩
  · rw [doneToo_other (Ne.symm j5), put_other (Ne.symm t5)]
    intro p; obtain ⟨v, e, ho⟩ := i5 p; exact ⟨v, e, ho.below hb⟩
theorem IB.s3 (h : IB w0 B La x Lb done a w) (h6 : done 6 = false) (h10 : done 10 = false) (h11 : done 11 = false) {n : Nat} (hl : a.tmps.size = n + 41) (ho : OwnRec w' B v ([] ++ La)) (hb : Below w.heap.size w w') : IB w0 B La x Lb (doneToo done 3) (a.put (some 33) v) w' := by
  obtain ⟨⟨b1, b2⟩, i1, i2, i3, i4, i5⟩ := h
  refine ⟨⟨b1.trans (hb.mono b2), Nat.le_trans b2 hb.size⟩, fun _ _ => ⟨v, put_same (by rw [hl]; omega), by simpa using ho⟩, ?_, ?_, ?_, ?_⟩
  · rw [doneToo_other (by decide), doneToo_other (by decide), put_other (by decide)]
    intro p q; obtain ⟨v, e, ho⟩ := i2 p q; exact ⟨v, e, ho.below hb⟩
  · rw [doneToo_other (by decide)]; exact fun p => no_way h6 p
  · rw [doneToo_other (by decide)]; exact fun p => no_way h10 p
  · rw [doneToo_other (by decide)]; exact fun p => no_way h11 p
theorem IB.s5 (h : IB w0 B La x Lb done a w) (h6 : done 6 = false) (h10 : done 10 = false) (h11 : done 11 = false) {n : Nat} (hl : a.tmps.size = n + 41) (ho : RS w' v [x]) (hb : Below w.heap.size w w') : IB w0 B La x Lb (doneToo done 5) (a.put (some 35) v) w' := by
  obtain ⟨⟨b1, b2⟩, i1, i2, i3, i4, i5⟩ := h
  refine ⟨⟨b1.trans (hb.mono b2), Nat.le_trans b2 hb.size⟩, ?_, fun _ _ => ⟨v, put_same (by rw [hl]; omega), ho⟩, ?_, ?_, ?_⟩
  · rw [doneToo_other (by decide), doneToo_other (by decide), put_other (by decide)]
    intro p q; obtain ⟨v, e, ho⟩ := i1 p q; exact ⟨v, e, ho.below hb⟩
  · rw [doneToo_other (by decide)]; exact fun p => no_way h6 p
  · rw [doneToo_other (by decide)]; exact fun p => no_way h10 p
  · rw [doneToo_other (by decide)]; exact fun p => no_way h11 p
theorem IB.s6 (h : IB w0 B La x Lb done a w) (h10 : done 10 = false) (h11 : done 11 = false) {n : Nat} (hl : a.tmps.size = n + 41) (ho : OwnRec w' B v (La ++ [x])) (hb : Below B w0 w') (hs : w.heap.size ≤ w'.heap.size) : IB w0 B La x Lb (doneToo done 6) (a.put (some 36) v) w' := by
  obtain ⟨⟨b1, b2⟩, i1, i2, i3, i4, i5⟩ := h
  refine ⟨⟨hb, Nat.le_trans b2 hs⟩, ?_, ?_, fun _ _ => ⟨v, put_same (by rw [hl]; omega), ho⟩, ?_, ?_⟩
  · rw [doneToo_self]; intro _ q; cases q
  · rw [doneToo_self]; intro _ q; cases q
  · rw [doneToo_other (by decide)]; exact fun p => no_way h10 p
  · rw [doneToo_other (by decide)]; exact fun p => no_way h11 p
theorem IB.s10 (h : IB w0 B La x Lb done a w) (h6 : done 6 = true) (h11 : done 11 = false) {n : Nat} (hl : a.tmps.size = n + 41) (ho : OwnRec w' B v (La ++ [x] ++ Lb)) (hb : Below B w0 w') (hs : w.heap.size ≤ w'.heap.size) : IB w0 B La x Lb (doneToo done 10) (a.put (some 40) v) w' := by
  obtain ⟨⟨b1, b2⟩, i1, i2, i3, i4, i5⟩ := h
  refine ⟨⟨hb, Nat.le_trans b2 hs⟩, ?_, ?_, ?_, fun _ _ => ⟨v, put_same (by rw [hl]; omega), ho⟩, ?_⟩
  · rw [doneToo_other (show (6 : Nat) ≠ 10 by decide)]; exact fun _ q => no_way q h6
  · rw [doneToo_other (show (6 : Nat) ≠ 10 by decide)]; exact fun _ q => no_way q h6
  · rw [doneToo_self]; intro _ q; cases q
  · rw [doneToo_other (by decide)]; exact fun p => no_way h11 p
theorem IB.s11 (h : IB w0 B La x Lb done a w) (h6 : done 6 = true) (h10 : done 10 = true) {n : Nat} (hl : a.tmps.size = n + 41) (ho : OwnRec w B v (La ++ [x] ++ Lb)) : IB w0 B La x Lb (doneToo done 11) (a.put (some 8) v) w := by
  obtain ⟨⟨b1, b2⟩, i1, i2, i3, i4, i5⟩ := h
  refine ⟨⟨b1, b2⟩, ?_, ?_, ?_, ?_, fun _ => ⟨v, put_same (by rw [hl]; omega), ho⟩⟩
  · rw [doneToo_other (show (6 : Nat) ≠ 11 by decide)]; exact fun _ q => no_way q h6
  · rw [doneToo_other (show (6 : Nat) ≠ 11 by decide)]; exact fun _ q => no_way q h6
  · rw [doneToo_other (show (10 : Nat) ≠ 11 by decide)]; exact fun _ q => no_way q h10
  · rw [doneToo_self]; intro _ q; cases q
end
theorem row_with {L : List RecT} {x : RecT} {j : Nat} (h : mayRow L = true) (hl : L.length ≤ 15) : mayRow (L.take j ++ [x] ++ L.drop j) = mayT x := by
  obtain ⟨h1, h2⟩ := mayRow_iff.1 h
  unfold mayRow
  have ea : (L.take j).all mayT = true := List.all_eq_true.2 fun y hy => h2 y (List.mem_of_mem_take hy)
  have eb : (L.drop j).all mayT = true := List.all_eq_true.2 fun y hy => h2 y (List.mem_of_mem_drop hy)
  rw [List.all_append, List.all_append, ea, eb, decide_eq_true (by rw [List.length_append, List.length_append, List.length_take, List.length_drop, List.length_singleton]; omega)]
  simp
theorem rowE_pos (l : List RecT) : decide (0 < (rowE l).length) = mayRow l := by
  unfold rowE
  cases h : mayRow l with
  | true => exact decide_eq_true (List.length_pos_iff.2 (by simpa using rowB_ne l))
  | false => rfl

set_option maxHeartbeats 4000000 in
set_option maxRecDepth 100000 in
theorem walk (w : World) (a0 : Option Addr) (len0 cap0 : Nat) (l0 : List RecT) (w0 : RRec w (.slice a0 len0 cap0) l0) (y1 : ByteArray) (g1 : Bool) (k1 n1 : Int) (s1 : ByteArray) (w1 : RecOk (y1, g1, k1, n1, s1)) (a2 : Int) (w2 : (Lit.int .i64 a2).wf = true) :
    Calls Try.prog 6 #[.slice a0 len0 cap0, recV y1 g1 k1 n1 s1, .int .i64 a2] w fun e w' => e = .returned (.bool true) ∧ Below w.heap.size w w' := by
  have hbad := ok_cutR w1
  obtain ⟨wy, wk, wn, ws⟩ := w1
  simp only [] at wy wk wn ws
  obtain ⟨q1, q2⟩ := bounds_i64 w2
  have C0 := Go.Lib.hid fun W (h : RRec W (.slice a0 len0 cap0) l0) => recs_c (.slice a0 len0 cap0) l0 15 W h (by omega)
  have hL := ok_cut w0.ok 15
  have hLl := cut_len l0 15
  generalize (l0.take 15).map cutR = L at *
  have c0 := fun W => rcut_c y1 g1 k1 n1 s1 W wy ws
  unfold cutR at hbad
  simp only [] at hbad
  generalize str ((bl y1).take 20) = ks at *
  generalize str ((bl s1).take 30) = ts at *
  have cm := fun W => rmayrec_c ks g1 k1 n1 ts W hbad.1 hbad.2.2.2
  obtain ⟨mx, hmx⟩ : ∃ mx, mayT (ks, g1, k1, n1, ts) = mx := ⟨_, rfl⟩
  rw [show mayRec ks g1 k1 n1 ts = mx from hmx] at cm
  unfold recV at c0 cm ⊢
  have CC := Go.Lib.hid c0
  have CX := Go.Lib.hid cm
  have OKL := Go.Lib.hid hL
  have OKX := Go.Lib.hid hbad
  have HLL := Go.Lib.hid hLl
  have HMX := Go.Lib.hid hmx
  have Q2 := Go.Lib.hid q2
  have HR := Go.Lib.hid w0
  clear c0 cm hL hbad hLl hmx wy wk wn ws q1 q2 w0 w2
  have hA := heap_alloc_new w (.cells #[.string y1, .bool g1, .int .i64 k1, .int .i64 n1, .string s1] 38)
  have hbb := below_one w (.cells #[.string y1, .bool g1, .int .i64 k1, .int .i64 n1, .string s1] 38)
  go_enter Try.func6, Try.ntmps6
  go_wp2_with fail
  refine (begun_c _).mono ?_
  rintro e w2 ⟨rfl, hc⟩
  have hA := row_kept hA hc
  have HB := Go.Lib.hid (below_to hbb (Nat.le_refl _) hc)
  have HR := Go.Lib.hid (HR.out.below HB.out)
  have HBS := Go.Lib.hid (show w.heap.size + 1 ≤ w2.heap.size from row_lt hA)
  clear hc hbb
  obtain ⟨x0, x1, x2, x3, x4⟩ := row5 hA
  have HA := Go.Lib.hid hA; clear hA
  go_upto_region 4 with (fail)
  refine wp_region_head 4 (by decide) (by kernel_rfl) (W4 a0 len0 cap0 y1 g1 k1 n1 s1 ks ts (w.heap.size + 1) L) (W4_below a0 len0 cap0 y1 g1 k1 n1 s1 ks ts (w.heap.size + 1) L) (by decide +kernel) (by rfl) [13, 14, 15, 16] (by rfl) ?_ ?_
  · intro i o hin ho a w6 hb6 hlen hg
    have x0 := cell_kept x0 hb6
    have x1 := cell_kept x1 hb6
    have x2 := cell_kept x2 hb6
    have x3 := cell_kept x3 hb6
    have x4 := cell_kept x4 hb6
    match i, hin, ho with
    | 0, hin, ho =>
      obtain rfl := Option.some.inj ho
      have h0 := given_old hg 0 (by decide +kernel)
      clear hg
      exact st_yield ho (wanted_none rfl) (.slice a0 len0 cap0) w6 (by simp [execOp, Act.eval, h0, go_sem]) ⟨_, rfl, Below.refl _ _, by rintro t' ⟨⟩; rfl⟩
    | 1, hin, ho =>
      obtain rfl := Option.some.inj ho
      obtain ⟨_, h13, rfl⟩ := given_fed hg 13 (by decide +kernel)
      clear hg
      exact st_enter (w1 := w6) ho (wanted_none rfl) 8 #[.slice a0 len0 cap0, .int .i64 15] (by simp [execOp, Act.eval, h13, resolve, go_sem]) ((C0.out _ (HR.out.below hb6)).mono (by rintro e w7 ⟨v, rfl, hown, hb7⟩; exact ⟨v, rfl, _, rfl, hb7, by rintro t' ⟨⟩; exact hown.mono (Nat.le_trans HBS.out hb6.size)⟩))
    | 2, hin, ho =>
      obtain rfl := Option.some.inj ho
      have h4 := given_old hg 4 (by decide +kernel)
      clear hg
      exact st_yield ho (wanted_none rfl) (.agg #[.string y1, .bool g1, .int .i64 k1, .int .i64 n1, .string s1]) w6 (by simp [execOp, Act.eval, h4, go_sem, x0, x1, x2, x3, x4]) ⟨_, rfl, Below.refl _ _, by rintro t' ⟨⟩; rfl⟩
    | 3, hin, ho =>
      obtain rfl := Option.some.inj ho
      obtain ⟨_, h15, rfl⟩ := given_fed hg 15 (by decide +kernel)
      clear hg
      exact st_enter (w1 := w6) ho (wanted_none rfl) 18 #[.agg #[.string y1, .bool g1, .int .i64 k1, .int .i64 n1, .string s1]] (by simp [execOp, Act.eval, h15, resolve, go_sem]) ((CC.out _).mono (by rintro e w7 ⟨rfl, hb7⟩; exact ⟨_, rfl, _, rfl, hb7, by rintro t' ⟨⟩; rfl⟩))
    | n + 4, hin, ho => omega
  · intro f w8 hb8 hv
    have h14 := hv 14 (by decide)
    have h16 := hv 16 (by decide)
    clear hv
    simp only [W4] at h14 h16
    have hA := row_kept HA.out hb8
    have hbb := below_to HB.out (Nat.le_refl _) hb8
    have hS := setRow_heap w8 w.heap.size _ #[.string ks, .bool g1, .int .i64 k1, .int .i64 n1, .string ts] 38 (0, 0) hA
    have hbb := setRow_below #[.string ks, .bool g1, .int .i64 k1, .int .i64 n1, .string ts] hbb (Nat.le_refl _)
    have hU := h14.setRow (Nat.lt_succ_self _) #[.string ks, .bool g1, .int .i64 k1, .int .i64 n1, .string ts]
    have HA := Go.Lib.hid hA
    have HS := Go.Lib.hid hS
    have HB := Go.Lib.hid hbb
    have HU := Go.Lib.hid hU.rs
    clear hb8 hA hbb hS hU h14 x0 x1 x2 x3 x4 C0 CC HR HBS
    unfold putAll
    simp only [List.foldl, List.drop]
    simp only [h16]
    generalize f 14 = u0 at *
    go_simp
    obtain ⟨au, cu, rfl, hum⟩ := HU.out.form
    by_cases hneg : a2 < 0
    · go_wp2_with (first
        | (with_reducible show wpList _ _ _ (⟨none, Op.store 38 (.tmp 4) (.tmp 16), _, _, _, _⟩ :: _) _ _; go_loud (refine wpList_store_row rfl 38 (.tmp 4) (.tmp 16) rfl w.heap.size #[.string ks, .bool g1, .int .i64 k1, .int .i64 n1, .string ts] rfl rfl 38 _ HA.out (by kernel_rfl) rfl (rec_cells_one ..) ?_; clear HA; generalize w8.setRow w.heap.size #[.string ks, .bool g1, .int .i64 k1, .int .i64 n1, .string ts] = wr at *))
        | fail)
      go_ret
      exact ⟨rfl, HB.out⟩
    · obtain ⟨j, rfl⟩ : ∃ j : Nat, a2 = (j : Int) := ⟨a2.toNat, by omega⟩
      by_cases hjl : (L.length : Int) < (j : Int)
      · go_wp2_with (first
          | (with_reducible show wpList _ _ _ (⟨none, Op.store 38 (.tmp 4) (.tmp 16), _, _, _, _⟩ :: _) _ _; go_loud (refine wpList_store_row rfl 38 (.tmp 4) (.tmp 16) rfl w.heap.size #[.string ks, .bool g1, .int .i64 k1, .int .i64 n1, .string ts] rfl rfl 38 _ HA.out (by kernel_rfl) rfl (rec_cells_one ..) ?_; clear HA; generalize w8.setRow w.heap.size #[.string ks, .bool g1, .int .i64 k1, .int .i64 n1, .string ts] = wr at *))
          | fail)
        go_ret
        exact ⟨rfl, HB.out⟩
      · have hj : j ≤ L.length := by omega
        obtain ⟨ml, hml⟩ : ∃ ml, mayRow L = ml := ⟨_, rfl⟩
        have HML := Go.Lib.hid hml
        have HJ := Go.Lib.hid hj
        clear hml hj
        go_wp2_with (first
          | (with_reducible show wpList _ _ _ (⟨none, Op.store 38 (.tmp 4) (.tmp 16), _, _, _, _⟩ :: _) _ _; go_loud (refine wpList_store_row rfl 38 (.tmp 4) (.tmp 16) rfl w.heap.size #[.string ks, .bool g1, .int .i64 k1, .int .i64 n1, .string ts] rfl rfl 38 _ HA.out (by kernel_rfl) rfl (rec_cells_one ..) ?_; clear HA; generalize w8.setRow w.heap.size #[.string ks, .bool g1, .int .i64 k1, .int .i64 n1, .string ts] = wr at *))
          | fail)
        refine (rmayall_ok HU.out OKL.out HML.out).mono ?_
        rintro e w9 ⟨rfl, hc⟩
        have hA := row_kept HS.out hc
        have HU := Go.Lib.hid (HU.out.below hc)
        have HB := Go.Lib.hid (below_to HB.out (Nat.le_refl _) hc)
        clear hc HS
        cases ml with
        | false =>
          clear hA
          go_wp2_with fail
          go_ret
          exact ⟨rfl, HB.out⟩
        | true =>
        obtain ⟨v32, ht1, hs1⟩ := HU.out.run_h j HJ.out .i64
        obtain ⟨v39, ht2, hs2⟩ := HU.out.run_l j HJ.out .i64
        have hrow := row_with (j := j) (x := (ks, g1, k1, n1, ts)) HML.out HLL.out
        rw [HMX.out] at hrow
        have hla : (L.take j).length ≤ 15 := Nat.le_trans (List.length_take_le' ..) HLL.out
        have hlb : (L.drop j).length ≤ 15 := by rw [List.length_drop]; have := HLL.out; omega
        have hok : ∀ x ∈ L.take j ++ [(ks, g1, k1, n1, ts)] ++ L.drop j, RecOk x := by
          intro x hx
          rcases List.mem_append.1 hx with hx | hx
          · rcases List.mem_append.1 hx with hx | hx
            · exact OKL.out x (List.mem_of_mem_take hx)
            · rw [List.mem_singleton.1 hx]; exact OKX.out
          · exact OKL.out x (List.mem_of_mem_drop hx)
        generalize L.take j = La at *
        generalize L.drop j = Lb at *
        have HT1 := Go.Lib.hid ht1
        have HT2 := Go.Lib.hid ht2
        have HS1 := Go.Lib.hid hs1
        have HS2 := Go.Lib.hid hs2
        have HLA := Go.Lib.hid hla
        have HLB := Go.Lib.hid hlb
        have HOK := Go.Lib.hid hok
        have HRW := Go.Lib.hid hrow
        have HA := Go.Lib.hid hA
        clear ht1 ht2 hla hlb hok hrow
        obtain ⟨x0, x1, x2, x3, x4⟩ := row5 hA
        clear hA hs1 hs2
        go_upto_region 7 with (fail)
        refine wp_region_inv3 (by kernel_rfl) (W7 au L.length cu j v32 v39 ks g1 k1 n1 ts) (IB w9 w9.heap.size La (ks, g1, k1, n1, ts) Lb) (by decide +kernel) (by decide +kernel) (by rfl) [30, 31, 32, 33, 34, 35, 36, 37, 38, 39, 40, 8] (by rfl) (IB.start _ _ _ _ _) ?_ ?_
        · intro i o ho a w6 done hI hnot hr hsh hlen hg
          have hb6 := hI.1.1
          have hlen : a.tmps.size = 15 + 41 := hlen
          have x0 := cell_kept x0 hb6
          have x1 := cell_kept x1 hb6
          have x2 := cell_kept x2 hb6
          have x3 := cell_kept x3 hb6
          have x4 := cell_kept x4 hb6
          have hs1 := fun W => HS1.out W
          have hs2 := fun W => HS2.out W
          match i, ho with
          | 0, ho =>
            obtain rfl := Option.some.inj ho
            have h0 := given_old hg 0 (by decide +kernel)
            clear hg
            exact st_yield ho (wanted_none rfl) (.slice au L.length cu) w6 (by simp [execOp, Act.eval, h0, go_sem]) ⟨_, rfl, hI.keep 0 (by decide) 30 (by decide) _ (Below.refl _ _), fun t u _ h => W7_any au L.length cu j v32 v39 ks g1 k1 n1 ts t _ _ u h, by rintro t' ⟨⟩; rfl⟩
          | 1, ho =>
            obtain rfl := Option.some.inj ho
            have h2 := given_old hg 2 (by decide +kernel)
            clear hg
            exact st_yield ho (wanted_none rfl) (.int .i64 (j : Int)) w6 (by simp [execOp, Act.eval, h2, go_sem]) ⟨_, rfl, hI.keep 1 (by decide) 31 (by decide) _ (Below.refl _ _), fun t u _ h => W7_any au L.length cu j v32 v39 ks g1 k1 n1 ts t _ _ u h, by rintro t' ⟨⟩; rfl⟩
          | 2, ho =>
            obtain rfl := Option.some.inj ho
            obtain ⟨_, h30, rfl⟩ := given_fed hg 30 (by decide +kernel)
            obtain ⟨_, h31, rfl⟩ := given_fed hg 31 (by decide +kernel)
            clear hg
            exact st_yield ho (wanted_none rfl) (v32) w6 (by simp [execOp, Act.eval, h30, h31, go_sem, hs1]) ⟨_, rfl, hI.keep 2 (by decide) 32 (by decide) _ (Below.refl _ _), fun t u _ h => W7_any au L.length cu j v32 v39 ks g1 k1 n1 ts t _ _ u h, by rintro t' ⟨⟩; rfl⟩
          | 3, ho =>
            obtain rfl := Option.some.inj ho
            obtain ⟨v32', h32, p32⟩ := given_fed hg 32 (by decide +kernel)
            have p32 : v32' = v32 := p32
            rw [p32] at h32
            clear hg
            have h6 : done 6 = false := by cases h : done 6 with | false => rfl | true => have := hsh 6 3 h (by decide +kernel); rw [hnot] at this; cases this
            have h10 : done 10 = false := by cases h : done 10 with | false => rfl | true => have := hsh 10 3 h (by decide +kernel); rw [hnot] at this; cases this
            have h11 : done 11 = false := by cases h : done 11 with | false => rfl | true => have := hsh 11 3 h (by decide +kernel); rw [hnot] at this; cases this
            refine st_list ho (wanted_none rfl) fun Q' hQ => wpList_append_recs rfl (.const (.slice none 0 0)) (.tmp 32) rfl w9.heap.size (.slice none 0 0) v32 [] La rfl (by simp [Act.eval, h32]) (OwnRec.nil _ _) (HT1.out _ (HU.out.below hb6)) (by have := HLA.out; simp; omega) hI.1.2 ?_
            intro v' w7 hown7 hg7
            exact wpList_nil (hQ _ _ ⟨v', rfl, hI.s3 h6 h10 h11 hlen hown7 (grown_below hg7 (Nat.le_refl _) (by simp [Value.ownBlock])), fun t u _ h => W7_any au L.length cu j v32 v39 ks g1 k1 n1 ts t _ _ u h, by rintro t' ⟨⟩; trivial⟩)
          | 4, ho =>
            obtain rfl := Option.some.inj ho
            have h4 := given_old hg 4 (by decide +kernel)
            clear hg
            exact st_yield ho (wanted_none rfl) (.agg #[.string ks, .bool g1, .int .i64 k1, .int .i64 n1, .string ts]) w6 (by simp [execOp, Act.eval, h4, go_sem, x0, x1, x2, x3, x4]) ⟨_, rfl, hI.keep 4 (by decide) 34 (by decide) _ (Below.refl _ _), fun t u _ h => W7_any au L.length cu j v32 v39 ks g1 k1 n1 ts t _ _ u h, by rintro t' ⟨⟩; rfl⟩
          | 5, ho =>
            obtain rfl := Option.some.inj ho
            obtain ⟨_, h34, rfl⟩ := given_fed hg 34 (by decide +kernel)
            clear hg
            have h6 : done 6 = false := by cases h : done 6 with | false => rfl | true => have := hsh 6 5 h (by decide +kernel); rw [hnot] at this; cases this
            have h10 : done 10 = false := by cases h : done 10 with | false => rfl | true => have := hsh 10 5 h (by decide +kernel); rw [hnot] at this; cases this
            have h11 : done 11 = false := by cases h : done 11 with | false => rfl | true => have := hsh 11 5 h (by decide +kernel); rw [hnot] at this; cases this
            exact st_yield ho (wanted_none rfl) (.slice (some ⟨w6.heap.size, 0, none⟩) 1 1) (w6.alloc (.cells #[.string ks, .bool g1, .int .i64 k1, .int .i64 n1, .string ts] 38)) (by simp [execOp, Act.eval, h34, go_sem]) ⟨_, rfl, hI.s5 h6 h10 h11 hlen (RS.one' w6 ks g1 k1 n1 ts) (below_one _ _), fun t u _ h => W7_any au L.length cu j v32 v39 ks g1 k1 n1 ts t _ _ u h, by rintro t' ⟨⟩; trivial⟩
          | 6, ho =>
            obtain rfl := Option.some.inj ho
            clear hg
            have h10 : done 10 = false := by cases h : done 10 with | false => rfl | true => have := hsh 10 6 h (by decide +kernel); rw [hnot] at this; cases this
            have h11 : done 11 = false := by cases h : done 11 with | false => rfl | true => have := hsh 11 6 h (by decide +kernel); rw [hnot] at this; cases this
            obtain ⟨v33, h33, o33⟩ := hI.2.1 (hr 3 (by decide +kernel)) hnot
            obtain ⟨v35, h35, o35⟩ := hI.2.2.1 (hr 5 (by decide +kernel)) hnot
            refine st_list ho (wanted_none rfl) fun Q' hQ => wpList_append_recs rfl (.tmp 33) (.tmp 35) rfl w9.heap.size v33 v35 La [(ks, g1, k1, n1, ts)] (by simp [Act.eval, h33]) (by simp [Act.eval, h35]) o33 o35 (by have := HLA.out; simp; omega) hI.1.2 ?_
            intro v' w7 hown7 hg7
            exact wpList_nil (hQ _ _ ⟨v', rfl, hI.s6 h10 h11 hlen hown7 (hI.1.1.grown hg7 hI.1.2 o33.row) hg7.size, fun t u _ h => W7_any au L.length cu j v32 v39 ks g1 k1 n1 ts t _ _ u h, by rintro t' ⟨⟩; trivial⟩)
          | 7, ho =>
            obtain rfl := Option.some.inj ho
            have h0 := given_old hg 0 (by decide +kernel)
            clear hg
            exact st_yield ho (wanted_none rfl) (.slice au L.length cu) w6 (by simp [execOp, Act.eval, h0, go_sem]) ⟨_, rfl, hI.keep 7 (by decide) 37 (by decide) _ (Below.refl _ _), fun t u _ h => W7_any au L.length cu j v32 v39 ks g1 k1 n1 ts t _ _ u h, by rintro t' ⟨⟩; rfl⟩
          | 8, ho =>
            obtain rfl := Option.some.inj ho
            have h2 := given_old hg 2 (by decide +kernel)
            clear hg
            exact st_yield ho (wanted_none rfl) (.int .i64 (j : Int)) w6 (by simp [execOp, Act.eval, h2, go_sem]) ⟨_, rfl, hI.keep 8 (by decide) 38 (by decide) _ (Below.refl _ _), fun t u _ h => W7_any au L.length cu j v32 v39 ks g1 k1 n1 ts t _ _ u h, by rintro t' ⟨⟩; rfl⟩
          | 9, ho =>
            obtain rfl := Option.some.inj ho
            obtain ⟨_, h37, rfl⟩ := given_fed hg 37 (by decide +kernel)
            obtain ⟨_, h38, rfl⟩ := given_fed hg 38 (by decide +kernel)
            clear hg
            exact st_yield ho (wanted_none rfl) (v39) w6 (by simp [execOp, Act.eval, h37, h38, go_sem, hs2]) ⟨_, rfl, hI.keep 9 (by decide) 39 (by decide) _ (Below.refl _ _), fun t u _ h => W7_any au L.length cu j v32 v39 ks g1 k1 n1 ts t _ _ u h, by rintro t' ⟨⟩; rfl⟩
          | 10, ho =>
            obtain rfl := Option.some.inj ho
            obtain ⟨v39', h39, p39⟩ := given_fed hg 39 (by decide +kernel)
            have p39 : v39' = v39 := p39
            rw [p39] at h39
            clear hg
            have h11 : done 11 = false := by cases h : done 11 with | false => rfl | true => have := hsh 11 10 h (by decide +kernel); rw [hnot] at this; cases this
            obtain ⟨v36, h36, o36⟩ := hI.2.2.2.1 (hr 6 (by decide +kernel)) hnot
            refine st_list ho (wanted_none rfl) fun Q' hQ => wpList_append_recs rfl (.tmp 36) (.tmp 39) rfl w9.heap.size v36 v39 (La ++ [(ks, g1, k1, n1, ts)]) Lb (by simp [Act.eval, h36]) (by simp [Act.eval, h39]) o36 (HT2.out _ (HU.out.below hb6)) (by have := HLA.out; have := HLB.out; rw [List.length_append, List.length_singleton]; omega) hI.1.2 ?_
            intro v' w7 hown7 hg7
            exact wpList_nil (hQ _ _ ⟨v', rfl, hI.s10 (hr 6 (by decide +kernel)) h11 hlen hown7 (hI.1.1.grown hg7 hI.1.2 o36.row) hg7.size, fun t u _ h => W7_any au L.length cu j v32 v39 ks g1 k1 n1 ts t _ _ u h, by rintro t' ⟨⟩; trivial⟩)
          | 11, ho =>
            obtain rfl := Option.some.inj ho
            clear hg
            obtain ⟨v40, h40, o40⟩ := hI.2.2.2.2.1 (hr 10 (by decide +kernel)) hnot
            exact st_yield ho (wanted_none rfl) v40 w6 (by simp [execOp, Act.eval, h40, go_sem]) ⟨_, rfl, hI.s11 (hr 6 (by decide +kernel)) (hr 10 (by decide +kernel)) hlen o40, fun _ _ _ h => h, by rintro t' ⟨⟩; trivial⟩
          | n + 12, ho => simp at ho
        · intro f w10 done hall hI hv
          obtain ⟨um, h8, o8⟩ := hI.2.2.2.2.2 (hall 11 (by decide))
          have hb := hI.1.1
          rw [putAll_tmps, if_pos ⟨by decide, (show (8 : Nat) < 56 by decide)⟩] at h8
          have e8 := Option.some.inj h8
          have hA := row_kept HA.out hb
          have HM := Go.Lib.hid o8.rs
          have HB := Go.Lib.hid (below_to HB.out (Nat.le_refl _) hb)
          clear hI hv hall hb o8 h8 x0 x1 x2 x3 x4 HA HT1 HT2 HS1 HS2 HU
          unfold putAll
          simp only [List.foldl]
          simp only [e8]
          go_simp
          go_wp2_with fail
          refine (bencode_c um _ w10 HM.out HOK.out).mono ?_
          rintro e w11 ⟨v, rfl, hown, hc⟩
          have hA := row_kept hA hc
          have HM := Go.Lib.hid (HM.out.below hc)
          have HB := Go.Lib.hid (below_to HB.out (Nat.le_refl _) hc)
          have hgt := rowE_pos (La ++ [(ks, g1, k1, n1, ts)] ++ Lb)
          rw [HRW.out] at hgt
          obtain ⟨ae, ce, rfl, -⟩ := hown.rb
          generalize (rowE (La ++ [(ks, g1, k1, n1, ts)] ++ Lb)).length = ne at *
          have HGN := Go.Lib.hid hgt
          have CM := Go.Lib.hid fun W (h : RS W um (La ++ [(ks, g1, k1, n1, ts)] ++ Lb)) => bmay_ok h HOK.out HRW.out
          obtain ⟨x0, x1, x2, x3, x4⟩ := row5 hA
          clear hc hown hgt hA
          go_upto_region 9 with (fail)
          refine wp_region_each (by kernel_rfl) (W9 um ks g1 k1 n1 ts ae ne ce mx) (W9_below um ks g1 k1 n1 ts ae ne ce mx) (by decide +kernel) (by decide +kernel) (by rfl) [43, 44, 45, 46, 47, 48, 49, 50, 51, 52, 53, 54, 55, 6] (by rfl) ?_ ?_
          · intro i o ho a w6 hb6 hlen hg
            have x0 := cell_kept x0 hb6
            have x1 := cell_kept x1 hb6
            have x2 := cell_kept x2 hb6
            have x3 := cell_kept x3 hb6
            have x4 := cell_kept x4 hb6
            have hgN := HGN.out
            match i, ho with
            | 0, ho =>
              obtain rfl := Option.some.inj ho
              have h8 := given_old hg 8 (by decide +kernel)
              clear hg
              exact st_yield ho (wanted_none rfl) (um) w6 (by simp [execOp, Act.eval, h8, go_sem]) ⟨_, rfl, Below.refl _ _, by rintro t' ⟨⟩; rfl⟩
            | 1, ho =>
              obtain rfl := Option.some.inj ho
              obtain ⟨v43', h43, p43⟩ := given_fed hg 43 (by decide +kernel)
              have p43 : v43' = um := p43
              rw [p43] at h43
              clear hg
              exact st_enter (w1 := w6) ho (wanted_none rfl) 10 #[um] (by simp [execOp, Act.eval, h43, resolve, go_sem]) ((CM.out _ (HM.out.below hb6)).mono (by rintro e w7 ⟨rfl, hb7⟩; exact ⟨_, rfl, _, rfl, hb7, by rintro t' ⟨⟩; rfl⟩))
            | 2, ho =>
              obtain rfl := Option.some.inj ho
              have h4 := given_old hg 4 (by decide +kernel)
              clear hg
              exact st_yield ho (wanted_none rfl) (.agg #[.string ks, .bool g1, .int .i64 k1, .int .i64 n1, .string ts]) w6 (by simp [execOp, Act.eval, h4, go_sem, x0, x1, x2, x3, x4]) ⟨_, rfl, Below.refl _ _, by rintro t' ⟨⟩; rfl⟩
            | 3, ho =>
              obtain rfl := Option.some.inj ho
              obtain ⟨_, h45, rfl⟩ := given_fed hg 45 (by decide +kernel)
              clear hg
              exact st_enter (w1 := w6) ho (wanted_none rfl) 19 #[.agg #[.string ks, .bool g1, .int .i64 k1, .int .i64 n1, .string ts]] (by simp [execOp, Act.eval, h45, resolve, go_sem]) ((CX.out _).mono (by rintro e w7 ⟨rfl, hb7⟩; exact ⟨_, rfl, _, rfl, hb7, by rintro t' ⟨⟩; rfl⟩))
            | 4, ho =>
              obtain rfl := Option.some.inj ho
              obtain ⟨_, h44, rfl⟩ := given_fed hg 44 (by decide +kernel)
              obtain ⟨_, h46, rfl⟩ := given_fed hg 46 (by decide +kernel)
              clear hg
              exact st_yield ho (wanted_none rfl) (.bool true) w6 (by simp [execOp, Act.eval, h44, h46, go_sem]) ⟨_, rfl, Below.refl _ _, by rintro t' ⟨⟩; rfl⟩
            | 5, ho =>
              obtain rfl := Option.some.inj ho
              obtain ⟨_, h47, rfl⟩ := given_fed hg 47 (by decide +kernel)
              clear hg
              exact st_yield ho (wanted_none rfl) (.bool true) w6 (by simp [execOp, Act.eval, h47, go_sem]) ⟨_, rfl, Below.refl _ _, by rintro t' ⟨⟩; rfl⟩
            | 6, ho =>
              obtain rfl := Option.some.inj ho
              have h9 := given_old hg 9 (by decide +kernel)
              obtain ⟨_, h48, rfl⟩ := given_fed hg 48 (by decide +kernel)
              clear hg
              exact st_yield ho (wanted_some rfl rfl h48 rfl) (.slice ae ne ce) w6 (by simp [execOp, Act.eval, h9, go_sem]) ⟨_, rfl, Below.refl _ _, by rintro t' ⟨⟩; rfl⟩
            | 7, ho =>
              obtain rfl := Option.some.inj ho
              obtain ⟨_, h49, rfl⟩ := given_fed hg 49 (by decide +kernel)
              obtain ⟨_, h48, rfl⟩ := given_fed hg 48 (by decide +kernel)
              clear hg
              exact st_yield ho (wanted_some rfl rfl h48 rfl) (.int .i64 (ne : Int)) w6 (by simp [execOp, Act.eval, h49, go_sem, resolve]) ⟨_, rfl, Below.refl _ _, by rintro t' ⟨⟩; rfl⟩
            | 8, ho =>
              obtain rfl := Option.some.inj ho
              obtain ⟨_, h50, rfl⟩ := given_fed hg 50 (by decide +kernel)
              obtain ⟨_, h48, rfl⟩ := given_fed hg 48 (by decide +kernel)
              clear hg
              exact st_yield ho (wanted_some rfl rfl h48 rfl) (.bool mx) w6 (by simp [execOp, Act.eval, h50, go_sem, hgN]) ⟨_, rfl, Below.refl _ _, by rintro t' ⟨⟩; rfl⟩
            | 9, ho =>
              obtain rfl := Option.some.inj ho
              have h4 := given_old hg 4 (by decide +kernel)
              obtain ⟨_, h48, rfl⟩ := given_fed hg 48 (by decide +kernel)
              clear hg
              exact st_yield ho (wanted_some rfl rfl h48 rfl) (.agg #[.string ks, .bool g1, .int .i64 k1, .int .i64 n1, .string ts]) w6 (by simp [execOp, Act.eval, h4, go_sem, x0, x1, x2, x3, x4]) ⟨_, rfl, Below.refl _ _, by rintro t' ⟨⟩; rfl⟩
            | 10, ho =>
              obtain rfl := Option.some.inj ho
              obtain ⟨_, h52, rfl⟩ := given_fed hg 52 (by decide +kernel)
              obtain ⟨_, h48, rfl⟩ := given_fed hg 48 (by decide +kernel)
              clear hg
              exact st_enter (w1 := w6) ho (wanted_some rfl rfl h48 rfl) 19 #[.agg #[.string ks, .bool g1, .int .i64 k1, .int .i64 n1, .string ts]] (by simp [execOp, Act.eval, h52, resolve, go_sem]) ((CX.out _).mono (by rintro e w7 ⟨rfl, hb7⟩; exact ⟨_, rfl, _, rfl, hb7, by rintro t' ⟨⟩; rfl⟩))
            | 11, ho =>
              obtain rfl := Option.some.inj ho
              obtain ⟨_, h51, rfl⟩ := given_fed hg 51 (by decide +kernel)
              obtain ⟨_, h53, rfl⟩ := given_fed hg 53 (by decide +kernel)
              obtain ⟨_, h48, rfl⟩ := given_fed hg 48 (by decide +kernel)
              clear hg
              exact st_yield ho (wanted_some rfl rfl h48 rfl) (.bool true) w6 (by simp [execOp, Act.eval, h51, h53, go_sem]) ⟨_, rfl, Below.refl _ _, by rintro t' ⟨⟩; rfl⟩
            | 12, ho =>
              obtain rfl := Option.some.inj ho
              obtain ⟨_, h48, rfl⟩ := given_fed hg 48 (by decide +kernel)
              obtain ⟨_, h54, rfl⟩ := given_fed hg 54 (by decide +kernel)
              clear hg
              exact st_yield ho (wanted_none rfl) (.bool true) w6 (by simp [execOp, Act.eval, h48, h54, go_sem]) ⟨_, rfl, Below.refl _ _, by rintro t' ⟨⟩; rfl⟩
            | 13, ho =>
              obtain rfl := Option.some.inj ho
              obtain ⟨_, h55, rfl⟩ := given_fed hg 55 (by decide +kernel)
              clear hg
              exact st_yield ho (wanted_none rfl) (.bool true) w6 (by simp [execOp, Act.eval, h55, go_sem]) ⟨_, rfl, Below.refl _ _, by rintro t' ⟨⟩; rfl⟩
            | n + 14, ho => simp at ho
          · intro f w12 hb12 hv
            have h6 := hv 6 (by decide)
            simp only [W9] at h6
            have HB := Go.Lib.hid (below_to HB.out (Nat.le_refl _) hb12)
            clear hv hb12
            unfold putAll
            simp only [List.foldl]
            simp only [h6]
            go_simp
            go_wp2_with fail
            go_ret
            exact ⟨rfl, HB.out⟩

/-! ### THE ROW -/
set_option maxRecDepth 100000 in
theorem lifted (os : Os) (started : os.Started) (H : Type) (enc : TypeId × Value → H) :
    ReturnsInHanded {} Try.checked os 6 .any (Rows.batchOneSpec.pre6 enc Try.prog Try.f6 Rows.batchOneRow.domain false) (Rows.batchOneSpec.post enc Try.prog Try.f6 false true false false) := by
  refine returnsInHanded_of_change (C := Try.checked) own started (by kernel_rfl) Try.func6
    (ChangeSpec.witness6 (enc := enc) (C := Try.checked) false ⟨#[], #[.slice none 0 0, .agg #[.string ByteArray.empty, .bool false, .int .i64 0, .int .i64 0, .string ByteArray.empty], .int .i64 0], []⟩ 8 (by kernel_rfl) (by kernel_rfl) (by kernel_rfl) (by kernel_rfl)) ?_
  intro W base args ds gs before hval0 hW hcnd _
  have hval : ∀ (j : Nat) t v, Try.f6.params[j]? = some t → args[j]? = some v → Value.okWide Try.prog W .any base t v := hval0
  have hW' := hW
  obtain ⟨p, q, hA0, hV, rfl, hfz, hnd⟩ := hW
  have hA : DataW.TrodAll enc Try.prog W 0 (fun _ => true) true Try.f6.params.toList args.toList ds p := hA0
  rw [Try.params6] at hA hval
  obtain ⟨v0, vs0, d0, ds0, p0, q0, hargs, rfl, rfl, h0, r0⟩ := trodAll_cons hA
  obtain ⟨v1, vs1, d1, ds1, p1, q1, rfl, rfl, rfl, h1, r1⟩ := trodAll_cons r0
  obtain ⟨v2, vs2, d2, ds2, p2, q2, rfl, rfl, rfl, h2, r2⟩ := trodAll_cons r1
  obtain ⟨rfl, rfl, rfl⟩ := trodAll_nil r2
  obtain rfl : args = #[v0, v1, v2] := by cases args; simp_all
  obtain ⟨rfl, rfl⟩ := trodVars_none hV
  have kk0 := h0
  have lt0 : ∀ x ∈ p0, x.block < W.heap.size := by obtain ⟨m, hm⟩ := kk0; exact DataW.trod_lt m _ _ _ hm
  have kk1 := h1
  have lt1 : ∀ x ∈ p1, x.block < W.heap.size := by obtain ⟨m, hm⟩ := kk1; exact DataW.trod_lt m _ _ _ hm
  have kk2 := h2
  have lt2 : ∀ x ∈ p2, x.block < W.heap.size := by obtain ⟨m, hm⟩ := kk2; exact DataW.trod_lt m _ _ _ hm
  obtain ⟨a0, len0, cap0, rfl⟩ := okWide_slice Try.underlying22 (hval 0 22 v0 rfl rfl)
  obtain ⟨l0, w0⟩ := open_recs h0
  obtain ⟨y1, g1, k1, n1, s1, rfl, w1⟩ := open_rec (hval 1 38 v1 rfl rfl) h1
  obtain ⟨a2, rfl, rfl, rfl, w2⟩ := open_int Try.underlying3 (hval 2 3 v2 rfl rfl) h2
  clear hA0 hval0
  refine (walk W a0 len0 cap0 l0 w0 y1 g1 k1 n1 s1 w1 a2 w2).mono fun e W' ⟨he, bel⟩ => ?_
  subst he
  exact ⟨_, rfl, _, _, _, [], _, [], hW', trodAll_mk1 (shut_bool Try.underlying4 _), (trodAll_cons_mk (Below.trod laidOut (by kernel_rfl) (of_decide_eq_true (by kernel_rfl)) kk0 bel lt0) (trodAll_cons_mk (Below.trod laidOut (by kernel_rfl) (of_decide_eq_true (by kernel_rfl)) kk1 bel lt1) (trodAll_cons_mk (Below.trod laidOut (by kernel_rfl) (of_decide_eq_true (by kernel_rfl)) kk2 bel lt2) trodAll_mk0))), rfl, bel.frame _, fun h => by cases h⟩

theorem over : Rows.batchOneRow.holds Try.pinned (OpenSpec.ofChange Rows.batchOneSpec) :=
  OpenClaim.holds_of_wide 6 Try.f6 rfl rfl rfl rfl rfl rfl rfl ⟨rfl, rfl, rfl, rfl, rfl⟩ rfl rfl rfl rfl rfl (by kernel_rfl) Try.func6 (by kernel_rfl)
    (of_decide_eq_true (by kernel_rfl)) (by unfold Func.isWrapper; first | (rw [if_pos (by decide +kernel)]; kernel_rfl) | (rw [if_neg (by decide +kernel)]; exact ⟨rfl, rfl⟩))
    (fun os started H enc _ => lifted os started H enc)

theorem proved : Rows.BatchOneSaid := over
#print axioms proved
end Go.Proofs.Ytoaiogfeffnlcaa.batchOne
