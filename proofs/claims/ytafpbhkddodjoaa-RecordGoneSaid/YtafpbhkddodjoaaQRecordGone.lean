/- RecordGone: a key that is gone is another record than one with any value, and its bytes are fewer: for every record the law returns true. -/
import Derived.Test.YtafpbhkddodjoaaRows
import Derived.WalkKit
import Derived.ProofKit
import Derived.OpenShut
import Derived.ShutString
import Derived.ChangeOld
import Derived.Below
import Derived.Test.YtafpbhkddodjoaaM01
import Derived.Test.YtafpbhkddodjoaaM18
import Derived.Test.YtafpbhkddodjoaaM14
import Derived.Test.YtafpbhkddodjoaaM13
import Derived.Deep.DeepCutAuto
namespace Go.Proofs.Ytafpbhkddodjoaa.recordGone
open Go.ChangeShapes Go.WideShapes Go.ChangeAt Go.RowKit
open Go.ChangeMaps (open_string shut_string)
set_option linter.unusedVariables false

theorem own : ownKnob Try.prog.godebug = none := by kernel_rfl
theorem laidOut : laidOutB Try.prog = true := by kernel_rfl

theorem gone_may {k : ByteArray} {g : Bool} {a b : Int} {s : ByteArray} (h : mayRec k g a b s = true) : mayRec k true 0 0 ⟨#[]⟩ = true := by
  have := (mayRec_key h).1
  unfold mayRec
  rw [this]
  simp [ByteArray.toList_eq]
theorem eq_gone {k : ByteArray} {a b : Int} {s : ByteArray} (h : mayRec k true a b (str (bl s)) = true) : eqRec k true a b s k true 0 0 ⟨#[]⟩ = true := by
  obtain ⟨h1, h2, h3⟩ := mayRec_gone h
  have hs : s = ⟨#[]⟩ := by rw [← str_bl s, h3]; rfl
  subst h1 h2 hs
  have := eqRec_iff (k, true, 0, 0, ⟨#[]⟩) (k, true, 0, 0, ⟨#[]⟩)
  simp only [decide_true] at this
  exact this
theorem eq_val {k : ByteArray} {a b : Int} {s : ByteArray} : eqRec k false a b s k true 0 0 ⟨#[]⟩ = false := by
  have := eqRec_iff (k, false, a, b, s) (k, true, 0, 0, ⟨#[]⟩)
  simp only [Prod.mk.injEq, Bool.false_eq_true, false_and, and_false, decide_false] at this
  exact this
theorem ne_len {A B : List UInt8} (h : B.length < A.length) : ((str A).toList == (str B).toList) = false := by
  rw [ByteArray.toList_eq, ByteArray.toList_eq]
  have : (str A).data.toList ≠ (str B).data.toList := by
    intro e
    have e' : A = B := by simpa [str] using e
    subst e'
    omega
  simpa using this

def W8 (ks : ByteArray) (g0 : Bool) (k0 n0 : Int) (ts : ByteArray) (A B : List UInt8) : Nat → World → Value → Prop
  | 18, _, v => v = .agg #[.string ks, .bool g0, .int .i64 k0, .int .i64 n0, .string ts]
  | 19, w, v => RB w v A
  | 20, _, v => v = .agg #[.string ks, .bool true, .int .i64 0, .int .i64 0, .string ⟨#[]⟩]
  | 21, w, v => RB w v B
  | 5, w, v => RB w v A
  | 6, w, v => RB w v B
  | _, _, _ => True

theorem W8_below (ks : ByteArray) (g0 : Bool) (k0 n0 : Int) (ts : ByteArray) (A B : List UInt8) : ∀ (i : Nat) (w w' : World) (v : Value), W8 ks g0 k0 n0 ts A B i w v → Below w.heap.size w w' → W8 ks g0 k0 n0 ts A B i w' v := by
  intro i w w' v h hb
  unfold W8 at h ⊢
  split at h <;> first | exact h | trivial | exact RB.below h hb | exact Own.below h hb

def W9t (ks : ByteArray) (k0 n0 : Int) (ts : ByteArray) (A B : List UInt8) (a5 : Option Addr) (c5 : Nat) (a6 : Option Addr) (c6 b1 : Nat) : Nat → World → Value → Prop
  | 22, _, v => v = .agg #[.string ks, .bool true, .int .i64 0, .int .i64 0, .string ⟨#[]⟩]
  | 23, _, v => v = .bool true
  | 24, _, v => v = .bool true
  | 25, _, v => v = .agg #[.string ks, .bool true, .int .i64 k0, .int .i64 n0, .string ts]
  | 26, _, v => v = .agg #[.string ks, .bool true, .int .i64 0, .int .i64 0, .string ⟨#[]⟩]
  | 27, _, v => v = .bool true
  | 28, _, v => v = .pointer (some ⟨b1, 1, none⟩)
  | 29, _, v => v = .bool true
  | 30, _, v => v = .bool true
  | 31, _, v => v = .bool true
  | 32, _, v => v = .bool true
  | 33, _, v => v = .pointer (some ⟨b1, 1, none⟩)
  | 34, _, v => v = .bool true
  | 35, _, v => v = .bool true
  | 36, _, v => v = undef
  | 37, _, v => v = undef
  | 38, _, v => v = undef
  | 39, _, v => v = undef
  | 40, _, v => v = undef
  | 41, _, v => v = undef
  | 42, _, v => v = undef
  | 43, _, v => v = undef
  | 44, _, v => v = undef
  | 45, _, v => v = undef
  | 46, _, v => v = undef
  | 47, _, v => v = undef
  | 48, _, v => v = .bool true
  | 49, _, v => v = .bool true
  | 2, _, v => v = .bool true
  | _, _, _ => True

theorem W9t_below (ks : ByteArray) (k0 n0 : Int) (ts : ByteArray) (A B : List UInt8) (a5 : Option Addr) (c5 : Nat) (a6 : Option Addr) (c6 b1 : Nat) : ∀ (i : Nat) (w w' : World) (v : Value), W9t ks k0 n0 ts A B a5 c5 a6 c6 b1 i w v → Below w.heap.size w w' → W9t ks k0 n0 ts A B a5 c5 a6 c6 b1 i w' v := by
  intro i w w' v h hb
  unfold W9t at h ⊢
  split at h <;> first | exact h | trivial | exact RB.below h hb | exact Own.below h hb

def W9f (ks : ByteArray) (k0 n0 : Int) (ts : ByteArray) (A B : List UInt8) (a5 : Option Addr) (c5 : Nat) (a6 : Option Addr) (c6 b1 : Nat) : Nat → World → Value → Prop
  | 22, _, v => v = .agg #[.string ks, .bool true, .int .i64 0, .int .i64 0, .string ⟨#[]⟩]
  | 23, _, v => v = .bool true
  | 24, _, v => v = .bool true
  | 25, _, v => v = .agg #[.string ks, .bool false, .int .i64 k0, .int .i64 n0, .string ts]
  | 26, _, v => v = .agg #[.string ks, .bool true, .int .i64 0, .int .i64 0, .string ⟨#[]⟩]
  | 27, _, v => v = .bool false
  | 28, _, v => v = .pointer (some ⟨b1, 1, none⟩)
  | 29, _, v => v = .bool false
  | 30, _, v => v = .bool true
  | 31, _, v => v = .bool true
  | 32, _, v => v = .bool true
  | 33, _, v => v = .pointer (some ⟨b1, 1, none⟩)
  | 34, _, v => v = .bool false
  | 35, _, v => v = .bool false
  | 36, _, v => v = .slice a6 B.length c6
  | 37, _, v => v = .int .i64 (B.length : Int)
  | 38, _, v => v = .slice a5 A.length c5
  | 39, _, v => v = .int .i64 (A.length : Int)
  | 40, _, v => v = .bool true
  | 41, _, v => v = .bool true
  | 42, _, v => v = .slice a5 A.length c5
  | 43, _, v => v = .string (str A)
  | 44, _, v => v = .slice a6 B.length c6
  | 45, _, v => v = .string (str B)
  | 46, _, v => v = .bool true
  | 47, _, v => v = .bool true
  | 48, _, v => v = .bool true
  | 49, _, v => v = .bool true
  | 2, _, v => v = .bool true
  | _, _, _ => True

theorem W9f_below (ks : ByteArray) (k0 n0 : Int) (ts : ByteArray) (A B : List UInt8) (a5 : Option Addr) (c5 : Nat) (a6 : Option Addr) (c6 b1 : Nat) : ∀ (i : Nat) (w w' : World) (v : Value), W9f ks k0 n0 ts A B a5 c5 a6 c6 b1 i w v → Below w.heap.size w w' → W9f ks k0 n0 ts A B a5 c5 a6 c6 b1 i w' v := by
  intro i w w' v h hb
  unfold W9f at h ⊢
  split at h <;> first | exact h | trivial | exact RB.below h hb | exact Own.below h hb

set_option maxHeartbeats 4000000 in
set_option maxRecDepth 100000 in
theorem walk (w : World) (y0 : ByteArray) (g0 : Bool) (k0 n0 : Int) (s0 : ByteArray) (w0 : RecOk (y0, g0, k0, n0, s0)) :
    Calls Try.prog 7 #[recV y0 g0 k0 n0 s0] w fun e w' => e = .returned (.bool true) ∧ Below w.heap.size w w' := by
  obtain ⟨wy, wk, wn, ws⟩ := w0
  simp only [] at wy wk wn ws
  have c0 := fun W => rcut_c y0 g0 k0 n0 s0 W wy ws
  have hK : ((bl y0).take 20).length ≤ 20 := List.length_take_le _ _
  have hT : ((bl s0).take 30).length ≤ 30 := List.length_take_le _ _
  generalize (bl y0).take 20 = K at *
  generalize (bl s0).take 30 = T at *
  obtain ⟨b1, b2⟩ := bounds_i64 wn
  have b2 : n0 ≤ 9223372036854775807 := by omega
  have cm := fun W => rmayrec_c (str K) g0 k0 n0 (str T) W (by rw [str_size]; unfold maxLen; omega) (by rw [str_size]; unfold maxLen; omega)
  clear wy wk wn ws hK hT
  unfold recV at c0 cm ⊢
  have hA := heap_alloc_new w (.cells #[.string y0, .bool g0, .int .i64 k0, .int .i64 n0, .string s0] 25)
  have hbb := below_one w (.cells #[.string y0, .bool g0, .int .i64 k0, .int .i64 n0, .string s0] 25)
  have C0 := Go.Lib.hid c0; clear c0
  have CM := Go.Lib.hid cm; clear cm
  have B1 := Go.Lib.hid b1; clear b1
  have B2 := Go.Lib.hid b2; clear b2
  go_enter Try.func7, Try.ntmps7
  go_wp2_with fail
  refine (begun_c _).mono ?_
  rintro e w1 ⟨rfl, hc⟩
  have hA := row_kept hA hc
  have hbb := hbb.trans (hc.mono hbb.size)
  clear hc
  obtain ⟨x0, x1, x2, x3, x4⟩ := row5 hA
  have HA := Go.Lib.hid hA; clear hA
  go_wp2_with fail
  refine (C0.out _).mono ?_
  rintro e w2 ⟨rfl, hc⟩
  have hA := row_kept HA.out hc
  have hbb := hbb.trans (hc.mono hbb.size)
  clear hc x0 x1 x2 x3 x4 HA C0
  generalize hks : str K = ks at *
  generalize hts : str T = ts at *
  have hS := setRow_heap w2 w.heap.size _ #[.string ks, .bool g0, .int .i64 k0, .int .i64 n0, .string ts] 25 (0, 0) hA
  have hbb := setRow_below #[.string ks, .bool g0, .int .i64 k0, .int .i64 n0, .string ts] hbb (Nat.le_refl _)
  obtain ⟨x0, x1, x2, x3, x4⟩ := row5 hS
  have HA := Go.Lib.hid hA; clear hA
  have HS := Go.Lib.hid hS; clear hS
  have Hks := Go.Lib.hid hks; clear hks
  have Hts := Go.Lib.hid hts; clear hts
  go_wp2_with (first
    | (with_reducible show wpList _ _ _ (⟨none, Op.store 25 (.tmp 1) (.tmp 11), _, _, _, _⟩ :: _) _ _; go_loud (refine wpList_store_row rfl 25 (.tmp 1) (.tmp 11) rfl w.heap.size #[.string ks, .bool g0, .int .i64 k0, .int .i64 n0, .string ts] rfl rfl 25 _ HA.out (by kernel_rfl) rfl (rec_cells_one ..) ?_))
    | fail)
  clear HA
  generalize w2.setRow w.heap.size #[.string ks, .bool g0, .int .i64 k0, .int .i64 n0, .string ts] = u at *
  refine (CM.out _).mono ?_
  rintro e u2 ⟨rfl, hc⟩
  have hA := row_kept HS.out hc
  have hbb := hbb.trans (hc.mono hbb.size)
  clear hc x0 x1 x2 x3 x4 CM HS
  cases hmay : mayRec ks g0 k0 n0 ts with
  | false =>
    clear hA
    go_wp2_with fail
    go_ret
    exact ⟨rfl, hbb⟩
  | true =>
    obtain ⟨x0, x1, x2, x3, x4⟩ := row5 hA
    have hg := gone_may hmay
    have cp1 := fun W => pput_c (.slice none 0 0) [] K g0 k0 n0 T W (RB.nil _) (by rw [Hks.out, Hts.out]; exact hmay) B1.out B2.out (by simp)
    have cp2 := fun W => pput_c (.slice none 0 0) [] K true 0 0 [] W (RB.nil _) (by rw [Hks.out]; exact hg) (by omega) (by omega) (by simp)
    rw [List.nil_append, Hks.out, Hts.out] at cp1
    rw [List.nil_append, Hks.out, show str [] = ⟨#[]⟩ from rfl] at cp2
    have cm2 := fun W => pmay_c ks true 0 0 ⟨#[]⟩ W (by rw [← Hks.out, str_size]; have := (mayRec_key hmay).2; rw [← Hks.out, str_size] at this; unfold maxLen; omega) (by decide)
    rw [hg] at cm2
    have hlt : g0 = false → (recB K true 0 0 []).length < (recB K g0 k0 n0 T).length := by
      rintro rfl
      exact gone_less (by rw [Hks.out, Hts.out]; exact hmay) B1.out B2.out
    generalize recB K g0 k0 n0 T = A at *
    generalize recB K true 0 0 [] = B at *
    unfold recV at cp1 cp2 cm2
    have CP1 := Go.Lib.hid cp1; clear cp1
    have CP2 := Go.Lib.hid cp2; clear cp2
    have CM2 := Go.Lib.hid cm2; clear cm2
    have Hlt := Go.Lib.hid hlt; clear hlt
    have Hmay := Go.Lib.hid hmay; clear hmay hg
    have HA := Go.Lib.hid hA; clear hA
    have hbn := below_one u2 (.cells #[.string ks, .bool true, .int .i64 0, .int .i64 0, .string ⟨#[]⟩] 25)
    have hA := row_kept HA.out hbn
    have hZ := heap_alloc_new u2 (.cells #[.string ks, .bool true, .int .i64 0, .int .i64 0, .string ⟨#[]⟩] 25)
    have hbb := hbb.trans (hbn.mono hbb.size)
    clear hbn HA
    have HA := Go.Lib.hid hA; clear hA
    have HZ := Go.Lib.hid hZ; clear hZ
    go_upto_region 8 with (fail)
    clear x0 x1 x2 x3 x4
    obtain ⟨x0, x1, x2, x3, x4⟩ := row5 HA.out
    obtain ⟨z0, z1, z2, z3, z4⟩ := row5 HZ.out
    generalize u2.alloc (.cells #[.string ks, .bool true, .int .i64 0, .int .i64 0, .string ⟨#[]⟩] 25) = u3 at *
    refine wp_region_each (by kernel_rfl) (W8 ks g0 k0 n0 ts A B) (W8_below ks g0 k0 n0 ts A B) (by decide +kernel) (by decide +kernel) (by rfl) [18, 19, 20, 21, 5, 6] (by rfl) ?_ ?_
    · intro i o ho a w6 hb6 hlen hg
      have x0 := cell_kept x0 hb6
      have x1 := cell_kept x1 hb6
      have x2 := cell_kept x2 hb6
      have x3 := cell_kept x3 hb6
      have x4 := cell_kept x4 hb6
      have z0 := cell_kept z0 hb6
      have z1 := cell_kept z1 hb6
      have z2 := cell_kept z2 hb6
      have z3 := cell_kept z3 hb6
      have z4 := cell_kept z4 hb6
      match i, ho with
      | 0, ho =>
        obtain rfl := Option.some.inj ho
        have h1 := given_old hg 1 (by decide +kernel)
        clear hg
        exact st_yield ho (wanted_none rfl) (.agg #[.string ks, .bool g0, .int .i64 k0, .int .i64 n0, .string ts]) w6 (by simp [execOp, Act.eval, h1, go_sem, x0, x1, x2, x3, x4]) ⟨_, rfl, Below.refl _ _, by rintro t' ⟨⟩; rfl⟩
      | 1, ho =>
        obtain rfl := Option.some.inj ho
        obtain ⟨_, h18, rfl⟩ := given_fed hg 18 (by decide +kernel)
        clear hg
        exact st_enter (w1 := w6) ho (wanted_none rfl) 15 #[.slice none 0 0, .agg #[.string ks, .bool g0, .int .i64 k0, .int .i64 n0, .string ts]] (by simp [execOp, Act.eval, h18, resolve, go_sem]) ((CP1.out _).mono (by rintro e w7 ⟨v, rfl, hown, hb7⟩; exact ⟨v, rfl, _, rfl, hb7, by rintro t' ⟨⟩; exact hown.rb⟩))
      | 2, ho =>
        obtain rfl := Option.some.inj ho
        have h4 := given_old hg 4 (by decide +kernel)
        clear hg
        exact st_yield ho (wanted_none rfl) (.agg #[.string ks, .bool true, .int .i64 0, .int .i64 0, .string ⟨#[]⟩]) w6 (by simp [execOp, Act.eval, h4, go_sem, z0, z1, z2, z3, z4]) ⟨_, rfl, Below.refl _ _, by rintro t' ⟨⟩; rfl⟩
      | 3, ho =>
        obtain rfl := Option.some.inj ho
        obtain ⟨_, h20, rfl⟩ := given_fed hg 20 (by decide +kernel)
        clear hg
        exact st_enter (w1 := w6) ho (wanted_none rfl) 15 #[.slice none 0 0, .agg #[.string ks, .bool true, .int .i64 0, .int .i64 0, .string ⟨#[]⟩]] (by simp [execOp, Act.eval, h20, resolve, go_sem]) ((CP2.out _).mono (by rintro e w7 ⟨v, rfl, hown, hb7⟩; exact ⟨v, rfl, _, rfl, hb7, by rintro t' ⟨⟩; exact hown.rb⟩))
      | 4, ho =>
        obtain rfl := Option.some.inj ho
        obtain ⟨v19, h19, p19⟩ := given_fed hg 19 (by decide +kernel)
        clear hg
        exact st_yield ho (wanted_none rfl) v19 w6 (by simp [execOp, Act.eval, h19, go_sem]) ⟨_, rfl, Below.refl _ _, by rintro t' ⟨⟩; exact p19⟩
      | 5, ho =>
        obtain rfl := Option.some.inj ho
        obtain ⟨v21, h21, p21⟩ := given_fed hg 21 (by decide +kernel)
        clear hg
        exact st_yield ho (wanted_none rfl) v21 w6 (by simp [execOp, Act.eval, h21, go_sem]) ⟨_, rfl, Below.refl _ _, by rintro t' ⟨⟩; exact p21⟩
      | n + 6, ho => simp at ho
    · intro f w8 hb8 hv
      have h5 := hv 5 (by simp)
      have h6 := hv 6 (by simp)
      clear hv
      simp only [W8] at h5 h6
      unfold putAll
      simp only [List.foldl]
      have hA := row_kept HA.out hb8
      have hZ := row_kept HZ.out hb8
      have hbb := hbb.trans (hb8.mono hbb.size)
      clear hb8 x0 x1 x2 x3 x4 z0 z1 z2 z3 z4 HA HZ CP1 CP2
      obtain ⟨x0, x1, x2, x3, x4⟩ := row5 hA
      obtain ⟨z0, z1, z2, z3, z4⟩ := row5 hZ
      clear hA hZ
      go_simp
      generalize f 5 = v5 at *
      generalize f 6 = v6 at *
      obtain ⟨a5, c5, rfl, -⟩ := id h5
      obtain ⟨a6, c6, rfl, -⟩ := id h6
      have H5 := Go.Lib.hid h5; clear h5
      have H6 := Go.Lib.hid h6; clear h6
      have Hbb := Go.Lib.hid hbb; clear hbb
      cases g0 with
      | true =>
        have ce := fun W => peq_c ks true k0 n0 ts ks true 0 0 ⟨#[]⟩ W
        rw [eq_gone (by rw [str_bl]; exact Hmay.out)] at ce
        unfold recV at ce
        have CE := Go.Lib.hid ce; clear ce
        go_upto_region 9 with (fail)
        refine wp_region_each (by kernel_rfl) (W9t ks k0 n0 ts A B a5 c5 a6 c6 w.heap.size) (W9t_below ks k0 n0 ts A B a5 c5 a6 c6 w.heap.size) (by decide +kernel) (by decide +kernel) (by rfl) [22, 23, 24, 25, 26, 27, 28, 29, 30, 31, 32, 33, 34, 35, 36, 37, 38, 39, 40, 41, 42, 43, 44, 45, 46, 47, 48, 49, 2] (by rfl) ?_ ?_
        · intro i o ho a w6 hb6 hlen hg
          have x0 := cell_kept x0 hb6
          have x1 := cell_kept x1 hb6
          have x2 := cell_kept x2 hb6
          have x3 := cell_kept x3 hb6
          have x4 := cell_kept x4 hb6
          have z0 := cell_kept z0 hb6
          have z1 := cell_kept z1 hb6
          have z2 := cell_kept z2 hb6
          have z3 := cell_kept z3 hb6
          have z4 := cell_kept z4 hb6
          match i, ho with
          | 0, ho =>
            obtain rfl := Option.some.inj ho
            have h4 := given_old hg 4 (by decide +kernel)
            clear hg
            exact st_yield ho (wanted_none rfl) (.agg #[.string ks, .bool true, .int .i64 0, .int .i64 0, .string ⟨#[]⟩]) w6 (by simp [execOp, Act.eval, h4, go_sem, z0, z1, z2, z3, z4]) ⟨_, rfl, Below.refl _ _, by rintro t' ⟨⟩; rfl⟩
          | 1, ho =>
            obtain rfl := Option.some.inj ho
            obtain ⟨_, h22, rfl⟩ := given_fed hg 22 (by decide +kernel)
            clear hg
            exact st_enter (w1 := w6) ho (wanted_none rfl) 12 #[.agg #[.string ks, .bool true, .int .i64 0, .int .i64 0, .string ⟨#[]⟩]] (by simp [execOp, Act.eval, h22, resolve, go_sem]) ((CM2.out _).mono (by rintro e w7 ⟨rfl, hb7⟩; exact ⟨_, rfl, _, rfl, hb7, by rintro t' ⟨⟩; rfl⟩))
          | 2, ho =>
            obtain rfl := Option.some.inj ho
            obtain ⟨_, h23, rfl⟩ := given_fed hg 23 (by decide +kernel)
            clear hg
            exact st_yield ho (wanted_none rfl) (.bool true) w6 (by simp [execOp, Act.eval, h23, go_sem]) ⟨_, rfl, Below.refl _ _, by rintro t' ⟨⟩; rfl⟩
          | 3, ho =>
            obtain rfl := Option.some.inj ho
            have h1 := given_old hg 1 (by decide +kernel)
            obtain ⟨_, h24, rfl⟩ := given_fed hg 24 (by decide +kernel)
            clear hg
            exact st_yield ho (wanted_some rfl rfl h24 rfl) (.agg #[.string ks, .bool true, .int .i64 k0, .int .i64 n0, .string ts]) w6 (by simp [execOp, Act.eval, h1, go_sem, x0, x1, x2, x3, x4]) ⟨_, rfl, Below.refl _ _, by rintro t' ⟨⟩; rfl⟩
          | 4, ho =>
            obtain rfl := Option.some.inj ho
            have h4 := given_old hg 4 (by decide +kernel)
            obtain ⟨_, h24, rfl⟩ := given_fed hg 24 (by decide +kernel)
            clear hg
            exact st_yield ho (wanted_some rfl rfl h24 rfl) (.agg #[.string ks, .bool true, .int .i64 0, .int .i64 0, .string ⟨#[]⟩]) w6 (by simp [execOp, Act.eval, h4, go_sem, z0, z1, z2, z3, z4]) ⟨_, rfl, Below.refl _ _, by rintro t' ⟨⟩; rfl⟩
          | 5, ho =>
            obtain rfl := Option.some.inj ho
            obtain ⟨_, h25, rfl⟩ := given_fed hg 25 (by decide +kernel)
            obtain ⟨_, h26, rfl⟩ := given_fed hg 26 (by decide +kernel)
            obtain ⟨_, h24, rfl⟩ := given_fed hg 24 (by decide +kernel)
            clear hg
            exact st_enter (w1 := w6) ho (wanted_some rfl rfl h24 rfl) 13 #[.agg #[.string ks, .bool true, .int .i64 k0, .int .i64 n0, .string ts], .agg #[.string ks, .bool true, .int .i64 0, .int .i64 0, .string ⟨#[]⟩]] (by simp [execOp, Act.eval, h25, h26, resolve, go_sem]) ((CE.out _).mono (by rintro e w7 ⟨rfl, hb7⟩; exact ⟨_, rfl, _, rfl, hb7, by rintro t' ⟨⟩; rfl⟩))
          | 6, ho =>
            obtain rfl := Option.some.inj ho
            have h1 := given_old hg 1 (by decide +kernel)
            obtain ⟨_, h24, rfl⟩ := given_fed hg 24 (by decide +kernel)
            clear hg
            exact st_yield ho (wanted_some rfl rfl h24 rfl) (.pointer (some ⟨w.heap.size, 1, none⟩)) w6 (by simp [execOp, Act.eval, h1, go_sem]) ⟨_, rfl, Below.refl _ _, by rintro t' ⟨⟩; rfl⟩
          | 7, ho =>
            obtain rfl := Option.some.inj ho
            obtain ⟨_, h28, rfl⟩ := given_fed hg 28 (by decide +kernel)
            obtain ⟨_, h24, rfl⟩ := given_fed hg 24 (by decide +kernel)
            clear hg
            exact st_yield ho (wanted_some rfl rfl h24 rfl) (.bool true) w6 (by simp [execOp, Act.eval, h28, go_sem, x1]) ⟨_, rfl, Below.refl _ _, by rintro t' ⟨⟩; rfl⟩
          | 8, ho =>
            obtain rfl := Option.some.inj ho
            obtain ⟨_, h27, rfl⟩ := given_fed hg 27 (by decide +kernel)
            obtain ⟨_, h29, rfl⟩ := given_fed hg 29 (by decide +kernel)
            obtain ⟨_, h24, rfl⟩ := given_fed hg 24 (by decide +kernel)
            clear hg
            exact st_yield ho (wanted_some rfl rfl h24 rfl) (.bool true) w6 (by simp [execOp, Act.eval, h27, h29, go_sem]) ⟨_, rfl, Below.refl _ _, by rintro t' ⟨⟩; rfl⟩
          | 9, ho =>
            obtain rfl := Option.some.inj ho
            obtain ⟨_, h24, rfl⟩ := given_fed hg 24 (by decide +kernel)
            obtain ⟨_, h30, rfl⟩ := given_fed hg 30 (by decide +kernel)
            clear hg
            exact st_yield ho (wanted_none rfl) (.bool true) w6 (by simp [execOp, Act.eval, h24, h30, go_sem]) ⟨_, rfl, Below.refl _ _, by rintro t' ⟨⟩; rfl⟩
          | 10, ho =>
            obtain rfl := Option.some.inj ho
            obtain ⟨_, h31, rfl⟩ := given_fed hg 31 (by decide +kernel)
            clear hg
            exact st_yield ho (wanted_none rfl) (.bool true) w6 (by simp [execOp, Act.eval, h31, go_sem]) ⟨_, rfl, Below.refl _ _, by rintro t' ⟨⟩; rfl⟩
          | 11, ho =>
            obtain rfl := Option.some.inj ho
            have h1 := given_old hg 1 (by decide +kernel)
            obtain ⟨_, h32, rfl⟩ := given_fed hg 32 (by decide +kernel)
            clear hg
            exact st_yield ho (wanted_some rfl rfl h32 rfl) (.pointer (some ⟨w.heap.size, 1, none⟩)) w6 (by simp [execOp, Act.eval, h1, go_sem]) ⟨_, rfl, Below.refl _ _, by rintro t' ⟨⟩; rfl⟩
          | 12, ho =>
            obtain rfl := Option.some.inj ho
            obtain ⟨_, h33, rfl⟩ := given_fed hg 33 (by decide +kernel)
            obtain ⟨_, h32, rfl⟩ := given_fed hg 32 (by decide +kernel)
            clear hg
            exact st_yield ho (wanted_some rfl rfl h32 rfl) (.bool true) w6 (by simp [execOp, Act.eval, h33, go_sem, x1]) ⟨_, rfl, Below.refl _ _, by rintro t' ⟨⟩; rfl⟩
          | 13, ho =>
            obtain rfl := Option.some.inj ho
            obtain ⟨_, h34, rfl⟩ := given_fed hg 34 (by decide +kernel)
            obtain ⟨_, h32, rfl⟩ := given_fed hg 32 (by decide +kernel)
            clear hg
            exact st_yield ho (wanted_some rfl rfl h32 rfl) (.bool true) w6 (by simp [execOp, Act.eval, h34, go_sem]) ⟨_, rfl, Below.refl _ _, by rintro t' ⟨⟩; rfl⟩
          | 14, ho =>
            obtain rfl := Option.some.inj ho
            obtain ⟨_, h35, rfl⟩ := given_fed hg 35 (by decide +kernel)
            clear hg
            exact st_skip ho (wanted_not rfl rfl h35 (by decide)) ⟨_, rfl, Below.refl _ _, by rintro t' ⟨⟩; rfl⟩
          | 15, ho =>
            obtain rfl := Option.some.inj ho
            obtain ⟨_, h35, rfl⟩ := given_fed hg 35 (by decide +kernel)
            clear hg
            exact st_skip ho (wanted_not rfl rfl h35 (by decide)) ⟨_, rfl, Below.refl _ _, by rintro t' ⟨⟩; rfl⟩
          | 16, ho =>
            obtain rfl := Option.some.inj ho
            obtain ⟨_, h35, rfl⟩ := given_fed hg 35 (by decide +kernel)
            clear hg
            exact st_skip ho (wanted_not rfl rfl h35 (by decide)) ⟨_, rfl, Below.refl _ _, by rintro t' ⟨⟩; rfl⟩
          | 17, ho =>
            obtain rfl := Option.some.inj ho
            obtain ⟨_, h35, rfl⟩ := given_fed hg 35 (by decide +kernel)
            clear hg
            exact st_skip ho (wanted_not rfl rfl h35 (by decide)) ⟨_, rfl, Below.refl _ _, by rintro t' ⟨⟩; rfl⟩
          | 18, ho =>
            obtain rfl := Option.some.inj ho
            obtain ⟨_, h35, rfl⟩ := given_fed hg 35 (by decide +kernel)
            clear hg
            exact st_skip ho (wanted_not rfl rfl h35 (by decide)) ⟨_, rfl, Below.refl _ _, by rintro t' ⟨⟩; rfl⟩
          | 19, ho =>
            obtain rfl := Option.some.inj ho
            obtain ⟨_, h35, rfl⟩ := given_fed hg 35 (by decide +kernel)
            clear hg
            exact st_skip ho (wanted_not rfl rfl h35 (by decide)) ⟨_, rfl, Below.refl _ _, by rintro t' ⟨⟩; rfl⟩
          | 20, ho =>
            obtain rfl := Option.some.inj ho
            obtain ⟨_, h41, rfl⟩ := given_fed hg 41 (by decide +kernel)
            clear hg
            exact st_skip ho (wanted_undef rfl rfl h41) ⟨_, rfl, Below.refl _ _, by rintro t' ⟨⟩; rfl⟩
          | 21, ho =>
            obtain rfl := Option.some.inj ho
            obtain ⟨_, h41, rfl⟩ := given_fed hg 41 (by decide +kernel)
            clear hg
            exact st_skip ho (wanted_undef rfl rfl h41) ⟨_, rfl, Below.refl _ _, by rintro t' ⟨⟩; rfl⟩
          | 22, ho =>
            obtain rfl := Option.some.inj ho
            obtain ⟨_, h41, rfl⟩ := given_fed hg 41 (by decide +kernel)
            clear hg
            exact st_skip ho (wanted_undef rfl rfl h41) ⟨_, rfl, Below.refl _ _, by rintro t' ⟨⟩; rfl⟩
          | 23, ho =>
            obtain rfl := Option.some.inj ho
            obtain ⟨_, h41, rfl⟩ := given_fed hg 41 (by decide +kernel)
            clear hg
            exact st_skip ho (wanted_undef rfl rfl h41) ⟨_, rfl, Below.refl _ _, by rintro t' ⟨⟩; rfl⟩
          | 24, ho =>
            obtain rfl := Option.some.inj ho
            obtain ⟨_, h41, rfl⟩ := given_fed hg 41 (by decide +kernel)
            clear hg
            exact st_skip ho (wanted_undef rfl rfl h41) ⟨_, rfl, Below.refl _ _, by rintro t' ⟨⟩; rfl⟩
          | 25, ho =>
            obtain rfl := Option.some.inj ho
            obtain ⟨_, h35, rfl⟩ := given_fed hg 35 (by decide +kernel)
            clear hg
            exact st_skip ho (wanted_not rfl rfl h35 (by decide)) ⟨_, rfl, Below.refl _ _, by rintro t' ⟨⟩; rfl⟩
          | 26, ho =>
            obtain rfl := Option.some.inj ho
            obtain ⟨_, h35, rfl⟩ := given_fed hg 35 (by decide +kernel)
            obtain ⟨_, h47, rfl⟩ := given_fed hg 47 (by decide +kernel)
            obtain ⟨_, h32, rfl⟩ := given_fed hg 32 (by decide +kernel)
            clear hg
            exact st_yield ho (wanted_some rfl rfl h32 rfl) (.bool true) w6 (by simp [execOp, Act.eval, h35, h47, go_sem]) ⟨_, rfl, Below.refl _ _, by rintro t' ⟨⟩; rfl⟩
          | 27, ho =>
            obtain rfl := Option.some.inj ho
            obtain ⟨_, h32, rfl⟩ := given_fed hg 32 (by decide +kernel)
            obtain ⟨_, h48, rfl⟩ := given_fed hg 48 (by decide +kernel)
            clear hg
            exact st_yield ho (wanted_none rfl) (.bool true) w6 (by simp [execOp, Act.eval, h32, h48, go_sem]) ⟨_, rfl, Below.refl _ _, by rintro t' ⟨⟩; rfl⟩
          | 28, ho =>
            obtain rfl := Option.some.inj ho
            obtain ⟨_, h49, rfl⟩ := given_fed hg 49 (by decide +kernel)
            clear hg
            exact st_yield ho (wanted_none rfl) (.bool true) w6 (by simp [execOp, Act.eval, h49, go_sem]) ⟨_, rfl, Below.refl _ _, by rintro t' ⟨⟩; rfl⟩
          | n + 29, ho => simp at ho
        · intro f3 w16 hb16 hv
          have h2 := hv 2 (by simp)
          clear hv
          simp only [W9t] at h2
          unfold putAll
          simp only [List.foldl]
          go_simp
          go_wp2
          go_ret
          exact ⟨rfl, Hbb.out.trans (hb16.mono Hbb.out.size)⟩
      | false =>
        have ce := fun W => peq_c ks false k0 n0 ts ks true 0 0 ⟨#[]⟩ W
        rw [eq_val] at ce
        have Hlt := Go.Lib.hid (Hlt.out rfl)
        have Hne := Go.Lib.hid (ne_len Hlt.out)
        unfold recV at ce
        have CE := Go.Lib.hid ce; clear ce
        go_upto_region 9 with (fail)
        refine wp_region_each (by kernel_rfl) (W9f ks k0 n0 ts A B a5 c5 a6 c6 w.heap.size) (W9f_below ks k0 n0 ts A B a5 c5 a6 c6 w.heap.size) (by decide +kernel) (by decide +kernel) (by rfl) [22, 23, 24, 25, 26, 27, 28, 29, 30, 31, 32, 33, 34, 35, 36, 37, 38, 39, 40, 41, 42, 43, 44, 45, 46, 47, 48, 49, 2] (by rfl) ?_ ?_
        · intro i o ho a w6 hb6 hlen hg
          have x0 := cell_kept x0 hb6
          have x1 := cell_kept x1 hb6
          have x2 := cell_kept x2 hb6
          have x3 := cell_kept x3 hb6
          have x4 := cell_kept x4 hb6
          have z0 := cell_kept z0 hb6
          have z1 := cell_kept z1 hb6
          have z2 := cell_kept z2 hb6
          have z3 := cell_kept z3 hb6
          have z4 := cell_kept z4 hb6
          have cvA := run_string_RB w6 26 5 9 Try.underlying26 Try.underlying5 Try.underlying9 (.slice a5 A.length c5) A (H5.out.below hb6)
          have cvB := run_string_RB w6 26 5 9 Try.underlying26 Try.underlying5 Try.underlying9 (.slice a6 B.length c6) B (H6.out.below hb6)
          have hlt := Hlt.out
          have hne := Hne.out
          match i, ho with
          | 0, ho =>
            obtain rfl := Option.some.inj ho
            have h4 := given_old hg 4 (by decide +kernel)
            clear hg
            exact st_yield ho (wanted_none rfl) (.agg #[.string ks, .bool true, .int .i64 0, .int .i64 0, .string ⟨#[]⟩]) w6 (by simp [execOp, Act.eval, h4, go_sem, z0, z1, z2, z3, z4]) ⟨_, rfl, Below.refl _ _, by rintro t' ⟨⟩; rfl⟩
          | 1, ho =>
            obtain rfl := Option.some.inj ho
            obtain ⟨_, h22, rfl⟩ := given_fed hg 22 (by decide +kernel)
            clear hg
            exact st_enter (w1 := w6) ho (wanted_none rfl) 12 #[.agg #[.string ks, .bool true, .int .i64 0, .int .i64 0, .string ⟨#[]⟩]] (by simp [execOp, Act.eval, h22, resolve, go_sem]) ((CM2.out _).mono (by rintro e w7 ⟨rfl, hb7⟩; exact ⟨_, rfl, _, rfl, hb7, by rintro t' ⟨⟩; rfl⟩))
          | 2, ho =>
            obtain rfl := Option.some.inj ho
            obtain ⟨_, h23, rfl⟩ := given_fed hg 23 (by decide +kernel)
            clear hg
            exact st_yield ho (wanted_none rfl) (.bool true) w6 (by simp [execOp, Act.eval, h23, go_sem]) ⟨_, rfl, Below.refl _ _, by rintro t' ⟨⟩; rfl⟩
          | 3, ho =>
            obtain rfl := Option.some.inj ho
            have h1 := given_old hg 1 (by decide +kernel)
            obtain ⟨_, h24, rfl⟩ := given_fed hg 24 (by decide +kernel)
            clear hg
            exact st_yield ho (wanted_some rfl rfl h24 rfl) (.agg #[.string ks, .bool false, .int .i64 k0, .int .i64 n0, .string ts]) w6 (by simp [execOp, Act.eval, h1, go_sem, x0, x1, x2, x3, x4]) ⟨_, rfl, Below.refl _ _, by rintro t' ⟨⟩; rfl⟩
          | 4, ho =>
            obtain rfl := Option.some.inj ho
            have h4 := given_old hg 4 (by decide +kernel)
            obtain ⟨_, h24, rfl⟩ := given_fed hg 24 (by decide +kernel)
            clear hg
            exact st_yield ho (wanted_some rfl rfl h24 rfl) (.agg #[.string ks, .bool true, .int .i64 0, .int .i64 0, .string ⟨#[]⟩]) w6 (by simp [execOp, Act.eval, h4, go_sem, z0, z1, z2, z3, z4]) ⟨_, rfl, Below.refl _ _, by rintro t' ⟨⟩; rfl⟩
          | 5, ho =>
            obtain rfl := Option.some.inj ho
            obtain ⟨_, h25, rfl⟩ := given_fed hg 25 (by decide +kernel)
            obtain ⟨_, h26, rfl⟩ := given_fed hg 26 (by decide +kernel)
            obtain ⟨_, h24, rfl⟩ := given_fed hg 24 (by decide +kernel)
            clear hg
            exact st_enter (w1 := w6) ho (wanted_some rfl rfl h24 rfl) 13 #[.agg #[.string ks, .bool false, .int .i64 k0, .int .i64 n0, .string ts], .agg #[.string ks, .bool true, .int .i64 0, .int .i64 0, .string ⟨#[]⟩]] (by simp [execOp, Act.eval, h25, h26, resolve, go_sem]) ((CE.out _).mono (by rintro e w7 ⟨rfl, hb7⟩; exact ⟨_, rfl, _, rfl, hb7, by rintro t' ⟨⟩; rfl⟩))
          | 6, ho =>
            obtain rfl := Option.some.inj ho
            have h1 := given_old hg 1 (by decide +kernel)
            obtain ⟨_, h24, rfl⟩ := given_fed hg 24 (by decide +kernel)
            clear hg
            exact st_yield ho (wanted_some rfl rfl h24 rfl) (.pointer (some ⟨w.heap.size, 1, none⟩)) w6 (by simp [execOp, Act.eval, h1, go_sem]) ⟨_, rfl, Below.refl _ _, by rintro t' ⟨⟩; rfl⟩
          | 7, ho =>
            obtain rfl := Option.some.inj ho
            obtain ⟨_, h28, rfl⟩ := given_fed hg 28 (by decide +kernel)
            obtain ⟨_, h24, rfl⟩ := given_fed hg 24 (by decide +kernel)
            clear hg
            exact st_yield ho (wanted_some rfl rfl h24 rfl) (.bool false) w6 (by simp [execOp, Act.eval, h28, go_sem, x1]) ⟨_, rfl, Below.refl _ _, by rintro t' ⟨⟩; rfl⟩
          | 8, ho =>
            obtain rfl := Option.some.inj ho
            obtain ⟨_, h27, rfl⟩ := given_fed hg 27 (by decide +kernel)
            obtain ⟨_, h29, rfl⟩ := given_fed hg 29 (by decide +kernel)
            obtain ⟨_, h24, rfl⟩ := given_fed hg 24 (by decide +kernel)
            clear hg
            exact st_yield ho (wanted_some rfl rfl h24 rfl) (.bool true) w6 (by simp [execOp, Act.eval, h27, h29, go_sem]) ⟨_, rfl, Below.refl _ _, by rintro t' ⟨⟩; rfl⟩
          | 9, ho =>
            obtain rfl := Option.some.inj ho
            obtain ⟨_, h24, rfl⟩ := given_fed hg 24 (by decide +kernel)
            obtain ⟨_, h30, rfl⟩ := given_fed hg 30 (by decide +kernel)
            clear hg
            exact st_yield ho (wanted_none rfl) (.bool true) w6 (by simp [execOp, Act.eval, h24, h30, go_sem]) ⟨_, rfl, Below.refl _ _, by rintro t' ⟨⟩; rfl⟩
          | 10, ho =>
            obtain rfl := Option.some.inj ho
            obtain ⟨_, h31, rfl⟩ := given_fed hg 31 (by decide +kernel)
            clear hg
            exact st_yield ho (wanted_none rfl) (.bool true) w6 (by simp [execOp, Act.eval, h31, go_sem]) ⟨_, rfl, Below.refl _ _, by rintro t' ⟨⟩; rfl⟩
          | 11, ho =>
            obtain rfl := Option.some.inj ho
            have h1 := given_old hg 1 (by decide +kernel)
            obtain ⟨_, h32, rfl⟩ := given_fed hg 32 (by decide +kernel)
            clear hg
            exact st_yield ho (wanted_some rfl rfl h32 rfl) (.pointer (some ⟨w.heap.size, 1, none⟩)) w6 (by simp [execOp, Act.eval, h1, go_sem]) ⟨_, rfl, Below.refl _ _, by rintro t' ⟨⟩; rfl⟩
          | 12, ho =>
            obtain rfl := Option.some.inj ho
            obtain ⟨_, h33, rfl⟩ := given_fed hg 33 (by decide +kernel)
            obtain ⟨_, h32, rfl⟩ := given_fed hg 32 (by decide +kernel)
            clear hg
            exact st_yield ho (wanted_some rfl rfl h32 rfl) (.bool false) w6 (by simp [execOp, Act.eval, h33, go_sem, x1]) ⟨_, rfl, Below.refl _ _, by rintro t' ⟨⟩; rfl⟩
          | 13, ho =>
            obtain rfl := Option.some.inj ho
            obtain ⟨_, h34, rfl⟩ := given_fed hg 34 (by decide +kernel)
            obtain ⟨_, h32, rfl⟩ := given_fed hg 32 (by decide +kernel)
            clear hg
            exact st_yield ho (wanted_some rfl rfl h32 rfl) (.bool false) w6 (by simp [execOp, Act.eval, h34, go_sem]) ⟨_, rfl, Below.refl _ _, by rintro t' ⟨⟩; rfl⟩
          | 14, ho =>
            obtain rfl := Option.some.inj ho
            have h6 := given_old hg 6 (by decide +kernel)
            obtain ⟨_, h35, rfl⟩ := given_fed hg 35 (by decide +kernel)
            clear hg
            exact st_yield ho (wanted_some rfl rfl h35 rfl) (.slice a6 B.length c6) w6 (by simp [execOp, Act.eval, h6, go_sem]) ⟨_, rfl, Below.refl _ _, by rintro t' ⟨⟩; rfl⟩
          | 15, ho =>
            obtain rfl := Option.some.inj ho
            obtain ⟨_, h36, rfl⟩ := given_fed hg 36 (by decide +kernel)
            obtain ⟨_, h35, rfl⟩ := given_fed hg 35 (by decide +kernel)
            clear hg
            exact st_yield ho (wanted_some rfl rfl h35 rfl) (.int .i64 (B.length : Int)) w6 (by simp [execOp, Act.eval, h36, go_sem, resolve]) ⟨_, rfl, Below.refl _ _, by rintro t' ⟨⟩; rfl⟩
          | 16, ho =>
            obtain rfl := Option.some.inj ho
            have h5 := given_old hg 5 (by decide +kernel)
            obtain ⟨_, h35, rfl⟩ := given_fed hg 35 (by decide +kernel)
            clear hg
            exact st_yield ho (wanted_some rfl rfl h35 rfl) (.slice a5 A.length c5) w6 (by simp [execOp, Act.eval, h5, go_sem]) ⟨_, rfl, Below.refl _ _, by rintro t' ⟨⟩; rfl⟩
          | 17, ho =>
            obtain rfl := Option.some.inj ho
            obtain ⟨_, h38, rfl⟩ := given_fed hg 38 (by decide +kernel)
            obtain ⟨_, h35, rfl⟩ := given_fed hg 35 (by decide +kernel)
            clear hg
            exact st_yield ho (wanted_some rfl rfl h35 rfl) (.int .i64 (A.length : Int)) w6 (by simp [execOp, Act.eval, h38, go_sem, resolve]) ⟨_, rfl, Below.refl _ _, by rintro t' ⟨⟩; rfl⟩
          | 18, ho =>
            obtain rfl := Option.some.inj ho
            obtain ⟨_, h37, rfl⟩ := given_fed hg 37 (by decide +kernel)
            obtain ⟨_, h39, rfl⟩ := given_fed hg 39 (by decide +kernel)
            obtain ⟨_, h35, rfl⟩ := given_fed hg 35 (by decide +kernel)
            clear hg
            exact st_yield ho (wanted_some rfl rfl h35 rfl) (.bool true) w6 (by simp [execOp, Act.eval, h37, h39, go_sem, hlt]) ⟨_, rfl, Below.refl _ _, by rintro t' ⟨⟩; rfl⟩
          | 19, ho =>
            obtain rfl := Option.some.inj ho
            obtain ⟨_, h40, rfl⟩ := given_fed hg 40 (by decide +kernel)
            obtain ⟨_, h35, rfl⟩ := given_fed hg 35 (by decide +kernel)
            clear hg
            exact st_yield ho (wanted_some rfl rfl h35 rfl) (.bool true) w6 (by simp [execOp, Act.eval, h40, go_sem]) ⟨_, rfl, Below.refl _ _, by rintro t' ⟨⟩; rfl⟩
          | 20, ho =>
            obtain rfl := Option.some.inj ho
            have h5 := given_old hg 5 (by decide +kernel)
            obtain ⟨_, h41, rfl⟩ := given_fed hg 41 (by decide +kernel)
            clear hg
            exact st_yield ho (wanted_some rfl rfl h41 rfl) (.slice a5 A.length c5) w6 (by simp [execOp, Act.eval, h5, go_sem]) ⟨_, rfl, Below.refl _ _, by rintro t' ⟨⟩; rfl⟩
          | 21, ho =>
            obtain rfl := Option.some.inj ho
            obtain ⟨_, h42, rfl⟩ := given_fed hg 42 (by decide +kernel)
            obtain ⟨_, h41, rfl⟩ := given_fed hg 41 (by decide +kernel)
            clear hg
            exact st_yield ho (wanted_some rfl rfl h41 rfl) (.string (str A)) w6 (by simp [execOp, Act.eval, h42, go_sem, cvA]) ⟨_, rfl, Below.refl _ _, by rintro t' ⟨⟩; rfl⟩
          | 22, ho =>
            obtain rfl := Option.some.inj ho
            have h6 := given_old hg 6 (by decide +kernel)
            obtain ⟨_, h41, rfl⟩ := given_fed hg 41 (by decide +kernel)
            clear hg
            exact st_yield ho (wanted_some rfl rfl h41 rfl) (.slice a6 B.length c6) w6 (by simp [execOp, Act.eval, h6, go_sem]) ⟨_, rfl, Below.refl _ _, by rintro t' ⟨⟩; rfl⟩
          | 23, ho =>
            obtain rfl := Option.some.inj ho
            obtain ⟨_, h44, rfl⟩ := given_fed hg 44 (by decide +kernel)
            obtain ⟨_, h41, rfl⟩ := given_fed hg 41 (by decide +kernel)
            clear hg
            exact st_yield ho (wanted_some rfl rfl h41 rfl) (.string (str B)) w6 (by simp [execOp, Act.eval, h44, go_sem, cvB]) ⟨_, rfl, Below.refl _ _, by rintro t' ⟨⟩; rfl⟩
          | 24, ho =>
            obtain rfl := Option.some.inj ho
            obtain ⟨_, h43, rfl⟩ := given_fed hg 43 (by decide +kernel)
            obtain ⟨_, h45, rfl⟩ := given_fed hg 45 (by decide +kernel)
            obtain ⟨_, h41, rfl⟩ := given_fed hg 41 (by decide +kernel)
            clear hg
            exact st_yield ho (wanted_some rfl rfl h41 rfl) (.bool true) w6 (by simp [execOp, Act.eval, h43, h45, go_sem, hne]) ⟨_, rfl, Below.refl _ _, by rintro t' ⟨⟩; rfl⟩
          | 25, ho =>
            obtain rfl := Option.some.inj ho
            obtain ⟨_, h41, rfl⟩ := given_fed hg 41 (by decide +kernel)
            obtain ⟨_, h46, rfl⟩ := given_fed hg 46 (by decide +kernel)
            obtain ⟨_, h35, rfl⟩ := given_fed hg 35 (by decide +kernel)
            clear hg
            exact st_yield ho (wanted_some rfl rfl h35 rfl) (.bool true) w6 (by simp [execOp, Act.eval, h41, h46, go_sem]) ⟨_, rfl, Below.refl _ _, by rintro t' ⟨⟩; rfl⟩
          | 26, ho =>
            obtain rfl := Option.some.inj ho
            obtain ⟨_, h35, rfl⟩ := given_fed hg 35 (by decide +kernel)
            obtain ⟨_, h47, rfl⟩ := given_fed hg 47 (by decide +kernel)
            obtain ⟨_, h32, rfl⟩ := given_fed hg 32 (by decide +kernel)
            clear hg
            exact st_yield ho (wanted_some rfl rfl h32 rfl) (.bool true) w6 (by simp [execOp, Act.eval, h35, h47, go_sem]) ⟨_, rfl, Below.refl _ _, by rintro t' ⟨⟩; rfl⟩
          | 27, ho =>
            obtain rfl := Option.some.inj ho
            obtain ⟨_, h32, rfl⟩ := given_fed hg 32 (by decide +kernel)
            obtain ⟨_, h48, rfl⟩ := given_fed hg 48 (by decide +kernel)
            clear hg
            exact st_yield ho (wanted_none rfl) (.bool true) w6 (by simp [execOp, Act.eval, h32, h48, go_sem]) ⟨_, rfl, Below.refl _ _, by rintro t' ⟨⟩; rfl⟩
          | 28, ho =>
            obtain rfl := Option.some.inj ho
            obtain ⟨_, h49, rfl⟩ := given_fed hg 49 (by decide +kernel)
            clear hg
            exact st_yield ho (wanted_none rfl) (.bool true) w6 (by simp [execOp, Act.eval, h49, go_sem]) ⟨_, rfl, Below.refl _ _, by rintro t' ⟨⟩; rfl⟩
          | n + 29, ho => simp at ho
        · intro f3 w16 hb16 hv
          have h2 := hv 2 (by simp)
          clear hv
          simp only [W9f] at h2
          unfold putAll
          simp only [List.foldl]
          go_simp
          go_wp2
          go_ret
          exact ⟨rfl, Hbb.out.trans (hb16.mono Hbb.out.size)⟩

/-! ### THE ROW -/
set_option maxRecDepth 100000 in
theorem lifted (os : Os) (started : os.Started) (H : Type) (enc : TypeId × Value → H) :
    ReturnsInHanded {} Try.checked os 7 .any (Rows.recordGoneSpec.pre6 enc Try.prog Try.f7 Rows.recordGoneRow.domain false) (Rows.recordGoneSpec.post enc Try.prog Try.f7 false true false false) := by
  refine returnsInHanded_of_change (C := Try.checked) own started (by kernel_rfl) Try.func7
    (ChangeSpec.witness6 (enc := enc) (C := Try.checked) false ⟨#[], #[.agg #[.string ByteArray.empty, .bool false, .int .i64 0, .int .i64 0, .string ByteArray.empty]], []⟩ 8 (by kernel_rfl) (by kernel_rfl) (by kernel_rfl) (by kernel_rfl)) ?_
  intro W base args ds gs before hval0 hW hcnd _
  have hval : ∀ (j : Nat) t v, Try.f7.params[j]? = some t → args[j]? = some v → Value.okWide Try.prog W .any base t v := hval0
  have hW' := hW
  obtain ⟨p, q, hA0, hV, rfl, hfz, hnd⟩ := hW
  have hA : DataW.TrodAll enc Try.prog W 0 (fun _ => true) true Try.f7.params.toList args.toList ds p := hA0
  rw [Try.params7] at hA hval
  obtain ⟨v0, vs0, d0, ds0, p0, q0, hargs, rfl, rfl, h0, r0⟩ := trodAll_cons hA
  obtain ⟨rfl, rfl, rfl⟩ := trodAll_nil r0
  obtain rfl : args = #[v0] := by cases args; simp_all
  obtain ⟨rfl, rfl⟩ := trodVars_none hV
  have kk0 := h0
  have lt0 : ∀ x ∈ p0, x.block < W.heap.size := by obtain ⟨m, hm⟩ := kk0; exact DataW.trod_lt m _ _ _ hm
  obtain ⟨y0, g0, k0, n0, s0, rfl, w0⟩ := open_rec (hval 0 25 v0 rfl rfl) h0
  clear hA0 hval0
  refine (walk W y0 g0 k0 n0 s0 w0).mono fun e W' ⟨he, bel⟩ => ?_
  subst he
  exact ⟨_, rfl, _, _, _, [], _, [], hW', trodAll_mk1 (shut_bool Try.underlying4 _), (trodAll_cons_mk (Below.trod laidOut (by kernel_rfl) (of_decide_eq_true (by kernel_rfl)) kk0 bel lt0) trodAll_mk0), rfl, bel.frame _, fun h => by cases h⟩

theorem over : Rows.recordGoneRow.holds Try.pinned (OpenSpec.ofChange Rows.recordGoneSpec) :=
  OpenClaim.holds_of_wide 7 Try.f7 rfl rfl rfl rfl rfl rfl rfl ⟨rfl, rfl, rfl, rfl, rfl⟩ rfl rfl rfl rfl rfl (by kernel_rfl) Try.func7 (by kernel_rfl)
    (of_decide_eq_true (by kernel_rfl)) (by unfold Func.isWrapper; first | (rw [if_pos (by decide +kernel)]; kernel_rfl) | (rw [if_neg (by decide +kernel)]; exact ⟨rfl, rfl⟩))
    (fun os started H enc _ => lifted os started H enc)

theorem proved : Rows.RecordGoneSaid := over
#print axioms proved
end Go.Proofs.Ytafpbhkddodjoaa.recordGone
