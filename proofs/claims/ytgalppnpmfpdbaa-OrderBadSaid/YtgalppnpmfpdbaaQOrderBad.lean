/- OrderBad: a table that was changed in a slot is one, or none, as the document says: for every input the law returns true. -/
import Derived.Test.YtgalppnpmfpdbaaRows
import Derived.WalkKit
import Derived.ProofKit
import Derived.OpenShut
import Derived.ShutString
import Derived.ChangeOld
import Derived.Below
import Derived.Test.YtgalppnpmfpdbaaM01
import Derived.Test.YtgalppnpmfpdbaaM14
import Derived.Test.YtgalppnpmfpdbaaM15
namespace Go.Proofs.Ytgalppnpmfpdbaa.orderBad
open Go.ChangeShapes Go.WideShapes Go.ChangeAt Go.RowKit
open Go.ChangeMaps (open_string shut_string)
set_option linter.unusedVariables false

theorem own : ownKnob Try.prog.godebug = none := by kernel_rfl
theorem laidOut : laidOutB Try.prog = true := by kernel_rfl

def VBt (UL : List Value) (B : List UInt8) (q : Bool) (a8 : Option Addr) (c8 : Nat) : Nat → World → Value → Prop
  | 10, _, v => v = .bool true
  | 117, _, v => v = .agg UL.toArray
  | 118, _, v => v = .agg UL.toArray
  | 119, _, v => v = .bool q
  | 120, _, v => v = .bool q
  | 121, _, v => v = .bool true
  | 122, _, v => v = .bool true
  | 123, _, v => v = .slice a8 B.length c8
  | 124, _, v => v = .int .i64 (B.length : Int)
  | 125, _, v => v = .bool q
  | 126, _, v => v = .bool q
  | 127, _, v => v = .bool true
  | 128, _, v => v = .bool true
  | 129, _, v => v = .bool true
  | 130, _, v => v = .slice a8 B.length c8
  | 131, _, v => v = .string (str B)
  | 132, _, v => v = .agg UL.toArray
  | 133, w, v => RB w v B
  | 134, _, v => v = .string (str B)
  | 135, _, v => v = .bool true
  | 136, _, v => v = .bool true
  | _, _, _ => True

theorem VBt_below (UL : List Value) (B : List UInt8) (q : Bool) (a8 : Option Addr) (c8 : Nat) : ∀ (i : Nat) (w w' : World) (v : Value), VBt UL B q a8 c8 i w v → Below w.heap.size w w' → VBt UL B q a8 c8 i w' v := by
  intro i w w' v h hb
  unfold VBt at h ⊢
  split at h <;> first | exact h | trivial | exact RB.below h hb | exact RB.below h hb | exact Own.below h hb | exact OwnV.below h hb | exact OwnRec.below h hb | exact Lay.R.below h hb

def VB13 (g u1 k D R E S : Nat) (hq : Bool) (kx : ByteArray) (gx : Bool) (ax nx : Int) (sx : ByteArray) : Nat → World → Value → Prop
  | 81, _, v => v = .int .i64 (k : Int)
  | 82, _, v => v = .int .i64 (E : Int)
  | 83, _, v => v = .int .i64 (k : Int)
  | 84, _, v => v = .int .i64 (S : Int)
  | 85, _, v => v = .int .i64 (u1 : Int)
  | 86, _, v => v = .int .i64 (D : Int)
  | 87, _, v => v = .int .i64 (u1 : Int)
  | 88, _, v => v = .int .i64 (R : Int)
  | 89, _, v => v = .pointer (some ⟨g, 24 * D, none⟩)
  | 90, _, v => v = .pointer (some ⟨g, 24 * D + 6 * R, none⟩)
  | 91, _, v => v = .agg #[.bool hq, .string kx, .bool gx, .int .i64 ax, .int .i64 nx, .string sx]
  | 92, _, v => v = .pointer (some ⟨g, 24 * E, none⟩)
  | 93, _, v => v = .pointer (some ⟨g, 24 * E + 6 * S, none⟩)
  | _, _, _ => True

theorem VB13_below (g u1 k D R E S : Nat) (hq : Bool) (kx : ByteArray) (gx : Bool) (ax nx : Int) (sx : ByteArray) : ∀ (i : Nat) (w w' : World) (v : Value), VB13 g u1 k D R E S hq kx gx ax nx sx i w v → Below w.heap.size w w' → VB13 g u1 k D R E S hq kx gx ax nx sx i w' v := by
  intro i w w' v h hb
  unfold VB13 at h ⊢
  split at h <;> first | exact h | trivial | exact RB.below h hb | exact Own.below h hb | exact OwnV.below h hb | exact OwnRec.below h hb | exact Lay.R.below h hb

def VB15 (g u1 k D R E S : Nat) (hq : Bool) (kx : ByteArray) (gx : Bool) (ax nx : Int) (sx : ByteArray) : Nat → World → Value → Prop
  | 96, _, v => v = .int .i64 (u1 : Int)
  | 97, _, v => v = .int .i64 (D : Int)
  | 98, _, v => v = .int .i64 (u1 : Int)
  | 99, _, v => v = .int .i64 (R : Int)
  | 100, _, v => v = .int .i64 (u1 : Int)
  | 101, _, v => v = .int .i64 (D : Int)
  | 102, _, v => v = .int .i64 (u1 : Int)
  | 103, _, v => v = .int .i64 (R : Int)
  | 104, _, v => v = .pointer (some ⟨g, 24 * D, none⟩)
  | 105, _, v => v = .pointer (some ⟨g, 24 * D + 6 * R, none⟩)
  | 106, _, v => v = .pointer (some ⟨g, 24 * D + 6 * R, none⟩)
  | 107, _, v => v = .bool hq
  | 108, _, v => v = .bool (!hq)
  | 109, _, v => v = .pointer (some ⟨g, 24 * D, none⟩)
  | 110, _, v => v = .pointer (some ⟨g, 24 * D + 6 * R, none⟩)
  | 111, _, v => v = .pointer (some ⟨g, 24 * D + 6 * R, none⟩)
  | _, _, _ => True

theorem VB15_below (g u1 k D R E S : Nat) (hq : Bool) (kx : ByteArray) (gx : Bool) (ax nx : Int) (sx : ByteArray) : ∀ (i : Nat) (w w' : World) (v : Value), VB15 g u1 k D R E S hq kx gx ax nx sx i w v → Below w.heap.size w w' → VB15 g u1 k D R E S hq kx gx ax nx sx i w' v := by
  intro i w w' v h hb
  unfold VB15 at h ⊢
  split at h <;> first | exact h | trivial | exact RB.below h hb | exact Own.below h hb | exact OwnV.below h hb | exact OwnRec.below h hb | exact Lay.R.below h hb

def VB9 (g u1 k D R E S : Nat) (hq : Bool) (kx : ByteArray) (gx : Bool) (ax nx : Int) (sx : ByteArray) : Nat → World → Value → Prop
  | 35, _, v => v = .int .i64 (u1 : Int)
  | 36, _, v => v = .int .i64 (D : Int)
  | 37, _, v => v = .int .i64 (u1 : Int)
  | 38, _, v => v = .int .i64 (R : Int)
  | 39, _, v => v = .pointer (some ⟨g, 24 * D, none⟩)
  | 40, _, v => v = .pointer (some ⟨g, 24 * D + 6 * R, none⟩)
  | 41, _, v => v = .pointer (some ⟨g, 24 * D + 6 * R + 1, none⟩)
  | 42, _, v => v = .pointer (some ⟨g, 24 * D + 6 * R + 3, none⟩)
  | 43, _, v => v = .pointer (some ⟨g, 24 * D + 6 * R + 4, none⟩)
  | 44, _, v => v = .int .i64 nx
  | 45, _, v => v = .int .i64 (IntKind.i64.wrap (nx + 1))
  | 46, _, v => v = .pointer (some ⟨g, 24 * D, none⟩)
  | 47, _, v => v = .pointer (some ⟨g, 24 * D + 6 * R, none⟩)
  | 48, _, v => v = .pointer (some ⟨g, 24 * D + 6 * R + 1, none⟩)
  | 49, _, v => v = .pointer (some ⟨g, 24 * D + 6 * R + 3, none⟩)
  | 50, _, v => v = .pointer (some ⟨g, 24 * D + 6 * R + 4, none⟩)
  | _, _, _ => True

theorem VB9_below (g u1 k D R E S : Nat) (hq : Bool) (kx : ByteArray) (gx : Bool) (ax nx : Int) (sx : ByteArray) : ∀ (i : Nat) (w w' : World) (v : Value), VB9 g u1 k D R E S hq kx gx ax nx sx i w v → Below w.heap.size w w' → VB9 g u1 k D R E S hq kx gx ax nx sx i w' v := by
  intro i w w' v h hb
  unfold VB9 at h ⊢
  split at h <;> first | exact h | trivial | exact RB.below h hb | exact Own.below h hb | exact OwnV.below h hb | exact OwnRec.below h hb | exact Lay.R.below h hb

def VB11 (g u1 k D R E S : Nat) (hq : Bool) (kx : ByteArray) (gx : Bool) (ax nx : Int) (sx : ByteArray) (hk : Bool) (kk : ByteArray) (gk : Bool) (ak nk : Int) (sk : ByteArray) : Nat → World → Value → Prop
  | 53, _, v => v = .int .i64 (u1 : Int)
  | 54, _, v => v = .int .i64 (D : Int)
  | 55, _, v => v = .int .i64 (u1 : Int)
  | 56, _, v => v = .int .i64 (R : Int)
  | 57, _, v => v = .int .i64 (k : Int)
  | 58, _, v => v = .int .i64 (E : Int)
  | 59, _, v => v = .int .i64 (k : Int)
  | 60, _, v => v = .int .i64 (S : Int)
  | 61, _, v => v = .int .i64 (k : Int)
  | 62, _, v => v = .int .i64 (E : Int)
  | 63, _, v => v = .int .i64 (k : Int)
  | 64, _, v => v = .int .i64 (S : Int)
  | 65, _, v => v = .pointer (some ⟨g, 24 * E, none⟩)
  | 66, _, v => v = .pointer (some ⟨g, 24 * E + 6 * S, none⟩)
  | 67, _, v => v = .agg #[.bool hk, .string kk, .bool gk, .int .i64 ak, .int .i64 nk, .string sk]
  | 68, _, v => v = .int .i64 (u1 : Int)
  | 69, _, v => v = .int .i64 (D : Int)
  | 70, _, v => v = .int .i64 (u1 : Int)
  | 71, _, v => v = .int .i64 (R : Int)
  | 72, _, v => v = .pointer (some ⟨g, 24 * D, none⟩)
  | 73, _, v => v = .pointer (some ⟨g, 24 * D + 6 * R, none⟩)
  | 74, _, v => v = .agg #[.bool hq, .string kx, .bool gx, .int .i64 ax, .int .i64 nx, .string sx]
  | 75, _, v => v = .pointer (some ⟨g, 24 * D, none⟩)
  | 76, _, v => v = .pointer (some ⟨g, 24 * D + 6 * R, none⟩)
  | 77, _, v => v = .pointer (some ⟨g, 24 * E, none⟩)
  | 78, _, v => v = .pointer (some ⟨g, 24 * E + 6 * S, none⟩)
  | _, _, _ => True

theorem VB11_below (g u1 k D R E S : Nat) (hq : Bool) (kx : ByteArray) (gx : Bool) (ax nx : Int) (sx : ByteArray) (hk : Bool) (kk : ByteArray) (gk : Bool) (ak nk : Int) (sk : ByteArray) : ∀ (i : Nat) (w w' : World) (v : Value), VB11 g u1 k D R E S hq kx gx ax nx sx hk kk gk ak nk sk i w v → Below w.heap.size w w' → VB11 g u1 k D R E S hq kx gx ax nx sx hk kk gk ak nk sk i w' v := by
  intro i w w' v h hb
  unfold VB11 at h ⊢
  split at h <;> first | exact h | trivial | exact RB.below h hb | exact Own.below h hb | exact OwnV.below h hb | exact OwnRec.below h hb | exact Lay.R.below h hb

theorem VB11_any (g u1 k D R E S : Nat) (hq : Bool) (kx : ByteArray) (gx : Bool) (ax nx : Int) (sx : ByteArray) (hk : Bool) (kk : ByteArray) (gk : Bool) (ak nk : Int) (sk : ByteArray) : ∀ (i : Nat) (w w' : World) (v : Value), VB11 g u1 k D R E S hq kx gx ax nx sx hk kk gk ak nk sk i w v → VB11 g u1 k D R E S hq kx gx ax nx sx hk kk gk ak nk sk i w' v := by
  intro i w w' v h
  unfold VB11 at h ⊢
  split at h <;> first | exact h | trivial

set_option maxHeartbeats 16000000 in
set_option maxRecDepth 100000 in
theorem walk (w : World) (a0 : Option Addr) (len0 cap0 : Nat) (l0 : List RecT) (w0 : RRec w (.slice a0 len0 cap0) l0) (a1 : Option Addr) (len1 cap1 : Nat) (l1 : List Bool) (w1 : RV w (.slice a1 len1 cap1) (zb l1)) (a2 : Int) (w2 : (Lit.int .i64 a2).wf = true) (a3 : Int) (w3 : (Lit.int .i64 a3).wf = true) (a4 : Int) (w4 : (Lit.int .i64 a4).wf = true) :
    Calls Try.prog 4 #[.slice a0 len0 cap0, .slice a1 len1 cap1, .int .i64 a2, .int .i64 a3, .int .i64 a4] w fun e w' => e = .returned (.bool true) ∧ Below w.heap.size w w' := by
  have CBG := Go.Lib.hid (begun19_c w)
  have CL := Go.Lib.hid fun W (hb : Below w.heap.size w W) => llay_c (.slice a0 len0 cap0) (.slice a1 len1 cap1) l0 l1 W (w0.rs.below hb) (w1.below hb) w0.ok
  have HOK := Go.Lib.hid (layN_ok l1 w0.ok (min l0.length 40)).bad
  clear w0 w1
  generalize layN l0 l1 (min l0.length 40) = TT at *
  have hz := zero_tabZ
  have hzr := zero_tabRZ
  have HTK := Go.Lib.hid (fun (W : World) (g : Nat) (h : W.heap[g]? = some (.cells (tabL TT 32).toArray 33 (0, 0))) => TK.of_row h)
  have HSR := Go.Lib.hid (sizeTab TT)
  have HTO := Go.Lib.hid (tabL_one TT)
  have HLE := Go.Lib.hid (show (tabL zeroT 32).length = (tabL TT 32).length from by rw [tabL_len, tabL_len])
  generalize tabL zeroT 32 = ZL at *
  generalize tabL TT 32 = TL at *
  go_enter Try.func4, Try.ntmps4
  go_wp2_with fail
  refine CBG.out.mono ?_
  rintro e w2' ⟨rfl, hc⟩
  have HB := Go.Lib.hid hc
  clear hc CBG
  go_wp2_with fail
  refine (CL.out _ HB.out).mono ?_
  rintro e w3' ⟨rfl, hc⟩
  have HB := Go.Lib.hid (HB.out.trans (hc.mono HB.out.size))
  clear hc CL
  have hb12 := below_one w3' (.cells ZL.toArray 33)
  have HZ12 := Go.Lib.hid (heap_alloc_new w3' (.cells ZL.toArray 33))
  have HX12 := Go.Lib.hid (setRow_heap _ w3'.heap.size _ TL.toArray 33 (0, 0) HZ12.out)
  have HG := Go.Lib.hid (show w.heap.size ≤ w3'.heap.size from HB.out.size)
  have hs12 := setRow_below TL.toArray hb12 (Nat.le_refl _)
  have HB := Go.Lib.hid (HB.out.trans (hs12.mono HB.out.size))
  clear hb12 hs12
  go_upto_region 5 with (first
    | (with_reducible show wpList _ _ _ (⟨none, Op.store 33 (.tmp 12) (.tmp 22), _, _, _, _⟩ :: _) _ _; go_loud (refine wpList_store_row rfl 33 (.tmp 12) (.tmp 22) rfl w3'.heap.size TL.toArray rfl rfl 33 _ HZ12.out (by rw [HSR.out, List.size_toArray]) (by rw [List.size_toArray, List.size_toArray]; exact HLE.out) HTO.out ?_))
    | fail)
  obtain ⟨g, hg⟩ : ∃ g, g = w3'.heap.size := ⟨_, rfl⟩
  rw [← hg] at HX12 HB HG ⊢
  clear hg HZ12
  generalize (w3'.alloc (.cells ZL.toArray 33)).setRow g TL.toArray = w5 at *
  have HT := Go.Lib.hid (HTK.out w5 g HX12.out)
  clear HX12 HTK HSR HTO HLE hz hzr
  have HA2 := Go.Lib.hid (bounds_i64 w2)
  have HA3 := Go.Lib.hid (bounds_i64 w3)
  clear w2 w3 w4
  by_cases hn2 : a2 < 0
  · go_wp2_with fail
    go_ret
    exact ⟨rfl, HB.out⟩
  by_cases hn3 : a3 < 0
  · go_wp2_with fail
    go_ret
    exact ⟨rfl, HB.out⟩
  obtain ⟨u1, hi⟩ : ∃ u1, u1 = a2.toNat % 32 := ⟨_, rfl⟩
  obtain ⟨k, hk⟩ : ∃ k, k = a3.toNat % 32 := ⟨_, rfl⟩
  have m2 : a2.tmod 32 = (u1 : Int) := by rw [Int.tmod_eq_emod_of_nonneg (by omega)]; omega
  have m3 : a3.tmod 32 = (k : Int) := by rw [Int.tmod_eq_emod_of_nonneg (by omega)]; omega
  have hi32 : u1 < 32 := by omega
  have hk32 : k < 32 := by omega
  clear hi hk HA2 HA3
  go_upto_region 8 with (fail)
  clear hn2 hn3 m2 m3
  obtain ⟨D, hD⟩ : ∃ D, D = u1 / 4 := ⟨_, rfl⟩
  obtain ⟨R, hR⟩ : ∃ R, R = u1 % 4 := ⟨_, rfl⟩
  obtain ⟨E, hE⟩ : ∃ E, E = k / 4 := ⟨_, rfl⟩
  obtain ⟨S, hS⟩ : ∃ S, S = k % 4 := ⟨_, rfl⟩
  have d1 : (u1 : Int).tdiv 4 = (D : Int) := by rw [Int.tdiv_eq_ediv_of_nonneg (by omega)]; omega
  have r1 : (u1 : Int).tmod 4 = (R : Int) := by rw [Int.tmod_eq_emod_of_nonneg (by omega)]; omega
  have d2 : (k : Int).tdiv 4 = (E : Int) := by rw [Int.tdiv_eq_ediv_of_nonneg (by omega)]; omega
  have r2 : (k : Int).tmod 4 = (S : Int) := by rw [Int.tmod_eq_emod_of_nonneg (by omega)]; omega
  have hwD : IntKind.i64.wrap (D : Int) = (D : Int) := by rw [IntKind.wrap_i64]; omega
  have hwE : IntKind.i64.wrap (E : Int) = (E : Int) := by rw [IntKind.wrap_i64]; omega
  have hix1 := idxT g D (by omega)
  have hix2 := idxT2 g (24 * D) R (by omega)
  have hjx1 := idxT g E (by omega)
  have hjx2 := idxT2 g (24 * E) S (by omega)
  have HI := Go.Lib.hid (show 6 * u1 = 24 * D + 6 * R ∧ 6 * k = 24 * E + 6 * S by omega)
  have HCI := Go.Lib.hid (fun W (h : TK W g TT) => by
    have h := h.at (b := D) (s := R) (by omega) (by omega)
    rw [show 4 * D + R = u1 by omega] at h
    exact h)
  have HCK := Go.Lib.hid (fun W (h : TK W g TT) => by
    have h := h.at (b := E) (s := S) (by omega) (by omega)
    rw [show 4 * E + S = k by omega] at h
    exact h)
  clear hD hR hE hS
  have HI32 := Go.Lib.hid hi32
  have HK32 := Go.Lib.hid hk32
  clear hi32 hk32
  go_upto_region 10 with (fail)
  generalize bits BinOp.and IntKind.i64 a4 3 = z at *
  by_cases z0 : z = 0
  · subst z0
    go_upto_region 11 with (fail)
    obtain ⟨y, hy⟩ : ∃ y, y = TT u1 := ⟨_, rfl⟩
    rw [← hy] at HCI
    have HY := Go.Lib.hid hy
    clear hy
    obtain ⟨hq, kx, gx, ax, nx, sx⟩ := y
    obtain ⟨x, hx⟩ : ∃ x, x = TT k := ⟨_, rfl⟩
    rw [← hx] at HCK
    have HX := Go.Lib.hid hx
    clear hx
    obtain ⟨hk, kk, gk, ak, nk, sk⟩ := x
    simp only [] at HCI HCK
    refine wp_region_inv3 (by kernel_rfl) (VB11 g u1 k D R E S hq kx gx ax nx sx hk kk gk ak nk sk) (fun done _ W => IBd w g TT (setT TT u1 (hk, kk, gk, ak, nk, sk)) (setT (setT TT u1 (hk, kk, gk, ak, nk, sk)) k (hq, kx, gx, ax, nx, sx)) 24 27 done W) (by decide +kernel) (by decide +kernel) (by rfl) [53, 54, 55, 56, 57, 58, 59, 60, 61, 62, 63, 64, 65, 66, 67, 68, 69, 70, 71, 72, 73, 74, 75, 76, 77, 78] (by rfl) ⟨HB.out.trans ((below_drewN (Below.refl _ _) 1).mono HB.out.size), by rw [if_neg (by decide), if_neg (by decide)]; exact HT.out.below (below_drewN (Below.refl _ _) 1)⟩ ?_ ?_
    · intro i' o ho a w6 done hI hnot hr hsh hlen hg
      match i', ho with
      | 0, ho =>
        obtain rfl := Option.some.inj ho
        have h13 := given_old hg 13 (by decide +kernel)
        clear hg
        exact st_yield ho (wanted_none rfl) (.int .i64 (u1 : Int)) w6 (by simp [execOp, Act.eval, h13, go_sem]) ⟨_, rfl, hI.keep (by decide) (by decide), fun _ _ _ h => h, by rintro t' ⟨⟩; rfl⟩
      | 1, ho =>
        obtain rfl := Option.some.inj ho
        obtain ⟨_, h53, rfl⟩ := given_fed hg 53 (by decide +kernel)
        clear hg
        exact st_yield ho (wanted_none rfl) (.int .i64 (D : Int)) w6 (by simp [execOp, Act.eval, h53, go_sem, d1, hwD]) ⟨_, rfl, hI.keep (by decide) (by decide), fun _ _ _ h => h, by rintro t' ⟨⟩; rfl⟩
      | 2, ho =>
        obtain rfl := Option.some.inj ho
        have h13 := given_old hg 13 (by decide +kernel)
        clear hg
        exact st_yield ho (wanted_none rfl) (.int .i64 (u1 : Int)) w6 (by simp [execOp, Act.eval, h13, go_sem]) ⟨_, rfl, hI.keep (by decide) (by decide), fun _ _ _ h => h, by rintro t' ⟨⟩; rfl⟩
      | 3, ho =>
        obtain rfl := Option.some.inj ho
        obtain ⟨_, h55, rfl⟩ := given_fed hg 55 (by decide +kernel)
        clear hg
        exact st_yield ho (wanted_none rfl) (.int .i64 (R : Int)) w6 (by simp [execOp, Act.eval, h55, go_sem, r1]) ⟨_, rfl, hI.keep (by decide) (by decide), fun _ _ _ h => h, by rintro t' ⟨⟩; rfl⟩
      | 4, ho =>
        obtain rfl := Option.some.inj ho
        have h14 := given_old hg 14 (by decide +kernel)
        clear hg
        exact st_yield ho (wanted_none rfl) (.int .i64 (k : Int)) w6 (by simp [execOp, Act.eval, h14, go_sem]) ⟨_, rfl, hI.keep (by decide) (by decide), fun _ _ _ h => h, by rintro t' ⟨⟩; rfl⟩
      | 5, ho =>
        obtain rfl := Option.some.inj ho
        obtain ⟨_, h57, rfl⟩ := given_fed hg 57 (by decide +kernel)
        clear hg
        exact st_yield ho (wanted_none rfl) (.int .i64 (E : Int)) w6 (by simp [execOp, Act.eval, h57, go_sem, d2, hwE]) ⟨_, rfl, hI.keep (by decide) (by decide), fun _ _ _ h => h, by rintro t' ⟨⟩; rfl⟩
      | 6, ho =>
        obtain rfl := Option.some.inj ho
        have h14 := given_old hg 14 (by decide +kernel)
        clear hg
        exact st_yield ho (wanted_none rfl) (.int .i64 (k : Int)) w6 (by simp [execOp, Act.eval, h14, go_sem]) ⟨_, rfl, hI.keep (by decide) (by decide), fun _ _ _ h => h, by rintro t' ⟨⟩; rfl⟩
      | 7, ho =>
        obtain rfl := Option.some.inj ho
        obtain ⟨_, h59, rfl⟩ := given_fed hg 59 (by decide +kernel)
        clear hg
        exact st_yield ho (wanted_none rfl) (.int .i64 (S : Int)) w6 (by simp [execOp, Act.eval, h59, go_sem, r2]) ⟨_, rfl, hI.keep (by decide) (by decide), fun _ _ _ h => h, by rintro t' ⟨⟩; rfl⟩
      | 8, ho =>
        obtain rfl := Option.some.inj ho
        have h14 := given_old hg 14 (by decide +kernel)
        clear hg
        exact st_yield ho (wanted_none rfl) (.int .i64 (k : Int)) w6 (by simp [execOp, Act.eval, h14, go_sem]) ⟨_, rfl, hI.keep (by decide) (by decide), fun _ _ _ h => h, by rintro t' ⟨⟩; rfl⟩
      | 9, ho =>
        obtain rfl := Option.some.inj ho
        obtain ⟨_, h61, rfl⟩ := given_fed hg 61 (by decide +kernel)
        clear hg
        exact st_yield ho (wanted_none rfl) (.int .i64 (E : Int)) w6 (by simp [execOp, Act.eval, h61, go_sem, d2, hwE]) ⟨_, rfl, hI.keep (by decide) (by decide), fun _ _ _ h => h, by rintro t' ⟨⟩; rfl⟩
      | 10, ho =>
        obtain rfl := Option.some.inj ho
        have h14 := given_old hg 14 (by decide +kernel)
        clear hg
        exact st_yield ho (wanted_none rfl) (.int .i64 (k : Int)) w6 (by simp [execOp, Act.eval, h14, go_sem]) ⟨_, rfl, hI.keep (by decide) (by decide), fun _ _ _ h => h, by rintro t' ⟨⟩; rfl⟩
      | 11, ho =>
        obtain rfl := Option.some.inj ho
        obtain ⟨_, h63, rfl⟩ := given_fed hg 63 (by decide +kernel)
        clear hg
        exact st_yield ho (wanted_none rfl) (.int .i64 (S : Int)) w6 (by simp [execOp, Act.eval, h63, go_sem, r2]) ⟨_, rfl, hI.keep (by decide) (by decide), fun _ _ _ h => h, by rintro t' ⟨⟩; rfl⟩
      | 12, ho =>
        obtain rfl := Option.some.inj ho
        have h12 := given_old hg 12 (by decide +kernel)
        obtain ⟨_, h62, rfl⟩ := given_fed hg 62 (by decide +kernel)
        clear hg
        exact st_yield ho (wanted_none rfl) (.pointer (some ⟨g, 24 * E, none⟩)) w6 (by simp [execOp, Act.eval, h12, h62, go_sem, hjx1]) ⟨_, rfl, hI.keep (by decide) (by decide), fun _ _ _ h => h, by rintro t' ⟨⟩; rfl⟩
      | 13, ho =>
        obtain rfl := Option.some.inj ho
        obtain ⟨_, h65, rfl⟩ := given_fed hg 65 (by decide +kernel)
        obtain ⟨_, h64, rfl⟩ := given_fed hg 64 (by decide +kernel)
        clear hg
        exact st_yield ho (wanted_none rfl) (.pointer (some ⟨g, 24 * E + 6 * S, none⟩)) w6 (by simp [execOp, Act.eval, h65, h64, go_sem, hjx2]) ⟨_, rfl, hI.keep (by decide) (by decide), fun _ _ _ h => h, by rintro t' ⟨⟩; rfl⟩
      | 14, ho =>
        obtain rfl := Option.some.inj ho
        obtain ⟨_, h66, rfl⟩ := given_fed hg 66 (by decide +kernel)
        clear hg
        have d24 : done 24 = false := by
          cases e : done 24 with
          | false => rfl
          | true => rw [hsh 24 14 e (by decide +kernel)] at hnot; cases hnot
        have d27 : done 27 = false := by
          cases e : done 27 with
          | false => rfl
          | true => rw [hsh 27 24 e (by decide +kernel)] at d24; cases d24
        have ht := hI.tab
        rw [d27, d24, if_neg (by decide), if_neg (by decide)] at ht
        obtain ⟨y0, y1, y2, y3, y4, y5⟩ := HCK.out w6 ht
        exact st_yield ho (wanted_none rfl) (.agg #[.bool hk, .string kk, .bool gk, .int .i64 ak, .int .i64 nk, .string sk]) w6 (by simp [execOp, Act.eval, h66, go_sem, y0, y1, y2, y3, y4, y5]) ⟨_, rfl, hI.keep (by decide) (by decide), fun _ _ _ h => h, by rintro t' ⟨⟩; rfl⟩
      | 15, ho =>
        obtain rfl := Option.some.inj ho
        have h13 := given_old hg 13 (by decide +kernel)
        clear hg
        exact st_yield ho (wanted_none rfl) (.int .i64 (u1 : Int)) w6 (by simp [execOp, Act.eval, h13, go_sem]) ⟨_, rfl, hI.keep (by decide) (by decide), fun _ _ _ h => h, by rintro t' ⟨⟩; rfl⟩
      | 16, ho =>
        obtain rfl := Option.some.inj ho
        obtain ⟨_, h68, rfl⟩ := given_fed hg 68 (by decide +kernel)
        clear hg
        exact st_yield ho (wanted_none rfl) (.int .i64 (D : Int)) w6 (by simp [execOp, Act.eval, h68, go_sem, d1, hwD]) ⟨_, rfl, hI.keep (by decide) (by decide), fun _ _ _ h => h, by rintro t' ⟨⟩; rfl⟩
      | 17, ho =>
        obtain rfl := Option.some.inj ho
        have h13 := given_old hg 13 (by decide +kernel)
        clear hg
        exact st_yield ho (wanted_none rfl) (.int .i64 (u1 : Int)) w6 (by simp [execOp, Act.eval, h13, go_sem]) ⟨_, rfl, hI.keep (by decide) (by decide), fun _ _ _ h => h, by rintro t' ⟨⟩; rfl⟩
      | 18, ho =>
        obtain rfl := Option.some.inj ho
        obtain ⟨_, h70, rfl⟩ := given_fed hg 70 (by decide +kernel)
        clear hg
        exact st_yield ho (wanted_none rfl) (.int .i64 (R : Int)) w6 (by simp [execOp, Act.eval, h70, go_sem, r1]) ⟨_, rfl, hI.keep (by decide) (by decide), fun _ _ _ h => h, by rintro t' ⟨⟩; rfl⟩
      | 19, ho =>
        obtain rfl := Option.some.inj ho
        have h12 := given_old hg 12 (by decide +kernel)
        obtain ⟨_, h69, rfl⟩ := given_fed hg 69 (by decide +kernel)
        clear hg
        exact st_yield ho (wanted_none rfl) (.pointer (some ⟨g, 24 * D, none⟩)) w6 (by simp [execOp, Act.eval, h12, h69, go_sem, hix1]) ⟨_, rfl, hI.keep (by decide) (by decide), fun _ _ _ h => h, by rintro t' ⟨⟩; rfl⟩
      | 20, ho =>
        obtain rfl := Option.some.inj ho
        obtain ⟨_, h72, rfl⟩ := given_fed hg 72 (by decide +kernel)
        obtain ⟨_, h71, rfl⟩ := given_fed hg 71 (by decide +kernel)
        clear hg
        exact st_yield ho (wanted_none rfl) (.pointer (some ⟨g, 24 * D + 6 * R, none⟩)) w6 (by simp [execOp, Act.eval, h72, h71, go_sem, hix2]) ⟨_, rfl, hI.keep (by decide) (by decide), fun _ _ _ h => h, by rintro t' ⟨⟩; rfl⟩
      | 21, ho =>
        obtain rfl := Option.some.inj ho
        obtain ⟨_, h73, rfl⟩ := given_fed hg 73 (by decide +kernel)
        clear hg
        have d24 : done 24 = false := by
          cases e : done 24 with
          | false => rfl
          | true => rw [hsh 24 21 e (by decide +kernel)] at hnot; cases hnot
        have d27 : done 27 = false := by
          cases e : done 27 with
          | false => rfl
          | true => rw [hsh 27 24 e (by decide +kernel)] at d24; cases d24
        have ht := hI.tab
        rw [d27, d24, if_neg (by decide), if_neg (by decide)] at ht
        obtain ⟨y0, y1, y2, y3, y4, y5⟩ := HCI.out w6 ht
        exact st_yield ho (wanted_none rfl) (.agg #[.bool hq, .string kx, .bool gx, .int .i64 ax, .int .i64 nx, .string sx]) w6 (by simp [execOp, Act.eval, h73, go_sem, y0, y1, y2, y3, y4, y5]) ⟨_, rfl, hI.keep (by decide) (by decide), fun _ _ _ h => h, by rintro t' ⟨⟩; rfl⟩
      | 22, ho =>
        obtain rfl := Option.some.inj ho
        have h12 := given_old hg 12 (by decide +kernel)
        obtain ⟨_, h54, rfl⟩ := given_fed hg 54 (by decide +kernel)
        clear hg
        exact st_yield ho (wanted_none rfl) (.pointer (some ⟨g, 24 * D, none⟩)) w6 (by simp [execOp, Act.eval, h12, h54, go_sem, hix1]) ⟨_, rfl, hI.keep (by decide) (by decide), fun _ _ _ h => h, by rintro t' ⟨⟩; rfl⟩
      | 23, ho =>
        obtain rfl := Option.some.inj ho
        obtain ⟨_, h75, rfl⟩ := given_fed hg 75 (by decide +kernel)
        obtain ⟨_, h56, rfl⟩ := given_fed hg 56 (by decide +kernel)
        clear hg
        exact st_yield ho (wanted_none rfl) (.pointer (some ⟨g, 24 * D + 6 * R, none⟩)) w6 (by simp [execOp, Act.eval, h75, h56, go_sem, hix2]) ⟨_, rfl, hI.keep (by decide) (by decide), fun _ _ _ h => h, by rintro t' ⟨⟩; rfl⟩
      | 24, ho =>
        obtain rfl := Option.some.inj ho
        obtain ⟨_, h76, rfl⟩ := given_fed hg 76 (by decide +kernel)
        obtain ⟨_, h67, rfl⟩ := given_fed hg 67 (by decide +kernel)
        clear hg
        have d27 : done 27 = false := by
          cases e : done 27 with
          | false => rfl
          | true => rw [hsh 27 24 e (by decide +kernel)] at hnot; cases hnot
        have ht := hI.tab
        rw [d27, hnot, if_neg (by decide), if_neg (by decide)] at ht
        have hth : w6.there g (24 * D + 6 * R) (#[.bool hk, .string kk, .bool gk, .int .i64 ak, .int .i64 nk, .string sk] : Array Value).size := by rw [← HI.out.1]; exact ht.there HI32.out
        have hst := ht.set (q := u1) HI32.out (hk, kk, gk, ak, nk, sk)
        rw [HI.out.1] at hst
        have hgr := setCells_gr [.bool hk, .string kk, .bool gk, .int .i64 ak, .int .i64 nk, .string sk] w6 g (24 * D + 6 * R)
        exact st_list ho (wanted_none rfl) fun Q' hQ => wpList_store_mid rfl 30 (.tmp 76) (.tmp 67) rfl g (24 * D + 6 * R) #[.bool hk, .string kk, .bool gk, .int .i64 ak, .int .i64 nk, .string sk] (by simp [Act.eval, h76]) (by simp [Act.eval, h67]) hth (by kernel_rfl) (six1 hk kk gk ak nk sk) (wpList_nil (hQ _ _ ⟨undef, rfl, ⟨hI.bel.grown hgr hI.bel.size (fun j e => by have := HG.out; have := Option.some.inj e; omega), by rw [doneToo_other (by decide), doneToo_self, d27, if_neg (by decide), if_pos rfl]; exact hst⟩, fun t u _ h => VB11_any g u1 k D R E S hq kx gx ax nx sx hk kk gk ak nk sk t w6 _ u h, by rintro t' ⟨⟩⟩))
      | 25, ho =>
        obtain rfl := Option.some.inj ho
        have h12 := given_old hg 12 (by decide +kernel)
        obtain ⟨_, h58, rfl⟩ := given_fed hg 58 (by decide +kernel)
        clear hg
        exact st_yield ho (wanted_none rfl) (.pointer (some ⟨g, 24 * E, none⟩)) w6 (by simp [execOp, Act.eval, h12, h58, go_sem, hjx1]) ⟨_, rfl, hI.keep (by decide) (by decide), fun _ _ _ h => h, by rintro t' ⟨⟩; rfl⟩
      | 26, ho =>
        obtain rfl := Option.some.inj ho
        obtain ⟨_, h77, rfl⟩ := given_fed hg 77 (by decide +kernel)
        obtain ⟨_, h60, rfl⟩ := given_fed hg 60 (by decide +kernel)
        clear hg
        exact st_yield ho (wanted_none rfl) (.pointer (some ⟨g, 24 * E + 6 * S, none⟩)) w6 (by simp [execOp, Act.eval, h77, h60, go_sem, hjx2]) ⟨_, rfl, hI.keep (by decide) (by decide), fun _ _ _ h => h, by rintro t' ⟨⟩; rfl⟩
      | 27, ho =>
        obtain rfl := Option.some.inj ho
        obtain ⟨_, h78, rfl⟩ := given_fed hg 78 (by decide +kernel)
        obtain ⟨_, h74, rfl⟩ := given_fed hg 74 (by decide +kernel)
        clear hg
        have d24 := hr 24 (by decide +kernel)
        have ht := hI.tab
        rw [d24, hnot, if_neg (by decide), if_pos rfl] at ht
        have hth : w6.there g (24 * E + 6 * S) (#[.bool hq, .string kx, .bool gx, .int .i64 ax, .int .i64 nx, .string sx] : Array Value).size := by rw [← HI.out.2]; exact ht.there HK32.out
        have hst := ht.set (q := k) HK32.out (hq, kx, gx, ax, nx, sx)
        rw [HI.out.2] at hst
        have hgr := setCells_gr [.bool hq, .string kx, .bool gx, .int .i64 ax, .int .i64 nx, .string sx] w6 g (24 * E + 6 * S)
        exact st_list ho (wanted_none rfl) fun Q' hQ => wpList_store_mid rfl 30 (.tmp 78) (.tmp 74) rfl g (24 * E + 6 * S) #[.bool hq, .string kx, .bool gx, .int .i64 ax, .int .i64 nx, .string sx] (by simp [Act.eval, h78]) (by simp [Act.eval, h74]) hth (by kernel_rfl) (six1 hq kx gx ax nx sx) (wpList_nil (hQ _ _ ⟨undef, rfl, ⟨hI.bel.grown hgr hI.bel.size (fun j e => by have := HG.out; have := Option.some.inj e; omega), by rw [doneToo_self, if_pos rfl]; exact hst⟩, fun t u _ h => VB11_any g u1 k D R E S hq kx gx ax nx sx hk kk gk ak nk sk t w6 _ u h, by rintro t' ⟨⟩⟩))
      | n + 28, ho => simp at ho
    · intro f w9 done hall hI hv
      have HT9 := hI.tab
      rw [hall 27 (by decide), if_pos rfl] at HT9
      have HT9 := Go.Lib.hid HT9
      have HB9 := Go.Lib.hid hI.bel
      have HBK := Go.Lib.hid ((HOK.out.set u1 (y := (hk, kk, gk, ak, nk, sk)) (by rw [HX.out]; exact HOK.out.sz k HK32.out) (by rw [HX.out]; exact HOK.out.ok k HK32.out)).set k (y := (hq, kx, gx, ax, nx, sx)) (by rw [HY.out]; exact HOK.out.sz u1 HI32.out) (by rw [HY.out]; exact HOK.out.ok u1 HI32.out))
      clear hv hall hI HT HB HCI HCK hix1 hix2 hjx1 hjx2 d1 d2 r1 r2 hwD hwE HX HY HOK
      generalize (setT (setT TT u1 (hk, kk, gk, ak, nk, sk)) k (hq, kx, gx, ax, nx, sx)) = UU at *
      clear HI HI32 HK32 HG
      unfold putAll
      simp only [List.foldl]
      go_simp
      go_upto_region 16 with (fail)
      have COF := Go.Lib.hid fun W => lof_c UU W
      have CE := fun W => oencode_c UU W HBK.out.sz HBK.out.ok
      have CTB := fun W => rtabbytes_c UU W HBK.out.sz HBK.out.ok
      have CM := fun W => omay_c UU W HBK.out.sz
      have CMT := fun W => rmaytab_c UU W HBK.out.sz
      have hln := bad_len UU
      have HRNG := Go.Lib.hid (fun W (hb : Below w9.heap.size w9 W) => (HT9.out.below hb).range)
      have HSZ := Go.Lib.hid (sizeTab UU)
      have hqq : (okTo UU 32 == okTo UU 32) = true := by simp
      clear HT9 HBK
      generalize okTo UU 32 = q at *
      generalize (if q = true then tabB UU else []) = B at *
      generalize tabL UU 32 = UL at *
      have CE := Go.Lib.hid CE
      have CTB := Go.Lib.hid CTB
      have CM := Go.Lib.hid CM
      have CMT := Go.Lib.hid CMT
      have HLN := Go.Lib.hid hln
      have HQQ := Go.Lib.hid hqq
      clear hln hqq
      go_wp2_with (first
        | (with_reducible show wpList _ _ _ (⟨some 112, _, _, _, _, _⟩ :: _) _ _; go_loud (refine wpList_load_mid rfl 33 (.tmp 12) rfl g 0 rfl UL _ (HRNG.out w9 (Below.refl _ _)) Try.underlying33 rfl HSZ.out ?_))
        | fail)
      refine (CMT.out _).mono ?_
      rintro e w9b ⟨rfl, hc⟩
      have HB9b := Go.Lib.hid hc
      clear hc CMT
      go_wp2_with (first
        | (with_reducible show wpList _ _ _ (⟨some 114, _, _, _, _, _⟩ :: _) _ _; go_loud (refine wpList_load_mid rfl 33 (.tmp 12) rfl g 0 rfl UL _ (HRNG.out w9b HB9b.out) Try.underlying33 rfl HSZ.out ?_))
        | fail)
      refine (COF.out _).mono ?_
      rintro e w10 ⟨rfl, hc⟩
      have HB10 := Go.Lib.hid (HB9b.out.trans (hc.mono HB9b.out.size))
      clear hc HB9b
      go_wp2_with fail
      refine (CE.out _).mono ?_
      rintro e w11 ⟨v8, rfl, ho, hc⟩
      have HB11 := Go.Lib.hid (HB10.out.trans (hc.mono HB10.out.size))
      have HO := Go.Lib.hid ho.rb
      obtain ⟨a8, c8, rfl, -⟩ := id ho.rb
      clear ho hc CE HB10
      go_upto_region 18 with (fail)
      have hqq := HQQ.out
      have hln1 := HLN.out
      have hln2 : decide (0 < B.length) = q := by rw [← hln1]; simp
      have hss : ((str B).toList == (str B).toList) = true := by simp
      refine wp_region_each (by kernel_rfl) (VBt UL B q a8 c8) (VBt_below UL B q a8 c8) (by decide +kernel) (by decide +kernel) (by rfl) [117, 118, 119, 120, 121, 122, 123, 124, 125, 126, 127, 128, 129, 130, 131, 132, 133, 134, 135, 136, 10] (by rfl) ?_ ?_
      · intro i o ho a w6 hb6 hlen hg
        match i, ho with
        | 0, ho =>
          obtain rfl := Option.some.inj ho
          have h12 := given_old hg 12 (by decide +kernel)
          clear hg
          exact st_list ho (wanted_none rfl) fun Q' hQ => wpList_load_mid rfl 33 (.tmp 12) rfl g 0 (by simp [Act.eval, h12]) UL _ (HRNG.out w6 (HB11.out.trans (hb6.mono HB11.out.size))) Try.underlying33 rfl HSZ.out (wpList_nil (hQ _ _ ⟨_, rfl, Below.refl _ _, by rintro t' ⟨⟩; rfl⟩))
        | 1, ho =>
          obtain rfl := Option.some.inj ho
          obtain ⟨_, h117, rfl⟩ := given_fed hg 117 (by decide +kernel)
          clear hg
          exact st_enter (w1 := w6) ho (wanted_none rfl) 9 #[.agg UL.toArray] (by simp [execOp, Act.eval, h117, resolve, go_sem]) ((COF.out w6).mono (by rintro e w7 ⟨rfl, hb7⟩; exact ⟨_, rfl, _, rfl, hb7, by rintro t' ⟨⟩; rfl⟩))
        | 2, ho =>
          obtain rfl := Option.some.inj ho
          obtain ⟨_, h118, rfl⟩ := given_fed hg 118 (by decide +kernel)
          clear hg
          exact st_enter (w1 := w6) ho (wanted_none rfl) 12 #[.agg UL.toArray] (by simp [execOp, Act.eval, h118, resolve, go_sem]) ((CM.out w6).mono (by rintro e w7 ⟨rfl, hb7⟩; exact ⟨_, rfl, _, rfl, hb7, by rintro t' ⟨⟩; rfl⟩))
        | 3, ho =>
          obtain rfl := Option.some.inj ho
          have h15 := given_old hg 15 (by decide +kernel)
          clear hg
          exact st_yield ho (wanted_none rfl) (.bool q) w6 (by simp [execOp, Act.eval, h15, go_sem]) ⟨_, rfl, Below.refl _ _, by rintro t' ⟨⟩; rfl⟩
        | 4, ho =>
          obtain rfl := Option.some.inj ho
          obtain ⟨_, h119, rfl⟩ := given_fed hg 119 (by decide +kernel)
          obtain ⟨_, h120, rfl⟩ := given_fed hg 120 (by decide +kernel)
          clear hg
          exact st_yield ho (wanted_none rfl) (.bool true) w6 (by simp [execOp, Act.eval, h119, h120, go_sem]) ⟨_, rfl, Below.refl _ _, by rintro t' ⟨⟩; rfl⟩
        | 5, ho =>
          obtain rfl := Option.some.inj ho
          obtain ⟨_, h121, rfl⟩ := given_fed hg 121 (by decide +kernel)
          clear hg
          exact st_yield ho (wanted_none rfl) (.bool true) w6 (by simp [execOp, Act.eval, h121, go_sem]) ⟨_, rfl, Below.refl _ _, by rintro t' ⟨⟩; rfl⟩
        | 6, ho =>
          obtain rfl := Option.some.inj ho
          have h16 := given_old hg 16 (by decide +kernel)
          obtain ⟨_, h122, rfl⟩ := given_fed hg 122 (by decide +kernel)
          clear hg
          exact st_yield ho (wanted_some rfl rfl h122 rfl) (.slice a8 B.length c8) w6 (by simp [execOp, Act.eval, h16, go_sem]) ⟨_, rfl, Below.refl _ _, by rintro t' ⟨⟩; rfl⟩
        | 7, ho =>
          obtain rfl := Option.some.inj ho
          obtain ⟨_, h123, rfl⟩ := given_fed hg 123 (by decide +kernel)
          obtain ⟨_, h122, rfl⟩ := given_fed hg 122 (by decide +kernel)
          clear hg
          exact st_yield ho (wanted_some rfl rfl h122 rfl) (.int .i64 (B.length : Int)) w6 (by simp [execOp, Act.eval, h123, go_sem, resolve]) ⟨_, rfl, Below.refl _ _, by rintro t' ⟨⟩; rfl⟩
        | 8, ho =>
          obtain rfl := Option.some.inj ho
          obtain ⟨_, h124, rfl⟩ := given_fed hg 124 (by decide +kernel)
          obtain ⟨_, h122, rfl⟩ := given_fed hg 122 (by decide +kernel)
          clear hg
          exact st_yield ho (wanted_some rfl rfl h122 rfl) (.bool q) w6 (by simp [execOp, Act.eval, h124, go_sem, hln2]) ⟨_, rfl, Below.refl _ _, by rintro t' ⟨⟩; rfl⟩
        | 9, ho =>
          obtain rfl := Option.some.inj ho
          have h15 := given_old hg 15 (by decide +kernel)
          obtain ⟨_, h122, rfl⟩ := given_fed hg 122 (by decide +kernel)
          clear hg
          exact st_yield ho (wanted_some rfl rfl h122 rfl) (.bool q) w6 (by simp [execOp, Act.eval, h15, go_sem]) ⟨_, rfl, Below.refl _ _, by rintro t' ⟨⟩; rfl⟩
        | 10, ho =>
          obtain rfl := Option.some.inj ho
          obtain ⟨_, h125, rfl⟩ := given_fed hg 125 (by decide +kernel)
          obtain ⟨_, h126, rfl⟩ := given_fed hg 126 (by decide +kernel)
          obtain ⟨_, h122, rfl⟩ := given_fed hg 122 (by decide +kernel)
          clear hg
          exact st_yield ho (wanted_some rfl rfl h122 rfl) (.bool true) w6 (by simp [execOp, Act.eval, h125, h126, go_sem]) ⟨_, rfl, Below.refl _ _, by rintro t' ⟨⟩; rfl⟩
        | 11, ho =>
          obtain rfl := Option.some.inj ho
          obtain ⟨_, h122, rfl⟩ := given_fed hg 122 (by decide +kernel)
          obtain ⟨_, h127, rfl⟩ := given_fed hg 127 (by decide +kernel)
          clear hg
          exact st_yield ho (wanted_none rfl) (.bool true) w6 (by simp [execOp, Act.eval, h122, h127, go_sem]) ⟨_, rfl, Below.refl _ _, by rintro t' ⟨⟩; rfl⟩
        | 12, ho =>
          obtain rfl := Option.some.inj ho
          obtain ⟨_, h128, rfl⟩ := given_fed hg 128 (by decide +kernel)
          clear hg
          exact st_yield ho (wanted_none rfl) (.bool true) w6 (by simp [execOp, Act.eval, h128, go_sem]) ⟨_, rfl, Below.refl _ _, by rintro t' ⟨⟩; rfl⟩
        | 13, ho =>
          obtain rfl := Option.some.inj ho
          have h16 := given_old hg 16 (by decide +kernel)
          obtain ⟨_, h129, rfl⟩ := given_fed hg 129 (by decide +kernel)
          clear hg
          exact st_yield ho (wanted_some rfl rfl h129 rfl) (.slice a8 B.length c8) w6 (by simp [execOp, Act.eval, h16, go_sem]) ⟨_, rfl, Below.refl _ _, by rintro t' ⟨⟩; rfl⟩
        | 14, ho =>
          obtain rfl := Option.some.inj ho
          obtain ⟨_, h130, rfl⟩ := given_fed hg 130 (by decide +kernel)
          obtain ⟨_, h129, rfl⟩ := given_fed hg 129 (by decide +kernel)
          clear hg
          have cv := run_string_RB w6 40 5 9 Try.underlying40 Try.underlying5 Try.underlying9 (.slice a8 B.length c8) B (HO.out.below hb6)
          exact st_yield ho (wanted_some rfl rfl h129 rfl) (.string (str B)) w6 (by simp [execOp, Act.eval, h130, cv, Result.andThen]) ⟨_, rfl, Below.refl _ _, by rintro t' ⟨⟩; rfl⟩
        | 15, ho =>
          obtain rfl := Option.some.inj ho
          have h12 := given_old hg 12 (by decide +kernel)
          obtain ⟨_, h129, rfl⟩ := given_fed hg 129 (by decide +kernel)
          clear hg
          exact st_list ho (wanted_some rfl rfl h129 rfl) fun Q' hQ => wpList_met (wanted_some rfl rfl h129 rfl) (wpList_load_mid rfl 33 (.tmp 12) rfl g 0 (by simp [Act.eval, h12]) UL _ (HRNG.out w6 (HB11.out.trans (hb6.mono HB11.out.size))) Try.underlying33 rfl HSZ.out (wpList_nil (hQ _ _ ⟨_, rfl, Below.refl _ _, by rintro t' ⟨⟩; rfl⟩)))
        | 16, ho =>
          obtain rfl := Option.some.inj ho
          obtain ⟨_, h132, rfl⟩ := given_fed hg 132 (by decide +kernel)
          obtain ⟨_, h129, rfl⟩ := given_fed hg 129 (by decide +kernel)
          clear hg
          exact st_enter (w1 := w6) ho (wanted_some rfl rfl h129 rfl) 13 #[.agg UL.toArray] (by simp [execOp, Act.eval, h132, resolve, go_sem]) ((CTB.out w6).mono (by rintro e w7 ⟨v, rfl, hown, hb7⟩; exact ⟨v, rfl, _, rfl, hb7, by rintro t' ⟨⟩; exact hown.rb⟩))
        | 17, ho =>
          obtain rfl := Option.some.inj ho
          obtain ⟨v133, h133, p133⟩ := given_fed hg 133 (by decide +kernel)
          obtain ⟨_, h129, rfl⟩ := given_fed hg 129 (by decide +kernel)
          clear hg
          have cv := run_string_RB w6 40 5 9 Try.underlying40 Try.underlying5 Try.underlying9 v133 B p133
          exact st_yield ho (wanted_some rfl rfl h129 rfl) (.string (str B)) w6 (by simp [execOp, Act.eval, h133, cv, Result.andThen]) ⟨_, rfl, Below.refl _ _, by rintro t' ⟨⟩; rfl⟩
        | 18, ho =>
          obtain rfl := Option.some.inj ho
          obtain ⟨_, h131, rfl⟩ := given_fed hg 131 (by decide +kernel)
          obtain ⟨_, h134, rfl⟩ := given_fed hg 134 (by decide +kernel)
          obtain ⟨_, h129, rfl⟩ := given_fed hg 129 (by decide +kernel)
          clear hg
          exact st_yield ho (wanted_some rfl rfl h129 rfl) (.bool true) w6 (by simp [execOp, Act.eval, h131, h134, go_sem]) ⟨_, rfl, Below.refl _ _, by rintro t' ⟨⟩; rfl⟩
        | 19, ho =>
          obtain rfl := Option.some.inj ho
          obtain ⟨_, h129, rfl⟩ := given_fed hg 129 (by decide +kernel)
          obtain ⟨_, h135, rfl⟩ := given_fed hg 135 (by decide +kernel)
          clear hg
          exact st_yield ho (wanted_none rfl) (.bool true) w6 (by simp [execOp, Act.eval, h129, h135, go_sem]) ⟨_, rfl, Below.refl _ _, by rintro t' ⟨⟩; rfl⟩
        | 20, ho =>
          obtain rfl := Option.some.inj ho
          obtain ⟨_, h136, rfl⟩ := given_fed hg 136 (by decide +kernel)
          clear hg
          exact st_yield ho (wanted_none rfl) (.bool true) w6 (by simp [execOp, Act.eval, h136, go_sem]) ⟨_, rfl, Below.refl _ _, by rintro t' ⟨⟩; rfl⟩
        | n + 21, ho => simp at ho
      · intro f w20 hb20 hv
        have h10 := hv 10 (by decide)
        simp only [VBt] at h10
        have HB20 := Go.Lib.hid (HB9.out.trans ((HB11.out.trans (hb20.mono HB11.out.size)).mono HB9.out.size))
        clear hv hb20 HB11 HB9 HO hqq hln1 hln2 hss
        unfold putAll
        simp only [List.foldl]
        simp only [h10]
        go_simp
        go_wp2_with fail
        go_ret
        exact ⟨rfl, HB20.out⟩
  by_cases z1 : z = 1
  · subst z1
    go_upto_region 13 with (fail)
    obtain ⟨y, hy⟩ : ∃ y, y = TT u1 := ⟨_, rfl⟩
    rw [← hy] at HCI
    have HY := Go.Lib.hid hy
    clear hy
    obtain ⟨hq, kx, gx, ax, nx, sx⟩ := y
    simp only [] at HCI
    have HCELL := Go.Lib.hid (fun W (hb : Below w5.heap.size w5 W) => HCI.out W (HT.out.below hb))
    refine wp_region_head 13 (by decide) (by kernel_rfl) (VB13 g u1 k D R E S hq kx gx ax nx sx) (VB13_below g u1 k D R E S hq kx gx ax nx sx) (by decide +kernel) (by rfl) [81, 82, 83, 84, 85, 86, 87, 88, 89, 90, 91, 92, 93] (by rfl) ?_ ?_
    · intro i o hin ho a w6 hb6 hlen hg
      obtain ⟨y0, y1, y2, y3, y4, y5⟩ := HCELL.out w6 hb6
      match i, hin, ho with
      | 0, hin, ho =>
        obtain rfl := Option.some.inj ho
        have h14 := given_old hg 14 (by decide +kernel)
        clear hg
        exact st_yield ho (wanted_none rfl) (.int .i64 (k : Int)) w6 (by simp [execOp, Act.eval, h14, go_sem]) ⟨_, rfl, Below.refl _ _, by rintro t' ⟨⟩; rfl⟩
      | 1, hin, ho =>
        obtain rfl := Option.some.inj ho
        obtain ⟨_, h81, rfl⟩ := given_fed hg 81 (by decide +kernel)
        clear hg
        exact st_yield ho (wanted_none rfl) (.int .i64 (E : Int)) w6 (by simp [execOp, Act.eval, h81, go_sem, d2, hwE]) ⟨_, rfl, Below.refl _ _, by rintro t' ⟨⟩; rfl⟩
      | 2, hin, ho =>
        obtain rfl := Option.some.inj ho
        have h14 := given_old hg 14 (by decide +kernel)
        clear hg
        exact st_yield ho (wanted_none rfl) (.int .i64 (k : Int)) w6 (by simp [execOp, Act.eval, h14, go_sem]) ⟨_, rfl, Below.refl _ _, by rintro t' ⟨⟩; rfl⟩
      | 3, hin, ho =>
        obtain rfl := Option.some.inj ho
        obtain ⟨_, h83, rfl⟩ := given_fed hg 83 (by decide +kernel)
        clear hg
        exact st_yield ho (wanted_none rfl) (.int .i64 (S : Int)) w6 (by simp [execOp, Act.eval, h83, go_sem, r2]) ⟨_, rfl, Below.refl _ _, by rintro t' ⟨⟩; rfl⟩
      | 4, hin, ho =>
        obtain rfl := Option.some.inj ho
        have h13 := given_old hg 13 (by decide +kernel)
        clear hg
        exact st_yield ho (wanted_none rfl) (.int .i64 (u1 : Int)) w6 (by simp [execOp, Act.eval, h13, go_sem]) ⟨_, rfl, Below.refl _ _, by rintro t' ⟨⟩; rfl⟩
      | 5, hin, ho =>
        obtain rfl := Option.some.inj ho
        obtain ⟨_, h85, rfl⟩ := given_fed hg 85 (by decide +kernel)
        clear hg
        exact st_yield ho (wanted_none rfl) (.int .i64 (D : Int)) w6 (by simp [execOp, Act.eval, h85, go_sem, d1, hwD]) ⟨_, rfl, Below.refl _ _, by rintro t' ⟨⟩; rfl⟩
      | 6, hin, ho =>
        obtain rfl := Option.some.inj ho
        have h13 := given_old hg 13 (by decide +kernel)
        clear hg
        exact st_yield ho (wanted_none rfl) (.int .i64 (u1 : Int)) w6 (by simp [execOp, Act.eval, h13, go_sem]) ⟨_, rfl, Below.refl _ _, by rintro t' ⟨⟩; rfl⟩
      | 7, hin, ho =>
        obtain rfl := Option.some.inj ho
        obtain ⟨_, h87, rfl⟩ := given_fed hg 87 (by decide +kernel)
        clear hg
        exact st_yield ho (wanted_none rfl) (.int .i64 (R : Int)) w6 (by simp [execOp, Act.eval, h87, go_sem, r1]) ⟨_, rfl, Below.refl _ _, by rintro t' ⟨⟩; rfl⟩
      | 8, hin, ho =>
        obtain rfl := Option.some.inj ho
        have h12 := given_old hg 12 (by decide +kernel)
        obtain ⟨_, h86, rfl⟩ := given_fed hg 86 (by decide +kernel)
        clear hg
        exact st_yield ho (wanted_none rfl) (.pointer (some ⟨g, 24 * D, none⟩)) w6 (by simp [execOp, Act.eval, h12, h86, go_sem, hix1]) ⟨_, rfl, Below.refl _ _, by rintro t' ⟨⟩; rfl⟩
      | 9, hin, ho =>
        obtain rfl := Option.some.inj ho
        obtain ⟨_, h89, rfl⟩ := given_fed hg 89 (by decide +kernel)
        obtain ⟨_, h88, rfl⟩ := given_fed hg 88 (by decide +kernel)
        clear hg
        exact st_yield ho (wanted_none rfl) (.pointer (some ⟨g, 24 * D + 6 * R, none⟩)) w6 (by simp [execOp, Act.eval, h89, h88, go_sem, hix2]) ⟨_, rfl, Below.refl _ _, by rintro t' ⟨⟩; rfl⟩
      | 10, hin, ho =>
        obtain rfl := Option.some.inj ho
        obtain ⟨_, h90, rfl⟩ := given_fed hg 90 (by decide +kernel)
        clear hg
        exact st_yield ho (wanted_none rfl) (.agg #[.bool hq, .string kx, .bool gx, .int .i64 ax, .int .i64 nx, .string sx]) w6 (by simp [execOp, Act.eval, h90, go_sem, y0, y1, y2, y3, y4, y5]) ⟨_, rfl, Below.refl _ _, by rintro t' ⟨⟩; rfl⟩
      | 11, hin, ho =>
        obtain rfl := Option.some.inj ho
        have h12 := given_old hg 12 (by decide +kernel)
        obtain ⟨_, h82, rfl⟩ := given_fed hg 82 (by decide +kernel)
        clear hg
        exact st_yield ho (wanted_none rfl) (.pointer (some ⟨g, 24 * E, none⟩)) w6 (by simp [execOp, Act.eval, h12, h82, go_sem, hjx1]) ⟨_, rfl, Below.refl _ _, by rintro t' ⟨⟩; rfl⟩
      | 12, hin, ho =>
        obtain rfl := Option.some.inj ho
        obtain ⟨_, h92, rfl⟩ := given_fed hg 92 (by decide +kernel)
        obtain ⟨_, h84, rfl⟩ := given_fed hg 84 (by decide +kernel)
        clear hg
        exact st_yield ho (wanted_none rfl) (.pointer (some ⟨g, 24 * E + 6 * S, none⟩)) w6 (by simp [execOp, Act.eval, h92, h84, go_sem, hjx2]) ⟨_, rfl, Below.refl _ _, by rintro t' ⟨⟩; rfl⟩
      | n + 13, hin, ho => omega
    · intro f w8 hb8 hv
      have h91 := hv 91 (by decide)
      have h93 := hv 93 (by decide)
      simp only [VB13] at h91 h93
      have HT8 := Go.Lib.hid (HT.out.below hb8)
      have HB8 := Go.Lib.hid (HB.out.trans (hb8.mono HB.out.size))
      have HTH := Go.Lib.hid (show w8.there g (24 * E + 6 * S) (#[.bool hq, .string kx, .bool gx, .int .i64 ax, .int .i64 nx, .string sx] : Array Value).size from by rw [← HI.out.2]; exact HT8.out.there HK32.out)
      have hgr := setCells_gr [.bool hq, .string kx, .bool gx, .int .i64 ax, .int .i64 nx, .string sx] w8 g (24 * E + 6 * S)
      have HT9 := Go.Lib.hid (show TK (w8.setCells g (24 * E + 6 * S) [.bool hq, .string kx, .bool gx, .int .i64 ax, .int .i64 nx, .string sx]) g (setT TT k (hq, kx, gx, ax, nx, sx)) from by
        have := HT8.out.set (q := k) HK32.out (hq, kx, gx, ax, nx, sx)
        rw [HI.out.2] at this
        exact this)
      have HB9 := Go.Lib.hid (HB8.out.grown hgr HB8.out.size (fun j e => by have := HG.out; have := Option.some.inj e; omega))
      have HBK := Go.Lib.hid (HOK.out.set k (y := (hq, kx, gx, ax, nx, sx)) (by rw [HY.out]; exact HOK.out.sz u1 HI32.out) (by rw [HY.out]; exact HOK.out.ok u1 HI32.out))
      clear HT8 HB8 hgr HY HOK
      clear hv hb8 HT HB HCELL HCI HCK hix1 hix2 hjx1 hjx2 d1 d2 r1 r2 hwD hwE
      unfold putAll
      simp only [List.foldl, List.drop]
      simp only [h91, h93]
      clear h91 h93
      go_simp
      go_upto_region 16 with (first
        | (with_reducible show wpList _ _ _ (⟨none, _, _, _, _, _⟩ :: _) _ _; go_loud (refine wpList_store_mid rfl 30 (.tmp 93) (.tmp 91) rfl g (24 * E + 6 * S) #[.bool hq, .string kx, .bool gx, .int .i64 ax, .int .i64 nx, .string sx] rfl rfl HTH.out (by kernel_rfl) (six1 hq kx gx ax nx sx) ?_))
        | fail)
      generalize w8.setCells g (24 * E + 6 * S) [.bool hq, .string kx, .bool gx, .int .i64 ax, .int .i64 nx, .string sx] = w9 at *
      generalize setT TT k (hq, kx, gx, ax, nx, sx) = UU at *
      clear HTH HI HI32 HK32 HG
      have COF := Go.Lib.hid fun W => lof_c UU W
      have CE := fun W => oencode_c UU W HBK.out.sz HBK.out.ok
      have CTB := fun W => rtabbytes_c UU W HBK.out.sz HBK.out.ok
      have CM := fun W => omay_c UU W HBK.out.sz
      have CMT := fun W => rmaytab_c UU W HBK.out.sz
      have hln := bad_len UU
      have HRNG := Go.Lib.hid (fun W (hb : Below w9.heap.size w9 W) => (HT9.out.below hb).range)
      have HSZ := Go.Lib.hid (sizeTab UU)
      have hqq : (okTo UU 32 == okTo UU 32) = true := by simp
      clear HT9 HBK
      generalize okTo UU 32 = q at *
      generalize (if q = true then tabB UU else []) = B at *
      generalize tabL UU 32 = UL at *
      have CE := Go.Lib.hid CE
      have CTB := Go.Lib.hid CTB
      have CM := Go.Lib.hid CM
      have CMT := Go.Lib.hid CMT
      have HLN := Go.Lib.hid hln
      have HQQ := Go.Lib.hid hqq
      clear hln hqq
      go_wp2_with (first
        | (with_reducible show wpList _ _ _ (⟨some 112, _, _, _, _, _⟩ :: _) _ _; go_loud (refine wpList_load_mid rfl 33 (.tmp 12) rfl g 0 rfl UL _ (HRNG.out w9 (Below.refl _ _)) Try.underlying33 rfl HSZ.out ?_))
        | fail)
      refine (CMT.out _).mono ?_
      rintro e w9b ⟨rfl, hc⟩
      have HB9b := Go.Lib.hid hc
      clear hc CMT
      go_wp2_with (first
        | (with_reducible show wpList _ _ _ (⟨some 114, _, _, _, _, _⟩ :: _) _ _; go_loud (refine wpList_load_mid rfl 33 (.tmp 12) rfl g 0 rfl UL _ (HRNG.out w9b HB9b.out) Try.underlying33 rfl HSZ.out ?_))
        | fail)
      refine (COF.out _).mono ?_
      rintro e w10 ⟨rfl, hc⟩
      have HB10 := Go.Lib.hid (HB9b.out.trans (hc.mono HB9b.out.size))
      clear hc HB9b
      go_wp2_with fail
      refine (CE.out _).mono ?_
      rintro e w11 ⟨v8, rfl, ho, hc⟩
      have HB11 := Go.Lib.hid (HB10.out.trans (hc.mono HB10.out.size))
      have HO := Go.Lib.hid ho.rb
      obtain ⟨a8, c8, rfl, -⟩ := id ho.rb
      clear ho hc CE HB10
      go_upto_region 18 with (fail)
      have hqq := HQQ.out
      have hln1 := HLN.out
      have hln2 : decide (0 < B.length) = q := by rw [← hln1]; simp
      have hss : ((str B).toList == (str B).toList) = true := by simp
      refine wp_region_each (by kernel_rfl) (VBt UL B q a8 c8) (VBt_below UL B q a8 c8) (by decide +kernel) (by decide +kernel) (by rfl) [117, 118, 119, 120, 121, 122, 123, 124, 125, 126, 127, 128, 129, 130, 131, 132, 133, 134, 135, 136, 10] (by rfl) ?_ ?_
      · intro i o ho a w6 hb6 hlen hg
        match i, ho with
        | 0, ho =>
          obtain rfl := Option.some.inj ho
          have h12 := given_old hg 12 (by decide +kernel)
          clear hg
          exact st_list ho (wanted_none rfl) fun Q' hQ => wpList_load_mid rfl 33 (.tmp 12) rfl g 0 (by simp [Act.eval, h12]) UL _ (HRNG.out w6 (HB11.out.trans (hb6.mono HB11.out.size))) Try.underlying33 rfl HSZ.out (wpList_nil (hQ _ _ ⟨_, rfl, Below.refl _ _, by rintro t' ⟨⟩; rfl⟩))
        | 1, ho =>
          obtain rfl := Option.some.inj ho
          obtain ⟨_, h117, rfl⟩ := given_fed hg 117 (by decide +kernel)
          clear hg
          exact st_enter (w1 := w6) ho (wanted_none rfl) 9 #[.agg UL.toArray] (by simp [execOp, Act.eval, h117, resolve, go_sem]) ((COF.out w6).mono (by rintro e w7 ⟨rfl, hb7⟩; exact ⟨_, rfl, _, rfl, hb7, by rintro t' ⟨⟩; rfl⟩))
        | 2, ho =>
          obtain rfl := Option.some.inj ho
          obtain ⟨_, h118, rfl⟩ := given_fed hg 118 (by decide +kernel)
          clear hg
          exact st_enter (w1 := w6) ho (wanted_none rfl) 12 #[.agg UL.toArray] (by simp [execOp, Act.eval, h118, resolve, go_sem]) ((CM.out w6).mono (by rintro e w7 ⟨rfl, hb7⟩; exact ⟨_, rfl, _, rfl, hb7, by rintro t' ⟨⟩; rfl⟩))
        | 3, ho =>
          obtain rfl := Option.some.inj ho
          have h15 := given_old hg 15 (by decide +kernel)
          clear hg
          exact st_yield ho (wanted_none rfl) (.bool q) w6 (by simp [execOp, Act.eval, h15, go_sem]) ⟨_, rfl, Below.refl _ _, by rintro t' ⟨⟩; rfl⟩
        | 4, ho =>
          obtain rfl := Option.some.inj ho
          obtain ⟨_, h119, rfl⟩ := given_fed hg 119 (by decide +kernel)
          obtain ⟨_, h120, rfl⟩ := given_fed hg 120 (by decide +kernel)
          clear hg
          exact st_yield ho (wanted_none rfl) (.bool true) w6 (by simp [execOp, Act.eval, h119, h120, go_sem]) ⟨_, rfl, Below.refl _ _, by rintro t' ⟨⟩; rfl⟩
        | 5, ho =>
          obtain rfl := Option.some.inj ho
          obtain ⟨_, h121, rfl⟩ := given_fed hg 121 (by decide +kernel)
          clear hg
          exact st_yield ho (wanted_none rfl) (.bool true) w6 (by simp [execOp, Act.eval, h121, go_sem]) ⟨_, rfl, Below.refl _ _, by rintro t' ⟨⟩; rfl⟩
        | 6, ho =>
          obtain rfl := Option.some.inj ho
          have h16 := given_old hg 16 (by decide +kernel)
          obtain ⟨_, h122, rfl⟩ := given_fed hg 122 (by decide +kernel)
          clear hg
          exact st_yield ho (wanted_some rfl rfl h122 rfl) (.slice a8 B.length c8) w6 (by simp [execOp, Act.eval, h16, go_sem]) ⟨_, rfl, Below.refl _ _, by rintro t' ⟨⟩; rfl⟩
        | 7, ho =>
          obtain rfl := Option.some.inj ho
          obtain ⟨_, h123, rfl⟩ := given_fed hg 123 (by decide +kernel)
          obtain ⟨_, h122, rfl⟩ := given_fed hg 122 (by decide +kernel)
          clear hg
          exact st_yield ho (wanted_some rfl rfl h122 rfl) (.int .i64 (B.length : Int)) w6 (by simp [execOp, Act.eval, h123, go_sem, resolve]) ⟨_, rfl, Below.refl _ _, by rintro t' ⟨⟩; rfl⟩
        | 8, ho =>
          obtain rfl := Option.some.inj ho
          obtain ⟨_, h124, rfl⟩ := given_fed hg 124 (by decide +kernel)
          obtain ⟨_, h122, rfl⟩ := given_fed hg 122 (by decide +kernel)
          clear hg
          exact st_yield ho (wanted_some rfl rfl h122 rfl) (.bool q) w6 (by simp [execOp, Act.eval, h124, go_sem, hln2]) ⟨_, rfl, Below.refl _ _, by rintro t' ⟨⟩; rfl⟩
        | 9, ho =>
          obtain rfl := Option.some.inj ho
          have h15 := given_old hg 15 (by decide +kernel)
          obtain ⟨_, h122, rfl⟩ := given_fed hg 122 (by decide +kernel)
          clear hg
          exact st_yield ho (wanted_some rfl rfl h122 rfl) (.bool q) w6 (by simp [execOp, Act.eval, h15, go_sem]) ⟨_, rfl, Below.refl _ _, by rintro t' ⟨⟩; rfl⟩
        | 10, ho =>
          obtain rfl := Option.some.inj ho
          obtain ⟨_, h125, rfl⟩ := given_fed hg 125 (by decide +kernel)
          obtain ⟨_, h126, rfl⟩ := given_fed hg 126 (by decide +kernel)
          obtain ⟨_, h122, rfl⟩ := given_fed hg 122 (by decide +kernel)
          clear hg
          exact st_yield ho (wanted_some rfl rfl h122 rfl) (.bool true) w6 (by simp [execOp, Act.eval, h125, h126, go_sem]) ⟨_, rfl, Below.refl _ _, by rintro t' ⟨⟩; rfl⟩
        | 11, ho =>
          obtain rfl := Option.some.inj ho
          obtain ⟨_, h122, rfl⟩ := given_fed hg 122 (by decide +kernel)
          obtain ⟨_, h127, rfl⟩ := given_fed hg 127 (by decide +kernel)
          clear hg
          exact st_yield ho (wanted_none rfl) (.bool true) w6 (by simp [execOp, Act.eval, h122, h127, go_sem]) ⟨_, rfl, Below.refl _ _, by rintro t' ⟨⟩; rfl⟩
        | 12, ho =>
          obtain rfl := Option.some.inj ho
          obtain ⟨_, h128, rfl⟩ := given_fed hg 128 (by decide +kernel)
          clear hg
          exact st_yield ho (wanted_none rfl) (.bool true) w6 (by simp [execOp, Act.eval, h128, go_sem]) ⟨_, rfl, Below.refl _ _, by rintro t' ⟨⟩; rfl⟩
        | 13, ho =>
          obtain rfl := Option.some.inj ho
          have h16 := given_old hg 16 (by decide +kernel)
          obtain ⟨_, h129, rfl⟩ := given_fed hg 129 (by decide +kernel)
          clear hg
          exact st_yield ho (wanted_some rfl rfl h129 rfl) (.slice a8 B.length c8) w6 (by simp [execOp, Act.eval, h16, go_sem]) ⟨_, rfl, Below.refl _ _, by rintro t' ⟨⟩; rfl⟩
        | 14, ho =>
          obtain rfl := Option.some.inj ho
          obtain ⟨_, h130, rfl⟩ := given_fed hg 130 (by decide +kernel)
          obtain ⟨_, h129, rfl⟩ := given_fed hg 129 (by decide +kernel)
          clear hg
          have cv := run_string_RB w6 40 5 9 Try.underlying40 Try.underlying5 Try.underlying9 (.slice a8 B.length c8) B (HO.out.below hb6)
          exact st_yield ho (wanted_some rfl rfl h129 rfl) (.string (str B)) w6 (by simp [execOp, Act.eval, h130, cv, Result.andThen]) ⟨_, rfl, Below.refl _ _, by rintro t' ⟨⟩; rfl⟩
        | 15, ho =>
          obtain rfl := Option.some.inj ho
          have h12 := given_old hg 12 (by decide +kernel)
          obtain ⟨_, h129, rfl⟩ := given_fed hg 129 (by decide +kernel)
          clear hg
          exact st_list ho (wanted_some rfl rfl h129 rfl) fun Q' hQ => wpList_met (wanted_some rfl rfl h129 rfl) (wpList_load_mid rfl 33 (.tmp 12) rfl g 0 (by simp [Act.eval, h12]) UL _ (HRNG.out w6 (HB11.out.trans (hb6.mono HB11.out.size))) Try.underlying33 rfl HSZ.out (wpList_nil (hQ _ _ ⟨_, rfl, Below.refl _ _, by rintro t' ⟨⟩; rfl⟩)))
        | 16, ho =>
          obtain rfl := Option.some.inj ho
          obtain ⟨_, h132, rfl⟩ := given_fed hg 132 (by decide +kernel)
          obtain ⟨_, h129, rfl⟩ := given_fed hg 129 (by decide +kernel)
          clear hg
          exact st_enter (w1 := w6) ho (wanted_some rfl rfl h129 rfl) 13 #[.agg UL.toArray] (by simp [execOp, Act.eval, h132, resolve, go_sem]) ((CTB.out w6).mono (by rintro e w7 ⟨v, rfl, hown, hb7⟩; exact ⟨v, rfl, _, rfl, hb7, by rintro t' ⟨⟩; exact hown.rb⟩))
        | 17, ho =>
          obtain rfl := Option.some.inj ho
          obtain ⟨v133, h133, p133⟩ := given_fed hg 133 (by decide +kernel)
          obtain ⟨_, h129, rfl⟩ := given_fed hg 129 (by decide +kernel)
          clear hg
          have cv := run_string_RB w6 40 5 9 Try.underlying40 Try.underlying5 Try.underlying9 v133 B p133
          exact st_yield ho (wanted_some rfl rfl h129 rfl) (.string (str B)) w6 (by simp [execOp, Act.eval, h133, cv, Result.andThen]) ⟨_, rfl, Below.refl _ _, by rintro t' ⟨⟩; rfl⟩
        | 18, ho =>
          obtain rfl := Option.some.inj ho
          obtain ⟨_, h131, rfl⟩ := given_fed hg 131 (by decide +kernel)
          obtain ⟨_, h134, rfl⟩ := given_fed hg 134 (by decide +kernel)
          obtain ⟨_, h129, rfl⟩ := given_fed hg 129 (by decide +kernel)
          clear hg
          exact st_yield ho (wanted_some rfl rfl h129 rfl) (.bool true) w6 (by simp [execOp, Act.eval, h131, h134, go_sem]) ⟨_, rfl, Below.refl _ _, by rintro t' ⟨⟩; rfl⟩
        | 19, ho =>
          obtain rfl := Option.some.inj ho
          obtain ⟨_, h129, rfl⟩ := given_fed hg 129 (by decide +kernel)
          obtain ⟨_, h135, rfl⟩ := given_fed hg 135 (by decide +kernel)
          clear hg
          exact st_yield ho (wanted_none rfl) (.bool true) w6 (by simp [execOp, Act.eval, h129, h135, go_sem]) ⟨_, rfl, Below.refl _ _, by rintro t' ⟨⟩; rfl⟩
        | 20, ho =>
          obtain rfl := Option.some.inj ho
          obtain ⟨_, h136, rfl⟩ := given_fed hg 136 (by decide +kernel)
          clear hg
          exact st_yield ho (wanted_none rfl) (.bool true) w6 (by simp [execOp, Act.eval, h136, go_sem]) ⟨_, rfl, Below.refl _ _, by rintro t' ⟨⟩; rfl⟩
        | n + 21, ho => simp at ho
      · intro f w20 hb20 hv
        have h10 := hv 10 (by decide)
        simp only [VBt] at h10
        have HB20 := Go.Lib.hid (HB9.out.trans ((HB11.out.trans (hb20.mono HB11.out.size)).mono HB9.out.size))
        clear hv hb20 HB11 HB9 HO hqq hln1 hln2 hss
        unfold putAll
        simp only [List.foldl]
        simp only [h10]
        go_simp
        go_wp2_with fail
        go_ret
        exact ⟨rfl, HB20.out⟩
  by_cases z2 : z = 2
  · subst z2
    go_upto_region 15 with (fail)
    obtain ⟨y, hy⟩ : ∃ y, y = TT u1 := ⟨_, rfl⟩
    rw [← hy] at HCI
    have HY := Go.Lib.hid hy
    clear hy
    obtain ⟨hq, kx, gx, ax, nx, sx⟩ := y
    simp only [] at HCI
    have HCELL := Go.Lib.hid (fun W (hb : Below w5.heap.size w5 W) => HCI.out W (HT.out.below hb))
    refine wp_region_head 16 (by decide) (by kernel_rfl) (VB15 g u1 k D R E S hq kx gx ax nx sx) (VB15_below g u1 k D R E S hq kx gx ax nx sx) (by decide +kernel) (by rfl) [96, 97, 98, 99, 100, 101, 102, 103, 104, 105, 106, 107, 108, 109, 110, 111] (by rfl) ?_ ?_
    · intro i o hin ho a w6 hb6 hlen hg
      obtain ⟨y0, y1, y2, y3, y4, y5⟩ := HCELL.out w6 hb6
      match i, hin, ho with
      | 0, hin, ho =>
        obtain rfl := Option.some.inj ho
        have h13 := given_old hg 13 (by decide +kernel)
        clear hg
        exact st_yield ho (wanted_none rfl) (.int .i64 (u1 : Int)) w6 (by simp [execOp, Act.eval, h13, go_sem]) ⟨_, rfl, Below.refl _ _, by rintro t' ⟨⟩; rfl⟩
      | 1, hin, ho =>
        obtain rfl := Option.some.inj ho
        obtain ⟨_, h96, rfl⟩ := given_fed hg 96 (by decide +kernel)
        clear hg
        exact st_yield ho (wanted_none rfl) (.int .i64 (D : Int)) w6 (by simp [execOp, Act.eval, h96, go_sem, d1, hwD]) ⟨_, rfl, Below.refl _ _, by rintro t' ⟨⟩; rfl⟩
      | 2, hin, ho =>
        obtain rfl := Option.some.inj ho
        have h13 := given_old hg 13 (by decide +kernel)
        clear hg
        exact st_yield ho (wanted_none rfl) (.int .i64 (u1 : Int)) w6 (by simp [execOp, Act.eval, h13, go_sem]) ⟨_, rfl, Below.refl _ _, by rintro t' ⟨⟩; rfl⟩
      | 3, hin, ho =>
        obtain rfl := Option.some.inj ho
        obtain ⟨_, h98, rfl⟩ := given_fed hg 98 (by decide +kernel)
        clear hg
        exact st_yield ho (wanted_none rfl) (.int .i64 (R : Int)) w6 (by simp [execOp, Act.eval, h98, go_sem, r1]) ⟨_, rfl, Below.refl _ _, by rintro t' ⟨⟩; rfl⟩
      | 4, hin, ho =>
        obtain rfl := Option.some.inj ho
        have h13 := given_old hg 13 (by decide +kernel)
        clear hg
        exact st_yield ho (wanted_none rfl) (.int .i64 (u1 : Int)) w6 (by simp [execOp, Act.eval, h13, go_sem]) ⟨_, rfl, Below.refl _ _, by rintro t' ⟨⟩; rfl⟩
      | 5, hin, ho =>
        obtain rfl := Option.some.inj ho
        obtain ⟨_, h100, rfl⟩ := given_fed hg 100 (by decide +kernel)
        clear hg
        exact st_yield ho (wanted_none rfl) (.int .i64 (D : Int)) w6 (by simp [execOp, Act.eval, h100, go_sem, d1, hwD]) ⟨_, rfl, Below.refl _ _, by rintro t' ⟨⟩; rfl⟩
      | 6, hin, ho =>
        obtain rfl := Option.some.inj ho
        have h13 := given_old hg 13 (by decide +kernel)
        clear hg
        exact st_yield ho (wanted_none rfl) (.int .i64 (u1 : Int)) w6 (by simp [execOp, Act.eval, h13, go_sem]) ⟨_, rfl, Below.refl _ _, by rintro t' ⟨⟩; rfl⟩
      | 7, hin, ho =>
        obtain rfl := Option.some.inj ho
        obtain ⟨_, h102, rfl⟩ := given_fed hg 102 (by decide +kernel)
        clear hg
        exact st_yield ho (wanted_none rfl) (.int .i64 (R : Int)) w6 (by simp [execOp, Act.eval, h102, go_sem, r1]) ⟨_, rfl, Below.refl _ _, by rintro t' ⟨⟩; rfl⟩
      | 8, hin, ho =>
        obtain rfl := Option.some.inj ho
        have h12 := given_old hg 12 (by decide +kernel)
        obtain ⟨_, h101, rfl⟩ := given_fed hg 101 (by decide +kernel)
        clear hg
        exact st_yield ho (wanted_none rfl) (.pointer (some ⟨g, 24 * D, none⟩)) w6 (by simp [execOp, Act.eval, h12, h101, go_sem, hix1]) ⟨_, rfl, Below.refl _ _, by rintro t' ⟨⟩; rfl⟩
      | 9, hin, ho =>
        obtain rfl := Option.some.inj ho
        obtain ⟨_, h104, rfl⟩ := given_fed hg 104 (by decide +kernel)
        obtain ⟨_, h103, rfl⟩ := given_fed hg 103 (by decide +kernel)
        clear hg
        exact st_yield ho (wanted_none rfl) (.pointer (some ⟨g, 24 * D + 6 * R, none⟩)) w6 (by simp [execOp, Act.eval, h104, h103, go_sem, hix2]) ⟨_, rfl, Below.refl _ _, by rintro t' ⟨⟩; rfl⟩
      | 10, hin, ho =>
        obtain rfl := Option.some.inj ho
        obtain ⟨_, h105, rfl⟩ := given_fed hg 105 (by decide +kernel)
        clear hg
        exact st_yield ho (wanted_none rfl) (.pointer (some ⟨g, 24 * D + 6 * R, none⟩)) w6 (by simp [execOp, Act.eval, h105, go_sem]) ⟨_, rfl, Below.refl _ _, by rintro t' ⟨⟩; rfl⟩
      | 11, hin, ho =>
        obtain rfl := Option.some.inj ho
        obtain ⟨_, h106, rfl⟩ := given_fed hg 106 (by decide +kernel)
        clear hg
        exact st_yield ho (wanted_none rfl) (.bool hq) w6 (by simp [execOp, Act.eval, h106, go_sem, y0]) ⟨_, rfl, Below.refl _ _, by rintro t' ⟨⟩; rfl⟩
      | 12, hin, ho =>
        obtain rfl := Option.some.inj ho
        obtain ⟨_, h107, rfl⟩ := given_fed hg 107 (by decide +kernel)
        clear hg
        exact st_yield ho (wanted_none rfl) (.bool (!hq)) w6 (by simp [execOp, Act.eval, h107, go_sem]) ⟨_, rfl, Below.refl _ _, by rintro t' ⟨⟩; rfl⟩
      | 13, hin, ho =>
        obtain rfl := Option.some.inj ho
        have h12 := given_old hg 12 (by decide +kernel)
        obtain ⟨_, h97, rfl⟩ := given_fed hg 97 (by decide +kernel)
        clear hg
        exact st_yield ho (wanted_none rfl) (.pointer (some ⟨g, 24 * D, none⟩)) w6 (by simp [execOp, Act.eval, h12, h97, go_sem, hix1]) ⟨_, rfl, Below.refl _ _, by rintro t' ⟨⟩; rfl⟩
      | 14, hin, ho =>
        obtain rfl := Option.some.inj ho
        obtain ⟨_, h109, rfl⟩ := given_fed hg 109 (by decide +kernel)
        obtain ⟨_, h99, rfl⟩ := given_fed hg 99 (by decide +kernel)
        clear hg
        exact st_yield ho (wanted_none rfl) (.pointer (some ⟨g, 24 * D + 6 * R, none⟩)) w6 (by simp [execOp, Act.eval, h109, h99, go_sem, hix2]) ⟨_, rfl, Below.refl _ _, by rintro t' ⟨⟩; rfl⟩
      | 15, hin, ho =>
        obtain rfl := Option.some.inj ho
        obtain ⟨_, h110, rfl⟩ := given_fed hg 110 (by decide +kernel)
        clear hg
        exact st_yield ho (wanted_none rfl) (.pointer (some ⟨g, 24 * D + 6 * R, none⟩)) w6 (by simp [execOp, Act.eval, h110, go_sem]) ⟨_, rfl, Below.refl _ _, by rintro t' ⟨⟩; rfl⟩
      | n + 16, hin, ho => omega
    · intro f w8 hb8 hv
      have h108 := hv 108 (by decide)
      have h111 := hv 111 (by decide)
      simp only [VB15] at h108 h111
      have HT8 := Go.Lib.hid (HT.out.below hb8)
      have HB8 := Go.Lib.hid (HB.out.trans (hb8.mono HB.out.size))
      have HF := Go.Lib.hid (show w8.frozen? ⟨g, 24 * D + 6 * R, none⟩ = false from HT8.out.fr _)
      have HCL := Go.Lib.hid (HCI.out w8 HT8.out).1
      have hgr := setCells_gr [.bool (!hq)] w8 g (24 * D + 6 * R)
      have HT9 := Go.Lib.hid (show TK (w8.setCell ⟨g, 24 * D + 6 * R, none⟩ (.bool (!hq))) g (setT TT u1 (!hq, kx, gx, ax, nx, sx)) from by
        have := HT8.out.set1 (q := u1) (j := 0) (v := .bool (!hq)) (y := (!hq, kx, gx, ax, nx, sx)) HI32.out (by decide) (fun j hj h0 => by
          rw [← HY.out]
          match j, hj, h0 with
          | 0, _, h0 => exact absurd rfl h0
          | 1, _, _ => rfl
          | 2, _, _ => rfl
          | 3, _, _ => rfl
          | 4, _, _ => rfl
          | 5, _, _ => rfl) rfl
        rw [HI.out.1] at this
        exact this)
      have HB9 := Go.Lib.hid (show Below w.heap.size w (w8.setCell ⟨g, 24 * D + 6 * R, none⟩ (.bool (!hq))) from HB8.out.grown hgr HB8.out.size (fun j e => by have := HG.out; have := Option.some.inj e; omega))
      have HBK := Go.Lib.hid (HOK.out.set u1 (y := (!hq, kx, gx, ax, nx, sx)) (by have := HOK.out.sz u1 HI32.out; rw [← HY.out] at this; exact this) (by have := HOK.out.ok u1 HI32.out; rw [← HY.out] at this; exact this))
      clear HT8 HB8 hgr HY HOK
      clear hv hb8 HT HB HCELL HCI HCK hix1 hix2 hjx1 hjx2 d1 d2 r1 r2 hwD hwE
      unfold putAll
      simp only [List.foldl, List.drop]
      simp only [h108, h111]
      clear h108 h111
      go_simp
      have hf := HF.out
      have hcl := HCL.out
      go_upto_region 16 with (fail)
      clear hf hcl HF HCL
      generalize w8.setCell ⟨g, 24 * D + 6 * R, none⟩ (.bool (!hq)) = w9 at *
      generalize setT TT u1 (!hq, kx, gx, ax, nx, sx) = UU at *
      clear HI HI32 HK32 HG
      have COF := Go.Lib.hid fun W => lof_c UU W
      have CE := fun W => oencode_c UU W HBK.out.sz HBK.out.ok
      have CTB := fun W => rtabbytes_c UU W HBK.out.sz HBK.out.ok
      have CM := fun W => omay_c UU W HBK.out.sz
      have CMT := fun W => rmaytab_c UU W HBK.out.sz
      have hln := bad_len UU
      have HRNG := Go.Lib.hid (fun W (hb : Below w9.heap.size w9 W) => (HT9.out.below hb).range)
      have HSZ := Go.Lib.hid (sizeTab UU)
      have hqq : (okTo UU 32 == okTo UU 32) = true := by simp
      clear HT9 HBK
      generalize okTo UU 32 = q at *
      generalize (if q = true then tabB UU else []) = B at *
      generalize tabL UU 32 = UL at *
      have CE := Go.Lib.hid CE
      have CTB := Go.Lib.hid CTB
      have CM := Go.Lib.hid CM
      have CMT := Go.Lib.hid CMT
      have HLN := Go.Lib.hid hln
      have HQQ := Go.Lib.hid hqq
      clear hln hqq
      go_wp2_with (first
        | (with_reducible show wpList _ _ _ (⟨some 112, _, _, _, _, _⟩ :: _) _ _; go_loud (refine wpList_load_mid rfl 33 (.tmp 12) rfl g 0 rfl UL _ (HRNG.out w9 (Below.refl _ _)) Try.underlying33 rfl HSZ.out ?_))
        | fail)
      refine (CMT.out _).mono ?_
      rintro e w9b ⟨rfl, hc⟩
      have HB9b := Go.Lib.hid hc
      clear hc CMT
      go_wp2_with (first
        | (with_reducible show wpList _ _ _ (⟨some 114, _, _, _, _, _⟩ :: _) _ _; go_loud (refine wpList_load_mid rfl 33 (.tmp 12) rfl g 0 rfl UL _ (HRNG.out w9b HB9b.out) Try.underlying33 rfl HSZ.out ?_))
        | fail)
      refine (COF.out _).mono ?_
      rintro e w10 ⟨rfl, hc⟩
      have HB10 := Go.Lib.hid (HB9b.out.trans (hc.mono HB9b.out.size))
      clear hc HB9b
      go_wp2_with fail
      refine (CE.out _).mono ?_
      rintro e w11 ⟨v8, rfl, ho, hc⟩
      have HB11 := Go.Lib.hid (HB10.out.trans (hc.mono HB10.out.size))
      have HO := Go.Lib.hid ho.rb
      obtain ⟨a8, c8, rfl, -⟩ := id ho.rb
      clear ho hc CE HB10
      go_upto_region 18 with (fail)
      have hqq := HQQ.out
      have hln1 := HLN.out
      have hln2 : decide (0 < B.length) = q := by rw [← hln1]; simp
      have hss : ((str B).toList == (str B).toList) = true := by simp
      refine wp_region_each (by kernel_rfl) (VBt UL B q a8 c8) (VBt_below UL B q a8 c8) (by decide +kernel) (by decide +kernel) (by rfl) [117, 118, 119, 120, 121, 122, 123, 124, 125, 126, 127, 128, 129, 130, 131, 132, 133, 134, 135, 136, 10] (by rfl) ?_ ?_
      · intro i o ho a w6 hb6 hlen hg
        match i, ho with
        | 0, ho =>
          obtain rfl := Option.some.inj ho
          have h12 := given_old hg 12 (by decide +kernel)
          clear hg
          exact st_list ho (wanted_none rfl) fun Q' hQ => wpList_load_mid rfl 33 (.tmp 12) rfl g 0 (by simp [Act.eval, h12]) UL _ (HRNG.out w6 (HB11.out.trans (hb6.mono HB11.out.size))) Try.underlying33 rfl HSZ.out (wpList_nil (hQ _ _ ⟨_, rfl, Below.refl _ _, by rintro t' ⟨⟩; rfl⟩))
        | 1, ho =>
          obtain rfl := Option.some.inj ho
          obtain ⟨_, h117, rfl⟩ := given_fed hg 117 (by decide +kernel)
          clear hg
          exact st_enter (w1 := w6) ho (wanted_none rfl) 9 #[.agg UL.toArray] (by simp [execOp, Act.eval, h117, resolve, go_sem]) ((COF.out w6).mono (by rintro e w7 ⟨rfl, hb7⟩; exact ⟨_, rfl, _, rfl, hb7, by rintro t' ⟨⟩; rfl⟩))
        | 2, ho =>
          obtain rfl := Option.some.inj ho
          obtain ⟨_, h118, rfl⟩ := given_fed hg 118 (by decide +kernel)
          clear hg
          exact st_enter (w1 := w6) ho (wanted_none rfl) 12 #[.agg UL.toArray] (by simp [execOp, Act.eval, h118, resolve, go_sem]) ((CM.out w6).mono (by rintro e w7 ⟨rfl, hb7⟩; exact ⟨_, rfl, _, rfl, hb7, by rintro t' ⟨⟩; rfl⟩))
        | 3, ho =>
          obtain rfl := Option.some.inj ho
          have h15 := given_old hg 15 (by decide +kernel)
          clear hg
          exact st_yield ho (wanted_none rfl) (.bool q) w6 (by simp [execOp, Act.eval, h15, go_sem]) ⟨_, rfl, Below.refl _ _, by rintro t' ⟨⟩; rfl⟩
        | 4, ho =>
          obtain rfl := Option.some.inj ho
          obtain ⟨_, h119, rfl⟩ := given_fed hg 119 (by decide +kernel)
          obtain ⟨_, h120, rfl⟩ := given_fed hg 120 (by decide +kernel)
          clear hg
          exact st_yield ho (wanted_none rfl) (.bool true) w6 (by simp [execOp, Act.eval, h119, h120, go_sem]) ⟨_, rfl, Below.refl _ _, by rintro t' ⟨⟩; rfl⟩
        | 5, ho =>
          obtain rfl := Option.some.inj ho
          obtain ⟨_, h121, rfl⟩ := given_fed hg 121 (by decide +kernel)
          clear hg
          exact st_yield ho (wanted_none rfl) (.bool true) w6 (by simp [execOp, Act.eval, h121, go_sem]) ⟨_, rfl, Below.refl _ _, by rintro t' ⟨⟩; rfl⟩
        | 6, ho =>
          obtain rfl := Option.some.inj ho
          have h16 := given_old hg 16 (by decide +kernel)
          obtain ⟨_, h122, rfl⟩ := given_fed hg 122 (by decide +kernel)
          clear hg
          exact st_yield ho (wanted_some rfl rfl h122 rfl) (.slice a8 B.length c8) w6 (by simp [execOp, Act.eval, h16, go_sem]) ⟨_, rfl, Below.refl _ _, by rintro t' ⟨⟩; rfl⟩
        | 7, ho =>
          obtain rfl := Option.some.inj ho
          obtain ⟨_, h123, rfl⟩ := given_fed hg 123 (by decide +kernel)
          obtain ⟨_, h122, rfl⟩ := given_fed hg 122 (by decide +kernel)
          clear hg
          exact st_yield ho (wanted_some rfl rfl h122 rfl) (.int .i64 (B.length : Int)) w6 (by simp [execOp, Act.eval, h123, go_sem, resolve]) ⟨_, rfl, Below.refl _ _, by rintro t' ⟨⟩; rfl⟩
        | 8, ho =>
          obtain rfl := Option.some.inj ho
          obtain ⟨_, h124, rfl⟩ := given_fed hg 124 (by decide +kernel)
          obtain ⟨_, h122, rfl⟩ := given_fed hg 122 (by decide +kernel)
          clear hg
          exact st_yield ho (wanted_some rfl rfl h122 rfl) (.bool q) w6 (by simp [execOp, Act.eval, h124, go_sem, hln2]) ⟨_, rfl, Below.refl _ _, by rintro t' ⟨⟩; rfl⟩
        | 9, ho =>
          obtain rfl := Option.some.inj ho
          have h15 := given_old hg 15 (by decide +kernel)
          obtain ⟨_, h122, rfl⟩ := given_fed hg 122 (by decide +kernel)
          clear hg
          exact st_yield ho (wanted_some rfl rfl h122 rfl) (.bool q) w6 (by simp [execOp, Act.eval, h15, go_sem]) ⟨_, rfl, Below.refl _ _, by rintro t' ⟨⟩; rfl⟩
        | 10, ho =>
          obtain rfl := Option.some.inj ho
          obtain ⟨_, h125, rfl⟩ := given_fed hg 125 (by decide +kernel)
          obtain ⟨_, h126, rfl⟩ := given_fed hg 126 (by decide +kernel)
          obtain ⟨_, h122, rfl⟩ := given_fed hg 122 (by decide +kernel)
          clear hg
          exact st_yield ho (wanted_some rfl rfl h122 rfl) (.bool true) w6 (by simp [execOp, Act.eval, h125, h126, go_sem]) ⟨_, rfl, Below.refl _ _, by rintro t' ⟨⟩; rfl⟩
        | 11, ho =>
          obtain rfl := Option.some.inj ho
          obtain ⟨_, h122, rfl⟩ := given_fed hg 122 (by decide +kernel)
          obtain ⟨_, h127, rfl⟩ := given_fed hg 127 (by decide +kernel)
          clear hg
          exact st_yield ho (wanted_none rfl) (.bool true) w6 (by simp [execOp, Act.eval, h122, h127, go_sem]) ⟨_, rfl, Below.refl _ _, by rintro t' ⟨⟩; rfl⟩
        | 12, ho =>
          obtain rfl := Option.some.inj ho
          obtain ⟨_, h128, rfl⟩ := given_fed hg 128 (by decide +kernel)
          clear hg
          exact st_yield ho (wanted_none rfl) (.bool true) w6 (by simp [execOp, Act.eval, h128, go_sem]) ⟨_, rfl, Below.refl _ _, by rintro t' ⟨⟩; rfl⟩
        | 13, ho =>
          obtain rfl := Option.some.inj ho
          have h16 := given_old hg 16 (by decide +kernel)
          obtain ⟨_, h129, rfl⟩ := given_fed hg 129 (by decide +kernel)
          clear hg
          exact st_yield ho (wanted_some rfl rfl h129 rfl) (.slice a8 B.length c8) w6 (by simp [execOp, Act.eval, h16, go_sem]) ⟨_, rfl, Below.refl _ _, by rintro t' ⟨⟩; rfl⟩
        | 14, ho =>
          obtain rfl := Option.some.inj ho
          obtain ⟨_, h130, rfl⟩ := given_fed hg 130 (by decide +kernel)
          obtain ⟨_, h129, rfl⟩ := given_fed hg 129 (by decide +kernel)
          clear hg
          have cv := run_string_RB w6 40 5 9 Try.underlying40 Try.underlying5 Try.underlying9 (.slice a8 B.length c8) B (HO.out.below hb6)
          exact st_yield ho (wanted_some rfl rfl h129 rfl) (.string (str B)) w6 (by simp [execOp, Act.eval, h130, cv, Result.andThen]) ⟨_, rfl, Below.refl _ _, by rintro t' ⟨⟩; rfl⟩
        | 15, ho =>
          obtain rfl := Option.some.inj ho
          have h12 := given_old hg 12 (by decide +kernel)
          obtain ⟨_, h129, rfl⟩ := given_fed hg 129 (by decide +kernel)
          clear hg
          exact st_list ho (wanted_some rfl rfl h129 rfl) fun Q' hQ => wpList_met (wanted_some rfl rfl h129 rfl) (wpList_load_mid rfl 33 (.tmp 12) rfl g 0 (by simp [Act.eval, h12]) UL _ (HRNG.out w6 (HB11.out.trans (hb6.mono HB11.out.size))) Try.underlying33 rfl HSZ.out (wpList_nil (hQ _ _ ⟨_, rfl, Below.refl _ _, by rintro t' ⟨⟩; rfl⟩)))
        | 16, ho =>
          obtain rfl := Option.some.inj ho
          obtain ⟨_, h132, rfl⟩ := given_fed hg 132 (by decide +kernel)
          obtain ⟨_, h129, rfl⟩ := given_fed hg 129 (by decide +kernel)
          clear hg
          exact st_enter (w1 := w6) ho (wanted_some rfl rfl h129 rfl) 13 #[.agg UL.toArray] (by simp [execOp, Act.eval, h132, resolve, go_sem]) ((CTB.out w6).mono (by rintro e w7 ⟨v, rfl, hown, hb7⟩; exact ⟨v, rfl, _, rfl, hb7, by rintro t' ⟨⟩; exact hown.rb⟩))
        | 17, ho =>
          obtain rfl := Option.some.inj ho
          obtain ⟨v133, h133, p133⟩ := given_fed hg 133 (by decide +kernel)
          obtain ⟨_, h129, rfl⟩ := given_fed hg 129 (by decide +kernel)
          clear hg
          have cv := run_string_RB w6 40 5 9 Try.underlying40 Try.underlying5 Try.underlying9 v133 B p133
          exact st_yield ho (wanted_some rfl rfl h129 rfl) (.string (str B)) w6 (by simp [execOp, Act.eval, h133, cv, Result.andThen]) ⟨_, rfl, Below.refl _ _, by rintro t' ⟨⟩; rfl⟩
        | 18, ho =>
          obtain rfl := Option.some.inj ho
          obtain ⟨_, h131, rfl⟩ := given_fed hg 131 (by decide +kernel)
          obtain ⟨_, h134, rfl⟩ := given_fed hg 134 (by decide +kernel)
          obtain ⟨_, h129, rfl⟩ := given_fed hg 129 (by decide +kernel)
          clear hg
          exact st_yield ho (wanted_some rfl rfl h129 rfl) (.bool true) w6 (by simp [execOp, Act.eval, h131, h134, go_sem]) ⟨_, rfl, Below.refl _ _, by rintro t' ⟨⟩; rfl⟩
        | 19, ho =>
          obtain rfl := Option.some.inj ho
          obtain ⟨_, h129, rfl⟩ := given_fed hg 129 (by decide +kernel)
          obtain ⟨_, h135, rfl⟩ := given_fed hg 135 (by decide +kernel)
          clear hg
          exact st_yield ho (wanted_none rfl) (.bool true) w6 (by simp [execOp, Act.eval, h129, h135, go_sem]) ⟨_, rfl, Below.refl _ _, by rintro t' ⟨⟩; rfl⟩
        | 20, ho =>
          obtain rfl := Option.some.inj ho
          obtain ⟨_, h136, rfl⟩ := given_fed hg 136 (by decide +kernel)
          clear hg
          exact st_yield ho (wanted_none rfl) (.bool true) w6 (by simp [execOp, Act.eval, h136, go_sem]) ⟨_, rfl, Below.refl _ _, by rintro t' ⟨⟩; rfl⟩
        | n + 21, ho => simp at ho
      · intro f w20 hb20 hv
        have h10 := hv 10 (by decide)
        simp only [VBt] at h10
        have HB20 := Go.Lib.hid (HB9.out.trans ((HB11.out.trans (hb20.mono HB11.out.size)).mono HB9.out.size))
        clear hv hb20 HB11 HB9 HO hqq hln1 hln2 hss
        unfold putAll
        simp only [List.foldl]
        simp only [h10]
        go_simp
        go_wp2_with fail
        go_ret
        exact ⟨rfl, HB20.out⟩
  go_upto_region 9 with (fail)
  obtain ⟨y, hy⟩ : ∃ y, y = TT u1 := ⟨_, rfl⟩
  rw [← hy] at HCI
  have HY := Go.Lib.hid hy
  clear hy
  obtain ⟨hq, kx, gx, ax, nx, sx⟩ := y
  simp only [] at HCI
  have HCELL := Go.Lib.hid (fun W (hb : Below w5.heap.size w5 W) => HCI.out W (HT.out.below hb))
  refine wp_region_head 16 (by decide) (by kernel_rfl) (VB9 g u1 k D R E S hq kx gx ax nx sx) (VB9_below g u1 k D R E S hq kx gx ax nx sx) (by decide +kernel) (by rfl) [35, 36, 37, 38, 39, 40, 41, 42, 43, 44, 45, 46, 47, 48, 49, 50] (by rfl) ?_ ?_
  · intro i o hin ho a w6 hb6 hlen hg
    obtain ⟨y0, y1, y2, y3, y4, y5⟩ := HCELL.out w6 hb6
    match i, hin, ho with
    | 0, hin, ho =>
      obtain rfl := Option.some.inj ho
      have h13 := given_old hg 13 (by decide +kernel)
      clear hg
      exact st_yield ho (wanted_none rfl) (.int .i64 (u1 : Int)) w6 (by simp [execOp, Act.eval, h13, go_sem]) ⟨_, rfl, Below.refl _ _, by rintro t' ⟨⟩; rfl⟩
    | 1, hin, ho =>
      obtain rfl := Option.some.inj ho
      obtain ⟨_, h35, rfl⟩ := given_fed hg 35 (by decide +kernel)
      clear hg
      exact st_yield ho (wanted_none rfl) (.int .i64 (D : Int)) w6 (by simp [execOp, Act.eval, h35, go_sem, d1, hwD]) ⟨_, rfl, Below.refl _ _, by rintro t' ⟨⟩; rfl⟩
    | 2, hin, ho =>
      obtain rfl := Option.some.inj ho
      have h13 := given_old hg 13 (by decide +kernel)
      clear hg
      exact st_yield ho (wanted_none rfl) (.int .i64 (u1 : Int)) w6 (by simp [execOp, Act.eval, h13, go_sem]) ⟨_, rfl, Below.refl _ _, by rintro t' ⟨⟩; rfl⟩
    | 3, hin, ho =>
      obtain rfl := Option.some.inj ho
      obtain ⟨_, h37, rfl⟩ := given_fed hg 37 (by decide +kernel)
      clear hg
      exact st_yield ho (wanted_none rfl) (.int .i64 (R : Int)) w6 (by simp [execOp, Act.eval, h37, go_sem, r1]) ⟨_, rfl, Below.refl _ _, by rintro t' ⟨⟩; rfl⟩
    | 4, hin, ho =>
      obtain rfl := Option.some.inj ho
      have h12 := given_old hg 12 (by decide +kernel)
      obtain ⟨_, h36, rfl⟩ := given_fed hg 36 (by decide +kernel)
      clear hg
      exact st_yield ho (wanted_none rfl) (.pointer (some ⟨g, 24 * D, none⟩)) w6 (by simp [execOp, Act.eval, h12, h36, go_sem, hix1]) ⟨_, rfl, Below.refl _ _, by rintro t' ⟨⟩; rfl⟩
    | 5, hin, ho =>
      obtain rfl := Option.some.inj ho
      obtain ⟨_, h39, rfl⟩ := given_fed hg 39 (by decide +kernel)
      obtain ⟨_, h38, rfl⟩ := given_fed hg 38 (by decide +kernel)
      clear hg
      exact st_yield ho (wanted_none rfl) (.pointer (some ⟨g, 24 * D + 6 * R, none⟩)) w6 (by simp [execOp, Act.eval, h39, h38, go_sem, hix2]) ⟨_, rfl, Below.refl _ _, by rintro t' ⟨⟩; rfl⟩
    | 6, hin, ho =>
      obtain rfl := Option.some.inj ho
      obtain ⟨_, h40, rfl⟩ := given_fed hg 40 (by decide +kernel)
      clear hg
      exact st_yield ho (wanted_none rfl) (.pointer (some ⟨g, 24 * D + 6 * R + 1, none⟩)) w6 (by simp [execOp, Act.eval, h40, go_sem]) ⟨_, rfl, Below.refl _ _, by rintro t' ⟨⟩; rfl⟩
    | 7, hin, ho =>
      obtain rfl := Option.some.inj ho
      obtain ⟨_, h41, rfl⟩ := given_fed hg 41 (by decide +kernel)
      clear hg
      exact st_yield ho (wanted_none rfl) (.pointer (some ⟨g, 24 * D + 6 * R + 3, none⟩)) w6 (by simp [execOp, Act.eval, h41, go_sem]) ⟨_, rfl, Below.refl _ _, by rintro t' ⟨⟩; rfl⟩
    | 8, hin, ho =>
      obtain rfl := Option.some.inj ho
      obtain ⟨_, h42, rfl⟩ := given_fed hg 42 (by decide +kernel)
      clear hg
      exact st_yield ho (wanted_none rfl) (.pointer (some ⟨g, 24 * D + 6 * R + 4, none⟩)) w6 (by simp [execOp, Act.eval, h42, go_sem]) ⟨_, rfl, Below.refl _ _, by rintro t' ⟨⟩; rfl⟩
    | 9, hin, ho =>
      obtain rfl := Option.some.inj ho
      obtain ⟨_, h43, rfl⟩ := given_fed hg 43 (by decide +kernel)
      clear hg
      exact st_yield ho (wanted_none rfl) (.int .i64 nx) w6 (by simp [execOp, Act.eval, h43, go_sem, y4]) ⟨_, rfl, Below.refl _ _, by rintro t' ⟨⟩; rfl⟩
    | 10, hin, ho =>
      obtain rfl := Option.some.inj ho
      obtain ⟨_, h44, rfl⟩ := given_fed hg 44 (by decide +kernel)
      clear hg
      exact st_yield ho (wanted_none rfl) (.int .i64 (IntKind.i64.wrap (nx + 1))) w6 (by simp [execOp, Act.eval, h44, go_sem]) ⟨_, rfl, Below.refl _ _, by rintro t' ⟨⟩; rfl⟩
    | 11, hin, ho =>
      obtain rfl := Option.some.inj ho
      have h12 := given_old hg 12 (by decide +kernel)
      obtain ⟨_, h36, rfl⟩ := given_fed hg 36 (by decide +kernel)
      clear hg
      exact st_yield ho (wanted_none rfl) (.pointer (some ⟨g, 24 * D, none⟩)) w6 (by simp [execOp, Act.eval, h12, h36, go_sem, hix1]) ⟨_, rfl, Below.refl _ _, by rintro t' ⟨⟩; rfl⟩
    | 12, hin, ho =>
      obtain rfl := Option.some.inj ho
      obtain ⟨_, h46, rfl⟩ := given_fed hg 46 (by decide +kernel)
      obtain ⟨_, h38, rfl⟩ := given_fed hg 38 (by decide +kernel)
      clear hg
      exact st_yield ho (wanted_none rfl) (.pointer (some ⟨g, 24 * D + 6 * R, none⟩)) w6 (by simp [execOp, Act.eval, h46, h38, go_sem, hix2]) ⟨_, rfl, Below.refl _ _, by rintro t' ⟨⟩; rfl⟩
    | 13, hin, ho =>
      obtain rfl := Option.some.inj ho
      obtain ⟨_, h47, rfl⟩ := given_fed hg 47 (by decide +kernel)
      clear hg
      exact st_yield ho (wanted_none rfl) (.pointer (some ⟨g, 24 * D + 6 * R + 1, none⟩)) w6 (by simp [execOp, Act.eval, h47, go_sem]) ⟨_, rfl, Below.refl _ _, by rintro t' ⟨⟩; rfl⟩
    | 14, hin, ho =>
      obtain rfl := Option.some.inj ho
      obtain ⟨_, h48, rfl⟩ := given_fed hg 48 (by decide +kernel)
      clear hg
      exact st_yield ho (wanted_none rfl) (.pointer (some ⟨g, 24 * D + 6 * R + 3, none⟩)) w6 (by simp [execOp, Act.eval, h48, go_sem]) ⟨_, rfl, Below.refl _ _, by rintro t' ⟨⟩; rfl⟩
    | 15, hin, ho =>
      obtain rfl := Option.some.inj ho
      obtain ⟨_, h49, rfl⟩ := given_fed hg 49 (by decide +kernel)
      clear hg
      exact st_yield ho (wanted_none rfl) (.pointer (some ⟨g, 24 * D + 6 * R + 4, none⟩)) w6 (by simp [execOp, Act.eval, h49, go_sem]) ⟨_, rfl, Below.refl _ _, by rintro t' ⟨⟩; rfl⟩
    | n + 16, hin, ho => omega
  · intro f w8 hb8 hv
    have h45 := hv 45 (by decide)
    have h50 := hv 50 (by decide)
    simp only [VB9] at h45 h50
    have HT8 := Go.Lib.hid (HT.out.below hb8)
    have HB8 := Go.Lib.hid (HB.out.trans (hb8.mono HB.out.size))
    have HF := Go.Lib.hid (show w8.frozen? ⟨g, 24 * D + 6 * R + 4, none⟩ = false from HT8.out.fr _)
    have HCL := Go.Lib.hid (HCI.out w8 HT8.out).2.2.2.2.1
    obtain ⟨nn, hnn⟩ : ∃ nn, nn = IntKind.i64.wrap (nx + 1) := ⟨_, rfl⟩
    have hgr := setCells_gr [.int .i64 nn] w8 g (24 * D + 6 * R + 4)
    have HT9 := Go.Lib.hid (show TK (w8.setCell ⟨g, 24 * D + 6 * R + 4, none⟩ (.int .i64 nn)) g (setT TT u1 (hq, kx, gx, ax, nn, sx)) from by
      have := HT8.out.set1 (q := u1) (j := 4) (v := .int .i64 nn) (y := (hq, kx, gx, ax, nn, sx)) HI32.out (by decide) (fun j hj h0 => by
        rw [← HY.out]
        match j, hj, h0 with
        | 0, _, _ => rfl
        | 1, _, _ => rfl
        | 2, _, _ => rfl
        | 3, _, _ => rfl
        | 4, _, h0 => exact absurd rfl h0
        | 5, _, _ => rfl) rfl
      rw [HI.out.1] at this
      exact this)
    have HB9 := Go.Lib.hid (show Below w.heap.size w (w8.setCell ⟨g, 24 * D + 6 * R + 4, none⟩ (.int .i64 nn)) from HB8.out.grown hgr HB8.out.size (fun j e => by have := HG.out; have := Option.some.inj e; omega))
    have HBK := Go.Lib.hid (HOK.out.set u1 (y := (hq, kx, gx, ax, nn, sx)) (by have := HOK.out.sz u1 HI32.out; rw [← HY.out] at this; exact this) (by have := HOK.out.ok u1 HI32.out; rw [← HY.out] at this; rw [hnn]; exact BadOk.more this))
    rw [← hnn] at h45
    clear HT8 HB8 hgr HY HOK hnn
    clear hv hb8 HT HB HCELL HCI HCK hix1 hix2 hjx1 hjx2 d1 d2 r1 r2 hwD hwE
    unfold putAll
    simp only [List.foldl, List.drop]
    simp only [h45, h50]
    clear h45 h50
    go_simp
    have hf := HF.out
    have hcl := HCL.out
    go_upto_region 16 with (fail)
    clear hf hcl HF HCL
    generalize w8.setCell ⟨g, 24 * D + 6 * R + 4, none⟩ (.int .i64 nn) = w9 at *
    generalize setT TT u1 (hq, kx, gx, ax, nn, sx) = UU at *
    clear HI HI32 HK32 HG
    have COF := Go.Lib.hid fun W => lof_c UU W
    have CE := fun W => oencode_c UU W HBK.out.sz HBK.out.ok
    have CTB := fun W => rtabbytes_c UU W HBK.out.sz HBK.out.ok
    have CM := fun W => omay_c UU W HBK.out.sz
    have CMT := fun W => rmaytab_c UU W HBK.out.sz
    have hln := bad_len UU
    have HRNG := Go.Lib.hid (fun W (hb : Below w9.heap.size w9 W) => (HT9.out.below hb).range)
    have HSZ := Go.Lib.hid (sizeTab UU)
    have hqq : (okTo UU 32 == okTo UU 32) = true := by simp
    clear HT9 HBK
    generalize okTo UU 32 = q at *
    generalize (if q = true then tabB UU else []) = B at *
    generalize tabL UU 32 = UL at *
    have CE := Go.Lib.hid CE
    have CTB := Go.Lib.hid CTB
    have CM := Go.Lib.hid CM
    have CMT := Go.Lib.hid CMT
    have HLN := Go.Lib.hid hln
    have HQQ := Go.Lib.hid hqq
    clear hln hqq
    go_wp2_with (first
      | (with_reducible show wpList _ _ _ (⟨some 112, _, _, _, _, _⟩ :: _) _ _; go_loud (refine wpList_load_mid rfl 33 (.tmp 12) rfl g 0 rfl UL _ (HRNG.out w9 (Below.refl _ _)) Try.underlying33 rfl HSZ.out ?_))
      | fail)
    refine (CMT.out _).mono ?_
    rintro e w9b ⟨rfl, hc⟩
    have HB9b := Go.Lib.hid hc
    clear hc CMT
    go_wp2_with (first
      | (with_reducible show wpList _ _ _ (⟨some 114, _, _, _, _, _⟩ :: _) _ _; go_loud (refine wpList_load_mid rfl 33 (.tmp 12) rfl g 0 rfl UL _ (HRNG.out w9b HB9b.out) Try.underlying33 rfl HSZ.out ?_))
      | fail)
    refine (COF.out _).mono ?_
    rintro e w10 ⟨rfl, hc⟩
    have HB10 := Go.Lib.hid (HB9b.out.trans (hc.mono HB9b.out.size))
    clear hc HB9b
    go_wp2_with fail
    refine (CE.out _).mono ?_
    rintro e w11 ⟨v8, rfl, ho, hc⟩
    have HB11 := Go.Lib.hid (HB10.out.trans (hc.mono HB10.out.size))
    have HO := Go.Lib.hid ho.rb
    obtain ⟨a8, c8, rfl, -⟩ := id ho.rb
    clear ho hc CE HB10
    go_upto_region 18 with (fail)
    have hqq := HQQ.out
    have hln1 := HLN.out
    have hln2 : decide (0 < B.length) = q := by rw [← hln1]; simp
    have hss : ((str B).toList == (str B).toList) = true := by simp
    refine wp_region_each (by kernel_rfl) (VBt UL B q a8 c8) (VBt_below UL B q a8 c8) (by decide +kernel) (by decide +kernel) (by rfl) [117, 118, 119, 120, 121, 122, 123, 124, 125, 126, 127, 128, 129, 130, 131, 132, 133, 134, 135, 136, 10] (by rfl) ?_ ?_
    · intro i o ho a w6 hb6 hlen hg
      match i, ho with
      | 0, ho =>
        obtain rfl := Option.some.inj ho
        have h12 := given_old hg 12 (by decide +kernel)
        clear hg
        exact st_list ho (wanted_none rfl) fun Q' hQ => wpList_load_mid rfl 33 (.tmp 12) rfl g 0 (by simp [Act.eval, h12]) UL _ (HRNG.out w6 (HB11.out.trans (hb6.mono HB11.out.size))) Try.underlying33 rfl HSZ.out (wpList_nil (hQ _ _ ⟨_, rfl, Below.refl _ _, by rintro t' ⟨⟩; rfl⟩))
      | 1, ho =>
        obtain rfl := Option.some.inj ho
        obtain ⟨_, h117, rfl⟩ := given_fed hg 117 (by decide +kernel)
        clear hg
        exact st_enter (w1 := w6) ho (wanted_none rfl) 9 #[.agg UL.toArray] (by simp [execOp, Act.eval, h117, resolve, go_sem]) ((COF.out w6).mono (by rintro e w7 ⟨rfl, hb7⟩; exact ⟨_, rfl, _, rfl, hb7, by rintro t' ⟨⟩; rfl⟩))
      | 2, ho =>
        obtain rfl := Option.some.inj ho
        obtain ⟨_, h118, rfl⟩ := given_fed hg 118 (by decide +kernel)
        clear hg
        exact st_enter (w1 := w6) ho (wanted_none rfl) 12 #[.agg UL.toArray] (by simp [execOp, Act.eval, h118, resolve, go_sem]) ((CM.out w6).mono (by rintro e w7 ⟨rfl, hb7⟩; exact ⟨_, rfl, _, rfl, hb7, by rintro t' ⟨⟩; rfl⟩))
      | 3, ho =>
        obtain rfl := Option.some.inj ho
        have h15 := given_old hg 15 (by decide +kernel)
        clear hg
        exact st_yield ho (wanted_none rfl) (.bool q) w6 (by simp [execOp, Act.eval, h15, go_sem]) ⟨_, rfl, Below.refl _ _, by rintro t' ⟨⟩; rfl⟩
      | 4, ho =>
        obtain rfl := Option.some.inj ho
        obtain ⟨_, h119, rfl⟩ := given_fed hg 119 (by decide +kernel)
        obtain ⟨_, h120, rfl⟩ := given_fed hg 120 (by decide +kernel)
        clear hg
        exact st_yield ho (wanted_none rfl) (.bool true) w6 (by simp [execOp, Act.eval, h119, h120, go_sem]) ⟨_, rfl, Below.refl _ _, by rintro t' ⟨⟩; rfl⟩
      | 5, ho =>
        obtain rfl := Option.some.inj ho
        obtain ⟨_, h121, rfl⟩ := given_fed hg 121 (by decide +kernel)
        clear hg
        exact st_yield ho (wanted_none rfl) (.bool true) w6 (by simp [execOp, Act.eval, h121, go_sem]) ⟨_, rfl, Below.refl _ _, by rintro t' ⟨⟩; rfl⟩
      | 6, ho =>
        obtain rfl := Option.some.inj ho
        have h16 := given_old hg 16 (by decide +kernel)
        obtain ⟨_, h122, rfl⟩ := given_fed hg 122 (by decide +kernel)
        clear hg
        exact st_yield ho (wanted_some rfl rfl h122 rfl) (.slice a8 B.length c8) w6 (by simp [execOp, Act.eval, h16, go_sem]) ⟨_, rfl, Below.refl _ _, by rintro t' ⟨⟩; rfl⟩
      | 7, ho =>
        obtain rfl := Option.some.inj ho
        obtain ⟨_, h123, rfl⟩ := given_fed hg 123 (by decide +kernel)
        obtain ⟨_, h122, rfl⟩ := given_fed hg 122 (by decide +kernel)
        clear hg
        exact st_yield ho (wanted_some rfl rfl h122 rfl) (.int .i64 (B.length : Int)) w6 (by simp [execOp, Act.eval, h123, go_sem, resolve]) ⟨_, rfl, Below.refl _ _, by rintro t' ⟨⟩; rfl⟩
      | 8, ho =>
        obtain rfl := Option.some.inj ho
        obtain ⟨_, h124, rfl⟩ := given_fed hg 124 (by decide +kernel)
        obtain ⟨_, h122, rfl⟩ := given_fed hg 122 (by decide +kernel)
        clear hg
        exact st_yield ho (wanted_some rfl rfl h122 rfl) (.bool q) w6 (by simp [execOp, Act.eval, h124, go_sem, hln2]) ⟨_, rfl, Below.refl _ _, by rintro t' ⟨⟩; rfl⟩
      | 9, ho =>
        obtain rfl := Option.some.inj ho
        have h15 := given_old hg 15 (by decide +kernel)
        obtain ⟨_, h122, rfl⟩ := given_fed hg 122 (by decide +kernel)
        clear hg
        exact st_yield ho (wanted_some rfl rfl h122 rfl) (.bool q) w6 (by simp [execOp, Act.eval, h15, go_sem]) ⟨_, rfl, Below.refl _ _, by rintro t' ⟨⟩; rfl⟩
      | 10, ho =>
        obtain rfl := Option.some.inj ho
        obtain ⟨_, h125, rfl⟩ := given_fed hg 125 (by decide +kernel)
        obtain ⟨_, h126, rfl⟩ := given_fed hg 126 (by decide +kernel)
        obtain ⟨_, h122, rfl⟩ := given_fed hg 122 (by decide +kernel)
        clear hg
        exact st_yield ho (wanted_some rfl rfl h122 rfl) (.bool true) w6 (by simp [execOp, Act.eval, h125, h126, go_sem]) ⟨_, rfl, Below.refl _ _, by rintro t' ⟨⟩; rfl⟩
      | 11, ho =>
        obtain rfl := Option.some.inj ho
        obtain ⟨_, h122, rfl⟩ := given_fed hg 122 (by decide +kernel)
        obtain ⟨_, h127, rfl⟩ := given_fed hg 127 (by decide +kernel)
        clear hg
        exact st_yield ho (wanted_none rfl) (.bool true) w6 (by simp [execOp, Act.eval, h122, h127, go_sem]) ⟨_, rfl, Below.refl _ _, by rintro t' ⟨⟩; rfl⟩
      | 12, ho =>
        obtain rfl := Option.some.inj ho
        obtain ⟨_, h128, rfl⟩ := given_fed hg 128 (by decide +kernel)
        clear hg
        exact st_yield ho (wanted_none rfl) (.bool true) w6 (by simp [execOp, Act.eval, h128, go_sem]) ⟨_, rfl, Below.refl _ _, by rintro t' ⟨⟩; rfl⟩
      | 13, ho =>
        obtain rfl := Option.some.inj ho
        have h16 := given_old hg 16 (by decide +kernel)
        obtain ⟨_, h129, rfl⟩ := given_fed hg 129 (by decide +kernel)
        clear hg
        exact st_yield ho (wanted_some rfl rfl h129 rfl) (.slice a8 B.length c8) w6 (by simp [execOp, Act.eval, h16, go_sem]) ⟨_, rfl, Below.refl _ _, by rintro t' ⟨⟩; rfl⟩
      | 14, ho =>
        obtain rfl := Option.some.inj ho
        obtain ⟨_, h130, rfl⟩ := given_fed hg 130 (by decide +kernel)
        obtain ⟨_, h129, rfl⟩ := given_fed hg 129 (by decide +kernel)
        clear hg
        have cv := run_string_RB w6 40 5 9 Try.underlying40 Try.underlying5 Try.underlying9 (.slice a8 B.length c8) B (HO.out.below hb6)
        exact st_yield ho (wanted_some rfl rfl h129 rfl) (.string (str B)) w6 (by simp [execOp, Act.eval, h130, cv, Result.andThen]) ⟨_, rfl, Below.refl _ _, by rintro t' ⟨⟩; rfl⟩
      | 15, ho =>
        obtain rfl := Option.some.inj ho
        have h12 := given_old hg 12 (by decide +kernel)
        obtain ⟨_, h129, rfl⟩ := given_fed hg 129 (by decide +kernel)
        clear hg
        exact st_list ho (wanted_some rfl rfl h129 rfl) fun Q' hQ => wpList_met (wanted_some rfl rfl h129 rfl) (wpList_load_mid rfl 33 (.tmp 12) rfl g 0 (by simp [Act.eval, h12]) UL _ (HRNG.out w6 (HB11.out.trans (hb6.mono HB11.out.size))) Try.underlying33 rfl HSZ.out (wpList_nil (hQ _ _ ⟨_, rfl, Below.refl _ _, by rintro t' ⟨⟩; rfl⟩)))
      | 16, ho =>
        obtain rfl := Option.some.inj ho
        obtain ⟨_, h132, rfl⟩ := given_fed hg 132 (by decide +kernel)
        obtain ⟨_, h129, rfl⟩ := given_fed hg 129 (by decide +kernel)
        clear hg
        exact st_enter (w1 := w6) ho (wanted_some rfl rfl h129 rfl) 13 #[.agg UL.toArray] (by simp [execOp, Act.eval, h132, resolve, go_sem]) ((CTB.out w6).mono (by rintro e w7 ⟨v, rfl, hown, hb7⟩; exact ⟨v, rfl, _, rfl, hb7, by rintro t' ⟨⟩; exact hown.rb⟩))
      | 17, ho =>
        obtain rfl := Option.some.inj ho
        obtain ⟨v133, h133, p133⟩ := given_fed hg 133 (by decide +kernel)
        obtain ⟨_, h129, rfl⟩ := given_fed hg 129 (by decide +kernel)
        clear hg
        have cv := run_string_RB w6 40 5 9 Try.underlying40 Try.underlying5 Try.underlying9 v133 B p133
        exact st_yield ho (wanted_some rfl rfl h129 rfl) (.string (str B)) w6 (by simp [execOp, Act.eval, h133, cv, Result.andThen]) ⟨_, rfl, Below.refl _ _, by rintro t' ⟨⟩; rfl⟩
      | 18, ho =>
        obtain rfl := Option.some.inj ho
        obtain ⟨_, h131, rfl⟩ := given_fed hg 131 (by decide +kernel)
        obtain ⟨_, h134, rfl⟩ := given_fed hg 134 (by decide +kernel)
        obtain ⟨_, h129, rfl⟩ := given_fed hg 129 (by decide +kernel)
        clear hg
        exact st_yield ho (wanted_some rfl rfl h129 rfl) (.bool true) w6 (by simp [execOp, Act.eval, h131, h134, go_sem]) ⟨_, rfl, Below.refl _ _, by rintro t' ⟨⟩; rfl⟩
      | 19, ho =>
        obtain rfl := Option.some.inj ho
        obtain ⟨_, h129, rfl⟩ := given_fed hg 129 (by decide +kernel)
        obtain ⟨_, h135, rfl⟩ := given_fed hg 135 (by decide +kernel)
        clear hg
        exact st_yield ho (wanted_none rfl) (.bool true) w6 (by simp [execOp, Act.eval, h129, h135, go_sem]) ⟨_, rfl, Below.refl _ _, by rintro t' ⟨⟩; rfl⟩
      | 20, ho =>
        obtain rfl := Option.some.inj ho
        obtain ⟨_, h136, rfl⟩ := given_fed hg 136 (by decide +kernel)
        clear hg
        exact st_yield ho (wanted_none rfl) (.bool true) w6 (by simp [execOp, Act.eval, h136, go_sem]) ⟨_, rfl, Below.refl _ _, by rintro t' ⟨⟩; rfl⟩
      | n + 21, ho => simp at ho
    · intro f w20 hb20 hv
      have h10 := hv 10 (by decide)
      simp only [VBt] at h10
      have HB20 := Go.Lib.hid (HB9.out.trans ((HB11.out.trans (hb20.mono HB11.out.size)).mono HB9.out.size))
      clear hv hb20 HB11 HB9 HO hqq hln1 hln2 hss
      unfold putAll
      simp only [List.foldl]
      simp only [h10]
      go_simp
      go_wp2_with fail
      go_ret
      exact ⟨rfl, HB20.out⟩

/-! ### THE ROW -/
set_option maxRecDepth 100000 in
theorem lifted (os : Os) (started : os.Started) (H : Type) (enc : TypeId × Value → H) :
    ReturnsInHanded {} Try.checked os 4 .any (Rows.orderBadSpec.pre6 enc Try.prog Try.f4 Rows.orderBadRow.domain false) (Rows.orderBadSpec.post enc Try.prog Try.f4 false true false false) := by
  refine returnsInHanded_of_change (C := Try.checked) own started (by kernel_rfl) Try.func4
    (ChangeSpec.witness6 (enc := enc) (C := Try.checked) false ⟨#[], #[.slice none 0 0, .slice none 0 0, .int .i64 0, .int .i64 0, .int .i64 0], []⟩ 8 (by kernel_rfl) (by kernel_rfl) (by kernel_rfl) (by kernel_rfl)) ?_
  intro W base args ds gs before hval0 hW hcnd _
  have hval : ∀ (j : Nat) t v, Try.f4.params[j]? = some t → args[j]? = some v → Value.okWide Try.prog W .any base t v := hval0
  have hW' := hW
  obtain ⟨p, q, hA0, hV, rfl, hfz, hnd⟩ := hW
  have hA : DataW.TrodAll enc Try.prog W 0 (fun _ => true) true Try.f4.params.toList args.toList ds p := hA0
  rw [Try.params4] at hA hval
  obtain ⟨v0, vs0, d0, ds0, p0, q0, hargs, rfl, rfl, h0, r0⟩ := trodAll_cons hA
  obtain ⟨v1, vs1, d1, ds1, p1, q1, rfl, rfl, rfl, h1, r1⟩ := trodAll_cons r0
  obtain ⟨v2, vs2, d2, ds2, p2, q2, rfl, rfl, rfl, h2, r2⟩ := trodAll_cons r1
  obtain ⟨v3, vs3, d3, ds3, p3, q3, rfl, rfl, rfl, h3, r3⟩ := trodAll_cons r2
  obtain ⟨v4, vs4, d4, ds4, p4, q4, rfl, rfl, rfl, h4, r4⟩ := trodAll_cons r3
  obtain ⟨rfl, rfl, rfl⟩ := trodAll_nil r4
  obtain rfl : args = #[v0, v1, v2, v3, v4] := by cases args; simp_all
  obtain ⟨rfl, rfl⟩ := trodVars_none hV
  have kk0 := h0
  have lt0 : ∀ x ∈ p0, x.block < W.heap.size := by obtain ⟨m, hm⟩ := kk0; exact DataW.trod_lt m _ _ _ hm
  have kk1 := h1
  have lt1 : ∀ x ∈ p1, x.block < W.heap.size := by obtain ⟨m, hm⟩ := kk1; exact DataW.trod_lt m _ _ _ hm
  have kk2 := h2
  have lt2 : ∀ x ∈ p2, x.block < W.heap.size := by obtain ⟨m, hm⟩ := kk2; exact DataW.trod_lt m _ _ _ hm
  have kk3 := h3
  have lt3 : ∀ x ∈ p3, x.block < W.heap.size := by obtain ⟨m, hm⟩ := kk3; exact DataW.trod_lt m _ _ _ hm
  have kk4 := h4
  have lt4 : ∀ x ∈ p4, x.block < W.heap.size := by obtain ⟨m, hm⟩ := kk4; exact DataW.trod_lt m _ _ _ hm
  obtain ⟨a0, len0, cap0, rfl⟩ := okWide_slice Try.underlying22 (hval 0 22 v0 rfl rfl)
  obtain ⟨l0, w0⟩ := open_recs h0
  obtain ⟨a1, len1, cap1, rfl⟩ := okWide_slice Try.underlying23 (hval 1 23 v1 rfl rfl)
  obtain ⟨l1, w1⟩ := open_zb Try.underlying23 Try.underlying4 (by kernel_rfl) h1
  obtain ⟨a2, rfl, rfl, rfl, w2⟩ := open_int Try.underlying3 (hval 2 3 v2 rfl rfl) h2
  obtain ⟨a3, rfl, rfl, rfl, w3⟩ := open_int Try.underlying3 (hval 3 3 v3 rfl rfl) h3
  obtain ⟨a4, rfl, rfl, rfl, w4⟩ := open_int Try.underlying3 (hval 4 3 v4 rfl rfl) h4
  clear hA0 hval0
  refine (walk W a0 len0 cap0 l0 w0 a1 len1 cap1 l1 w1 a2 w2 a3 w3 a4 w4).mono fun e W' ⟨he, bel⟩ => ?_
  subst he
  exact ⟨_, rfl, _, _, _, [], _, [], hW', trodAll_mk1 (shut_bool Try.underlying4 _), (trodAll_cons_mk (Below.trod laidOut (by kernel_rfl) (of_decide_eq_true (by kernel_rfl)) kk0 bel lt0) (trodAll_cons_mk (Below.trod laidOut (by kernel_rfl) (of_decide_eq_true (by kernel_rfl)) kk1 bel lt1) (trodAll_cons_mk (Below.trod laidOut (by kernel_rfl) (of_decide_eq_true (by kernel_rfl)) kk2 bel lt2) (trodAll_cons_mk (Below.trod laidOut (by kernel_rfl) (of_decide_eq_true (by kernel_rfl)) kk3 bel lt3) (trodAll_cons_mk (Below.trod laidOut (by kernel_rfl) (of_decide_eq_true (by kernel_rfl)) kk4 bel lt4) trodAll_mk0))))), rfl, bel.frame _, fun h => by cases h⟩

theorem over : Rows.orderBadRow.holds Try.pinned (OpenSpec.ofChange Rows.orderBadSpec) :=
  OpenClaim.holds_of_wide 4 Try.f4 rfl rfl rfl rfl rfl rfl rfl ⟨rfl, rfl, rfl, rfl, rfl⟩ rfl rfl rfl rfl rfl (by kernel_rfl) Try.func4 (by kernel_rfl)
    (of_decide_eq_true (by kernel_rfl)) (by unfold Func.isWrapper; first | (rw [if_pos (by decide +kernel)]; kernel_rfl) | (rw [if_neg (by decide +kernel)]; exact ⟨rfl, rfl⟩))
    (fun os started H enc _ => lifted os started H enc)

theorem proved : Rows.OrderBadSaid := over
#print axioms proved
end Go.Proofs.Ytgalppnpmfpdbaa.orderBad
