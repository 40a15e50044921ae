/- TableBad: a table that may not be is no store; bytes that are none are none: for every input the law returns true. -/
import Derived.Test.YthbnecdeebmlhaaGreatRows
import Derived.WalkKit
import Derived.ProofKit
import Derived.OpenShut
import Derived.ShutString
import Derived.ChangeOld
import Derived.Below
import Derived.Test.YthbnecdeebmlhaaGreatM01
import Derived.Test.YthbnecdeebmlhaaGreatM13
import Derived.Test.YthbnecdeebmlhaaGreatM05
namespace Go.Proofs.YthbnecdeebmlhaaGreat.tableBad
open Go.ChangeShapes Go.WideShapes Go.ChangeAt Go.RowKit
open Go.ChangeMaps (open_string shut_string)
set_option linter.unusedVariables false

theorem own : ownKnob Tryz.prog.godebug = none := by kernel_rfl
theorem laidOut : laidOutB Tryz.prog = true := by kernel_rfl

def IsRow (k : IntKind) (w : World) (a : Option Addr) (len cap : Nat) (zs : List Int) : Prop :=
  (a = none ∧ len = 0 ∧ cap = 0 ∧ zs = []) ∨
  ∃ x, a = some x ∧ len ≤ cap ∧ cap ≤ maxLen ∧ zs.length = cap ∧ (∀ i, i < zs.length → w.cell? (x.add i) = some (.int k (zs.getD i 0))) ∧ ∀ n ∈ zs, (Lit.int k n).wf = true

def VBd (g u1 k D R E S : Nat) (hq : Bool) (kx : ByteArray) (gx : Bool) (ax nx : Int) (sx : ByteArray) : Nat → World → Value → Prop
  | 37, _, v => v = .int .i64 (k : Int)
  | 38, _, v => v = .int .i64 (E : Int)
  | 39, _, v => v = .int .i64 (k : Int)
  | 40, _, v => v = .int .i64 (S : Int)
  | 41, _, v => v = .int .i64 (u1 : Int)
  | 42, _, v => v = .int .i64 (D : Int)
  | 43, _, v => v = .int .i64 (u1 : Int)
  | 44, _, v => v = .int .i64 (R : Int)
  | 45, _, v => v = .pointer (some ⟨g, 24 * D, none⟩)
  | 46, _, v => v = .pointer (some ⟨g, 24 * D + 6 * R, none⟩)
  | 47, _, v => v = .agg #[.bool hq, .string kx, .bool gx, .int .i64 ax, .int .i64 nx, .string sx]
  | 48, _, v => v = .pointer (some ⟨g, 24 * E, none⟩)
  | 49, _, v => v = .pointer (some ⟨g, 24 * E + 6 * S, none⟩)
  | _, _, _ => True

theorem VBd_below (g u1 k D R E S : Nat) (hq : Bool) (kx : ByteArray) (gx : Bool) (ax nx : Int) (sx : ByteArray) : ∀ (i : Nat) (w w' : World) (v : Value), VBd g u1 k D R E S hq kx gx ax nx sx i w v → Below w.heap.size w w' → VBd g u1 k D R E S hq kx gx ax nx sx i w' v := by
  intro i w w' v h hb
  unfold VBd at h ⊢
  split at h <;> first | exact h | trivial

set_option maxHeartbeats 16000000 in
set_option maxRecDepth 100000 in
theorem walk (w : World) (a0 : Option Addr) (len0 cap0 : Nat) (l0 : List RecT) (w0 : RRec w (.slice a0 len0 cap0) l0) (a1 : Option Addr) (len1 cap1 : Nat) (l1 : List Bool) (w1 : RV w (.slice a1 len1 cap1) (zb l1)) (a2 : Int) (w2 : (Lit.int .i64 a2).wf = true) (a3 : Int) (w3 : (Lit.int .i64 a3).wf = true) (a4 : Option Addr) (len4 cap4 : Nat) (z4 : List Int) (w4 : IsRow .u8 w a4 len4 cap4 z4) :
    Calls Tryz.prog 4 #[.slice a0 len0 cap0, .slice a1 len1 cap1, .int .i64 a2, .int .i64 a3, .slice a4 len4 cap4] w fun e w' => e = .returned (.bool true) ∧ Below w.heap.size w w' := by
  obtain ⟨l, hl⟩ := rb_of_row w4
  have CBG := Go.Lib.hid (begun20_c w)
  have CL := Go.Lib.hid fun W (hb : Below w.heap.size w W) => llay_c (.slice a0 len0 cap0) (.slice a1 len1 cap1) l0 l1 W (w0.rs.below hb) (w1.below hb) w0.ok
  have HOK := Go.Lib.hid (layN_ok l1 w0.ok (min l0.length 40)).bad
  have HR := Go.Lib.hid (show ∀ W, Below w.heap.size w W → RB W (.slice a4 len4 cap4) l from fun W hb => hl.below hb)
  have CS := Go.Lib.hid (fun W (hb : Below w.heap.size w W) => short_w (.slice a4 len4 cap4) l 50 W (HR.out W hb) (by omega))
  clear w0 w1 w4 hl
  generalize layN l0 l1 (min l0.length 40) = TT at *
  generalize l.take 50 = m at *
  have hz := zero_tabZ
  have hzr := zero_tabRZ
  have HTK := Go.Lib.hid (fun (W : World) (g : Nat) (h : W.heap[g]? = some (.cells (tabL TT 32).toArray 33 (0, 0))) => TK.of_row h)
  have HSR := Go.Lib.hid (sizeTab TT)
  have HTO := Go.Lib.hid (tabL_one TT)
  have HLE := Go.Lib.hid (show (tabL zeroT 32).length = (tabL TT 32).length from by rw [tabL_len, tabL_len])
  have HZN := Go.Lib.hid (fun (UU : TabT) => show (tabL zeroT 32).length = (tabL UU 32).length from by rw [tabL_len, tabL_len])
  have HON := Go.Lib.hid (show outD none = .tuple #[.agg (tabL zeroT 32).toArray, .int .i64 8] from rfl)
  have HOS := Go.Lib.hid (fun UU => show outD (some UU) = .tuple #[.agg (tabL UU 32).toArray, .int .i64 0] from rfl)
  have HZO := Go.Lib.hid (tabL_one zeroT)
  have HZS := Go.Lib.hid (sizeTabO zeroT)
  generalize tabL zeroT 32 = ZL at *
  generalize tabL TT 32 = TL at *
  go_enter Tryz.func4, Tryz.ntmps4
  go_wp2_with fail
  refine CBG.out.mono ?_
  rintro e w2' ⟨rfl, hc⟩
  have HB := Go.Lib.hid hc
  clear hc CBG
  have HA2 := Go.Lib.hid (bounds_i64 w2)
  have HA3 := Go.Lib.hid (bounds_i64 w3)
  clear w2 w3
  by_cases hn2 : a2 < 0
  · go_wp2_with fail
    go_ret
    exact ⟨rfl, HB.out⟩
  by_cases hn3 : a3 < 0
  · go_wp2_with fail
    go_ret
    exact ⟨rfl, HB.out⟩
  go_wp2_with fail
  refine (CL.out _ HB.out).mono ?_
  rintro e w3' ⟨rfl, hc⟩
  have HB := Go.Lib.hid (HB.out.trans (hc.mono HB.out.size))
  clear hc CL
  have hb12 := below_one w3' (.cells ZL.toArray 33)
  have HZ12 := Go.Lib.hid (heap_alloc_new w3' (.cells ZL.toArray 33))
  have HX12 := Go.Lib.hid (setRow_heap _ w3'.heap.size _ TL.toArray 33 (0, 0) HZ12.out)
  have HG := Go.Lib.hid (show w.heap.size ≤ w3'.heap.size from HB.out.size)
  have hs12 := setRow_below TL.toArray hb12 (Nat.le_refl _)
  have HB := Go.Lib.hid (HB.out.trans (hs12.mono HB.out.size))
  clear hb12 hs12
  go_upto_region 7 with (first
    | (with_reducible show wpList _ _ _ (⟨none, Op.store 33 (.tmp 12) (.tmp 32), _, _, _, _⟩ :: _) _ _; go_loud (refine wpList_store_row rfl 33 (.tmp 12) (.tmp 32) rfl w3'.heap.size TL.toArray rfl rfl 33 _ HZ12.out (by rw [HSR.out, List.size_toArray]) (by rw [List.size_toArray, List.size_toArray]; exact HLE.out) HTO.out ?_))
    | fail)
  obtain ⟨g, hg⟩ : ∃ g, g = w3'.heap.size := ⟨_, rfl⟩
  rw [← hg] at HX12 HB HG ⊢
  clear hg HZ12
  generalize (w3'.alloc (.cells ZL.toArray 33)).setRow g TL.toArray = w5 at *
  have HT := Go.Lib.hid (HTK.out w5 g HX12.out)
  clear HX12 HTK HSR HTO HLE
  obtain ⟨u1, hi⟩ : ∃ u1, u1 = a2.toNat % 32 := ⟨_, rfl⟩
  obtain ⟨k, hk⟩ : ∃ k, k = a3.toNat % 32 := ⟨_, rfl⟩
  have m2 : a2.tmod 32 = (u1 : Int) := by rw [Int.tmod_eq_emod_of_nonneg (by omega)]; omega
  have m3 : a3.tmod 32 = (k : Int) := by rw [Int.tmod_eq_emod_of_nonneg (by omega)]; omega
  have hi32 : u1 < 32 := by omega
  have hk32 : k < 32 := by omega
  clear hi hk HA2 HA3
  go_upto_region 8 with (fail)
  clear hn2 hn3 m2 m3
  obtain ⟨D, hD⟩ : ∃ D, D = u1 / 4 := ⟨_, rfl⟩
  obtain ⟨R, hR⟩ : ∃ R, R = u1 % 4 := ⟨_, rfl⟩
  obtain ⟨E, hE⟩ : ∃ E, E = k / 4 := ⟨_, rfl⟩
  obtain ⟨S, hS⟩ : ∃ S, S = k % 4 := ⟨_, rfl⟩
  have d1 : (u1 : Int).tdiv 4 = (D : Int) := by rw [Int.tdiv_eq_ediv_of_nonneg (by omega)]; omega
  have r1 : (u1 : Int).tmod 4 = (R : Int) := by rw [Int.tmod_eq_emod_of_nonneg (by omega)]; omega
  have d2 : (k : Int).tdiv 4 = (E : Int) := by rw [Int.tdiv_eq_ediv_of_nonneg (by omega)]; omega
  have r2 : (k : Int).tmod 4 = (S : Int) := by rw [Int.tmod_eq_emod_of_nonneg (by omega)]; omega
  have hwD : IntKind.i64.wrap (D : Int) = (D : Int) := by rw [IntKind.wrap_i64]; omega
  have hwE : IntKind.i64.wrap (E : Int) = (E : Int) := by rw [IntKind.wrap_i64]; omega
  have hix1 := idxT g D (by omega)
  have hix2 := idxT2 g (24 * D) R (by omega)
  have hjx1 := idxT g E (by omega)
  have hjx2 := idxT2 g (24 * E) S (by omega)
  have HI := Go.Lib.hid (show 6 * u1 = 24 * D + 6 * R ∧ 6 * k = 24 * E + 6 * S by omega)
  have HCI := Go.Lib.hid (fun W (h : TK W g TT) => by
    have h := h.at (b := D) (s := R) (by omega) (by omega)
    rw [show 4 * D + R = u1 by omega] at h
    exact h)
  clear hD hR hE hS
  have HI32 := Go.Lib.hid hi32
  have HK32 := Go.Lib.hid hk32
  clear hi32 hk32
  obtain ⟨y, hy⟩ : ∃ y, y = TT u1 := ⟨_, rfl⟩
  rw [← hy] at HCI
  have HY := Go.Lib.hid hy
  clear hy
  obtain ⟨hq, kx, gx, ax, nx, sx⟩ := y
  simp only [] at HCI
  have HCELL := Go.Lib.hid (fun W (hb : Below w5.heap.size w5 W) => HCI.out W (HT.out.below hb))
  refine wp_region_head 13 (by decide) (by kernel_rfl) (VBd g u1 k D R E S hq kx gx ax nx sx) (VBd_below g u1 k D R E S hq kx gx ax nx sx) (by decide +kernel) (by rfl) [37, 38, 39, 40, 41, 42, 43, 44, 45, 46, 47, 48, 49] (by rfl) ?_ ?_
  · intro i o hin ho a w6 hb6 hlen hg
    obtain ⟨y0, y1, y2, y3, y4, y5⟩ := HCELL.out w6 hb6
    match i, hin, ho with
    | 0, hin, ho =>
      obtain rfl := Option.some.inj ho
      have h14 := given_old hg 14 (by decide +kernel)
      clear hg
      exact st_yield ho (wanted_none rfl) (.int .i64 (k : Int)) w6 (by simp [execOp, Act.eval, h14, go_sem]) ⟨_, rfl, Below.refl _ _, by rintro t' ⟨⟩; rfl⟩
    | 1, hin, ho =>
      obtain rfl := Option.some.inj ho
      obtain ⟨_, h37, rfl⟩ := given_fed hg 37 (by decide +kernel)
      clear hg
      exact st_yield ho (wanted_none rfl) (.int .i64 (E : Int)) w6 (by simp [execOp, Act.eval, h37, go_sem, d2, hwE]) ⟨_, rfl, Below.refl _ _, by rintro t' ⟨⟩; rfl⟩
    | 2, hin, ho =>
      obtain rfl := Option.some.inj ho
      have h14 := given_old hg 14 (by decide +kernel)
      clear hg
      exact st_yield ho (wanted_none rfl) (.int .i64 (k : Int)) w6 (by simp [execOp, Act.eval, h14, go_sem]) ⟨_, rfl, Below.refl _ _, by rintro t' ⟨⟩; rfl⟩
    | 3, hin, ho =>
      obtain rfl := Option.some.inj ho
      obtain ⟨_, h39, rfl⟩ := given_fed hg 39 (by decide +kernel)
      clear hg
      exact st_yield ho (wanted_none rfl) (.int .i64 (S : Int)) w6 (by simp [execOp, Act.eval, h39, go_sem, r2]) ⟨_, rfl, Below.refl _ _, by rintro t' ⟨⟩; rfl⟩
    | 4, hin, ho =>
      obtain rfl := Option.some.inj ho
      have h13 := given_old hg 13 (by decide +kernel)
      clear hg
      exact st_yield ho (wanted_none rfl) (.int .i64 (u1 : Int)) w6 (by simp [execOp, Act.eval, h13, go_sem]) ⟨_, rfl, Below.refl _ _, by rintro t' ⟨⟩; rfl⟩
    | 5, hin, ho =>
      obtain rfl := Option.some.inj ho
      obtain ⟨_, h41, rfl⟩ := given_fed hg 41 (by decide +kernel)
      clear hg
      exact st_yield ho (wanted_none rfl) (.int .i64 (D : Int)) w6 (by simp [execOp, Act.eval, h41, go_sem, d1, hwD]) ⟨_, rfl, Below.refl _ _, by rintro t' ⟨⟩; rfl⟩
    | 6, hin, ho =>
      obtain rfl := Option.some.inj ho
      have h13 := given_old hg 13 (by decide +kernel)
      clear hg
      exact st_yield ho (wanted_none rfl) (.int .i64 (u1 : Int)) w6 (by simp [execOp, Act.eval, h13, go_sem]) ⟨_, rfl, Below.refl _ _, by rintro t' ⟨⟩; rfl⟩
    | 7, hin, ho =>
      obtain rfl := Option.some.inj ho
      obtain ⟨_, h43, rfl⟩ := given_fed hg 43 (by decide +kernel)
      clear hg
      exact st_yield ho (wanted_none rfl) (.int .i64 (R : Int)) w6 (by simp [execOp, Act.eval, h43, go_sem, r1]) ⟨_, rfl, Below.refl _ _, by rintro t' ⟨⟩; rfl⟩
    | 8, hin, ho =>
      obtain rfl := Option.some.inj ho
      have h12 := given_old hg 12 (by decide +kernel)
      obtain ⟨_, h42, rfl⟩ := given_fed hg 42 (by decide +kernel)
      clear hg
      exact st_yield ho (wanted_none rfl) (.pointer (some ⟨g, 24 * D, none⟩)) w6 (by simp [execOp, Act.eval, h12, h42, go_sem, hix1]) ⟨_, rfl, Below.refl _ _, by rintro t' ⟨⟩; rfl⟩
    | 9, hin, ho =>
      obtain rfl := Option.some.inj ho
      obtain ⟨_, h45, rfl⟩ := given_fed hg 45 (by decide +kernel)
      obtain ⟨_, h44, rfl⟩ := given_fed hg 44 (by decide +kernel)
      clear hg
      exact st_yield ho (wanted_none rfl) (.pointer (some ⟨g, 24 * D + 6 * R, none⟩)) w6 (by simp [execOp, Act.eval, h45, h44, go_sem, hix2]) ⟨_, rfl, Below.refl _ _, by rintro t' ⟨⟩; rfl⟩
    | 10, hin, ho =>
      obtain rfl := Option.some.inj ho
      obtain ⟨_, h46, rfl⟩ := given_fed hg 46 (by decide +kernel)
      clear hg
      exact st_yield ho (wanted_none rfl) (.agg #[.bool hq, .string kx, .bool gx, .int .i64 ax, .int .i64 nx, .string sx]) w6 (by simp [execOp, Act.eval, h46, go_sem, y0, y1, y2, y3, y4, y5]) ⟨_, rfl, Below.refl _ _, by rintro t' ⟨⟩; rfl⟩
    | 11, hin, ho =>
      obtain rfl := Option.some.inj ho
      have h12 := given_old hg 12 (by decide +kernel)
      obtain ⟨_, h38, rfl⟩ := given_fed hg 38 (by decide +kernel)
      clear hg
      exact st_yield ho (wanted_none rfl) (.pointer (some ⟨g, 24 * E, none⟩)) w6 (by simp [execOp, Act.eval, h12, h38, go_sem, hjx1]) ⟨_, rfl, Below.refl _ _, by rintro t' ⟨⟩; rfl⟩
    | 12, hin, ho =>
      obtain rfl := Option.some.inj ho
      obtain ⟨_, h48, rfl⟩ := given_fed hg 48 (by decide +kernel)
      obtain ⟨_, h40, rfl⟩ := given_fed hg 40 (by decide +kernel)
      clear hg
      exact st_yield ho (wanted_none rfl) (.pointer (some ⟨g, 24 * E + 6 * S, none⟩)) w6 (by simp [execOp, Act.eval, h48, h40, go_sem, hjx2]) ⟨_, rfl, Below.refl _ _, by rintro t' ⟨⟩; rfl⟩
    | n + 13, hin, ho => omega
  · intro f w8 hb8 hv
    have h47 := hv 47 (by decide)
    have h49 := hv 49 (by decide)
    simp only [VBd] at h47 h49
    have HT8 := Go.Lib.hid (HT.out.below hb8)
    have HB8 := Go.Lib.hid (HB.out.trans (hb8.mono HB.out.size))
    have HTH := Go.Lib.hid (show w8.there g (24 * E + 6 * S) (#[.bool hq, .string kx, .bool gx, .int .i64 ax, .int .i64 nx, .string sx] : Array Value).size from by rw [← HI.out.2]; exact HT8.out.there HK32.out)
    have hgr := setCells_gr [.bool hq, .string kx, .bool gx, .int .i64 ax, .int .i64 nx, .string sx] w8 g (24 * E + 6 * S)
    have HT9 := Go.Lib.hid (show TK (w8.setCells g (24 * E + 6 * S) [.bool hq, .string kx, .bool gx, .int .i64 ax, .int .i64 nx, .string sx]) g (setT TT k (hq, kx, gx, ax, nx, sx)) from by
      have := HT8.out.set (q := k) HK32.out (hq, kx, gx, ax, nx, sx)
      rw [HI.out.2] at this
      exact this)
    have HB9 := Go.Lib.hid (HB8.out.grown hgr HB8.out.size (fun j e => by have := HG.out; have := Option.some.inj e; omega))
    have HBK := Go.Lib.hid (HOK.out.set k (y := (hq, kx, gx, ax, nx, sx)) (by rw [HY.out]; exact HOK.out.sz u1 HI32.out) (by rw [HY.out]; exact HOK.out.ok u1 HI32.out))
    clear HT8 HB8 hgr HY HOK hv hb8 HT HB HCELL HCI hix1 hix2 hjx1 hjx2 d1 d2 r1 r2 hwD hwE
    unfold putAll
    simp only [List.foldl, List.drop]
    simp only [h47, h49]
    clear h47 h49
    go_simp
    go_upto_region 9 with (first
      | (with_reducible show wpList _ _ _ (⟨none, _, _, _, _, _⟩ :: _) _ _; go_loud (refine wpList_store_mid rfl 30 (.tmp 49) (.tmp 47) rfl g (24 * E + 6 * S) #[.bool hq, .string kx, .bool gx, .int .i64 ax, .int .i64 nx, .string sx] rfl rfl HTH.out (by kernel_rfl) (six1 hq kx gx ax nx sx) ?_))
      | fail)
    generalize w8.setCells g (24 * E + 6 * S) [.bool hq, .string kx, .bool gx, .int .i64 ax, .int .i64 nx, .string sx] = w9 at *
    generalize setT TT k (hq, kx, gx, ax, nx, sx) = UU at *
    clear HTH HI HI32 HK32 HG
    have COF := Go.Lib.hid fun W => lof_c UU W
    have CN := Go.Lib.hid fun W => hnew_c UU W HBK.out.sz HBK.out.ok
    have CMT := fun W => rmaytab_c UU W HBK.out.sz
    have HRNG := Go.Lib.hid (fun W (hb : Below w9.heap.size w9 W) => (HT9.out.below hb).range)
    have HSZ := Go.Lib.hid (sizeTab UU)
    have HLAY := Go.Lib.hid (fun (h : okTo UU 32 = true) => HBK.out.ok)
    clear HT9 HBK HLAY
    have HNT := Go.Lib.hid (fun (W W' : World) e (h : NewTo UU W e W') => h)
    unfold NewTo at HNT
    have CO := Go.Lib.hid (fun v (W : World) (h : RB W v m) => hopen_c v m W h)
    have CD := Go.Lib.hid (fun v (W : World) (h : RB W v m) => odecode_c v m W h)
    generalize tabL UU 32 = UL at *
    go_wp2_with (first
      | (with_reducible show wpList _ _ _ (⟨some 51, _, _, _, _, _⟩ :: _) _ _; go_loud (refine wpList_load_mid rfl 33 (.tmp 12) rfl g 0 rfl UL _ (HRNG.out w9 (Below.refl _ _)) Tryz.underlying33 rfl HSZ.out ?_))
      | fail)
    refine (COF.out _).mono ?_
    rintro e w9b ⟨rfl, hc⟩
    have HBn := Go.Lib.hid hc
    clear hc COF
    go_wp2_with fail
    refine (CN.out _).mono ?_
    rintro e w10 hn
    have hn := HNT.out _ _ _ hn
    have HBN := Go.Lib.hid (HBn.out.trans (hn.1.mono HBn.out.size))
    have HB10 := Go.Lib.hid (HB9.out.trans (HBN.out.mono HB9.out.size))
    clear CN HNT HB9 HBn
    obtain ⟨-, hor⟩ := hn
    rcases hor with ⟨hok, p, u, r, rfl, -⟩ | ⟨hok, rfl⟩
    · rw [hok] at CMT
      have CMT := Go.Lib.hid CMT
      clear hok
      cases hd : decT m with
      | none =>
        have CO := Go.Lib.hid (show ∀ v (W : World), RB W v m → Calls Tryz.prog 14 #[v] W fun e w' => e = .returned (.tuple #[.pointer none, .int .i64 8]) ∧ Below W.heap.size W w' from fun v W h => (CO.out v W h).mono fun e w' ⟨hb, hor⟩ => by
          rcases hor with ⟨TT, h0, -⟩ | ⟨-, h1⟩
          · rw [hd] at h0; cases h0
          · exact ⟨h1, hb⟩)
        simp only [hd, HON.out] at CD
        clear hd HON HOS
        have HDS := Go.Lib.hid HZS.out
        have HDO := Go.Lib.hid HZO.out
        clear HZS HZO HZN
        go_wp2_with (first
          | (with_reducible show wpList _ _ _ (⟨some 58, _, _, _, _, _⟩ :: _) _ _; go_loud (refine wpList_load_mid rfl 33 (.tmp 12) rfl g 0 rfl UL _ (HRNG.out w10 HBN.out) Tryz.underlying33 rfl HSZ.out ?_))
          | fail)
        refine (CMT.out _).mono ?_
        rintro e w11 ⟨rfl, hc⟩
        have HB11 := Go.Lib.hid (HB10.out.trans (hc.mono HB10.out.size))
        clear hc CMT HBN HRNG HB10
        have CS := Go.Lib.hid (CS.out w11 HB11.out)
        go_wp2_with fail
        refine CS.out.mono ?_
        rintro e w12 ⟨⟨v4, rfl, hv4⟩, rfl⟩
        have HV := Go.Lib.hid (fun W hb => hv4 W (HR.out W hb))
        clear hv4 CS
        have CO := Go.Lib.hid (CO.out v4 w11 (HV.out w11 HB11.out))
        go_wp2_with fail
        refine CO.out.mono ?_
        rintro e w13 ⟨rfl, hc⟩
        have HB13 := Go.Lib.hid (HB11.out.trans (hc.mono HB11.out.size))
        clear hc CO HB11
        have CD := Go.Lib.hid (CD.out v4 w13 (HV.out w13 HB13.out))
        go_wp2_with fail
        refine CD.out.mono ?_
        rintro e w14 ⟨rfl, hc⟩
        have HB14 := Go.Lib.hid (HB13.out.trans (hc.mono HB13.out.size))
        clear hc CD HB13 HV
        have hb15 := below_one w14 (.cells ZL.toArray 43)
        have HZ15 := Go.Lib.hid (heap_alloc_new w14 (.cells ZL.toArray 43))
        have hs15 := setRow_below ZL.toArray hb15 (Nat.le_refl _)
        have HB15 := Go.Lib.hid (HB14.out.trans (hs15.mono HB14.out.size))
        clear hb15 hs15 HB14
        go_wp2_with (first
          | (with_reducible show wpList _ _ _ (⟨none, Op.store 43 (.tmp 19) (.tmp 83), _, _, _, _⟩ :: _) _ _; go_loud (refine wpList_store_row rfl 43 (.tmp 19) (.tmp 83) rfl w14.heap.size ZL.toArray rfl rfl 43 _ HZ15.out (by rw [HDS.out, List.size_toArray]) rfl HDO.out ?_))
          | fail)
        go_ret
        exact ⟨rfl, HB15.out⟩
      | some DD =>
        have CO := Go.Lib.hid (show ∀ v (W : World), RB W v m → Calls Tryz.prog 14 #[v] W fun e w' => ∃ p, e = .returned (.tuple #[.pointer (some ⟨p, 0, none⟩), .int .i64 0]) ∧ Below W.heap.size W w' from fun v W h => (CO.out v W h).mono fun e w' ⟨hb, hor⟩ => by
          rcases hor with ⟨TT, -, p, u, r, h1, -⟩ | ⟨h1, -⟩
          · exact ⟨p, h1, hb⟩
          · rw [hd] at h1; cases h1)
        simp only [hd, HOS.out] at CD
        clear hd HON HOS
        have HDS := Go.Lib.hid (sizeTabO DD)
        have HDO := Go.Lib.hid (tabL_one DD)
        have HDE := Go.Lib.hid (HZN.out DD)
        clear HZS HZO HZN
        generalize tabL DD 32 = DL at *
        go_wp2_with (first
          | (with_reducible show wpList _ _ _ (⟨some 58, _, _, _, _, _⟩ :: _) _ _; go_loud (refine wpList_load_mid rfl 33 (.tmp 12) rfl g 0 rfl UL _ (HRNG.out w10 HBN.out) Tryz.underlying33 rfl HSZ.out ?_))
          | fail)
        refine (CMT.out _).mono ?_
        rintro e w11 ⟨rfl, hc⟩
        have HB11 := Go.Lib.hid (HB10.out.trans (hc.mono HB10.out.size))
        clear hc CMT HBN HRNG HB10
        have CS := Go.Lib.hid (CS.out w11 HB11.out)
        go_wp2_with fail
        refine CS.out.mono ?_
        rintro e w12 ⟨⟨v4, rfl, hv4⟩, rfl⟩
        have HV := Go.Lib.hid (fun W hb => hv4 W (HR.out W hb))
        clear hv4 CS
        have CO := Go.Lib.hid (CO.out v4 w11 (HV.out w11 HB11.out))
        go_wp2_with fail
        refine CO.out.mono ?_
        rintro e w13 ⟨p2, rfl, hc⟩
        have HB13 := Go.Lib.hid (HB11.out.trans (hc.mono HB11.out.size))
        clear hc CO HB11
        have CD := Go.Lib.hid (CD.out v4 w13 (HV.out w13 HB13.out))
        go_wp2_with fail
        refine CD.out.mono ?_
        rintro e w14 ⟨rfl, hc⟩
        have HB14 := Go.Lib.hid (HB13.out.trans (hc.mono HB13.out.size))
        clear hc CD HB13 HV
        have hb15 := below_one w14 (.cells ZL.toArray 43)
        have HZ15 := Go.Lib.hid (heap_alloc_new w14 (.cells ZL.toArray 43))
        have hs15 := setRow_below DL.toArray hb15 (Nat.le_refl _)
        have HB15 := Go.Lib.hid (HB14.out.trans (hs15.mono HB14.out.size))
        clear hb15 hs15 HB14
        go_wp2_with (first
          | (with_reducible show wpList _ _ _ (⟨none, Op.store 43 (.tmp 19) (.tmp 83), _, _, _, _⟩ :: _) _ _; go_loud (refine wpList_store_row rfl 43 (.tmp 19) (.tmp 83) rfl w14.heap.size DL.toArray rfl rfl 43 _ HZ15.out (by rw [HDS.out, List.size_toArray]) (by rw [List.size_toArray, List.size_toArray]; exact HDE.out) HDO.out ?_))
          | fail)
        go_ret
        exact ⟨rfl, HB15.out⟩
    · rw [hok] at CMT
      have CMT := Go.Lib.hid CMT
      clear hok
      cases hd : decT m with
      | none =>
        have CO := Go.Lib.hid (show ∀ v (W : World), RB W v m → Calls Tryz.prog 14 #[v] W fun e w' => e = .returned (.tuple #[.pointer none, .int .i64 8]) ∧ Below W.heap.size W w' from fun v W h => (CO.out v W h).mono fun e w' ⟨hb, hor⟩ => by
          rcases hor with ⟨TT, h0, -⟩ | ⟨-, h1⟩
          · rw [hd] at h0; cases h0
          · exact ⟨h1, hb⟩)
        simp only [hd, HON.out] at CD
        clear hd HON HOS
        have HDS := Go.Lib.hid HZS.out
        have HDO := Go.Lib.hid HZO.out
        clear HZS HZO HZN
        go_wp2_with (first
          | (with_reducible show wpList _ _ _ (⟨some 58, _, _, _, _, _⟩ :: _) _ _; go_loud (refine wpList_load_mid rfl 33 (.tmp 12) rfl g 0 rfl UL _ (HRNG.out w10 HBN.out) Tryz.underlying33 rfl HSZ.out ?_))
          | fail)
        refine (CMT.out _).mono ?_
        rintro e w11 ⟨rfl, hc⟩
        have HB11 := Go.Lib.hid (HB10.out.trans (hc.mono HB10.out.size))
        clear hc CMT HBN HRNG HB10
        have CS := Go.Lib.hid (CS.out w11 HB11.out)
        go_wp2_with fail
        refine CS.out.mono ?_
        rintro e w12 ⟨⟨v4, rfl, hv4⟩, rfl⟩
        have HV := Go.Lib.hid (fun W hb => hv4 W (HR.out W hb))
        clear hv4 CS
        have CO := Go.Lib.hid (CO.out v4 w11 (HV.out w11 HB11.out))
        go_wp2_with fail
        refine CO.out.mono ?_
        rintro e w13 ⟨rfl, hc⟩
        have HB13 := Go.Lib.hid (HB11.out.trans (hc.mono HB11.out.size))
        clear hc CO HB11
        have CD := Go.Lib.hid (CD.out v4 w13 (HV.out w13 HB13.out))
        go_wp2_with fail
        refine CD.out.mono ?_
        rintro e w14 ⟨rfl, hc⟩
        have HB14 := Go.Lib.hid (HB13.out.trans (hc.mono HB13.out.size))
        clear hc CD HB13 HV
        have hb15 := below_one w14 (.cells ZL.toArray 43)
        have HZ15 := Go.Lib.hid (heap_alloc_new w14 (.cells ZL.toArray 43))
        have hs15 := setRow_below ZL.toArray hb15 (Nat.le_refl _)
        have HB15 := Go.Lib.hid (HB14.out.trans (hs15.mono HB14.out.size))
        clear hb15 hs15 HB14
        go_wp2_with (first
          | (with_reducible show wpList _ _ _ (⟨none, Op.store 43 (.tmp 19) (.tmp 83), _, _, _, _⟩ :: _) _ _; go_loud (refine wpList_store_row rfl 43 (.tmp 19) (.tmp 83) rfl w14.heap.size ZL.toArray rfl rfl 43 _ HZ15.out (by rw [HDS.out, List.size_toArray]) rfl HDO.out ?_))
          | fail)
        go_ret
        exact ⟨rfl, HB15.out⟩
      | some DD =>
        have CO := Go.Lib.hid (show ∀ v (W : World), RB W v m → Calls Tryz.prog 14 #[v] W fun e w' => ∃ p, e = .returned (.tuple #[.pointer (some ⟨p, 0, none⟩), .int .i64 0]) ∧ Below W.heap.size W w' from fun v W h => (CO.out v W h).mono fun e w' ⟨hb, hor⟩ => by
          rcases hor with ⟨TT, -, p, u, r, h1, -⟩ | ⟨h1, -⟩
          · exact ⟨p, h1, hb⟩
          · rw [hd] at h1; cases h1)
        simp only [hd, HOS.out] at CD
        clear hd HON HOS
        have HDS := Go.Lib.hid (sizeTabO DD)
        have HDO := Go.Lib.hid (tabL_one DD)
        have HDE := Go.Lib.hid (HZN.out DD)
        clear HZS HZO HZN
        generalize tabL DD 32 = DL at *
        go_wp2_with (first
          | (with_reducible show wpList _ _ _ (⟨some 58, _, _, _, _, _⟩ :: _) _ _; go_loud (refine wpList_load_mid rfl 33 (.tmp 12) rfl g 0 rfl UL _ (HRNG.out w10 HBN.out) Tryz.underlying33 rfl HSZ.out ?_))
          | fail)
        refine (CMT.out _).mono ?_
        rintro e w11 ⟨rfl, hc⟩
        have HB11 := Go.Lib.hid (HB10.out.trans (hc.mono HB10.out.size))
        clear hc CMT HBN HRNG HB10
        have CS := Go.Lib.hid (CS.out w11 HB11.out)
        go_wp2_with fail
        refine CS.out.mono ?_
        rintro e w12 ⟨⟨v4, rfl, hv4⟩, rfl⟩
        have HV := Go.Lib.hid (fun W hb => hv4 W (HR.out W hb))
        clear hv4 CS
        have CO := Go.Lib.hid (CO.out v4 w11 (HV.out w11 HB11.out))
        go_wp2_with fail
        refine CO.out.mono ?_
        rintro e w13 ⟨p2, rfl, hc⟩
        have HB13 := Go.Lib.hid (HB11.out.trans (hc.mono HB11.out.size))
        clear hc CO HB11
        have CD := Go.Lib.hid (CD.out v4 w13 (HV.out w13 HB13.out))
        go_wp2_with fail
        refine CD.out.mono ?_
        rintro e w14 ⟨rfl, hc⟩
        have HB14 := Go.Lib.hid (HB13.out.trans (hc.mono HB13.out.size))
        clear hc CD HB13 HV
        have hb15 := below_one w14 (.cells ZL.toArray 43)
        have HZ15 := Go.Lib.hid (heap_alloc_new w14 (.cells ZL.toArray 43))
        have hs15 := setRow_below DL.toArray hb15 (Nat.le_refl _)
        have HB15 := Go.Lib.hid (HB14.out.trans (hs15.mono HB14.out.size))
        clear hb15 hs15 HB14
        go_wp2_with (first
          | (with_reducible show wpList _ _ _ (⟨none, Op.store 43 (.tmp 19) (.tmp 83), _, _, _, _⟩ :: _) _ _; go_loud (refine wpList_store_row rfl 43 (.tmp 19) (.tmp 83) rfl w14.heap.size DL.toArray rfl rfl 43 _ HZ15.out (by rw [HDS.out, List.size_toArray]) (by rw [List.size_toArray, List.size_toArray]; exact HDE.out) HDO.out ?_))
          | fail)
        go_ret
        exact ⟨rfl, HB15.out⟩

/-! ### THE ROW -/
set_option maxRecDepth 100000 in
theorem lifted (os : Os) (started : os.Started) (H : Type) (enc : TypeId × Value → H) :
    ReturnsInHanded {} Tryz.checked os 4 .any (Rows.tableBadSpec.pre6 enc Tryz.prog Tryz.f4 Rows.tableBadRow.domain false) (Rows.tableBadSpec.post enc Tryz.prog Tryz.f4 false true false false) := by
  refine returnsInHanded_of_change (C := Tryz.checked) own started (by kernel_rfl) Tryz.func4
    (ChangeSpec.witness6 (enc := enc) (C := Tryz.checked) false ⟨#[], #[.slice none 0 0, .slice none 0 0, .int .i64 0, .int .i64 0, .slice none 0 0], []⟩ 8 (by kernel_rfl) (by kernel_rfl) (by kernel_rfl) (by kernel_rfl)) ?_
  intro W base args ds gs before hval0 hW hcnd _
  have hval : ∀ (j : Nat) t v, Tryz.f4.params[j]? = some t → args[j]? = some v → Value.okWide Tryz.prog W .any base t v := hval0
  have hW' := hW
  obtain ⟨p, q, hA0, hV, rfl, hfz, hnd⟩ := hW
  have hA : DataW.TrodAll enc Tryz.prog W 0 (fun _ => true) true Tryz.f4.params.toList args.toList ds p := hA0
  rw [Tryz.params4] at hA hval
  obtain ⟨v0, vs0, d0, ds0, p0, q0, hargs, rfl, rfl, h0, r0⟩ := trodAll_cons hA
  obtain ⟨v1, vs1, d1, ds1, p1, q1, rfl, rfl, rfl, h1, r1⟩ := trodAll_cons r0
  obtain ⟨v2, vs2, d2, ds2, p2, q2, rfl, rfl, rfl, h2, r2⟩ := trodAll_cons r1
  obtain ⟨v3, vs3, d3, ds3, p3, q3, rfl, rfl, rfl, h3, r3⟩ := trodAll_cons r2
  obtain ⟨v4, vs4, d4, ds4, p4, q4, rfl, rfl, rfl, h4, r4⟩ := trodAll_cons r3
  obtain ⟨rfl, rfl, rfl⟩ := trodAll_nil r4
  obtain rfl : args = #[v0, v1, v2, v3, v4] := by cases args; simp_all
  obtain ⟨rfl, rfl⟩ := trodVars_none hV
  have kk0 := h0
  have lt0 : ∀ x ∈ p0, x.block < W.heap.size := by obtain ⟨m, hm⟩ := kk0; exact DataW.trod_lt m _ _ _ hm
  have kk1 := h1
  have lt1 : ∀ x ∈ p1, x.block < W.heap.size := by obtain ⟨m, hm⟩ := kk1; exact DataW.trod_lt m _ _ _ hm
  have kk2 := h2
  have lt2 : ∀ x ∈ p2, x.block < W.heap.size := by obtain ⟨m, hm⟩ := kk2; exact DataW.trod_lt m _ _ _ hm
  have kk3 := h3
  have lt3 : ∀ x ∈ p3, x.block < W.heap.size := by obtain ⟨m, hm⟩ := kk3; exact DataW.trod_lt m _ _ _ hm
  have kk4 := h4
  have lt4 : ∀ x ∈ p4, x.block < W.heap.size := by obtain ⟨m, hm⟩ := kk4; exact DataW.trod_lt m _ _ _ hm
  obtain ⟨a0, len0, cap0, rfl⟩ := okWide_slice Tryz.underlying22 (hval 0 22 v0 rfl rfl)
  obtain ⟨l0, w0⟩ := open_recs h0
  obtain ⟨a1, len1, cap1, rfl⟩ := okWide_slice Tryz.underlying23 (hval 1 23 v1 rfl rfl)
  obtain ⟨l1, w1⟩ := open_zb Tryz.underlying23 Tryz.underlying4 (by kernel_rfl) h1
  obtain ⟨a2, rfl, rfl, rfl, w2⟩ := open_int Tryz.underlying3 (hval 2 3 v2 rfl rfl) h2
  obtain ⟨a3, rfl, rfl, rfl, w3⟩ := open_int Tryz.underlying3 (hval 3 3 v3 rfl rfl) h3
  obtain ⟨a4, len4, cap4, rfl⟩ := okWide_slice Tryz.underlying47 (hval 4 47 v4 rfl rfl)
  obtain ⟨z4, w4⟩ : ∃ zs, IsRow .u8 W a4 len4 cap4 zs := by
    obtain ⟨fuel, hf⟩ := h4
    rcases open_ints Tryz.underlying47 Tryz.underlying5 (by kernel_rfl) hf with ⟨hcs, _⟩ | ⟨x, l, c, zs, hcs, _, hl, hm, hz, _, hcell, hwz⟩
    · simp [Value.cells] at hcs
      obtain ⟨rfl, rfl, rfl⟩ := hcs
      exact ⟨[], .inl ⟨rfl, rfl, rfl, rfl⟩⟩
    · simp [Value.cells] at hcs
      obtain ⟨rfl, rfl, rfl⟩ := hcs
      exact ⟨zs, .inr ⟨_, rfl, hl, hm, by simpa using hz, hcell, hwz⟩⟩
  clear hA0 hval0
  refine (walk W a0 len0 cap0 l0 w0 a1 len1 cap1 l1 w1 a2 w2 a3 w3 a4 len4 cap4 z4 w4).mono fun e W' ⟨he, bel⟩ => ?_
  subst he
  exact ⟨_, rfl, _, _, _, [], _, [], hW', trodAll_mk1 (shut_bool Tryz.underlying4 _), (trodAll_cons_mk (Below.trod laidOut (by kernel_rfl) (of_decide_eq_true (by kernel_rfl)) kk0 bel lt0) (trodAll_cons_mk (Below.trod laidOut (by kernel_rfl) (of_decide_eq_true (by kernel_rfl)) kk1 bel lt1) (trodAll_cons_mk (Below.trod laidOut (by kernel_rfl) (of_decide_eq_true (by kernel_rfl)) kk2 bel lt2) (trodAll_cons_mk (Below.trod laidOut (by kernel_rfl) (of_decide_eq_true (by kernel_rfl)) kk3 bel lt3) (trodAll_cons_mk (Below.trod laidOut (by kernel_rfl) (of_decide_eq_true (by kernel_rfl)) kk4 bel lt4) trodAll_mk0))))), rfl, bel.frame _, fun h => by cases h⟩

theorem over : Rows.tableBadRow.holds Tryz.pinned (OpenSpec.ofChange Rows.tableBadSpec) :=
  OpenClaim.holds_of_wide 4 Tryz.f4 rfl rfl rfl rfl rfl rfl rfl ⟨rfl, rfl, rfl, rfl, rfl⟩ rfl rfl rfl rfl rfl (by kernel_rfl) Tryz.func4 (by kernel_rfl)
    (of_decide_eq_true (by kernel_rfl)) (by unfold Func.isWrapper; first | (rw [if_pos (by decide +kernel)]; kernel_rfl) | (rw [if_neg (by decide +kernel)]; exact ⟨rfl, rfl⟩))
    (fun os started H enc _ => lifted os started H enc)

theorem proved : Rows.TableBadSaid := over
#print axioms proved
end Go.Proofs.YthbnecdeebmlhaaGreat.tableBad
