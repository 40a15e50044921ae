/- GammaAll: numbers are put one behind the other and told again, each with as many bits as it needs: for every input the law returns true. -/
import Derived.Test.YtfhbpaecpoijfaaRows
import Derived.WalkKit
import Derived.ProofKit
import Derived.OpenShut
import Derived.ShutString
import Derived.ChangeOld
import Derived.Below
import Derived.Test.YtfhbpaecpoijfaaBegun7
import Derived.Test.YtfhbpaecpoijfaaRGet
import Derived.Test.YtfhbpaecpoijfaaSame
import Derived.Test.YtfhbpaecpoijfaaApart
import Derived.Test.YtfhbpaecpoijfaaDrawI
import Derived.Deep.DeepCutAuto
import Derived.Deep.QuietTactic
import Derived.BigQuiet
namespace Go.Proofs.Ytfhbpaecpoijfaa.gammaAll
open Go.ChangeShapes Go.WideShapes Go.ChangeAt Go.RowKit
open Go.ChangeMaps (open_string shut_string)
set_option linter.unusedVariables false

theorem own : ownKnob Try.prog.godebug = none := by kernel_rfl
theorem laidOut : laidOutB Try.prog = true := by kernel_rfl

/-- WHAT THE WALK IS TOLD OF A SLICE OF INTEGERS THAT CAME IN: it is nil; or it leads to a row of 'cap' cells, the numbers 'zs' (the first 'len' are its elements, the rest its spare room), each fitting its kind. -/
def IsRow (k : IntKind) (w : World) (a : Option Addr) (len cap : Nat) (zs : List Int) : Prop :=
  (a = none ∧ len = 0 ∧ cap = 0 ∧ zs = []) ∨
  ∃ x, a = some x ∧ len ≤ cap ∧ cap ≤ maxLen ∧ zs.length = cap ∧ (∀ i, i < zs.length → w.cell? (x.add i) = some (.int k (zs.getD i 0))) ∧ ∀ n ∈ zs, (Lit.int k n).wf = true

theorem infoU : (Try.prog.info? 31).map (fun i => (i.zero, i.size, i.bytes)) = some (some (.int .u64 0), 1, 8) := by kernel_rfl
def xN (X : List Int) (i : Nat) : Nat := (X.getD i 0).toNat
/-- The first k numbers that are not 0. -/
def wants (X : List Int) (k : Nat) : List Nat := ((List.range k).map (xN X)).filter (· != 0)
theorem wants_succ (X : List Int) (k : Nat) : wants X (k + 1) = if xN X k != 0 then wants X k ++ [xN X k] else wants X k := by
  unfold wants
  rw [List.range_succ, List.map_append, List.filter_append]
  by_cases h : xN X k = 0 <;> simp [h]
theorem gams_wants (X : List Int) (k : Nat) : gams (wants X (k + 1)) = gams (wants X k) ++ gam (xN X k) := by
  rw [wants_succ]
  by_cases h : xN X k = 0
  · rw [h, if_neg (by simp)]
    simp [gam]
  · rw [if_pos (by simpa using h), gams_snoc]
theorem wants_len (X : List Int) (k : Nat) : (wants X k).length ≤ k := by
  unfold wants
  refine Nat.le_trans (List.length_filter_le _ _) (by simp)
theorem wants_ok (X : List Int) (h : ∀ i, xN X i < 18446744073709551616) (k : Nat) : ∀ x ∈ wants X k, x ≠ 0 ∧ x < 18446744073709551616 := by
  intro x hx
  unfold wants at hx
  rw [List.mem_filter] at hx
  obtain ⟨h1, h2⟩ := hx
  obtain ⟨i, -, rfl⟩ := List.mem_map.1 h1
  exact ⟨by simpa using h2, h i⟩
theorem gams_len (X : List Int) (h : ∀ i, xN X i < 18446744073709551616) : ∀ k, (gams (wants X k)).length ≤ 127 * k
  | 0 => by simp [wants, gams]
  | k + 1 => by
    rw [gams_wants, List.length_append, gam_length]
    have h1 := gams_len X h k
    have h2 := digits_64 _ (h k)
    omega

/-- What stands in the middle of the region: the bits, with the number behind them (p) or without; the call's own slices. -/
def JJ (B : Nat) (w1 : World) (l g : List Bool) (gv wv nv : Value) (ws : List Nat) (p : Bool) (w : World) : Prop :=
  Below B w1 w ∧ OwnV 4 w B gv (zb g) ∧ OwnV 4 w B wv (zb l) ∧ OwnV 31 w B nv (zi .u64 ws) ∧ ∃ u, BT w B B u (if p then l ++ g else l)
/-- 'xs[k]', in whatever world. -/
theorem run_idx64 (b o n cap j : Nat) (h : j < n) (W : World) : (Instr.indexAt 22 (.slice (some ⟨b, o, none⟩) n cap) (.int .i64 (j : Int))).run Try.prog W = .ok (.pointer (some ⟨b, o + j, none⟩)) W := by
  obtain ⟨i, hi, -, hsize, -⟩ := info_parts infoU
  have he : Try.prog.elem 22 = 31 := by kernel_rfl
  have hs : (sizeOf 31).run Try.prog W = .ok 1 W := by simp [sizeOf, typeInfo, hi, hsize]
  have hadd : (⟨b, o, none⟩ : Addr).add j = ⟨b, o + j, none⟩ := by unfold Addr.add; split <;> simp_all
  rw [run_indexAt_slice W _ _ _ _ _ _ (by rw [he]; exact Try.underlying22), if_pos ⟨by omega, by omega⟩, he, hs]
  simp [Result.andThen, hadd]
def VG (b0 o0 len0 cap0 k x : Nat) (t : Bool) (ag : Option Addr) (cg : Nat) (l g : List Bool) : Nat → World → Value → Prop
  | 36, _, v => v = .slice (some ⟨b0, o0, none⟩) len0 cap0
  | 37, _, v => v = .int .i64 (k : Int)
  | 38, _, v => v = .pointer (some ⟨b0, o0 + k, none⟩)
  | 39, _, v => v = .int .u64 (x : Int)
  | 40, _, v => v = .bool t
  | 41, _, v => v = .slice (some ⟨b0, o0, none⟩) len0 cap0
  | 42, _, v => v = .int .i64 (k : Int)
  | 43, _, v => v = .pointer (some ⟨b0, o0 + k, none⟩)
  | 44, _, v => v = .int .u64 (x : Int)
  | 45, _, v => v = .bool t
  | 46, _, v => v = .bool false
  | 47, _, v => v = .bool false
  | 48, _, v => v = .slice (some ⟨b0, o0, none⟩) len0 cap0
  | 49, _, v => v = .int .i64 (k : Int)
  | 50, _, v => v = .pointer (some ⟨b0, o0 + k, none⟩)
  | 51, _, v => v = .int .u64 (x : Int)
  | 52, _, v => v = .int .i64 (g.length : Int)
  | 53, _, v => v = .slice ag g.length cg
  | 54, _, v => v = .int .i64 (g.length : Int)
  | 55, _, v => v = .bool false
  | 56, _, v => v = .bool false
  | 57, _, v => v = .bool false
  | 58, _, v => v = .int .i64 ((l.length + g.length : Nat) : Int)
  | 59, _, v => v = .int .i64 (l.length : Int)
  | 60, _, v => v = .slice ag g.length cg
  | 61, _, v => v = .int .i64 (g.length : Int)
  | 62, _, v => v = .int .i64 ((l.length + g.length : Nat) : Int)
  | 63, _, v => v = .bool false
  | 64, _, v => v = .bool false
  | _, _, _ => True

theorem VG_any (b0 o0 len0 cap0 k x : Nat) (t : Bool) (ag : Option Addr) (cg : Nat) (l g : List Bool) : ∀ (i : Nat) (w w' : World) (v : Value), VG b0 o0 len0 cap0 k x t ag cg l g i w v → VG b0 o0 len0 cap0 k x t ag cg l g i w' v := by
  intro i w w' v h
  unfold VG at h ⊢
  split at h <;> first | exact h | trivial

set_option maxHeartbeats 2000000 in
set_option maxRecDepth 100000 in
theorem walk (a0 : Option Addr) (len0 cap0 : Nat) (z0 : List Int) (w : World) (w0 : IsRow .u64 w a0 len0 cap0 z0) :
    Calls Try.prog 3 #[.slice a0 len0 cap0] w fun e w' => e = .returned (.bool true) ∧ Below w.heap.size w w' := by
  obtain ⟨X, hX0, hX, hX63, hXf⟩ := rv_of_row w0
  clear w0
  have HX := Go.Lib.hid hX
  have HX0 := Go.Lib.hid hX0
  have hx64 : ∀ i, xN X i < 18446744073709551616 := by
    intro i
    unfold xN
    by_cases hi : i < X.length
    · rw [List.getD_eq_getElem?_getD, List.getElem?_eq_getElem hi]
      have := bounds_u64 (hXf X[i] (List.getElem_mem hi))
      simp only [Option.getD_some]
      omega
    · rw [List.getD_eq_getElem?_getD, List.getElem?_eq_none (by omega)]
      decide
  have Hx64 := Go.Lib.hid hx64
  have HXf := Go.Lib.hid hXf
  clear hX hX0 hx64 hXf
  go_enter Try.func3, Try.ntmps3
  go_wp2_with fail
  refine (begun_c _).mono ?_
  rintro e w1 ⟨rfl, hbb⟩
  have hn := Go.Lib.hid (BT.new w1)
  have hb1 : Below w1.heap.size w1 (w1.alloc (.cells #[.slice none 0 0, .int .i64 0] 26)) := (Below.refl _ _).alloc (Nat.le_refl _) _
  have HX1 := Go.Lib.hid (HX.out.below hbb)
  clear HX
  obtain ⟨B, hB⟩ : ∃ B, B = w1.heap.size := ⟨_, rfl⟩
  rw [← hB] at hn hb1
  have HB := Go.Lib.hid hB
  go_wp2_with fail
  rw [← hB]
  clear hB
  go_loopw [5, 6, 7] (fun wv nv i wr => ∃ (k : Nat) (u : Value), k ≤ len0 ∧ k ≤ 30 ∧ i = .int .i64 (k : Int) ∧ BT wr B B u (gams (wants X k)) ∧ OwnV 4 wr B wv (zb (gams (wants X k))) ∧ OwnV 31 wr B nv (zi .u64 (wants X k)) ∧ Below B w1 wr) (fun _ _ i _ => 30 - (intOf i).toNat)
  case atStart => exact ⟨0, _, by omega, by omega, rfl, hn.out, OwnV.nil _ _ _, OwnV.nil _ _ _, hb1⟩
  case round =>
    obtain ⟨k, u, hk0, hk30, rfl, hbt, hwv, hnv, hbr⟩ := hrel
    clear hn hb1
    have hwl := wants_len X k
    have hgl := gams_len X Hx64.out k
    by_cases hlt : k < len0 ∧ k < 30
    · obtain ⟨hlt0, hlt30⟩ := hlt
      obtain ⟨b0, o0, hA0, hc0, hb0⟩ := (HX1.out).at k (by rw [List.length_map, HX0.out]; exact hlt0)
      subst hA0
      have hkX : k < X.length := by rw [HX0.out]; exact hlt0
      rw [List.getElem_map] at hc0
      rw [← HB.out] at hb0
      have d0 := (hbr.cell (p := ⟨b0, o0 + k, none⟩) hb0).trans hc0
      have hx := bounds_u64 (HXf.out X[k] (List.getElem_mem hkX))
      have ex : xN X k = X[k].toNat := by unfold xN; rw [List.getD_eq_getElem?_getD, List.getElem?_eq_getElem hkX]; rfl
      generalize X[k] = X' at d0 hx ex hc0
      obtain ⟨x, rfl⟩ : ∃ x : Nat, X' = (x : Int) := ⟨X'.toNat, by omega⟩
      rw [Int.toNat_natCast] at ex
      have hx64 : x < 18446744073709551616 := by omega
      have CL := Go.Lib.hid fun W => glen_c x W hx64
      have CG := Go.Lib.hid fun W => rgamma_c x W hx64
      have hs := gams_wants X k
      have hws := wants_succ X k
      rw [ex] at hs hws
      have hdig := digits_64 x hx64
      have hgx : (gam x).length ≤ 127 := by rw [gam_length]; omega
      have CP := Go.Lib.hid fun W u' (h : BT W B B u' (gams (wants X k))) => gput_c x W B B u' _ h hx64 (by omega)
      have hg2 : (gam x).length = (zb (gam x)).length := (zb_length _).symm
      generalize wants X k = ws at *
      generalize gams ws = l at *
      have Hs := Go.Lib.hid hs
      have Hws := Go.Lib.hid hws
      have Hx64' := Go.Lib.hid hx64
      have HBT := Go.Lib.hid hbt
      have HC0 := Go.Lib.hid hc0
      clear hx ex hs hws hdig hc0 hx64 hbt
      generalize gam x = g at *
      go_wp2_with fail
      refine (len_c _ _ _ _ _ _ HBT.out).mono ?_
      rintro e w2 ⟨rfl, rfl⟩
      go_wp2_with fail
      refine (CG.out _).mono ?_
      rintro e w3 ⟨gv, rfl, hgv, hb3⟩
      have hgv' := hgv.mono (Nat.le_trans HBT.out.low (Nat.le_of_lt HBT.out.lt))
      obtain ⟨ag, cg, rfl, -⟩ := hgv'.rv.form
      have hwv3 := hwv.below hb3
      have hnv3 := hnv.below hb3
      have hbt3 := HBT.out.below hb3
      have hbr3 := hbr.trans (hb3.mono (by rw [HB.out]; exact hbr.size))
      have e0 : (zb g).length = g.length := zb_length g
      rw [e0] at hgv' ⊢
      have HJ : Hid (JJ B w1 l g (.slice ag g.length cg) u5 u6 ws false w3) := ⟨hbr3, hgv', hwv3, hnv3, u, hbt3⟩
      clear hgv hgv' hwv3 hnv3 hbt3 hbr3 hb3 hwv hnv hbr HBT e0 hg2 d0 CG
      have hdx : decide ((0 : Int) < (x : Int)) = (x != 0) := by
        by_cases h0 : x = 0
        · subst h0; rfl
        · have h1 : (0 : Int) < (x : Int) := by omega
          rw [decide_eq_true h1]
          exact (bne_iff_ne.2 h0).symm
      obtain ⟨t, ht⟩ : ∃ t, t = (x != 0) := ⟨_, rfl⟩
      rw [← ht] at hdx CP Hws
      have Ht := Go.Lib.hid ht
      clear ht
      go_upto_region 12 with (fail)
      have HC : ∀ w6, Below B w1 w6 → w6.cell? ⟨b0, o0 + k, none⟩ = some (.int .u64 (x : Int)) := fun w6 h => (h.cell (p := ⟨b0, o0 + k, none⟩) hb0).trans HC0.out
      have hix := fun W => run_idx64 b0 o0 len0 cap0 k hlt0 W
      have keep : ∀ (done : Nat → Bool) (i : Nat) (w6 : World), i ≠ 4 → JJ B w1 l g (.slice ag g.length cg) u5 u6 ws (done 4) w6 → JJ B w1 l g (.slice ag g.length cg) u5 u6 ws (doneToo done i 4) w6 := fun done i w6 hi h => by rw [doneToo_other (Ne.symm hi)]; exact h
      have hsum : IntKind.i64.wrap ((l.length : Int) + (g.length : Int)) = ((l.length + g.length : Nat) : Int) := by rw [IntKind.wrap_i64]; omega
      have hdx2 : decide (0 < x) = t := by rw [← hdx]; congr 1; apply propext; omega
      have htt : (t != t) = false := by cases t <;> rfl
      have HJ0 : JJ B w1 l g (.slice ag g.length cg) u5 u6 ws false w3.drew := ⟨HJ.out.1.drew, HJ.out.2.1.below (below_drewN (Below.refl _ _) 1), HJ.out.2.2.1.below (below_drewN (Below.refl _ _) 1), HJ.out.2.2.2.1.below (below_drewN (Below.refl _ _) 1), by obtain ⟨u, h⟩ := HJ.out.2.2.2.2; exact ⟨u, h.drew⟩⟩
      refine wp_region_inv (by kernel_rfl) (VG b0 o0 len0 cap0 k x t ag cg l g) (fun done w => JJ B w1 l g (.slice ag g.length cg) u5 u6 ws (done 4) w) (by decide +kernel) (by decide +kernel) (by rfl) [36, 37, 38, 39, 40, 41, 42, 43, 44, 45, 46, 47, 48, 49, 50, 51, 52, 53, 54, 55, 56, 57, 58, 59, 60, 61, 62, 63, 64] (by rfl) (HJ0) ?_ ?_
      · intro i o ho a w6 done hI hnot hr hlen hg
        match i, ho with
        | 0, ho =>
          obtain rfl := Option.some.inj ho
          have h0 := given_old hg 0 (by decide +kernel)
          clear hg
          exact st_yield ho (wanted_none rfl) (.slice (some ⟨b0, o0, none⟩) len0 cap0) w6 (by simp [execOp, Act.eval, h0, go_sem]) ⟨_, rfl, keep done 0 _ (by decide) hI, fun _ _ h => h, by rintro t' ⟨⟩; rfl⟩
        | 1, ho =>
          obtain rfl := Option.some.inj ho
          have h7 := given_old hg 7 (by decide +kernel)
          clear hg
          exact st_yield ho (wanted_none rfl) (.int .i64 (k : Int)) w6 (by simp [execOp, Act.eval, h7, go_sem]) ⟨_, rfl, keep done 1 _ (by decide) hI, fun _ _ h => h, by rintro t' ⟨⟩; rfl⟩
        | 2, ho =>
          obtain rfl := Option.some.inj ho
          obtain ⟨_, h36, rfl⟩ := given_fed hg 36 (by decide +kernel)
          obtain ⟨_, h37, rfl⟩ := given_fed hg 37 (by decide +kernel)
          clear hg
          exact st_yield ho (wanted_none rfl) (.pointer (some ⟨b0, o0 + k, none⟩)) w6 (by simp [execOp, Act.eval, h36, h37, go_sem, hix]) ⟨_, rfl, keep done 2 _ (by decide) hI, fun _ _ h => h, by rintro t' ⟨⟩; rfl⟩
        | 3, ho =>
          obtain rfl := Option.some.inj ho
          obtain ⟨_, h38, rfl⟩ := given_fed hg 38 (by decide +kernel)
          clear hg
          exact st_yield ho (wanted_none rfl) (.int .u64 (x : Int)) w6 (by simp [execOp, Act.eval, h38, go_sem, HC w6 hI.1]) ⟨_, rfl, keep done 3 _ (by decide) hI, fun _ _ h => h, by rintro t' ⟨⟩; rfl⟩
        | 4, ho =>
          obtain rfl := Option.some.inj ho
          have h4 := given_old hg 4 (by decide +kernel)
          obtain ⟨_, h39, rfl⟩ := given_fed hg 39 (by decide +kernel)
          clear hg
          rw [hnot] at hI
          obtain ⟨j1, j2, j3, j4, u, j5⟩ := hI
          exact st_enter (w1 := w6) ho (wanted_none rfl) 10 #[.pointer (some ⟨B, 0, none⟩), .int .u64 (x : Int)] (by simp [execOp, Act.eval, h4, h39, resolve, go_sem]) ((CP.out w6 u j5).mono (by
            rintro e w7 ⟨rfl, u', m1, m2, -⟩
            refine ⟨_, rfl, _, rfl, ?_, fun t u h => VG_any _ _ _ _ _ _ _ _ _ _ _ _ _ _ _ h, by rintro t' ⟨⟩; rfl⟩
            rw [doneToo_self]
            have hB6 : B ≤ w6.heap.size := Nat.le_of_lt j5.lt
            exact ⟨j1.trans (m2.below (Nat.le_refl _) j5.rows hB6), j2.two j5 (by decide) (by decide) m2, j3.two j5 (by decide) (by decide) m2, j4.two j5 (by decide) (by decide) m2, u', m1⟩))
        | 5, ho =>
          obtain rfl := Option.some.inj ho
          have h0 := given_old hg 0 (by decide +kernel)
          clear hg
          exact st_yield ho (wanted_none rfl) (.slice (some ⟨b0, o0, none⟩) len0 cap0) w6 (by simp [execOp, Act.eval, h0, go_sem]) ⟨_, rfl, keep done 5 _ (by decide) hI, fun _ _ h => h, by rintro t' ⟨⟩; rfl⟩
        | 6, ho =>
          obtain rfl := Option.some.inj ho
          have h7 := given_old hg 7 (by decide +kernel)
          clear hg
          exact st_yield ho (wanted_none rfl) (.int .i64 (k : Int)) w6 (by simp [execOp, Act.eval, h7, go_sem]) ⟨_, rfl, keep done 6 _ (by decide) hI, fun _ _ h => h, by rintro t' ⟨⟩; rfl⟩
        | 7, ho =>
          obtain rfl := Option.some.inj ho
          obtain ⟨_, h41, rfl⟩ := given_fed hg 41 (by decide +kernel)
          obtain ⟨_, h42, rfl⟩ := given_fed hg 42 (by decide +kernel)
          clear hg
          exact st_yield ho (wanted_none rfl) (.pointer (some ⟨b0, o0 + k, none⟩)) w6 (by simp [execOp, Act.eval, h41, h42, go_sem, hix]) ⟨_, rfl, keep done 7 _ (by decide) hI, fun _ _ h => h, by rintro t' ⟨⟩; rfl⟩
        | 8, ho =>
          obtain rfl := Option.some.inj ho
          obtain ⟨_, h43, rfl⟩ := given_fed hg 43 (by decide +kernel)
          clear hg
          exact st_yield ho (wanted_none rfl) (.int .u64 (x : Int)) w6 (by simp [execOp, Act.eval, h43, go_sem, HC w6 hI.1]) ⟨_, rfl, keep done 8 _ (by decide) hI, fun _ _ h => h, by rintro t' ⟨⟩; rfl⟩
        | 9, ho =>
          obtain rfl := Option.some.inj ho
          obtain ⟨_, h44, rfl⟩ := given_fed hg 44 (by decide +kernel)
          clear hg
          exact st_yield ho (wanted_none rfl) (.bool t) w6 (by simp [execOp, Act.eval, h44, go_sem, hdx2]) ⟨_, rfl, keep done 9 _ (by decide) hI, fun _ _ h => h, by rintro t' ⟨⟩; rfl⟩
        | 10, ho =>
          obtain rfl := Option.some.inj ho
          obtain ⟨_, h40, rfl⟩ := given_fed hg 40 (by decide +kernel)
          obtain ⟨_, h45, rfl⟩ := given_fed hg 45 (by decide +kernel)
          clear hg
          exact st_yield ho (wanted_none rfl) (.bool false) w6 (by simp [execOp, Act.eval, h40, h45, go_sem]) ⟨_, rfl, keep done 10 _ (by decide) hI, fun _ _ h => h, by rintro t' ⟨⟩; rfl⟩
        | 11, ho =>
          obtain rfl := Option.some.inj ho
          obtain ⟨_, h46, rfl⟩ := given_fed hg 46 (by decide +kernel)
          clear hg
          exact st_yield ho (wanted_none rfl) (.bool false) w6 (by simp [execOp, Act.eval, h46, go_sem]) ⟨_, rfl, keep done 11 _ (by decide) hI, fun _ _ h => h, by rintro t' ⟨⟩; rfl⟩
        | 12, ho =>
          obtain rfl := Option.some.inj ho
          have h0 := given_old hg 0 (by decide +kernel)
          obtain ⟨_, h47, rfl⟩ := given_fed hg 47 (by decide +kernel)
          clear hg
          exact st_yield ho (wanted_some rfl rfl h47 rfl) (.slice (some ⟨b0, o0, none⟩) len0 cap0) w6 (by simp [execOp, Act.eval, h0, go_sem]) ⟨_, rfl, keep done 12 _ (by decide) hI, fun _ _ h => h, by rintro t' ⟨⟩; rfl⟩
        | 13, ho =>
          obtain rfl := Option.some.inj ho
          have h7 := given_old hg 7 (by decide +kernel)
          obtain ⟨_, h47, rfl⟩ := given_fed hg 47 (by decide +kernel)
          clear hg
          exact st_yield ho (wanted_some rfl rfl h47 rfl) (.int .i64 (k : Int)) w6 (by simp [execOp, Act.eval, h7, go_sem]) ⟨_, rfl, keep done 13 _ (by decide) hI, fun _ _ h => h, by rintro t' ⟨⟩; rfl⟩
        | 14, ho =>
          obtain rfl := Option.some.inj ho
          obtain ⟨_, h48, rfl⟩ := given_fed hg 48 (by decide +kernel)
          obtain ⟨_, h49, rfl⟩ := given_fed hg 49 (by decide +kernel)
          obtain ⟨_, h47, rfl⟩ := given_fed hg 47 (by decide +kernel)
          clear hg
          exact st_yield ho (wanted_some rfl rfl h47 rfl) (.pointer (some ⟨b0, o0 + k, none⟩)) w6 (by simp [execOp, Act.eval, h48, h49, go_sem, hix]) ⟨_, rfl, keep done 14 _ (by decide) hI, fun _ _ h => h, by rintro t' ⟨⟩; rfl⟩
        | 15, ho =>
          obtain rfl := Option.some.inj ho
          obtain ⟨_, h50, rfl⟩ := given_fed hg 50 (by decide +kernel)
          obtain ⟨_, h47, rfl⟩ := given_fed hg 47 (by decide +kernel)
          clear hg
          exact st_yield ho (wanted_some rfl rfl h47 rfl) (.int .u64 (x : Int)) w6 (by simp [execOp, Act.eval, h50, go_sem, HC w6 hI.1]) ⟨_, rfl, keep done 15 _ (by decide) hI, fun _ _ h => h, by rintro t' ⟨⟩; rfl⟩
        | 16, ho =>
          obtain rfl := Option.some.inj ho
          obtain ⟨_, h51, rfl⟩ := given_fed hg 51 (by decide +kernel)
          obtain ⟨_, h47, rfl⟩ := given_fed hg 47 (by decide +kernel)
          clear hg
          exact st_enter (w1 := w6) ho (wanted_some rfl rfl h47 rfl) 11 #[.int .u64 (x : Int)] (by simp [execOp, Act.eval, h51, resolve, go_sem]) ((CL.out w6).mono (by rintro e w7 ⟨rfl, rfl⟩; exact ⟨_, rfl, _, rfl, keep done 16 _ (by decide) hI, fun _ _ h => h, by rintro t' ⟨⟩; rfl⟩))
        | 17, ho =>
          obtain rfl := Option.some.inj ho
          have h9 := given_old hg 9 (by decide +kernel)
          obtain ⟨_, h47, rfl⟩ := given_fed hg 47 (by decide +kernel)
          clear hg
          exact st_yield ho (wanted_some rfl rfl h47 rfl) (.slice ag g.length cg) w6 (by simp [execOp, Act.eval, h9, go_sem]) ⟨_, rfl, keep done 17 _ (by decide) hI, fun _ _ h => h, by rintro t' ⟨⟩; rfl⟩
        | 18, ho =>
          obtain rfl := Option.some.inj ho
          obtain ⟨_, h53, rfl⟩ := given_fed hg 53 (by decide +kernel)
          obtain ⟨_, h47, rfl⟩ := given_fed hg 47 (by decide +kernel)
          clear hg
          exact st_yield ho (wanted_some rfl rfl h47 rfl) (.int .i64 (g.length : Int)) w6 (by simp [execOp, Act.eval, h53, go_sem, resolve, invoke, builtin]) ⟨_, rfl, keep done 18 _ (by decide) hI, fun _ _ h => h, by rintro t' ⟨⟩; rfl⟩
        | 19, ho =>
          obtain rfl := Option.some.inj ho
          obtain ⟨_, h52, rfl⟩ := given_fed hg 52 (by decide +kernel)
          obtain ⟨_, h54, rfl⟩ := given_fed hg 54 (by decide +kernel)
          obtain ⟨_, h47, rfl⟩ := given_fed hg 47 (by decide +kernel)
          clear hg
          exact st_yield ho (wanted_some rfl rfl h47 rfl) (.bool false) w6 (by simp [execOp, Act.eval, h52, h54, go_sem]) ⟨_, rfl, keep done 19 _ (by decide) hI, fun _ _ h => h, by rintro t' ⟨⟩; rfl⟩
        | 20, ho =>
          obtain rfl := Option.some.inj ho
          obtain ⟨_, h47, rfl⟩ := given_fed hg 47 (by decide +kernel)
          obtain ⟨_, h55, rfl⟩ := given_fed hg 55 (by decide +kernel)
          clear hg
          exact st_yield ho (wanted_none rfl) (.bool false) w6 (by simp [execOp, Act.eval, h47, h55, go_sem]) ⟨_, rfl, keep done 20 _ (by decide) hI, fun _ _ h => h, by rintro t' ⟨⟩; rfl⟩
        | 21, ho =>
          obtain rfl := Option.some.inj ho
          obtain ⟨_, h56, rfl⟩ := given_fed hg 56 (by decide +kernel)
          clear hg
          exact st_yield ho (wanted_none rfl) (.bool false) w6 (by simp [execOp, Act.eval, h56, go_sem]) ⟨_, rfl, keep done 21 _ (by decide) hI, fun _ _ h => h, by rintro t' ⟨⟩; rfl⟩
        | 22, ho =>
          obtain rfl := Option.some.inj ho
          have h4 := given_old hg 4 (by decide +kernel)
          obtain ⟨_, h57, rfl⟩ := given_fed hg 57 (by decide +kernel)
          clear hg
          have hp := hr 4 (by decide +kernel)
          have hI' := hI
          rw [hp] at hI'
          obtain ⟨j1, j2, j3, j4, u, j5⟩ := hI'
          have j6 := j5
          simp only [if_true] at j6
          have hll : (l ++ g).length = l.length + g.length := List.length_append
          have c := len_c w6 _ _ _ _ _ j6
          rw [hll] at c
          exact st_enter (w1 := w6) ho (wanted_some rfl rfl h57 rfl) 8 #[.pointer (some ⟨B, 0, none⟩)] (by simp [execOp, Act.eval, h4, resolve, go_sem]) (c.mono (by rintro e w7 ⟨rfl, rfl⟩; exact ⟨_, rfl, _, rfl, keep done 22 _ (by decide) hI, fun _ _ h => h, by rintro t' ⟨⟩; rfl⟩))
        | 23, ho =>
          obtain rfl := Option.some.inj ho
          have h8 := given_old hg 8 (by decide +kernel)
          obtain ⟨_, h57, rfl⟩ := given_fed hg 57 (by decide +kernel)
          clear hg
          exact st_yield ho (wanted_some rfl rfl h57 rfl) (.int .i64 (l.length : Int)) w6 (by simp [execOp, Act.eval, h8, go_sem]) ⟨_, rfl, keep done 23 _ (by decide) hI, fun _ _ h => h, by rintro t' ⟨⟩; rfl⟩
        | 24, ho =>
          obtain rfl := Option.some.inj ho
          have h9 := given_old hg 9 (by decide +kernel)
          obtain ⟨_, h57, rfl⟩ := given_fed hg 57 (by decide +kernel)
          clear hg
          exact st_yield ho (wanted_some rfl rfl h57 rfl) (.slice ag g.length cg) w6 (by simp [execOp, Act.eval, h9, go_sem]) ⟨_, rfl, keep done 24 _ (by decide) hI, fun _ _ h => h, by rintro t' ⟨⟩; rfl⟩
        | 25, ho =>
          obtain rfl := Option.some.inj ho
          obtain ⟨_, h60, rfl⟩ := given_fed hg 60 (by decide +kernel)
          obtain ⟨_, h57, rfl⟩ := given_fed hg 57 (by decide +kernel)
          clear hg
          exact st_yield ho (wanted_some rfl rfl h57 rfl) (.int .i64 (g.length : Int)) w6 (by simp [execOp, Act.eval, h60, go_sem, resolve, invoke, builtin]) ⟨_, rfl, keep done 25 _ (by decide) hI, fun _ _ h => h, by rintro t' ⟨⟩; rfl⟩
        | 26, ho =>
          obtain rfl := Option.some.inj ho
          obtain ⟨_, h59, rfl⟩ := given_fed hg 59 (by decide +kernel)
          obtain ⟨_, h61, rfl⟩ := given_fed hg 61 (by decide +kernel)
          obtain ⟨_, h57, rfl⟩ := given_fed hg 57 (by decide +kernel)
          clear hg
          exact st_yield ho (wanted_some rfl rfl h57 rfl) (.int .i64 ((l.length + g.length : Nat) : Int)) w6 (by simp [execOp, Act.eval, h59, h61, go_sem, hsum]) ⟨_, rfl, keep done 26 _ (by decide) hI, fun _ _ h => h, by rintro t' ⟨⟩; rfl⟩
        | 27, ho =>
          obtain rfl := Option.some.inj ho
          obtain ⟨_, h58, rfl⟩ := given_fed hg 58 (by decide +kernel)
          obtain ⟨_, h62, rfl⟩ := given_fed hg 62 (by decide +kernel)
          obtain ⟨_, h57, rfl⟩ := given_fed hg 57 (by decide +kernel)
          clear hg
          exact st_yield ho (wanted_some rfl rfl h57 rfl) (.bool false) w6 (by simp [execOp, Act.eval, h58, h62, go_sem]) ⟨_, rfl, keep done 27 _ (by decide) hI, fun _ _ h => h, by rintro t' ⟨⟩; rfl⟩
        | 28, ho =>
          obtain rfl := Option.some.inj ho
          obtain ⟨_, h57, rfl⟩ := given_fed hg 57 (by decide +kernel)
          obtain ⟨_, h63, rfl⟩ := given_fed hg 63 (by decide +kernel)
          clear hg
          exact st_yield ho (wanted_none rfl) (.bool false) w6 (by simp [execOp, Act.eval, h57, h63, go_sem]) ⟨_, rfl, keep done 28 _ (by decide) hI, fun _ _ h => h, by rintro t' ⟨⟩; rfl⟩
        | n + 29, ho => simp at ho
      · intro f w6 done hall hI hv
        have h64 := hv 64 (by decide)
        have h4 := hall 4 (by decide)
        simp only [VG] at h64
        simp only [h4] at hI
        clear hv hall h4
        unfold putAll
        simp only [List.foldl]
        simp only [h64]
        go_simp
        obtain ⟨j1, j2, j3, j4, u', j5⟩ := hI
        simp only [if_true] at j5
        have J5 := Go.Lib.hid j5
        have JG := Go.Lib.hid j2
        have JN := Go.Lib.hid j4
        have JW := Go.Lib.hid j3
        have hll : l.length + g.length ≤ 140737488355328 := by omega
        have hBw : B ≤ w6.heap.size := Nat.le_of_lt j5.lt
        have hJW := JW.out
        have hJG := JG.out.rv
        clear j2 j3 j4 j5 hdx hix keep hsum HJ0 CP CL HJ
        go_upto_if 72 with (first
          | (with_reducible show wpList _ _ _ (⟨some 67, _, _, _, _, _⟩ :: _) _ _; go_must (refine wpList_append_zb rfl (.tmp 65) (.tmp 66) 28 rfl B 4 Try.underlying28 infoB u5 (.slice ag g.length cg) l g rfl rfl hJW hJG hll hBw ?_); go_must (intro v7 w7 ho7 hg7; have hb7 := j1.trans (grown_below hg7 hBw hJW.row); have H7 := Go.Lib.hid (J5.out.kept hJW (by decide) (by decide) hg7); have HN7 := Go.Lib.hid (JN.out.apart hJW (by decide) hg7); have HW7 := Go.Lib.hid ho7; have hc7 := HC w7 hb7; clear hg7 ho7 hJW hJG JG JN JW J5 hll hBw j1 HC))
          | fail)
        cases t with
        | false =>
          have Hw2 : Hid (wants X (k + 1) = ws) := Hws.out
          go_wp2_with fail
          go_roundw
          case rel => exact ⟨k + 1, u', by omega, by omega, by go_num, by rw [Hs.out]; exact H7.out, by rw [Hs.out]; exact HW7.out, by rw [Hw2.out]; exact HN7.out, hb7⟩
          case measure => simp only [intOf]; omega
        | true =>
          have Hw2 : Hid (wants X (k + 1) = ws ++ [x]) := Hws.out
          have kA : Below w7.heap.size w7 (w7.alloc (.cells #[.int .u64 (x : Int)] 31)) := (Below.refl _ _).alloc (Nat.le_refl _) _
          have hBw7 : B ≤ w7.heap.size := Nat.le_of_lt H7.out.lt
          have hbA := hb7.trans (kA.mono hBw7)
          have hWA := Go.Lib.hid (HW7.out.below kA)
          have hNA := HN7.out.below kA
          have hHA := Go.Lib.hid (H7.out.below kA)
          have hone := RV.one w7 31 (.int .u64 (x : Int))
          have hsz := Nat.le_trans hBw7 kA.size
          have hl1 : ((zi .u64 ws).length + [Value.int .u64 (x : Int)].length) * 8 ≤ 140737488355328 := by rw [zi_length]; simp; omega
          have hl2 : (zi .u64 ws).length + [Value.int .u64 (x : Int)].length ≤ 140737488355328 := by rw [zi_length]; simp; omega
          clear kA HW7 HN7 H7 hb7 hBw7
          go_wp2_with (first
            | (with_reducible show wpList _ _ _ (⟨some 79, _, _, _, _, _⟩ :: _) _ _; go_must (refine wpList_append_RV rfl (.tmp 73) (.tmp 78) 22 rfl B 31 Try.underlying22 (.int .u64 0) 8 rfl infoU u6 (.slice (some ⟨w7.heap.size, 0, none⟩) 1 1) (zi .u64 ws) [.int .u64 (x : Int)] rfl rfl hNA hone (by simp [Value.oneCell']) hl1 hl2 hsz ?_); go_must (intro v8 w8 ho8 hg8; have hb8 := hbA.trans (grown_below hg8 hsz hNA.row); have H8 := Go.Lib.hid (hHA.out.kept hNA (by decide) (by decide) hg8); have HW8 := Go.Lib.hid (hWA.out.apart hNA (by decide) hg8); have HN8 := Go.Lib.hid ho8; clear hg8 ho8 hNA hone hsz hl1 hl2 hHA hWA hbA))
            | fail)
          go_roundw
          case rel => exact ⟨k + 1, u', by omega, by omega, by go_num, by rw [Hs.out]; exact H8.out, by rw [Hs.out]; exact HW8.out, by rw [Hw2.out, zi_append]; exact HN8.out, hb8⟩
          case measure => simp only [intOf]; omega
    · have hok := wants_ok X Hx64.out k
      have hA := allG_gams (wants X k) [] [] hok
      rw [List.append_nil, List.nil_append] at hA
      have hM := allG_more (wants X k) hok
      have hb := hbb.trans (hbr.mono (by rw [HB.out]; exact hbb.size))
      generalize wants X k = ws at *
      obtain ⟨an, cn, rfl, -⟩ := hnv.rv.form
      have e1 : (zi .u64 ws).length = ws.length := zi_length ..
      rw [e1] at hnv ⊢
      obtain ⟨aw, cw, rfl, -⟩ := hwv.rv.form
      have e2 : (zb (gams ws)).length = (gams ws).length := zb_length _
      rw [e2] at hwv ⊢
      generalize gams ws = l at *
      have HBT := Go.Lib.hid hbt
      have HN := Go.Lib.hid hnv.rv
      have HW := Go.Lib.hid hwv.rv
      have HA := Go.Lib.hid hA
      have HM := Go.Lib.hid hM
      have hl1 : l.length ≤ 4000 := by omega
      have hw1 : ws.length ≤ 30 := by omega
      obtain ⟨wo, rfl⟩ : ∃ wo : World, wo = wr := ⟨_, rfl⟩
      clear hbt hnv hwv hA hM hok e1 e2 HX1 HX0 HXf Hx64 hbb hbr hwl hgl
      by_cases hk : k < len0
      all_goals
        go_wp2_with fail
        refine (gall_yes 0 ws.length _ _ _ _ _ _ _ HBT.out (by omega) (by decide) (by decide) (by omega) HA.out).mono ?_
        rintro e w3 ⟨v3, rfl, hr3, k3⟩
        obtain ⟨a3, c3, rfl, -⟩ := hr3.form
        have e1 : (zi .u64 ws).length = ws.length := zi_length ..
        rw [e1] at hr3 ⊢
        have H3 := Go.Lib.hid hr3
        have HBT3 := Go.Lib.hid (HBT.out.below k3)
        have HN3 := Go.Lib.hid (HN.out.below k3)
        have HW3 := Go.Lib.hid (HW.out.below k3)
        have hb3 := hb.trans (k3.mono hb.size)
        have C4 := fun W (h : BT W B B u l) => gall_no 0 (ws.length + 1) W _ _ _ _ h (by omega) (by decide) (by decide) (by omega) HM.out
        rw [show ((ws.length + 1 : Nat) : Int) = (ws.length : Int) + 1 by omega] at C4
        have K4 := Go.Lib.hid C4
        clear hr3 e1 k3 C4 hb
        go_wp2_with fail
        refine (K4.out _ HBT3.out).mono ?_
        rintro e w4 ⟨v4, rfl, hr4, k4⟩
        obtain ⟨a4, c4, rfl, -⟩ := hr4.form
        have H4 := Go.Lib.hid (H3.out.below k4)
        have HBT4 := Go.Lib.hid (HBT3.out.below k4)
        have HN4 := Go.Lib.hid (HN3.out.below k4)
        have HW4 := Go.Lib.hid (HW3.out.below k4)
        have hb4 := hb3.trans (k4.mono hb3.size)
        clear hr4 k4 hb3 K4
        go_wp2_with fail
        refine (same_c _ l _ _ _ _ HBT4.out HW4.out (by omega)).mono ?_
        rintro e w5 ⟨rfl, k5⟩
        have H5 := Go.Lib.hid (H4.out.below k5)
        have HN5 := Go.Lib.hid (HN4.out.below k5)
        have hb5 := hb4.trans (k5.mono hb4.size)
        clear k5 hb4 HA HM
        go_wp2_with fail
        go_loopw [16] (fun jv wr => ∃ j : Nat, j ≤ ws.length ∧ jv = .int .i64 (j : Int) ∧ Below w5.heap.size w5 wr) (fun jv _ => ws.length - (intOf jv).toNat)
        case atStart => exact ⟨0, by omega, rfl, Below.refl _ _⟩
        case round =>
          obtain ⟨j, hj, rfl, hb2⟩ := hrel
          by_cases hji : j < ws.length
          · obtain ⟨bw, ow, rfl, hcw, hbw⟩ := H5.out.at j (by rw [zi_length]; exact hji)
            obtain ⟨bx, ox, rfl, hcx, hbx⟩ := HN5.out.at j (by rw [zi_length]; exact hji)
            rw [zi_at _ _ _ hji] at hcw hcx
            have d1 := (hb2.cell (p := ⟨bw, ow + j, none⟩) hbw).trans hcw
            have d2 := (hb2.cell (p := ⟨bx, ox + j, none⟩) hbx).trans hcx
            generalize ws[j] = y at *
            have hyy : ((y : Int) != (y : Int)) = false := by simp
            clear hcw hcx
            go_wp2_with fail
            go_quiet (fail)
            go_wp2_with fail
            go_roundw
            case rel => exact ⟨j + 1, by omega, by go_num, below_drewN hb2 _⟩
            case measure => simp only [intOf]; omega
          · have hb6 := hb5.trans (hb2.mono hb5.size)
            go_wp2_with fail
            go_ret
            exact ⟨rfl, hb6⟩

/-! ### THE ROW's STEP: WRITTEN OUT: LEAVE IT -/
set_option maxRecDepth 100000 in
theorem lifted (os : Os) (started : os.Started) (H : Type) (enc : TypeId × Value → H) :
    ReturnsInHanded {} Try.checked os 3 .any (Rows.gammaAllSpec.pre6 enc Try.prog Try.f3 Rows.gammaAllRow.domain false) (Rows.gammaAllSpec.post enc Try.prog Try.f3 false true false false) := by
  refine returnsInHanded_of_change (C := Try.checked) own started (by kernel_rfl) Try.func3
    (ChangeSpec.witness6 (enc := enc) (C := Try.checked) false ⟨#[], #[.slice none 0 0], []⟩ 8 (by kernel_rfl) (by kernel_rfl) (by kernel_rfl) (by kernel_rfl)) ?_
  intro W base args ds gs before hval0 hW hcnd _
  have hval : ∀ (j : Nat) t v, Try.f3.params[j]? = some t → args[j]? = some v → Value.okWide Try.prog W .any base t v := hval0
  have hW' := hW
  obtain ⟨p, q, hA0, hV, rfl, hfz, hnd⟩ := hW
  have hA : DataW.TrodAll enc Try.prog W 0 (fun _ => true) true Try.f3.params.toList args.toList ds p := hA0
  rw [Try.params3] at hA hval
  obtain ⟨v0, vs0, d0, ds0, p0, q0, hargs, rfl, rfl, h0, r0⟩ := trodAll_cons hA
  obtain ⟨rfl, rfl, rfl⟩ := trodAll_nil r0
  obtain rfl : args = #[v0] := by cases args; simp_all
  obtain ⟨rfl, rfl⟩ := trodVars_none hV
  obtain ⟨a0, len0, cap0, rfl⟩ := okWide_slice Try.underlying22 (hval 0 22 v0 rfl rfl)
  have k0 := h0
  have lt0 : ∀ x ∈ p0, x.block < W.heap.size := by obtain ⟨m, hm⟩ := k0; exact DataW.trod_lt m _ _ _ hm
  obtain ⟨z0, w0⟩ : ∃ zs, IsRow .u64 W a0 len0 cap0 zs := by
    obtain ⟨fuel, hf⟩ := h0
    rcases open_ints Try.underlying22 Try.underlying31 (by kernel_rfl) hf with ⟨hcs, _⟩ | ⟨x, l, c, zs, hcs, _, hl, hm, hz, _, hcell, hwz⟩
    · simp [Value.cells] at hcs
      obtain ⟨rfl, rfl, rfl⟩ := hcs
      exact ⟨[], .inl ⟨rfl, rfl, rfl, rfl⟩⟩
    · simp [Value.cells] at hcs
      obtain ⟨rfl, rfl, rfl⟩ := hcs
      exact ⟨zs, .inr ⟨_, rfl, hl, hm, by simpa using hz, hcell, hwz⟩⟩
  clear hA0 hval0
  refine (walk a0 len0 cap0 z0 W w0).mono fun e W' ⟨he, bel⟩ => ?_
  subst he
  exact ⟨_, rfl, _, _, _, [], _, [], hW', trodAll_mk1 (shut_bool Try.underlying4 _), (trodAll_cons_mk (Below.trod laidOut (by kernel_rfl) (of_decide_eq_true (by kernel_rfl)) k0 bel lt0) trodAll_mk0), rfl, bel.frame _, fun h => by cases h⟩

theorem over : Rows.gammaAllRow.holds Try.pinned (OpenSpec.ofChange Rows.gammaAllSpec) :=
  OpenClaim.holds_of_wide 3 Try.f3 rfl rfl rfl rfl rfl rfl rfl ⟨rfl, rfl, rfl, rfl, rfl⟩ rfl rfl rfl rfl rfl (by kernel_rfl) Try.func3 (by kernel_rfl)
    (of_decide_eq_true (by kernel_rfl)) (by unfold Func.isWrapper; first | (rw [if_pos (by decide +kernel)]; kernel_rfl) | (rw [if_neg (by decide +kernel)]; exact ⟨rfl, rfl⟩))
    (fun os started H enc _ => lifted os started H enc)

/-- ████ THE STATEMENT ████ -/
theorem proved : Rows.GammaAllSaid := over
#print axioms proved
end Go.Proofs.Ytfhbpaecpoijfaa.gammaAll
