/- BitsNums: numbers of any lengths one behind the other are told one by one: for every input the law returns true. -/
import Derived.Test.YtdojmbmfgeaheaaRows
import Derived.WalkKit
import Derived.ProofKit
import Derived.OpenShut
import Derived.ShutString
import Derived.ChangeOld
import Derived.Below
import Derived.Test.YtdojmbmfgeaheaaBegun6
import Derived.Test.YtdojmbmfgeaheaaApart
import Derived.Deep.DeepCutAuto
namespace Go.Proofs.Ytdojmbmfgeaheaa.bitsNums
open Go.ChangeShapes Go.WideShapes Go.ChangeAt Go.RowKit
open Go.ChangeMaps (open_string shut_string)
set_option linter.unusedVariables false

theorem own : ownKnob Try.prog.godebug = none := by kernel_rfl
theorem laidOut : laidOutB Try.prog = true := by kernel_rfl

/-- WHAT THE WALK IS TOLD OF A SLICE OF INTEGERS THAT CAME IN: it is nil; or it leads to a row of 'cap' cells, the numbers 'zs' (the first 'len' are its elements, the rest its spare room), each fitting its kind. -/
def IsRow (k : IntKind) (w : World) (a : Option Addr) (len cap : Nat) (zs : List Int) : Prop :=
  (a = none ∧ len = 0 ∧ cap = 0 ∧ zs = []) ∨
  ∃ x, a = some x ∧ len ≤ cap ∧ cap ≤ maxLen ∧ zs.length = cap ∧ (∀ i, i < zs.length → w.cell? (x.add i) = some (.int k (zs.getD i 0))) ∧ ∀ n ∈ zs, (Lit.int k n).wf = true

/-- The numbers' bits, one behind the other; the numbers, cut to their lengths. -/
def xN (X : List Int) (i : Nat) : Nat := (X.getD i 0).toNat
def nN (N : List Int) (i : Nat) : Nat := (N.getD i 0 % 65).toNat
def allB (X N : List Int) (k : Nat) : List Bool := (List.range k).flatMap fun i => numB (xN X i) (nN N i)
def wants (X N : List Int) (k : Nat) : List Nat := (List.range k).map fun i => xN X i % 2 ^ nN N i
def lens (N : List Int) (k : Nat) : List Nat := (List.range k).map fun i => nN N i
theorem nN_le (N : List Int) (i : Nat) : nN N i ≤ 64 := by unfold nN; omega
theorem allB_succ (X N : List Int) (k : Nat) : allB X N (k + 1) = allB X N k ++ numB (xN X k) (nN N k) := by simp [allB, List.range_succ]
theorem wants_succ (X N : List Int) (k : Nat) : wants X N (k + 1) = wants X N k ++ [xN X k % 2 ^ nN N k] := by simp [wants, List.range_succ]
theorem lens_succ (N : List Int) (k : Nat) : lens N (k + 1) = lens N k ++ [nN N k] := by simp [lens, List.range_succ]
theorem allB_len (X N : List Int) : ∀ k, (allB X N k).length ≤ 64 * k
  | 0 => by simp [allB]
  | k + 1 => by rw [allB_succ, List.length_append, numB_length]; have := allB_len X N k; have := nN_le N k; omega
theorem allB_more (X N : List Int) : ∀ K k, k ≤ K → ∃ r, allB X N K = allB X N k ++ r
  | 0, k, h => ⟨[], by
    obtain rfl : k = 0 := by omega
    rw [List.append_nil]⟩
  | K + 1, k, h => by
    rcases Nat.lt_or_ge k (K + 1) with h1 | h1
    · obtain ⟨r, hr⟩ := allB_more X N K k (by omega)
      exact ⟨r ++ numB (xN X K) (nN N K), by rw [allB_succ, hr, List.append_assoc]⟩
    · obtain rfl : k = K + 1 := by omega
      exact ⟨[], by rw [List.append_nil]⟩
/-- The k-th number's bits stand behind those of the ones ahead. -/
theorem allB_at (X N : List Int) (K k : Nat) (h : k < K) : ((allB X N K).drop (allB X N k).length).take (nN N k) = numB (xN X k) (nN N k) ∧ (allB X N k).length + nN N k ≤ (allB X N K).length := by
  obtain ⟨r, hr⟩ := allB_more X N K (k + 1) (by omega)
  rw [hr, allB_succ]
  constructor
  · rw [List.append_assoc, List.drop_left]
    have := List.take_left (l₁ := numB (xN X k) (nN N k)) (l₂ := r)
    rwa [numB_length] at this
  · simp only [List.length_append, numB_length]; omega

theorem mod65 (z : Int) (h1 : -9223372036854775808 ≤ z) (h2 : z ≤ 9223372036854775807) : (wrap64 (z.tmod 65 + 65)).tmod 65 = z % 65 := by
  have h : z.tmod 65 = z % 65 ∨ z.tmod 65 = -((-z) % 65) := by
    by_cases h0 : 0 ≤ z
    · exact .inl (Int.tmod_eq_emod_of_nonneg h0)
    · right
      have h3 := Int.neg_tmod (-z) 65
      rw [Int.neg_neg] at h3
      rw [h3, Int.tmod_eq_emod_of_nonneg (by omega)]
  have hw : wrap64 (z.tmod 65 + 65) = z.tmod 65 + 65 := by
    unfold wrap64
    omega
  rw [hw, Int.tmod_eq_emod_of_nonneg (by omega)]
  omega

theorem mask (x n : Nat) (hn : n < 64) (hx : x < 18446744073709551616) : bits .and .u64 (x : Int) (IntKind.u64.wrap (IntKind.u64.wrap (2 ^ n) - 1)) = ((x % 2 ^ n : Nat) : Int) := by
  have h1 : 2 ^ n < 18446744073709551616 := Nat.lt_of_lt_of_le (Nat.pow_lt_pow_right (by omega) hn) (by decide)
  have h0 : 0 < 2 ^ n := Nat.pow_pos (by omega)
  have e1 : IntKind.u64.wrap (2 ^ n) = ((2 ^ n : Nat) : Int) := by
    have : (2 : Int) ^ n = ((2 ^ n : Nat) : Int) := by simp
    rw [this, IntKind.wrap_u64]
    omega
  have e2 : IntKind.u64.wrap (((2 ^ n : Nat) : Int) - 1) = ((2 ^ n - 1 : Nat) : Int) := by
    rw [IntKind.wrap_u64]
    omega
  rw [e1, e2, u64_and_nat x (2 ^ n - 1) hx (by omega), Nat.and_two_pow_sub_one_eq_mod]
theorem infoU : (Try.prog.info? 36).map (fun i => (i.zero, i.size, i.bytes)) = some (some (.int .u64 0), 1, 8) := by kernel_rfl
theorem infoI : (Try.prog.info? 3).map (fun i => (i.zero, i.size, i.bytes)) = some (some (.int .i64 0), 1, 8) := by kernel_rfl

set_option maxHeartbeats 1000000 in
set_option maxRecDepth 100000 in
theorem walk (a0 : Option Addr) (len0 cap0 : Nat) (z0 : List Int) (a1 : Option Addr) (len1 cap1 : Nat) (z1 : List Int) (w : World) (w0 : IsRow .u64 w a0 len0 cap0 z0) (w1 : IsRow .i64 w a1 len1 cap1 z1) :
    Calls Try.prog 4 #[.slice a0 len0 cap0, .slice a1 len1 cap1] w fun e w' => e = .returned (.bool true) ∧ Below w.heap.size w w' := by
  obtain ⟨X, hX0, hX, hX63, hXf⟩ := rv_of_row w0
  obtain ⟨N, hN0, hN, hN63, hNf⟩ := rv_of_row w1
  clear w0 w1
  have HX := Go.Lib.hid hX
  have HN := Go.Lib.hid hN
  have HX0 := Go.Lib.hid hX0
  have HN0 := Go.Lib.hid hN0
  have HXf := Go.Lib.hid hXf
  have HNf := Go.Lib.hid hNf
  clear hX hN hX0 hN0 hXf hNf
  go_enter Try.func4, Try.ntmps4
  go_wp2_with fail
  refine (begun_c _).mono ?_
  rintro e w1 ⟨rfl, hbb⟩
  have hbt := BT.new w1
  have hb1 : Below w1.heap.size w1 (w1.alloc (.cells #[.slice none 0 0, .int .i64 0] 35)) := (Below.refl _ _).alloc (Nat.le_refl _) _
  have HX1 := Go.Lib.hid (HX.out.below hbb)
  have HN1 := Go.Lib.hid (HN.out.below hbb)
  have Hbt := Go.Lib.hid hbt
  clear hbt HX HN
  obtain ⟨B, hB⟩ : ∃ B, B = w1.heap.size := ⟨_, rfl⟩
  have HB := Go.Lib.hid hB
  clear hB
  go_wp2_with fail
  go_loopw [7, 8, 9] (fun wv nv i wr => ∃ (k : Nat) (u : Value), k ≤ len0 ∧ k ≤ len1 ∧ k ≤ 30 ∧ i = .int .i64 (k : Int) ∧ BT wr w1.heap.size w1.heap.size u (allB X N k) ∧ OwnV 36 wr w1.heap.size wv (zi .u64 (wants X N k)) ∧ OwnV 3 wr w1.heap.size nv (zi .i64 (lens N k)) ∧ Below w1.heap.size w1 wr) (fun _ _ i _ => 30 - (intOf i).toNat)
  case atStart => exact ⟨0, _, by omega, by omega, by omega, rfl, Hbt.out, OwnV.nil _ _ _, OwnV.nil _ _ _, hb1⟩
  case round =>
    obtain ⟨k, u, hk0, hk1, hk30, rfl, hbt, hwant, hns, hbr⟩ := hrel
    by_cases hlt : k < len0 ∧ k < len1 ∧ k < 30
    · obtain ⟨hlt0, hlt1, hlt30⟩ := hlt
      obtain ⟨b0, o0, hA0, hc0, hb0⟩ := (HX1.out).at k (by rw [List.length_map, HX0.out]; exact hlt0)
      obtain ⟨b2, o2, hA1, hc1, hb2⟩ := (HN1.out).at k (by rw [List.length_map, HN0.out]; exact hlt1)
      subst hA0 hA1
      have hkX : k < X.length := by rw [HX0.out]; exact hlt0
      have hkN : k < N.length := by rw [HN0.out]; exact hlt1
      have d0 := (hbr.cell (p := ⟨b0, o0 + k, none⟩) hb0).trans hc0
      have d1 := (hbr.cell (p := ⟨b2, o2 + k, none⟩) hb2).trans hc1
      rw [List.getElem_map] at d0 d1
      have hx := bounds_u64 (HXf.out X[k] (List.getElem_mem hkX))
      have hz := bounds_i64 (HNf.out N[k] (List.getElem_mem hkN))
      clear hc0 hc1
      have ex : xN X k = X[k].toNat := by unfold xN; rw [List.getD_eq_getElem?_getD, List.getElem?_eq_getElem hkX]; rfl
      have en : nN N k = (N[k] % 65).toNat := by unfold nN; rw [List.getD_eq_getElem?_getD, List.getElem?_eq_getElem hkN]; rfl
      generalize X[k] = X' at d0 hx ex
      obtain ⟨x, rfl⟩ : ∃ x : Nat, X' = (x : Int) := ⟨X'.toNat, by omega⟩
      rw [Int.toNat_natCast] at ex
      generalize N[k] = z at d1 hz en
      have hx64 : x < 18446744073709551616 := by omega
      obtain ⟨n, hn⟩ : ∃ n, n = nN N k := ⟨_, rfl⟩
      have hn64 : n ≤ 64 := by rw [hn]; exact nN_le N k
      rw [← hn] at en
      obtain ⟨hz1, hz2⟩ := hz
      have Ex := Go.Lib.hid ex
      have En := Go.Lib.hid en
      have Hn := Go.Lib.hid hn
      have Hx64 := Go.Lib.hid hx64
      have HBT := Go.Lib.hid hbt
      have HW := Go.Lib.hid hwant
      have HNS := Go.Lib.hid hns
      clear ex en hn hbt hwant hns hx hx64
      have hmod : (wrap64 (z.tmod 65 + 65)).tmod 65 = (n : Int) := by rw [mod65 z hz1 hz2, En.out]; omega
      go_upto_if 47 with (fail)
      go_cut [11] (fun xv wx => xv = .int .u64 ((x % 2 ^ n : Nat) : Int) ∧ wx = wr)
      case first =>
        by_cases hnlt : n < 64
        · have Hm := Go.Lib.hid (mask x n hnlt Hx64.out)
          go_wp2_with fail
          go_meet
          exact ⟨by rw [Hm.out], rfl⟩
        · have Hm := Go.Lib.hid (Nat.mod_eq_of_lt (a := x) (b := 2 ^ n) (by
            obtain rfl : n = 64 := by omega
            exact Hx64.out))
          go_wp2_with fail
          go_meet
          exact ⟨by rw [Hm.out], rfl⟩
      case rest =>
        obtain ⟨rfl, rfl⟩ := hcut
        have Hal := Go.Lib.hid (allB_len X N k)
        go_wp2_with fail
        refine (putNum_c x n _ _ _ _ _ HBT.out hn64 (by have := Hal.out; omega)).mono ?_
        rintro e w2 ⟨rfl, v2, h2, k2, -⟩
        have hW2 := HW.out.two HBT.out (by decide) (by decide) k2
        have hN2 := HNS.out.two HBT.out (by decide) (by decide) k2
        have hb2 := hbr.trans (k2.below (Nat.le_refl _) HBT.out.rows hbr.size)
        have e2 : allB X N k ++ numB x n = allB X N (k + 1) := by rw [allB_succ, Ex.out, ← Hn.out]
        rw [e2] at h2
        have H2 := Go.Lib.hid h2
        clear e2 h2 k2 HW HNS HBT d0 d1
        obtain ⟨y, hy⟩ : ∃ y, y = x % 2 ^ n := ⟨_, rfl⟩
        rw [← hy]
        have ew : zi .u64 (wants X N k) ++ [.int .u64 (y : Int)] = zi .u64 (wants X N (k + 1)) := by rw [wants_succ, zi_append, hy, ← Ex.out, ← Hn.out]; rfl
        have en : zi .i64 (lens N k) ++ [.int .i64 (n : Int)] = zi .i64 (lens N (k + 1)) := by rw [lens_succ, zi_append, ← Hn.out]; rfl
        have hwl : (zi .u64 (wants X N k)).length = k := by rw [zi_length]; simp [wants]
        have hnl : (zi .i64 (lens N k)).length = k := by rw [zi_length]; simp [lens]
        have Ew := Go.Lib.hid ew
        have En' := Go.Lib.hid en
        have hwl1 : ((zi .u64 (wants X N k)).length + [Value.int .u64 (y : Int)].length) * 8 ≤ 140737488355328 := by rw [hwl]; simp; omega
        have hwl2 : (zi .u64 (wants X N k)).length + [Value.int .u64 (y : Int)].length ≤ 140737488355328 := by rw [hwl]; simp; omega
        have hnl1 : ((zi .i64 (lens N k)).length + [Value.int .i64 (n : Int)].length) * 8 ≤ 140737488355328 := by rw [hnl]; simp; omega
        have hnl2 : (zi .i64 (lens N k)).length + [Value.int .i64 (n : Int)].length ≤ 140737488355328 := by rw [hnl]; simp; omega
        have kA : Below w2.heap.size w2 (w2.alloc (.cells #[.int .u64 (y : Int)] 36)) := (Below.refl _ _).alloc (Nat.le_refl _) _
        have hb3 := hb2.trans (kA.mono hb2.size)
        have hW3 := hW2.below kA
        have hN3 := hN2.below kA
        have H3 := Go.Lib.hid (H2.out.below kA)
        have hone1 := RV.one w2 36 (.int .u64 (y : Int))
        have hbs3 := hb3.size
        clear hy ew en hwl hnl kA hb2 hW2 hN2 H2
        go_wp2_with (first
          | (with_reducible show wpList _ _ _ (⟨some 63, _, _, _, _, _⟩ :: _) _ _; go_must (refine wpList_append_RV rfl (.tmp 60) (.tmp 62) 32 rfl w1.heap.size 36 Try.underlying32 (.int .u64 0) 8 rfl infoU u7 (.slice (some ⟨w2.heap.size, 0, none⟩) 1 1) (zi .u64 (wants X N k)) [.int .u64 (y : Int)] rfl rfl hW3 hone1 (by simp [Value.oneCell']) hwl1 hwl2 hbs3 ?_); intro v4 w4 ho4 hg4; have hN4 := hN3.apart hW3 (by decide) hg4; have H4 := Go.Lib.hid (H3.out.kept hW3 (by decide) (by decide) hg4); have hb4 := hb3.grown hg4 hbs3 hW3.row; have kA : Below w4.heap.size w4 (w4.alloc (.cells #[.int .i64 (n : Int)] 3)) := (Below.refl _ _).alloc (Nat.le_refl _) _; have hb5 := hb4.trans (kA.mono hb4.size); have hW5 := ho4.below kA; have hN5 := hN4.below kA; have H5 := Go.Lib.hid (H4.out.below kA); have hone2 := RV.one w4 3 (.int .i64 (n : Int)); have hbs5 := hb5.size; clear hb3 hW3 hN3 H3 hone1 hbs3 ho4 hg4 hN4 H4 hb4 kA)
          | (with_reducible show wpList _ _ _ (⟨some 67, _, _, _, _, _⟩ :: _) _ _; go_must (refine wpList_append_RV rfl (.tmp 64) (.tmp 66) 33 rfl w1.heap.size 3 Try.underlying33 (.int .i64 0) 8 rfl infoI u8 (.slice (some ⟨w4.heap.size, 0, none⟩) 1 1) (zi .i64 (lens N k)) [.int .i64 (n : Int)] rfl rfl hN5 hone2 (by simp [Value.oneCell']) hnl1 hnl2 hbs5 ?_); intro v6 w6 ho6 hg6; have hW6 := hW5.apart hN5 (by decide) hg6; have H6 := Go.Lib.hid (H5.out.kept hN5 (by decide) (by decide) hg6); have hb6 := hb5.grown hg6 hbs5 hN5.row; clear hg6 hone2 hW5 hN5 H5 hb5 hbs5)
          | fail)
        rw [Ew.out] at hW6
        rw [En'.out] at ho6
        have HW6 := Go.Lib.hid hW6
        have HN6 := Go.Lib.hid ho6
        clear hW6 ho6 hmod
        go_roundw
        case rel => exact ⟨k + 1, v2, by omega, by omega, by omega, by go_num, H6.out, HW6.out, HN6.out, hb6⟩
        case measure => simp only [intOf]; omega
    · have Hal := Go.Lib.hid (allB_len X N k)
      have HBT := Go.Lib.hid hbt
      have hb := hbb.trans (hbr.mono hbb.size)
      obtain ⟨aw, cw, rfl, -⟩ := hwant.rv.form
      obtain ⟨an, cn, rfl, -⟩ := hns.rv.form
      have hwl : (zi .u64 (wants X N k)).length = k := by rw [zi_length]; simp [wants]
      have hnl : (zi .i64 (lens N k)).length = k := by rw [zi_length]; simp [lens]
      rw [hwl] at hwant
      rw [hnl] at hns
      rw [hwl, hnl]
      have HW := Go.Lib.hid hwant.rv
      have HNS := Go.Lib.hid hns.rv
      clear hbt hwant hns hwl hnl
      obtain ⟨wo, rfl⟩ : ∃ wo : World, wo = wr := ⟨_, rfl⟩
      have hways : (¬ k < len0) ∨ (k < len0 ∧ ¬ k < len1) ∨ (k < len0 ∧ k < len1 ∧ ¬ k < 30) := by omega
      clear hlt hbr HX1 HN1 HX0 HN0 HXf HNf
      rcases hways with c1 | ⟨c1, c2⟩ | ⟨c1, c2, c3⟩
      all_goals
        go_wp2_with fail
        go_loopw [12, 13] (fun at' i wr => ∃ j : Nat, j ≤ k ∧ at' = .int .i64 ((allB X N j).length : Int) ∧ i = .int .i64 (j : Int) ∧ Below wo.heap.size wo wr) (fun _ i _ => k - (intOf i).toNat)
        case atStart => exact ⟨0, by omega, rfl, rfl, Below.refl _ _⟩
        case round =>
          obtain ⟨j, hj, rfl, rfl, hbr2⟩ := hrel
          by_cases hjk : j < k
          · obtain ⟨hat1, hat2⟩ := allB_at X N k j hjk
            obtain ⟨bw, ow, rfl, hcw, hbw⟩ := HW.out.at j (by rw [zi_length]; simp [wants]; exact hjk)
            obtain ⟨bn, on, rfl, hcn, hbn⟩ := HNS.out.at j (by rw [zi_length]; simp [lens]; exact hjk)
            rw [zi_at _ _ _ (by simp [wants]; exact hjk)] at hcw
            rw [zi_at _ _ _ (by simp [lens]; exact hjk)] at hcn
            simp only [wants, lens, List.getElem_map, List.getElem_range] at hcw hcn
            have hcn1 := (hbr2.cell (p := ⟨bn, on + j, none⟩) hbn).trans hcn
            have hnj := nN_le N j
            have C0 := num_c (allB X N j).length (nN N j) wr _ _ _ _ (HBT.out.below hbr2) (by have := Hal.out; omega) hnj hat2
            rw [hat1, val_numB] at C0
            have C := Go.Lib.hid C0
            have hl1 : (allB X N (j + 1)).length = (allB X N j).length + nN N j := by rw [allB_succ, List.length_append, numB_length]
            have Hl1 := Go.Lib.hid hl1
            have Hcw := Go.Lib.hid hcw
            have hsmall : (allB X N j).length ≤ 2000 := by have := Hal.out; omega
            clear C0 hl1 hat1 hat2 hcn hcw
            generalize (allB X N j).length = at_ at *
            generalize nN N j = n at *
            generalize xN X j % 2 ^ n = y at *
            go_wp2_with fail
            refine C.out.mono ?_
            rintro e w5 ⟨rfl, k5⟩
            have hb5 := hbr2.trans (k5.mono hbr2.size)
            have d1 := (hb5.cell (p := ⟨bw, ow + j, none⟩) hbw).trans Hcw.out
            have d2 := (k5.cell (p := ⟨bn, on + j, none⟩) (Nat.lt_of_lt_of_le hbn hbr2.size)).trans hcn1
            clear C hcn1 hbr2 k5
            go_wp2_with fail
            go_roundw
            case rel => exact ⟨j + 1, by omega, (by rw [Hl1.out]; go_num), by go_num, hb5⟩
            case measure => simp only [intOf]; omega
          · obtain rfl : j = k := by omega
            have HB2 := Go.Lib.hid (HBT.out.below hbr2)
            have hb9 := hb.trans (hbr2.mono hb.size)
            clear HBT HW HNS hbr2 hb
            go_wp2_with fail
            refine (len_c _ _ _ _ _ _ HB2.out).mono ?_
            rintro e w5 ⟨rfl, rfl⟩
            go_wp2_with fail
            go_ret
            exact ⟨rfl, hb9⟩

/-! ### THE ROW's STEP: WRITTEN OUT: LEAVE IT -/
set_option maxRecDepth 100000 in
theorem lifted (os : Os) (started : os.Started) (H : Type) (enc : TypeId × Value → H) :
    ReturnsInHanded {} Try.checked os 4 .any (Rows.bitsNumsSpec.pre6 enc Try.prog Try.f4 Rows.bitsNumsRow.domain false) (Rows.bitsNumsSpec.post enc Try.prog Try.f4 false true false false) := by
  refine returnsInHanded_of_change (C := Try.checked) own started (by kernel_rfl) Try.func4
    (ChangeSpec.witness6 (enc := enc) (C := Try.checked) false ⟨#[], #[.slice none 0 0, .slice none 0 0], []⟩ 8 (by kernel_rfl) (by kernel_rfl) (by kernel_rfl) (by kernel_rfl)) ?_
  intro W base args ds gs before hval0 hW hcnd _
  have hval : ∀ (j : Nat) t v, Try.f4.params[j]? = some t → args[j]? = some v → Value.okWide Try.prog W .any base t v := hval0
  have hW' := hW
  obtain ⟨p, q, hA0, hV, rfl, hfz, hnd⟩ := hW
  have hA : DataW.TrodAll enc Try.prog W 0 (fun _ => true) true Try.f4.params.toList args.toList ds p := hA0
  rw [Try.params4] at hA hval
  obtain ⟨v0, vs0, d0, ds0, p0, q0, hargs, rfl, rfl, h0, r0⟩ := trodAll_cons hA
  obtain ⟨v1, vs1, d1, ds1, p1, q1, rfl, rfl, rfl, h1, r1⟩ := trodAll_cons r0
  obtain ⟨rfl, rfl, rfl⟩ := trodAll_nil r1
  obtain rfl : args = #[v0, v1] := by cases args; simp_all
  obtain ⟨rfl, rfl⟩ := trodVars_none hV
  obtain ⟨a0, len0, cap0, rfl⟩ := okWide_slice Try.underlying32 (hval 0 32 v0 rfl rfl)
  have k0 := h0
  have lt0 : ∀ x ∈ p0, x.block < W.heap.size := by obtain ⟨m, hm⟩ := k0; exact DataW.trod_lt m _ _ _ hm
  obtain ⟨z0, w0⟩ : ∃ zs, IsRow .u64 W a0 len0 cap0 zs := by
    obtain ⟨fuel, hf⟩ := h0
    rcases open_ints Try.underlying32 Try.underlying36 (by kernel_rfl) hf with ⟨hcs, _⟩ | ⟨x, l, c, zs, hcs, _, hl, hm, hz, _, hcell, hwz⟩
    · simp [Value.cells] at hcs
      obtain ⟨rfl, rfl, rfl⟩ := hcs
      exact ⟨[], .inl ⟨rfl, rfl, rfl, rfl⟩⟩
    · simp [Value.cells] at hcs
      obtain ⟨rfl, rfl, rfl⟩ := hcs
      exact ⟨zs, .inr ⟨_, rfl, hl, hm, by simpa using hz, hcell, hwz⟩⟩
  obtain ⟨a1, len1, cap1, rfl⟩ := okWide_slice Try.underlying33 (hval 1 33 v1 rfl rfl)
  have k1 := h1
  have lt1 : ∀ x ∈ p1, x.block < W.heap.size := by obtain ⟨m, hm⟩ := k1; exact DataW.trod_lt m _ _ _ hm
  obtain ⟨z1, w1⟩ : ∃ zs, IsRow .i64 W a1 len1 cap1 zs := by
    obtain ⟨fuel, hf⟩ := h1
    rcases open_ints Try.underlying33 Try.underlying3 (by kernel_rfl) hf with ⟨hcs, _⟩ | ⟨x, l, c, zs, hcs, _, hl, hm, hz, _, hcell, hwz⟩
    · simp [Value.cells] at hcs
      obtain ⟨rfl, rfl, rfl⟩ := hcs
      exact ⟨[], .inl ⟨rfl, rfl, rfl, rfl⟩⟩
    · simp [Value.cells] at hcs
      obtain ⟨rfl, rfl, rfl⟩ := hcs
      exact ⟨zs, .inr ⟨_, rfl, hl, hm, by simpa using hz, hcell, hwz⟩⟩
  clear hA0 hval0
  refine (walk a0 len0 cap0 z0 a1 len1 cap1 z1 W w0 w1).mono fun e W' ⟨he, bel⟩ => ?_
  subst he
  exact ⟨_, rfl, _, _, _, [], _, [], hW', trodAll_mk1 (shut_bool Try.underlying4 _), (trodAll_cons_mk (Below.trod laidOut (by kernel_rfl) (of_decide_eq_true (by kernel_rfl)) k0 bel lt0) (trodAll_cons_mk (Below.trod laidOut (by kernel_rfl) (of_decide_eq_true (by kernel_rfl)) k1 bel lt1) trodAll_mk0)), rfl, bel.frame _, fun h => by cases h⟩

theorem over : Rows.bitsNumsRow.holds Try.pinned (OpenSpec.ofChange Rows.bitsNumsSpec) :=
  OpenClaim.holds_of_wide 4 Try.f4 rfl rfl rfl rfl rfl rfl rfl ⟨rfl, rfl, rfl, rfl, rfl⟩ rfl rfl rfl rfl rfl (by kernel_rfl) Try.func4 (by kernel_rfl)
    (of_decide_eq_true (by kernel_rfl)) (by unfold Func.isWrapper; first | (rw [if_pos (by decide +kernel)]; kernel_rfl) | (rw [if_neg (by decide +kernel)]; exact ⟨rfl, rfl⟩))
    (fun os started H enc _ => lifted os started H enc)

/-- ████ THE STATEMENT ████ -/
theorem proved : Rows.BitsNumsSaid := over
#print axioms proved
end Go.Proofs.Ytdojmbmfgeaheaa.bitsNums
