/- DevKeeps: of what is loose a crash keeps just what it is told to keep: for every input the law returns true. -/
import Derived.Test.YtdobkocckdpghaaRows
import Derived.WalkKit
import Derived.ProofKit
import Derived.OpenShut
import Derived.ShutString
import Derived.ChangeOld
import Derived.Below
import Derived.Test.YtdobkocckdpghaaOpenB
import Derived.Test.YtdobkocckdpghaaBegun11
namespace Go.Proofs.Ytdobkocckdpghaa.devKeeps
open Go.ChangeShapes Go.WideShapes Go.ChangeAt Go.RowKit
open Go.ChangeMaps (open_string shut_string)
set_option linter.unusedVariables false

theorem own : ownKnob Try.prog.godebug = none := by kernel_rfl
theorem laidOut : laidOutB Try.prog = true := by kernel_rfl

def kB (k j : Nat) : Bool := decide (j % 2 = 1 ∧ j ≤ 39 ∧ (39 - j) / 2 < k)
def kS (k : Nat) : Nat → Sec := fun j => if kB k j = true then ⟨over zeros [UInt8.ofNat ((39 - j) / 2 + 1)], zeros, true⟩ else ⟨zeros, zeros, false⟩
theorem kS_zero (j : Nat) : kS 0 j = newS j := by unfold kS kB newS; simp
theorem kS_step (k j : Nat) (hk : k < 20) : kS (k + 1) j = wrS (kS k) (39 - 2 * k) [UInt8.ofNat (k + 1)] j := by
  unfold wrS upS
  by_cases e : j = 39 - 2 * k
  · rw [if_pos e]
    have h1 : kB (k + 1) j = true := by unfold kB; simp; omega
    have h2 : kB k (39 - 2 * k) = false := by unfold kB; simp; omega
    unfold kS
    rw [if_pos h1, if_neg (by rw [h2]; decide), show (39 - j) / 2 = k from by omega]
  · rw [if_neg e]
    have h1 : kB (k + 1) j = kB k j := by unfold kB; rw [decide_eq_decide]; omega
    unfold kS
    rw [h1]
theorem lf_kS (k : Nat) : lf (kS k) = kB k := by
  funext j
  unfold lf kS
  cases kB k j <;> rfl
theorem kB_len : ∀ n, n < 21 → (looseL (kB n) 40).length = n := by decide +kernel
theorem kB_rank : ∀ n, n < 21 → ∀ i, i < n → rankD (kB n) (39 - 2 * i) = n - 1 - i := by decide +kernel
theorem kB_at (n i : Nat) (hn : n ≤ 20) (hi : i < n) : kB n (39 - 2 * i) = true := by unfold kB; simp; omega
/-- What the crash left of the i-th that was written. -/
theorem kept_kS (n i : Nat) (keep : List Bool) (hn : n ≤ 20) (hi : i < n) : (crS (kS n) keep (39 - 2 * i)).now = if keep.getD (n - 1 - i) false = true then over zeros [UInt8.ofNat (i + 1)] else zeros := by
  have h1 := kB_at n i hn hi
  have h2 : kS n (39 - 2 * i) = ⟨over zeros [UInt8.ofNat (i + 1)], zeros, true⟩ := by
    unfold kS
    rw [if_pos h1, show (39 - (39 - 2 * i)) / 2 = i from by omega]
  unfold crS keptS
  simp only [lf_kS, h2, kB_rank n (by omega) i hi, true_and]
theorem over_first (x : UInt8) : (over zeros [x])[0]? = some x := by simp [over]
theorem over_64 (x : UInt8) : (over zeros [x]).length = 64 := by rw [over_length (by simp [zeros])]; exact zeros_length

set_option maxHeartbeats 2000000 in
set_option maxRecDepth 100000 in
theorem walk (w : World) (a0 : Int) (w0 : (Lit.int .i64 a0).wf = true) (a1 : Option Addr) (len1 cap1 : Nat) (l1 : List Bool) (w1 : RV w (.slice a1 len1 cap1) (zb l1)) :
    Calls Try.prog 8 #[.int .i64 a0, .slice a1 len1 cap1] w fun e w' => e = .returned (.bool true) ∧ Below w.heap.size w w' := by
  clear w0
  obtain ⟨ad, cp, hv, hm63, -⟩ := w1.zbForm
  simp only [Value.slice.injEq] at hv
  obtain ⟨rfl, hlen, rfl⟩ := hv
  rw [← hlen] at hm63
  have HLEN := Go.Lib.hid hlen; clear hlen
  have HV := Go.Lib.hid w1; clear w1
  go_enter Try.func8, Try.ntmps8
  go_wp2_with fail
  refine (begun_c _).mono ?_
  rintro e w2 ⟨rfl, k2⟩
  by_cases h1 : a0 < 0
  · go_wp2_with fail
    go_ret
    exact ⟨rfl, k2⟩
  by_cases h2 : 20 < a0
  · go_wp2_with fail
    go_ret
    exact ⟨rfl, k2⟩
  obtain ⟨n, rfl⟩ : ∃ n : Nat, a0 = (n : Int) := ⟨a0.toNat, by omega⟩
  clear h1
  have hn : n ≤ 20 := by omega
  have C1 := Go.Lib.hid (dnew_c 40 w2)
  rw [show lenD 40 = 40 from rfl] at C1
  have K2 := Go.Lib.hid k2; clear k2
  go_wp2_with fail
  refine C1.out.mono ?_
  rintro e w3 ⟨d, g, rfl, hd, hb⟩
  have K3 := Go.Lib.hid (K2.out.trans (hb.mono K2.out.size))
  have HD3 := Go.Lib.hid (hd.mono K2.out.size)
  clear C1 hd hb K2
  go_wp2_with fail
  go_loopw [7] (fun c wr => ∃ i : Nat, i ≤ n ∧ c = .int .i64 (i : Int) ∧ DV wr w.heap.size d g 40 (kS i) (lifeN i) ∧ Below w.heap.size w wr) (fun c _ => n - (intOf c).toNat)
  case atStart => exact ⟨0, by omega, rfl, HD3.out.congr (fun j _ => kS_zero j), K3.out⟩
  case round =>
    obtain ⟨i, hi, rfl, hdv, hbw⟩ := hrel
    clear HD3 K3
    by_cases hin : i < n
    · have hiI : (i : Int) < (n : Int) := by omega
      have HQ := Go.Lib.hid (show 39 - 2 * (i : Int) = ((39 - 2 * i : Nat) : Int) from by omega)
      have HD := Go.Lib.hid hdv
      have HB := Go.Lib.hid hbw
      have HW := Go.Lib.hid (show (i : Int) + 1 = ((i + 1 : Nat) : Int) from by omega)
      clear hdv hbw
      go_wp2_with fail
      rw [HQ.out]
      refine (dwrite_c (HD.out.alloc _) rfl (by show (i : Int) < 1000000; omega) (39 - 2 * i) (by omega) _ [UInt8.ofNat (i + 1)] (RB.one wr 5 _ _ (byte_succ i (by omega))) (by simp)).mono ?_
      rintro e w5 ⟨rfl, hd5, ht5⟩
      rw [lifeN_tick] at hd5
      have HD5 := Go.Lib.hid (hd5.congr (S' := kS (i + 1)) (fun j _ => kS_step i j (by omega)))
      have HB5 := Go.Lib.hid ((HB.out.trans ((below_new wr _).mono HB.out.size)).trans (ht5.belowDV (HD.out.alloc _) (Nat.le_trans HB.out.size (below_new wr _).size)))
      clear hd5 ht5
      go_wp2_with fail
      go_roundw
      case rel => exact ⟨i + 1, by omega, by rw [HW.out], HD5.out, HB5.out⟩
      case measure => simp only [intOf]; omega
    · obtain rfl : i = n := by omega
      have C3 := Go.Lib.hid (dcrash_c hdv _ l1 (HV.out.below hbw))
      have HD := Go.Lib.hid hdv
      have HB := Go.Lib.hid hbw
      clear hdv hbw
      go_wp2_with fail
      refine C3.out.mono ?_
      rintro e w5 ⟨d5, g5, rfl, hc5, hb5⟩
      have HB5 := Go.Lib.hid (HB.out.trans (hb5.mono HB.out.size))
      have HD5 := Go.Lib.hid (HD.out.below hb5)
      have HC5 := Go.Lib.hid (hc5.mono HB.out.size)
      clear C3 HD HB hc5 hb5
      go_wp2_with fail
      go_loopw [9] (fun c wx => ∃ q : Nat, q ≤ i ∧ c = .int .i64 (q : Int) ∧ DV wx w.heap.size d g 40 (kS i) (lifeN i) ∧ DV wx w.heap.size d5 g5 40 (crS (kS i) l1) born ∧ Below w.heap.size w wx) (fun c _ => i - (intOf c).toNat)
      case atStart => exact ⟨0, by omega, rfl, HD5.out, HC5.out, HB5.out⟩
      case round =>
        obtain ⟨q, hq, rfl, hdv, hcv, hbw⟩ := hrel
        clear HD5 HB5 HC5
        by_cases hqi : q < i
        · have hqI : (q : Int) < (i : Int) := by omega
          have HQ := Go.Lib.hid (show 39 - 2 * (q : Int) = ((39 - 2 * q : Nat) : Int) from by omega)
          have C4 := Go.Lib.hid (dread_c hcv (39 - 2 * q) (by omega))
          have HV2 := HV.out.below hbw
          have hkp := kept_kS i q l1 (by omega) hqi
          have HD := Go.Lib.hid hdv
          have HC := Go.Lib.hid hcv
          have HB := Go.Lib.hid hbw
          have HW := Go.Lib.hid (show (q : Int) + 1 = ((q + 1 : Nat) : Int) from by omega)
          clear hdv hcv hbw
          go_wp2_with fail
          rw [HQ.out]
          refine C4.out.mono ?_
          rintro e w6 ⟨v, rfl, ho6, hb6⟩
          have HB6 := Go.Lib.hid (HB.out.trans (hb6.mono HB.out.size))
          have HD6 := Go.Lib.hid (HD.out.below hb6)
          have HC6 := Go.Lib.hid (HC.out.below hb6)
          obtain ⟨p, hp⟩ : ∃ p, p = i - 1 - q := ⟨_, rfl⟩
          have hpI : (i : Int) - 1 - (q : Int) = (p : Int) := by omega
          rw [← hp] at hkp
          clear hp C4 HD HC HB
          by_cases hpl : p < len1
          · have hplI : (p : Int) < (len1 : Int) := by omega
            obtain ⟨kb, ko, rfl, hkc, hkl⟩ := HV2.zbAt p (by rw [← HLEN.out]; exact hpl)
            have hget : l1.getD p false = l1[p]'(by rw [← HLEN.out]; exact hpl) := by rw [List.getD_eq_getElem?_getD, List.getElem?_eq_getElem (by rw [← HLEN.out]; exact hpl)]; rfl
            rw [← hget] at hkc
            clear hget
            have hkc := (hb6.cell (p := ⟨kb, ko + p, none⟩) hkl).trans hkc
            cases hb : l1.getD p false with
            | true =>
              rw [hb] at hkc hkp
              rw [if_pos rfl] at hkp
              rw [hkp] at ho6
              obtain ⟨vg, vc, rfl, hv0, -, -⟩ := ho6.get 0 _ (over_first _)
              rw [← byte_succ q (by omega)] at hv0
              rw [over_64]
              clear hkp ho6 hb hb6 HV2
              go_wp2_with fail
              go_roundw
              case rel => exact ⟨q + 1, by omega, by rw [HW.out], HD6.out, HC6.out, HB6.out⟩
              case measure => simp only [intOf]; omega
            | false =>
              rw [hb] at hkc hkp
              rw [if_neg (by decide)] at hkp
              rw [hkp] at ho6
              obtain ⟨vg, vc, rfl, hv0, -, -⟩ := ho6.get 0 0 (by decide)
              rw [show ((0 : UInt8).toNat : Int) = 0 from rfl] at hv0
              rw [zeros_length]
              clear hkp ho6 hb hb6 HV2
              go_wp2_with fail
              go_roundw
              case rel => exact ⟨q + 1, by omega, by rw [HW.out], HD6.out, HC6.out, HB6.out⟩
              case measure => simp only [intOf]; omega
          · have hplI : ¬ (p : Int) < (len1 : Int) := by omega
            have hb : l1.getD p false = false := by rw [List.getD_eq_getElem?_getD, List.getElem?_eq_none (by have := HLEN.out; omega)]; rfl
            rw [hb, if_neg (by decide)] at hkp
            rw [hkp] at ho6
            obtain ⟨vg, vc, rfl, hv0, -, -⟩ := ho6.get 0 0 (by decide)
            rw [show ((0 : UInt8).toNat : Int) = 0 from rfl] at hv0
            rw [zeros_length]
            clear hkp ho6 hb hb6 HV2
            go_wp2_with fail
            go_roundw
            case rel => exact ⟨q + 1, by omega, by rw [HW.out], HD6.out, HC6.out, HB6.out⟩
            case measure => simp only [intOf]; omega
        · obtain rfl : q = i := by omega
          have CC := Go.Lib.hid (dloose_c hcv)
          have HD := Go.Lib.hid hdv
          have HB := Go.Lib.hid hbw
          clear hdv hcv hbw
          go_wp2_with fail
          refine CC.out.mono ?_
          rintro e w6 ⟨v, rfl, ho6, hb6⟩
          rw [looseL_none (n := 40) (f := lf (crS (kS q) l1)) (fun j _ => rfl)] at ho6
          obtain ⟨va, vc, rfl, -⟩ := ho6.rv.form
          rw [show (zi .i64 []).length = 0 from rfl]
          have CD := Go.Lib.hid (dloose_c (HD.out.below hb6))
          have HB6 := Go.Lib.hid (HB.out.trans (hb6.mono HB.out.size))
          clear HD HB ho6 hb6
          go_wp2_with fail
          refine CD.out.mono ?_
          rintro e w7 ⟨v, rfl, ho7, hb7⟩
          obtain ⟨va, vc, rfl, -⟩ := ho7.rv.form
          rw [zi_length, lf_kS, kB_len q (by omega)]
          have HB7 := Go.Lib.hid (HB6.out.trans (hb7.mono HB6.out.size))
          clear ho7 hb7
          go_wp2_with fail
          go_ret
          exact ⟨rfl, HB7.out⟩

/-! ### THE ROW -/
set_option maxRecDepth 100000 in
theorem lifted (os : Os) (started : os.Started) (H : Type) (enc : TypeId × Value → H) :
    ReturnsInHanded {} Try.checked os 8 .any (Rows.devKeepsSpec.pre6 enc Try.prog Try.f8 Rows.devKeepsRow.domain false) (Rows.devKeepsSpec.post enc Try.prog Try.f8 false true false false) := by
  refine returnsInHanded_of_change (C := Try.checked) own started (by kernel_rfl) Try.func8
    (ChangeSpec.witness6 (enc := enc) (C := Try.checked) false ⟨#[], #[.int .i64 0, .slice none 0 0], []⟩ 8 (by kernel_rfl) (by kernel_rfl) (by kernel_rfl) (by kernel_rfl)) ?_
  intro W base args ds gs before hval0 hW hcnd _
  have hval : ∀ (j : Nat) t v, Try.f8.params[j]? = some t → args[j]? = some v → Value.okWide Try.prog W .any base t v := hval0
  have hW' := hW
  obtain ⟨p, q, hA0, hV, rfl, hfz, hnd⟩ := hW
  have hA : DataW.TrodAll enc Try.prog W 0 (fun _ => true) true Try.f8.params.toList args.toList ds p := hA0
  rw [Try.params8] at hA hval
  obtain ⟨v0, vs0, d0, ds0, p0, q0, hargs, rfl, rfl, h0, r0⟩ := trodAll_cons hA
  obtain ⟨v1, vs1, d1, ds1, p1, q1, rfl, rfl, rfl, h1, r1⟩ := trodAll_cons r0
  obtain ⟨rfl, rfl, rfl⟩ := trodAll_nil r1
  obtain rfl : args = #[v0, v1] := by cases args; simp_all
  obtain ⟨rfl, rfl⟩ := trodVars_none hV
  have kk0 := h0
  have lt0 : ∀ x ∈ p0, x.block < W.heap.size := by obtain ⟨m, hm⟩ := kk0; exact DataW.trod_lt m _ _ _ hm
  have kk1 := h1
  have lt1 : ∀ x ∈ p1, x.block < W.heap.size := by obtain ⟨m, hm⟩ := kk1; exact DataW.trod_lt m _ _ _ hm
  obtain ⟨a0, rfl, rfl, rfl, w0⟩ := open_int Try.underlying3 (hval 0 3 v0 rfl rfl) h0
  obtain ⟨a1, len1, cap1, rfl⟩ := okWide_slice Try.underlying28 (hval 1 28 v1 rfl rfl)
  obtain ⟨l1, w1⟩ := open_zb Try.underlying28 Try.underlying4 (by kernel_rfl) h1
  clear hA0 hval0
  refine (walk W a0 w0 a1 len1 cap1 l1 w1).mono fun e W' ⟨he, bel⟩ => ?_
  subst he
  exact ⟨_, rfl, _, _, _, [], _, [], hW', trodAll_mk1 (shut_bool Try.underlying4 _), (trodAll_cons_mk (Below.trod laidOut (by kernel_rfl) (of_decide_eq_true (by kernel_rfl)) kk0 bel lt0) (trodAll_cons_mk (Below.trod laidOut (by kernel_rfl) (of_decide_eq_true (by kernel_rfl)) kk1 bel lt1) trodAll_mk0)), rfl, bel.frame _, fun h => by cases h⟩

theorem over : Rows.devKeepsRow.holds Try.pinned (OpenSpec.ofChange Rows.devKeepsSpec) :=
  OpenClaim.holds_of_wide 8 Try.f8 rfl rfl rfl rfl rfl rfl rfl ⟨rfl, rfl, rfl, rfl, rfl⟩ rfl rfl rfl rfl rfl (by kernel_rfl) Try.func8 (by kernel_rfl)
    (of_decide_eq_true (by kernel_rfl)) (by unfold Func.isWrapper; first | (rw [if_pos (by decide +kernel)]; kernel_rfl) | (rw [if_neg (by decide +kernel)]; exact ⟨rfl, rfl⟩))
    (fun os started H enc _ => lifted os started H enc)

theorem proved : Rows.DevKeepsSaid := over
#print axioms proved
end Go.Proofs.Ytdobkocckdpghaa.devKeeps
