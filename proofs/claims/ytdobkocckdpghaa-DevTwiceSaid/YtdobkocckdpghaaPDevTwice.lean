/- DevTwice: what a crash left falls again as it is, whatever is kept: for every input the law returns true. -/
import Derived.Test.YtdobkocckdpghaaRows
import Derived.WalkKit
import Derived.ProofKit
import Derived.OpenShut
import Derived.ShutString
import Derived.ChangeOld
import Derived.Below
import Derived.Test.YtdobkocckdpghaaOpenB
import Derived.Test.YtdobkocckdpghaaBegun11
import Derived.Test.YtdobkocckdpghaaRow
namespace Go.Proofs.Ytdobkocckdpghaa.devTwice
open Go.ChangeShapes Go.WideShapes Go.ChangeAt Go.RowKit
open Go.ChangeMaps (open_string shut_string)
set_option linter.unusedVariables false

theorem own : ownKnob Try.prog.godebug = none := by kernel_rfl
theorem laidOut : laidOutB Try.prog = true := by kernel_rfl

def IsRow (k : IntKind) (w : World) (a : Option Addr) (len cap : Nat) (zs : List Int) : Prop :=
  (a = none ∧ len = 0 ∧ cap = 0 ∧ zs = []) ∨
  ∃ x, a = some x ∧ len ≤ cap ∧ cap ≤ maxLen ∧ zs.length = cap ∧ (∀ i, i < zs.length → w.cell? (x.add i) = some (.int k (zs.getD i 0))) ∧ ∀ n ∈ zs, (Lit.int k n).wf = true

theorem mod16 (z : Int) (h1 : -9223372036854775808 ≤ z) (h2 : z ≤ 9223372036854775807) : (wrap64 (z.tmod 16 + 16)).tmod 16 = z % 16 := by
  have h : z.tmod 16 = z % 16 ∨ z.tmod 16 = -((-z) % 16) := by
    by_cases h0 : 0 ≤ z
    · exact .inl (Int.tmod_eq_emod_of_nonneg h0)
    · right
      have h3 := Int.neg_tmod (-z) 16
      rw [Int.neg_neg] at h3
      rw [h3, Int.tmod_eq_emod_of_nonneg (by omega)]
  have hw : wrap64 (z.tmod 16 + 16) = z.tmod 16 + 16 := by
    unfold wrap64
    omega
  rw [hw, Int.tmod_eq_emod_of_nonneg (by omega)]
  omega
theorem cr_again (S : Nat → Sec) (k k2 : List Bool) (j : Nat) : crS (crS S k) k2 j = crS S k j := by
  unfold crS keptS
  simp

set_option maxHeartbeats 2000000 in
set_option maxRecDepth 100000 in
theorem walk (w : World) (a0 : Option Addr) (len0 cap0 : Nat) (z0 : List Int) (w0 : IsRow .i64 w a0 len0 cap0 z0) (a1 : Int) (w1 : (Lit.int .i64 a1).wf = true) (a2 : Option Addr) (len2 cap2 : Nat) (l2 : List Bool) (w2 : RV w (.slice a2 len2 cap2) (zb l2)) (a3 : Option Addr) (len3 cap3 : Nat) (l3 : List Bool) (w3 : RV w (.slice a3 len3 cap3) (zb l3)) :
    Calls Try.prog 6 #[.slice a0 len0 cap0, .int .i64 a1, .slice a2 len2 cap2, .slice a3 len3 cap3] w fun e w' => e = .returned (.bool true) ∧ Below w.heap.size w w' := by
  obtain ⟨Z, hZ, hrv, hl63, hwf⟩ := rv_of_row w0
  clear w0 w1
  have HV2 := Go.Lib.hid w2; clear w2
  have HV3 := Go.Lib.hid w3; clear w3
  have HZ := Go.Lib.hid hZ; clear hZ
  have HRV := Go.Lib.hid hrv; clear hrv
  have HWF := Go.Lib.hid hwf; clear hwf
  go_enter Try.func6, Try.ntmps6
  go_wp2_with fail
  refine (begun_c _).mono ?_
  rintro e w4 ⟨rfl, k2⟩
  have C1 := Go.Lib.hid (dnew_c 16 w4)
  rw [show lenD 16 = 16 from rfl] at C1
  have K2 := Go.Lib.hid k2; clear k2
  go_wp2_with fail
  refine C1.out.mono ?_
  rintro e w5 ⟨d, g, rfl, hd, hb⟩
  have K3 := Go.Lib.hid (K2.out.trans (hb.mono K2.out.size))
  have HD3 := Go.Lib.hid (hd.mono K2.out.size)
  clear C1 hd hb K2
  go_wp2_with fail
  go_loopw [11] (fun c wr => ∃ (i q : Nat) (S : Nat → Sec), i ≤ len0 ∧ i ≤ 30 ∧ q ≤ 2 * i ∧ c = .int .i64 (i : Int) ∧ DV wr w.heap.size d g 16 S (lifeN q) ∧ Below w.heap.size w wr) (fun c _ => len0 - (intOf c).toNat)
  case atStart => exact ⟨0, 0, newS, by omega, by omega, by omega, rfl, HD3.out, K3.out⟩
  case round =>
    obtain ⟨i, q, S, hi, hi30, hq, rfl, hdv, hbw⟩ := hrel
    clear HD3 K3
    by_cases hin : i < len0 ∧ i < 30
    · obtain ⟨hil, hi3⟩ := hin
      have hilI : (i : Int) < (len0 : Int) := by omega
      have hi3I : (i : Int) < 30 := by omega
      obtain ⟨zb', zo, rfl, hzc, -⟩ := (HRV.out.below hbw).at i (by rw [List.length_map, HZ.out]; exact hil)
      rw [List.getElem_map] at hzc
      obtain ⟨z, hz⟩ : ∃ z, z = Z[i]'(by rw [HZ.out]; exact hil) := ⟨_, rfl⟩
      rw [← hz] at hzc
      obtain ⟨hz1, hz2⟩ := bounds_i64 (HWF.out z (by rw [hz]; exact List.getElem_mem _))
      have hz2 : z ≤ 9223372036854775807 := by omega
      clear hz
      obtain ⟨x, hx⟩ : ∃ x : Nat, z % 16 = (x : Int) := ⟨(z % 16).toNat, by omega⟩
      have hx16 := Go.Lib.hid (show x < 16 from by omega)
      have HMOD := Go.Lib.hid (show (wrap64 (z.tmod 16 + 16)).tmod 16 = (x : Int) from by rw [mod16 z hz1 hz2, hx])
      have HD := Go.Lib.hid hdv
      have HB := Go.Lib.hid hbw
      have HW := Go.Lib.hid (show (i : Int) + 1 = ((i + 1 : Nat) : Int) from by omega)
      clear hdv hbw hx
      go_wp2_with fail
      rw [HMOD.out]
      refine (dwrite_c (HD.out.alloc _) rfl (by show (q : Int) < 1000000; omega) x hx16.out _ [UInt8.ofNat (i + 1)] (RB.one wr 5 _ _ (byte_succ i (by omega))) (by simp)).mono ?_
      rintro e w6 ⟨rfl, hd6, ht6⟩
      rw [lifeN_tick] at hd6
      have HB6 := Go.Lib.hid ((HB.out.trans ((below_new wr _).mono HB.out.size)).trans (ht6.belowDV (HD.out.alloc _) (Nat.le_trans HB.out.size (below_new wr _).size)))
      clear ht6 HB HD
      by_cases hfl : (i : Int) = a1
      · subst hfl
        have CF := Go.Lib.hid (dflush_c hd6 rfl (by show ((q + 1 : Nat) : Int) < 1000000; omega))
        have HD6 := Go.Lib.hid hd6
        clear hd6
        go_wp2_with fail
        refine CF.out.mono ?_
        rintro e w7 ⟨rfl, hd7, ht7⟩
        rw [lifeN_tick] at hd7
        have HD7 := Go.Lib.hid hd7
        have HB7 := Go.Lib.hid (HB6.out.trans (ht7.belowDV HD6.out HB6.out.size))
        clear hd7 ht7
        go_wp2_with fail
        go_roundw
        case rel => exact ⟨i + 1, _, _, by omega, by omega, by omega, by rw [HW.out], HD7.out, HB7.out⟩
        case measure => simp only [intOf]; omega
      · have HD6 := Go.Lib.hid hd6
        clear hd6
        go_wp2_with fail
        go_roundw
        case rel => exact ⟨i + 1, _, _, by omega, by omega, by omega, by rw [HW.out], HD6.out, HB6.out⟩
        case measure => simp only [intOf]; omega
    · by_cases hil : i < len0
      · obtain rfl : i = 30 := by omega
        have hilI : ((30 : Nat) : Int) < (len0 : Int) := by omega
        clear hin hi hi30
        have CK := Go.Lib.hid (dcrash_c hdv _ l2 (HV2.out.below hbw))
        have HV32 := Go.Lib.hid (HV3.out.below hbw)
        have HB := Go.Lib.hid hbw
        clear hdv hbw
        go_wp2_with fail
        refine CK.out.mono ?_
        rintro e w6 ⟨d6, g6, rfl, he6, hb6⟩
        have CK2 := Go.Lib.hid (dcrash_c he6 _ l3 (HV32.out.below hb6))
        have HE6 := Go.Lib.hid (he6.mono HB.out.size)
        have HB6 := Go.Lib.hid (HB.out.trans (hb6.mono HB.out.size))
        clear CK HV32 HB he6 hb6
        go_wp2_with fail
        refine CK2.out.mono ?_
        rintro e w7 ⟨d7, g7, rfl, hf7, hb7⟩
        have HE7 := Go.Lib.hid (HE6.out.below hb7)
        have HF7 := Go.Lib.hid ((hf7.mono HB6.out.size).congr (S' := crS S l2) (fun j _ => (cr_again S l2 l3 j).symm))
        have HB7 := Go.Lib.hid (HB6.out.trans (hb7.mono HB6.out.size))
        clear CK2 HE6 HB6 hf7 hb7
        go_wp2_with fail
        go_loopw [14] (fun c wx => ∃ k : Nat, k ≤ 16 ∧ c = .int .i64 (k : Int) ∧ DV wx w.heap.size d6 g6 16 (crS S l2) born ∧ DV wx w.heap.size d7 g7 16 (crS S l2) born ∧ Below w.heap.size w wx) (fun c _ => 16 - (intOf c).toNat)
        case atStart => exact ⟨0, by omega, rfl, HE7.out, HF7.out, HB7.out⟩
        case round =>
          obtain ⟨k, hk, rfl, hev, hfv, hbw⟩ := hrel
          clear HE7 HF7 HB7
          by_cases hk16 : k < 16
          · have hkI : (k : Int) < 16 := by omega
            have CR := Go.Lib.hid (dread_c hev k hk16)
            have HE := Go.Lib.hid hev
            have HF := Go.Lib.hid hfv
            have HB := Go.Lib.hid hbw
            have HWK := Go.Lib.hid (show (k : Int) + 1 = ((k + 1 : Nat) : Int) from by omega)
            clear hev hfv hbw
            go_wp2_with fail
            refine CR.out.mono ?_
            rintro e w8 ⟨x, rfl, hx8, hb8⟩
            have CR2 := Go.Lib.hid (dread_c (HF.out.below hb8) k hk16)
            have HE8 := Go.Lib.hid (HE.out.below hb8)
            have HF8 := Go.Lib.hid (HF.out.below hb8)
            have HX8 := Go.Lib.hid hx8
            have HB8 := Go.Lib.hid (HB.out.trans (hb8.mono HB.out.size))
            clear CR HE HF HB hx8 hb8
            go_wp2_with fail
            refine CR2.out.mono ?_
            rintro e w9 ⟨y, rfl, hy9, hb9⟩
            have hsx := run_string_RB w9 31 5 9 Try.underlying31 Try.underlying5 Try.underlying9 x _ (HX8.out.below hb9).rb
            have hsy := run_string_RB w9 31 5 9 Try.underlying31 Try.underlying5 Try.underlying9 y _ hy9.rb
            have HE9 := Go.Lib.hid (HE8.out.below hb9)
            have HF9 := Go.Lib.hid (HF8.out.below hb9)
            have HB9 := Go.Lib.hid (HB8.out.trans (hb9.mono HB8.out.size))
            clear CR2 HE8 HF8 HB8 HX8 hy9 hb9
            generalize str (crS S l2 k).now = t at hsx hsy
            go_wp2_with fail
            go_roundw
            case rel => exact ⟨k + 1, by omega, by rw [HWK.out], HE9.out, HF9.out, HB9.out⟩
            case measure => simp only [intOf]; omega
          · obtain rfl : k = 16 := by omega
            have CA := Go.Lib.hid (dcalls_c hfv)
            have CB := Go.Lib.hid (ddead_c hfv)
            have CC := Go.Lib.hid (dloose_c hfv)
            have HB := Go.Lib.hid hbw
            clear hev hfv hbw
            go_wp2_with fail
            refine CA.out.mono ?_
            rintro e w8 ⟨rfl, rfl⟩
            go_wp2_with fail
            refine CB.out.mono ?_
            rintro e w8 ⟨rfl, rfl⟩
            go_wp2_with fail
            refine CC.out.mono ?_
            rintro e w8 ⟨v, rfl, ho8, hb8⟩
            rw [looseL_none (n := 16) (f := lf (crS S l2)) (fun j _ => rfl)] at ho8
            obtain ⟨va, vc, rfl, -⟩ := ho8.rv.form
            rw [show (zi .i64 []).length = 0 from rfl]
            have HB8 := Go.Lib.hid (HB.out.trans (hb8.mono HB.out.size))
            clear HB ho8 hb8
            go_wp2_with fail
            go_ret
            exact ⟨rfl, HB8.out⟩
      · obtain rfl : i = len0 := by omega
        clear hin hi
        have CK := Go.Lib.hid (dcrash_c hdv _ l2 (HV2.out.below hbw))
        have HV32 := Go.Lib.hid (HV3.out.below hbw)
        have HB := Go.Lib.hid hbw
        clear hdv hbw
        go_wp2_with fail
        refine CK.out.mono ?_
        rintro e w6 ⟨d6, g6, rfl, he6, hb6⟩
        have CK2 := Go.Lib.hid (dcrash_c he6 _ l3 (HV32.out.below hb6))
        have HE6 := Go.Lib.hid (he6.mono HB.out.size)
        have HB6 := Go.Lib.hid (HB.out.trans (hb6.mono HB.out.size))
        clear CK HV32 HB he6 hb6
        go_wp2_with fail
        refine CK2.out.mono ?_
        rintro e w7 ⟨d7, g7, rfl, hf7, hb7⟩
        have HE7 := Go.Lib.hid (HE6.out.below hb7)
        have HF7 := Go.Lib.hid ((hf7.mono HB6.out.size).congr (S' := crS S l2) (fun j _ => (cr_again S l2 l3 j).symm))
        have HB7 := Go.Lib.hid (HB6.out.trans (hb7.mono HB6.out.size))
        clear CK2 HE6 HB6 hf7 hb7
        go_wp2_with fail
        go_loopw [14] (fun c wx => ∃ k : Nat, k ≤ 16 ∧ c = .int .i64 (k : Int) ∧ DV wx w.heap.size d6 g6 16 (crS S l2) born ∧ DV wx w.heap.size d7 g7 16 (crS S l2) born ∧ Below w.heap.size w wx) (fun c _ => 16 - (intOf c).toNat)
        case atStart => exact ⟨0, by omega, rfl, HE7.out, HF7.out, HB7.out⟩
        case round =>
          obtain ⟨k, hk, rfl, hev, hfv, hbw⟩ := hrel
          clear HE7 HF7 HB7
          by_cases hk16 : k < 16
          · have hkI : (k : Int) < 16 := by omega
            have CR := Go.Lib.hid (dread_c hev k hk16)
            have HE := Go.Lib.hid hev
            have HF := Go.Lib.hid hfv
            have HB := Go.Lib.hid hbw
            have HWK := Go.Lib.hid (show (k : Int) + 1 = ((k + 1 : Nat) : Int) from by omega)
            clear hev hfv hbw
            go_wp2_with fail
            refine CR.out.mono ?_
            rintro e w8 ⟨x, rfl, hx8, hb8⟩
            have CR2 := Go.Lib.hid (dread_c (HF.out.below hb8) k hk16)
            have HE8 := Go.Lib.hid (HE.out.below hb8)
            have HF8 := Go.Lib.hid (HF.out.below hb8)
            have HX8 := Go.Lib.hid hx8
            have HB8 := Go.Lib.hid (HB.out.trans (hb8.mono HB.out.size))
            clear CR HE HF HB hx8 hb8
            go_wp2_with fail
            refine CR2.out.mono ?_
            rintro e w9 ⟨y, rfl, hy9, hb9⟩
            have hsx := run_string_RB w9 31 5 9 Try.underlying31 Try.underlying5 Try.underlying9 x _ (HX8.out.below hb9).rb
            have hsy := run_string_RB w9 31 5 9 Try.underlying31 Try.underlying5 Try.underlying9 y _ hy9.rb
            have HE9 := Go.Lib.hid (HE8.out.below hb9)
            have HF9 := Go.Lib.hid (HF8.out.below hb9)
            have HB9 := Go.Lib.hid (HB8.out.trans (hb9.mono HB8.out.size))
            clear CR2 HE8 HF8 HB8 HX8 hy9 hb9
            generalize str (crS S l2 k).now = t at hsx hsy
            go_wp2_with fail
            go_roundw
            case rel => exact ⟨k + 1, by omega, by rw [HWK.out], HE9.out, HF9.out, HB9.out⟩
            case measure => simp only [intOf]; omega
          · obtain rfl : k = 16 := by omega
            have CA := Go.Lib.hid (dcalls_c hfv)
            have CB := Go.Lib.hid (ddead_c hfv)
            have CC := Go.Lib.hid (dloose_c hfv)
            have HB := Go.Lib.hid hbw
            clear hev hfv hbw
            go_wp2_with fail
            refine CA.out.mono ?_
            rintro e w8 ⟨rfl, rfl⟩
            go_wp2_with fail
            refine CB.out.mono ?_
            rintro e w8 ⟨rfl, rfl⟩
            go_wp2_with fail
            refine CC.out.mono ?_
            rintro e w8 ⟨v, rfl, ho8, hb8⟩
            rw [looseL_none (n := 16) (f := lf (crS S l2)) (fun j _ => rfl)] at ho8
            obtain ⟨va, vc, rfl, -⟩ := ho8.rv.form
            rw [show (zi .i64 []).length = 0 from rfl]
            have HB8 := Go.Lib.hid (HB.out.trans (hb8.mono HB.out.size))
            clear HB ho8 hb8
            go_wp2_with fail
            go_ret
            exact ⟨rfl, HB8.out⟩

/-! ### THE ROW -/
set_option maxRecDepth 100000 in
theorem lifted (os : Os) (started : os.Started) (H : Type) (enc : TypeId × Value → H) :
    ReturnsInHanded {} Try.checked os 6 .any (Rows.devTwiceSpec.pre6 enc Try.prog Try.f6 Rows.devTwiceRow.domain false) (Rows.devTwiceSpec.post enc Try.prog Try.f6 false true false false) := by
  refine returnsInHanded_of_change (C := Try.checked) own started (by kernel_rfl) Try.func6
    (ChangeSpec.witness6 (enc := enc) (C := Try.checked) false ⟨#[], #[.slice none 0 0, .int .i64 0, .slice none 0 0, .slice none 0 0], []⟩ 8 (by kernel_rfl) (by kernel_rfl) (by kernel_rfl) (by kernel_rfl)) ?_
  intro W base args ds gs before hval0 hW hcnd _
  have hval : ∀ (j : Nat) t v, Try.f6.params[j]? = some t → args[j]? = some v → Value.okWide Try.prog W .any base t v := hval0
  have hW' := hW
  obtain ⟨p, q, hA0, hV, rfl, hfz, hnd⟩ := hW
  have hA : DataW.TrodAll enc Try.prog W 0 (fun _ => true) true Try.f6.params.toList args.toList ds p := hA0
  rw [Try.params6] at hA hval
  obtain ⟨v0, vs0, d0, ds0, p0, q0, hargs, rfl, rfl, h0, r0⟩ := trodAll_cons hA
  obtain ⟨v1, vs1, d1, ds1, p1, q1, rfl, rfl, rfl, h1, r1⟩ := trodAll_cons r0
  obtain ⟨v2, vs2, d2, ds2, p2, q2, rfl, rfl, rfl, h2, r2⟩ := trodAll_cons r1
  obtain ⟨v3, vs3, d3, ds3, p3, q3, rfl, rfl, rfl, h3, r3⟩ := trodAll_cons r2
  obtain ⟨rfl, rfl, rfl⟩ := trodAll_nil r3
  obtain rfl : args = #[v0, v1, v2, v3] := by cases args; simp_all
  obtain ⟨rfl, rfl⟩ := trodVars_none hV
  have kk0 := h0
  have lt0 : ∀ x ∈ p0, x.block < W.heap.size := by obtain ⟨m, hm⟩ := kk0; exact DataW.trod_lt m _ _ _ hm
  have kk1 := h1
  have lt1 : ∀ x ∈ p1, x.block < W.heap.size := by obtain ⟨m, hm⟩ := kk1; exact DataW.trod_lt m _ _ _ hm
  have kk2 := h2
  have lt2 : ∀ x ∈ p2, x.block < W.heap.size := by obtain ⟨m, hm⟩ := kk2; exact DataW.trod_lt m _ _ _ hm
  have kk3 := h3
  have lt3 : ∀ x ∈ p3, x.block < W.heap.size := by obtain ⟨m, hm⟩ := kk3; exact DataW.trod_lt m _ _ _ hm
  obtain ⟨a0, len0, cap0, rfl⟩ := okWide_slice Try.underlying46 (hval 0 46 v0 rfl rfl)
  obtain ⟨z0, w0⟩ : ∃ zs, IsRow .i64 W a0 len0 cap0 zs := by
    obtain ⟨fuel, hf⟩ := h0
    rcases open_ints Try.underlying46 Try.underlying3 (by kernel_rfl) hf with ⟨hcs, _⟩ | ⟨x, l, c, zs, hcs, _, hl, hm, hz, _, hcell, hwz⟩
    · simp [Value.cells] at hcs
      obtain ⟨rfl, rfl, rfl⟩ := hcs
      exact ⟨[], .inl ⟨rfl, rfl, rfl, rfl⟩⟩
    · simp [Value.cells] at hcs
      obtain ⟨rfl, rfl, rfl⟩ := hcs
      exact ⟨zs, .inr ⟨_, rfl, hl, hm, by simpa using hz, hcell, hwz⟩⟩
  obtain ⟨a1, rfl, rfl, rfl, w1⟩ := open_int Try.underlying3 (hval 1 3 v1 rfl rfl) h1
  obtain ⟨a2, len2, cap2, rfl⟩ := okWide_slice Try.underlying28 (hval 2 28 v2 rfl rfl)
  obtain ⟨l2, w2⟩ := open_zb Try.underlying28 Try.underlying4 (by kernel_rfl) h2
  obtain ⟨a3, len3, cap3, rfl⟩ := okWide_slice Try.underlying28 (hval 3 28 v3 rfl rfl)
  obtain ⟨l3, w3⟩ := open_zb Try.underlying28 Try.underlying4 (by kernel_rfl) h3
  clear hA0 hval0
  refine (walk W a0 len0 cap0 z0 w0 a1 w1 a2 len2 cap2 l2 w2 a3 len3 cap3 l3 w3).mono fun e W' ⟨he, bel⟩ => ?_
  subst he
  exact ⟨_, rfl, _, _, _, [], _, [], hW', trodAll_mk1 (shut_bool Try.underlying4 _), (trodAll_cons_mk (Below.trod laidOut (by kernel_rfl) (of_decide_eq_true (by kernel_rfl)) kk0 bel lt0) (trodAll_cons_mk (Below.trod laidOut (by kernel_rfl) (of_decide_eq_true (by kernel_rfl)) kk1 bel lt1) (trodAll_cons_mk (Below.trod laidOut (by kernel_rfl) (of_decide_eq_true (by kernel_rfl)) kk2 bel lt2) (trodAll_cons_mk (Below.trod laidOut (by kernel_rfl) (of_decide_eq_true (by kernel_rfl)) kk3 bel lt3) trodAll_mk0)))), rfl, bel.frame _, fun h => by cases h⟩

theorem over : Rows.devTwiceRow.holds Try.pinned (OpenSpec.ofChange Rows.devTwiceSpec) :=
  OpenClaim.holds_of_wide 6 Try.f6 rfl rfl rfl rfl rfl rfl rfl ⟨rfl, rfl, rfl, rfl, rfl⟩ rfl rfl rfl rfl rfl (by kernel_rfl) Try.func6 (by kernel_rfl)
    (of_decide_eq_true (by kernel_rfl)) (by unfold Func.isWrapper; first | (rw [if_pos (by decide +kernel)]; kernel_rfl) | (rw [if_neg (by decide +kernel)]; exact ⟨rfl, rfl⟩))
    (fun os started H enc _ => lifted os started H enc)

theorem proved : Rows.DevTwiceSaid := over
#print axioms proved
end Go.Proofs.Ytdobkocckdpghaa.devTwice
