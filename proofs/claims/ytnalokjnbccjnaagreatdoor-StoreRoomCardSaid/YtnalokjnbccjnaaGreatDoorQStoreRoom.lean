/- StoreRoom: with sixteen sectors free files can always be emptied, and be gone: for every input the law returns true. -/
import Derived.Test.YtnalokjnbccjnaaGreatDoorCards
import Derived.Test.YtnalokjnbccjnaaGreatDoorTie
import Derived.WalkKit
import Derived.ProofKit
import Derived.OpenShut
import Derived.ShutString
import Derived.Test.YtnalokjnbccjnaaGreatDoorM15
import Derived.Test.YtnalokjnbccjnaaGreatDoorM14
import Derived.Deep.DeepHandedRow
import Derived.SevenTiedAt
import Derived.LaidMore
import Derived.Stop.Joined
namespace Go.Proofs.YtnalokjnbccjnaaGreatDoor.storeRoom
open Go.ChangeShapes Go.WideShapes Go.ChangeAt Go.RowKit
open Go.ChangeMaps (open_string shut_string)
set_option linter.unusedVariables false      -- a walk need not use every 'w<i>' (that an integer argument fits its kind)

theorem own : ownKnob Tryz.prog.godebug = none := by kernel_rfl

theorem tab_of {w : World} (L : laidMetH Tryz.prog Rows.storeRoomRow.laid w) : Tab w := Tab.of (Lib.tabIs_of_head (rest := []) gNib (by kernel_rfl) Tryz.underlying199 Tryz.underlying155 (by kernel_rfl) (by kernel_rfl) L)
def VRa (s k sz wb : Nat) (CK : Int) (zs : List UInt8) : Nat → World → Value → Prop
  | 39, _, v => v = .int .i64 (k : Int)
  | 40, _, v => v = .bool true
  | 41, _, v => v = .bool true
  | 42, _, v => v = .pointer (some ⟨s, 0, none⟩)
  | 43, _, v => v = .int .i64 (k : Int)
  | 44, _, v => v = .int .i64 CK
  | 45, _, v => v = .int .u8 CK
  | 46, w, v => RB w v [UInt8.ofNat (97 + k)]
  | 47, _, v => v = .string (nmI k)
  | 48, _, v => v = .int .i64 (sz : Int)
  | 49, w, v => Own 5 w wb v zs
  | 50, w, v => AggPut w wb v (nmI k) false zs
  | 51, w, v => NewPut w wb v (nmI k) false zs
  | _, _, _ => True

theorem VRa_below (s k sz wb : Nat) (CK : Int) (zs : List UInt8) : ∀ (i : Nat) (w w' : World) (v : Value), VRa s k sz wb CK zs i w v → Below w.heap.size w w' → VRa s k sz wb CK zs i w' v := by
  intro i w w' v h hb
  unfold VRa at h ⊢
  split at h <;> first | exact h | trivial | exact NewPut.below h hb | exact AggPut.below h hb | exact RB.below h hb | exact Own.below h hb | exact OwnV.below h hb

def VRb (k : Nat) : Nat → World → Value → Prop
  | 39, _, v => v = .int .i64 (k : Int)
  | 40, _, v => v = .bool false
  | 41, _, v => v = .bool false
  | 42, _, v => v = undef
  | 43, _, v => v = undef
  | 44, _, v => v = undef
  | 45, _, v => v = undef
  | 46, _, v => v = undef
  | 47, _, v => v = undef
  | 48, _, v => v = undef
  | 49, _, v => v = undef
  | 50, _, v => v = undef
  | 51, _, v => v = undef
  | 52, _, v => v = undef
  | 53, _, v => v = undef
  | 54, _, v => v = .bool false
  | _, _, _ => True

theorem VRb_below (k : Nat) : ∀ (i : Nat) (w w' : World) (v : Value), VRb k i w v → Below w.heap.size w w' → VRb k i w' v := by
  intro i w w' v h hb
  unfold VRb at h ⊢
  split at h <;> first | exact h | trivial | exact RB.below h hb | exact Own.below h hb | exact OwnV.below h hb

/-- k files, all of them noughts, on a device that lives. -/
structure RmS (w : World) (M s d g p n k : Nat) (zs : List UInt8) : Prop where
  out : ∃ K, K ≤ 4 + 1400 * k ∧ LW w M s d g p n (lifeN K) (1 + k) (GN k zs)
theorem RmS.below {w w' : World} {M s d g p n k : Nat} {zs : List UInt8} (h : RmS w M s d g p n k zs) (hb : Below w.heap.size w w') : RmS w' M s d g p n k zs := by
  obtain ⟨K, h1, h2⟩ := h.out
  exact ⟨K, h1, h2.below hb⟩

set_option maxHeartbeats 8000000 in
set_option maxRecDepth 100000 in
theorem walk (a0 a1 : Int) (a2 : Bool) (w0 : (Lit.int .i64 a0).wf = true) (w1 : (Lit.int .i64 a1).wf = true) (w : World) (L : laidMetH Tryz.prog Rows.storeRoomRow.laid w) :
    Calls Tryz.prog 4 #[.int .i64 a0, .int .i64 a1, .bool a2] w fun e w' => e = .returned (.bool true) ∧ Below w.heap.size w w' := by
  have hT := tab_of L
  clear L w0 w1
  have C0 := Go.Lib.hid (begun_c w hT)
  have HT := Go.Lib.hid hT; clear hT
  go_enter Tryz.func4, Tryz.ntmps4
  go_wp2_with fail
  refine C0.out.mono ?_
  rintro e w1 ⟨rfl, hb1⟩
  have HB1 := Go.Lib.hid hb1
  clear hb1 C0
  by_cases h1 : a0 < 64
  · go_wp2_with fail
    go_ret
    exact ⟨rfl, HB1.out⟩
  by_cases h2 : 200 < a0
  · go_wp2_with fail
    go_ret
    exact ⟨rfl, HB1.out⟩
  by_cases h3 : a1 < 1
  · go_wp2_with fail
    go_ret
    exact ⟨rfl, HB1.out⟩
  by_cases h4 : 2000 < a1
  · go_wp2_with fail
    go_ret
    exact ⟨rfl, HB1.out⟩
  obtain ⟨n, rfl⟩ : ∃ n : Nat, a0 = (n : Int) := ⟨a0.toNat, by omega⟩
  obtain ⟨sz, rfl⟩ : ∃ n : Nat, a1 = (n : Int) := ⟨a1.toNat, by omega⟩
  have HN := Go.Lib.hid (show 64 ≤ n ∧ n ≤ 200 by omega)
  have HSZ := Go.Lib.hid (show 1 ≤ sz ∧ sz ≤ 2000 by omega)
  have C1 := Go.Lib.hid (snew_c (n : Int) w1)
  go_wp2_with fail
  refine C1.out.mono ?_
  rintro e w2 ⟨d, g, rfl, hd2, hb2⟩
  rw [show lenD (n : Int) = n from by unfold lenD; have := HN.out; omega] at hd2
  have HB2 := Go.Lib.hid (HB1.out.trans (hb2.mono HB1.out.size))
  have C2 := Go.Lib.hid (make_ok (hd2.mono HB1.out.size) (HT.out.below HB2.out) HN.out.1 HT.out.low HB2.out.size)
  clear hd2 hb2 C1 HB1 h1 h2
  go_wp2_with fail
  refine C2.out.mono ?_
  rintro e w3 ⟨s, p, rfl, hw3, ht3, hb3, -⟩
  have HB3 := Go.Lib.hid (HB2.out.trans hb3)
  obtain ⟨zs, hzs⟩ : ∃ zs : List UInt8, zs = List.replicate sz 0 := ⟨_, rfl⟩
  have HZS := Go.Lib.hid hzs
  have HW3 := Go.Lib.hid (show RmS w3 w.heap.size s d g p n 0 zs from ⟨4, by omega, hw3⟩)
  clear hw3 ht3 hb3 C2 HB2 hzs
  go_wp2_with fail
  go_loopw [10] (fun i wr => ∃ k : Nat, k ≤ 30 ∧ i = .int .i64 (k : Int) ∧ RmS wr w.heap.size s d g p n k zs ∧ Below w.heap.size w wr) (fun i _ => 30 - (intOf i).toNat)
  case atStart => exact ⟨0, by omega, rfl, HW3.out, HB3.out⟩
  case round =>
    obtain ⟨k, hk, rfl, hrm, hbw⟩ := hrel
    have HRM := Go.Lib.hid hrm
    have HBW := Go.Lib.hid hbw
    have HK := Go.Lib.hid hk
    clear hrm hbw hk
    go_upto_region 10 with (fail)
    go_cut [54] (fun xv wx => ∃ b : Bool, xv = .bool b ∧ Hid ((b = true → k < 30 ∧ RmS wx w.heap.size s d g p n (k + 1) zs) ∧ (b = false → RmS wx w.heap.size s d g p n k zs) ∧ Below w.heap.size w wx))
    case first =>
      by_cases hlt : k < 30
      · have hkI : (k : Int) < 30 := by omega
        have HLT := Go.Lib.hid hlt
        have e44 : IntKind.i64.wrap (97 + (k : Int)) = ((97 + k : Nat) : Int) := by rw [IntKind.wrap_i64]; omega
        have e45 : IntKind.u8.wrap ((97 + k : Nat) : Int) = ((97 + k : Nat) : Int) := by rw [IntKind.wrap_u8']; omega
        have E44 := Go.Lib.hid (And.intro hkI (And.intro e44 e45))
        clear hlt hkI e44 e45
        obtain ⟨CK, hCK⟩ : ∃ CK : Int, ((97 + k : Nat) : Int) = CK := ⟨_, rfl⟩
        rw [hCK] at E44
        have HCK := Go.Lib.hid hCK
        clear hCK
        have HTL := Go.Lib.hid (show ∀ W : World, RB (W.alloc (.cells #[.int .u8 CK] 5)) (.slice (some ⟨W.heap.size, 0, none⟩) 1 1) [UInt8.ofNat (97 + k)] from fun W => by rw [← HCK.out]; exact (TX.lits W [UInt8.ofNat (97 + k)] #[.int .u8 ((97 + k : Nat) : Int)] 1 (byte_row1 (97 + k) (by have := HLT.out; omega)) rfl (by simp) (0, 0)).1)
        refine wp_region_head 13 (by decide) (by kernel_rfl) (VRa s k sz wr.heap.size CK zs) (VRa_below s k sz wr.heap.size CK zs) (by decide +kernel) (by rfl) [39, 40, 41, 42, 43, 44, 45, 46, 47, 48, 49, 50, 51] (by rfl) ?_ ?_
        · intro i o hin ho a w6 hb6 hlen hg
          match i, hin, ho with
          | 0, hin, ho =>
            obtain rfl := Option.some.inj ho
            have h10 := given_old hg 10 (by decide +kernel)
            clear hg
            exact st_yield ho (wanted_none rfl) (.int .i64 (k : Int)) w6 (by simp [execOp, Act.eval, h10, go_sem]) ⟨_, rfl, Below.refl _ _, by rintro t' ⟨⟩; rfl⟩
          | 1, hin, ho =>
            obtain rfl := Option.some.inj ho
            obtain ⟨_, h39, rfl⟩ := given_fed hg 39 (by decide +kernel)
            clear hg
            exact st_yield ho (wanted_none rfl) (.bool true) w6 (by simp [execOp, Act.eval, h39, go_sem, E44.out.1]) ⟨_, rfl, Below.refl _ _, by rintro t' ⟨⟩; rfl⟩
          | 2, hin, ho =>
            obtain rfl := Option.some.inj ho
            obtain ⟨_, h40, rfl⟩ := given_fed hg 40 (by decide +kernel)
            clear hg
            exact st_yield ho (wanted_none rfl) (.bool true) w6 (by simp [execOp, Act.eval, h40, go_sem]) ⟨_, rfl, Below.refl _ _, by rintro t' ⟨⟩; rfl⟩
          | 3, hin, ho =>
            obtain rfl := Option.some.inj ho
            have h8 := given_old hg 8 (by decide +kernel)
            obtain ⟨_, h41, rfl⟩ := given_fed hg 41 (by decide +kernel)
            clear hg
            exact st_yield ho (wanted_some rfl rfl h41 rfl) (.pointer (some ⟨s, 0, none⟩)) w6 (by simp [execOp, Act.eval, h8, go_sem]) ⟨_, rfl, Below.refl _ _, by rintro t' ⟨⟩; rfl⟩
          | 4, hin, ho =>
            obtain rfl := Option.some.inj ho
            have h10 := given_old hg 10 (by decide +kernel)
            obtain ⟨_, h41, rfl⟩ := given_fed hg 41 (by decide +kernel)
            clear hg
            exact st_yield ho (wanted_some rfl rfl h41 rfl) (.int .i64 (k : Int)) w6 (by simp [execOp, Act.eval, h10, go_sem]) ⟨_, rfl, Below.refl _ _, by rintro t' ⟨⟩; rfl⟩
          | 5, hin, ho =>
            obtain rfl := Option.some.inj ho
            obtain ⟨_, h43, rfl⟩ := given_fed hg 43 (by decide +kernel)
            obtain ⟨_, h41, rfl⟩ := given_fed hg 41 (by decide +kernel)
            clear hg
            exact st_yield ho (wanted_some rfl rfl h41 rfl) (.int .i64 CK) w6 (by simp [execOp, Act.eval, h43, go_sem, E44.out.2.1]) ⟨_, rfl, Below.refl _ _, by rintro t' ⟨⟩; rfl⟩
          | 6, hin, ho =>
            obtain rfl := Option.some.inj ho
            obtain ⟨_, h44, rfl⟩ := given_fed hg 44 (by decide +kernel)
            obtain ⟨_, h41, rfl⟩ := given_fed hg 41 (by decide +kernel)
            clear hg
            exact st_yield ho (wanted_some rfl rfl h41 rfl) (.int .u8 CK) w6 (by simp [execOp, Act.eval, h44, go_sem, E44.out.2.2]) ⟨_, rfl, Below.refl _ _, by rintro t' ⟨⟩; rfl⟩
          | 7, hin, ho =>
            obtain rfl := Option.some.inj ho
            obtain ⟨_, h45, rfl⟩ := given_fed hg 45 (by decide +kernel)
            obtain ⟨_, h41, rfl⟩ := given_fed hg 41 (by decide +kernel)
            clear hg
            have hr6 := HTL.out w6
            exact st_yield ho (wanted_some rfl rfl h41 rfl) (.slice (some ⟨w6.heap.size, 0, none⟩) 1 1) (w6.alloc (.cells #[.int .u8 CK] 5)) (by simp [execOp, Act.eval, h45, go_sem]) ⟨_, rfl, newB w6 _, by rintro t' ⟨⟩; exact hr6⟩
          | 8, hin, ho =>
            obtain rfl := Option.some.inj ho
            obtain ⟨v46, h46, p46⟩ := given_fed hg 46 (by decide +kernel)
            obtain ⟨_, h41, rfl⟩ := given_fed hg 41 (by decide +kernel)
            clear hg
            have cv := run_string_RB w6 45 5 9 Tryz.underlying45 Tryz.underlying5 Tryz.underlying9 v46 [UInt8.ofNat (97 + k)] p46
            exact st_yield ho (wanted_some rfl rfl h41 rfl) (.string (nmI k)) w6 (by simp [execOp, Act.eval, h46, go_sem, cv, Result.andThen, nmI]) ⟨_, rfl, Below.refl _ _, by rintro t' ⟨⟩; rfl⟩
          | 9, hin, ho =>
            obtain rfl := Option.some.inj ho
            have h1 := given_old hg 1 (by decide +kernel)
            obtain ⟨_, h41, rfl⟩ := given_fed hg 41 (by decide +kernel)
            clear hg
            exact st_yield ho (wanted_some rfl rfl h41 rfl) (.int .i64 (sz : Int)) w6 (by simp [execOp, Act.eval, h1, go_sem]) ⟨_, rfl, Below.refl _ _, by rintro t' ⟨⟩; rfl⟩
          | 10, hin, ho =>
            obtain rfl := Option.some.inj ho
            obtain ⟨_, h48, rfl⟩ := given_fed hg 48 (by decide +kernel)
            obtain ⟨_, h41, rfl⟩ := given_fed hg 41 (by decide +kernel)
            clear hg
            exact st_list ho (wanted_some rfl rfl h41 rfl) fun Q' hQ => wpList_met (wanted_some rfl rfl h41 rfl) (wpList_make_len rfl (.tmp 48) (.tmp 48) 45 rfl 5 Tryz.underlying45 info8 .i64 .i64 (sz : Int) (sz : Int) sz sz (by simp [Act.eval, h48]) (by simp [Act.eval, h48]) rfl rfl (Nat.le_refl _) (by have := HSZ.out; omega) (fun v' w' hown hg2 => wpList_nil (hQ _ _ ⟨v', rfl, (Below.refl _ _).grown hg2 (Nat.le_refl _) (fun j hj => by cases hj), by rintro t' ⟨⟩; exact (HZS.out ▸ hown).mono hb6.size⟩)))
          | 11, hin, ho =>
            obtain rfl := Option.some.inj ho
            obtain ⟨_, h47, rfl⟩ := given_fed hg 47 (by decide +kernel)
            obtain ⟨v49, h49, p49⟩ := given_fed hg 49 (by decide +kernel)
            obtain ⟨_, h41, rfl⟩ := given_fed hg 41 (by decide +kernel)
            clear hg
            obtain ⟨a3, c3, hv3, -⟩ := p49.rb
            subst hv3
            exact st_yield ho (wanted_some rfl rfl h41 rfl) (.agg #[.string (nmI k), .bool false, .slice a3 zs.length c3]) w6 (by simp [execOp, Act.eval, h47, h49, go_sem]) ⟨_, rfl, Below.refl _ _, by rintro t' ⟨⟩; exact ⟨a3, _, c3, rfl, p49⟩⟩
          | 12, hin, ho =>
            obtain rfl := Option.some.inj ho
            obtain ⟨v50, h50, p50⟩ := given_fed hg 50 (by decide +kernel)
            obtain ⟨_, h41, rfl⟩ := given_fed hg 41 (by decide +kernel)
            clear hg
            obtain ⟨a3, n3, c3, hv3, ho3⟩ := p50
            subst hv3
            have hbz := newB w6 (.cells #[.string (nmI k), .bool false, .slice a3 n3 c3] 47)
            exact st_yield ho (wanted_some rfl rfl h41 rfl) (.slice (some ⟨w6.heap.size, 0, none⟩) 1 1) (w6.alloc (.cells #[.string (nmI k), .bool false, .slice a3 n3 c3] 47)) (by simp [execOp, Act.eval, h50, go_sem]) ⟨_, rfl, hbz, by rintro t' ⟨⟩; exact ⟨_, a3, n3, c3, rfl, newPu w6 (nmI k) false a3 n3 c3 zs, ho3.below hbz⟩⟩
          | n + 13, hin, ho => omega
        · intro f5 w6 hb6 hv
          have h39 := hv 39 (by decide)
          have h40 := hv 40 (by decide)
          have h41 := hv 41 (by decide)
          have h42 := hv 42 (by decide)
          have h51 := hv 51 (by decide)
          simp only [VRa] at h39 h40 h41 h42 h51
          have hx51 := h51.rpt
          apply Exists.elim hx51
          intro q hx52
          apply Exists.elim hx52
          intro sl hx53
          have e51 := hx53.1
          have hrp := hx53.2
          clear hx51 hx52 hx53 h51
          rw [e51] at hrp
          have hx54 := HRM.out.out
          apply Exists.elim hx54
          intro K hx55
          have hK := hx55.1
          have hlw := hx55.2
          clear hx54 hx55
          have hzl : zs.length = sz := by rw [HZS.out, List.length_replicate]
          have CA := Go.Lib.hid (apply_live (hlw.below hb6) (HT.out.below (below_to HBW.out (Nat.le_refl _) hb6)) HT.out.low hrp (by simp) (fun x hx => by
            rw [List.mem_singleton.1 hx]
            exact ⟨by show 1 ≤ (nmI k).size; unfold nmI; rw [str_size]; simp, by show (nmI k).size ≤ 20; unfold nmI; rw [str_size]; simp, by show zs.length ≤ 4000; have := HSZ.out; omega⟩) (by simp) (by rw [GN_more k zs (by have := HLT.out; omega), GN_len]; have := HLT.out; omega) (by have := HLT.out; omega) (by have := HLT.out; omega))
          have HK2 := Go.Lib.hid hK
          have HB6 := Go.Lib.hid (below_to HBW.out (Nat.le_refl _) hb6)
          have HRM6 := Go.Lib.hid (HRM.out.below hb6)
          unfold putAll
          simp only [List.foldl, List.drop]
          simp only [h39, h40, h41, h42, e51]
          clear hv hb6 h39 h40 h41 h42 e51 hlw hrp hzl hK
          go_simp
          go_wp2_with fail
          refine CA.out.mono ?_
          rintro e w7 ⟨r, rfl, ⟨rfl, hb7⟩ | ⟨rfl, ht7, hb7, k', hk', hlw7⟩⟩
          · have HF := Go.Lib.hid (And.intro (HRM6.out.below hb7) (below_to HB6.out (Nat.le_refl _) hb7))
            clear hb7 CA
            go_wp2_with fail
            go_meet
            exact ⟨false, rfl, ⟨(fun h => by cases h), fun _ => HF.out.1, HF.out.2⟩⟩
          · rw [GN_more k zs (by have := HLT.out; omega)] at hlw7
            have HF := Go.Lib.hid (And.intro (show RmS w7 w.heap.size s d g p n (k + 1) zs from ⟨k', by have := HK2.out; omega, by rw [show 1 + (k + 1) = 1 + k + 1 from by omega]; exact hlw7⟩) (HB6.out.trans hb7))
            clear hb7 ht7 hlw7 CA
            go_wp2_with fail
            go_meet
            exact ⟨true, rfl, ⟨fun _ => ⟨HLT.out, HF.out.1⟩, (fun h => by cases h), HF.out.2⟩⟩
      · have hkI : ¬ (k : Int) < 30 := by omega
        clear hlt
        refine wp_region_each (by kernel_rfl) (VRb k) (VRb_below k) (by decide +kernel) (by decide +kernel) (by rfl) [39, 40, 41, 42, 43, 44, 45, 46, 47, 48, 49, 50, 51, 52, 53, 54] (by rfl) ?_ ?_
        · intro i o ho a w6 hb6 hlen hg
          match i, ho with
          | 0, ho =>
            obtain rfl := Option.some.inj ho
            have h10 := given_old hg 10 (by decide +kernel)
            clear hg
            exact st_yield ho (wanted_none rfl) (.int .i64 (k : Int)) w6 (by simp [execOp, Act.eval, h10, go_sem]) ⟨_, rfl, Below.refl _ _, by rintro t' ⟨⟩; rfl⟩
          | 1, ho =>
            obtain rfl := Option.some.inj ho
            obtain ⟨_, h39, rfl⟩ := given_fed hg 39 (by decide +kernel)
            clear hg
            exact st_yield ho (wanted_none rfl) (.bool false) w6 (by simp [execOp, Act.eval, h39, go_sem, hkI]) ⟨_, rfl, Below.refl _ _, by rintro t' ⟨⟩; rfl⟩
          | 2, ho =>
            obtain rfl := Option.some.inj ho
            obtain ⟨_, h40, rfl⟩ := given_fed hg 40 (by decide +kernel)
            clear hg
            exact st_yield ho (wanted_none rfl) (.bool false) w6 (by simp [execOp, Act.eval, h40, go_sem]) ⟨_, rfl, Below.refl _ _, by rintro t' ⟨⟩; rfl⟩
          | 3, ho =>
            obtain rfl := Option.some.inj ho
            obtain ⟨_, h41, rfl⟩ := given_fed hg 41 (by decide +kernel)
            clear hg
            exact st_skip ho (wanted_not rfl rfl h41 (by decide)) ⟨_, rfl, Below.refl _ _, by rintro t' ⟨⟩; rfl⟩
          | 4, ho =>
            obtain rfl := Option.some.inj ho
            obtain ⟨_, h41, rfl⟩ := given_fed hg 41 (by decide +kernel)
            clear hg
            exact st_skip ho (wanted_not rfl rfl h41 (by decide)) ⟨_, rfl, Below.refl _ _, by rintro t' ⟨⟩; rfl⟩
          | 5, ho =>
            obtain rfl := Option.some.inj ho
            obtain ⟨_, h41, rfl⟩ := given_fed hg 41 (by decide +kernel)
            clear hg
            exact st_skip ho (wanted_not rfl rfl h41 (by decide)) ⟨_, rfl, Below.refl _ _, by rintro t' ⟨⟩; rfl⟩
          | 6, ho =>
            obtain rfl := Option.some.inj ho
            obtain ⟨_, h41, rfl⟩ := given_fed hg 41 (by decide +kernel)
            clear hg
            exact st_skip ho (wanted_not rfl rfl h41 (by decide)) ⟨_, rfl, Below.refl _ _, by rintro t' ⟨⟩; rfl⟩
          | 7, ho =>
            obtain rfl := Option.some.inj ho
            obtain ⟨_, h41, rfl⟩ := given_fed hg 41 (by decide +kernel)
            clear hg
            exact st_skip ho (wanted_not rfl rfl h41 (by decide)) ⟨_, rfl, Below.refl _ _, by rintro t' ⟨⟩; rfl⟩
          | 8, ho =>
            obtain rfl := Option.some.inj ho
            obtain ⟨_, h41, rfl⟩ := given_fed hg 41 (by decide +kernel)
            clear hg
            exact st_skip ho (wanted_not rfl rfl h41 (by decide)) ⟨_, rfl, Below.refl _ _, by rintro t' ⟨⟩; rfl⟩
          | 9, ho =>
            obtain rfl := Option.some.inj ho
            obtain ⟨_, h41, rfl⟩ := given_fed hg 41 (by decide +kernel)
            clear hg
            exact st_skip ho (wanted_not rfl rfl h41 (by decide)) ⟨_, rfl, Below.refl _ _, by rintro t' ⟨⟩; rfl⟩
          | 10, ho =>
            obtain rfl := Option.some.inj ho
            obtain ⟨_, h41, rfl⟩ := given_fed hg 41 (by decide +kernel)
            clear hg
            exact st_skip ho (wanted_not rfl rfl h41 (by decide)) ⟨_, rfl, Below.refl _ _, by rintro t' ⟨⟩; rfl⟩
          | 11, ho =>
            obtain rfl := Option.some.inj ho
            obtain ⟨_, h41, rfl⟩ := given_fed hg 41 (by decide +kernel)
            clear hg
            exact st_skip ho (wanted_not rfl rfl h41 (by decide)) ⟨_, rfl, Below.refl _ _, by rintro t' ⟨⟩; rfl⟩
          | 12, ho =>
            obtain rfl := Option.some.inj ho
            obtain ⟨_, h41, rfl⟩ := given_fed hg 41 (by decide +kernel)
            clear hg
            exact st_skip ho (wanted_not rfl rfl h41 (by decide)) ⟨_, rfl, Below.refl _ _, by rintro t' ⟨⟩; rfl⟩
          | 13, ho =>
            obtain rfl := Option.some.inj ho
            obtain ⟨_, h41, rfl⟩ := given_fed hg 41 (by decide +kernel)
            clear hg
            exact st_skip ho (wanted_not rfl rfl h41 (by decide)) ⟨_, rfl, Below.refl _ _, by rintro t' ⟨⟩; rfl⟩
          | 14, ho =>
            obtain rfl := Option.some.inj ho
            obtain ⟨_, h41, rfl⟩ := given_fed hg 41 (by decide +kernel)
            clear hg
            exact st_skip ho (wanted_not rfl rfl h41 (by decide)) ⟨_, rfl, Below.refl _ _, by rintro t' ⟨⟩; rfl⟩
          | 15, ho =>
            obtain rfl := Option.some.inj ho
            obtain ⟨_, h41, rfl⟩ := given_fed hg 41 (by decide +kernel)
            obtain ⟨_, h53, rfl⟩ := given_fed hg 53 (by decide +kernel)
            clear hg
            exact st_yield ho (wanted_none rfl) (.bool false) w6 (by simp [execOp, Act.eval, h41, h53, go_sem]) ⟨_, rfl, Below.refl _ _, by rintro t' ⟨⟩; rfl⟩
          | n + 16, ho => simp at ho
        · intro f5 w6 hb6 hv
          have h54 := hv 54 (by decide)
          simp only [VRb] at h54
          have HF := Go.Lib.hid (And.intro (HRM.out.below hb6) (below_to HBW.out (Nat.le_refl _) hb6))
          unfold putAll
          simp only [List.foldl]
          simp only [h54]
          clear hv hb6 h54
          go_simp
          go_wp2_with fail
          go_meet
          exact ⟨false, rfl, ⟨(fun h => by cases h), fun _ => HF.out.1, HF.out.2⟩⟩
    case rest =>
      obtain ⟨b, rfl, hcut⟩ := hcut
      cases b with
      | true =>
        have HC := Go.Lib.hid (And.intro (hcut.out.1 rfl) hcut.out.2.2)
        have hkI : (k : Int) < 30 := by have := HC.out.1.1; omega
        clear hcut
        go_wp2_with fail
        go_roundw
        case rel => exact ⟨k + 1, by omega, by go_num, HC.out.1.2, HC.out.2⟩
        case measure => simp only [intOf]; omega
      | false =>
        have HC := Go.Lib.hid (And.intro (hcut.out.2.1 rfl) hcut.out.2.2)
        clear hcut HRM HBW
        obtain ⟨K, hK, hlw⟩ := HC.out.1.out
        have CF := Go.Lib.hid (free_r hlw)
        have HKK := Go.Lib.hid hK
        have hkI : (k : Int) ≤ 30 := by have := HK.out; omega
        clear hlw hK
        go_wp2_with fail
        refine CF.out.mono ?_
        rintro e w7 ⟨r, rfl, hlr, hb7⟩
        have HB7 := Go.Lib.hid (below_to HC.out.2 (Nat.le_refl _) hb7)
        have HLR := Go.Lib.hid hlr
        clear hlr hb7 CF HC
        by_cases hr : r < 16
        · go_wp2_with fail
          go_ret
          exact ⟨rfl, HB7.out⟩
        · have HR := Go.Lib.hid (show 16 ≤ r by omega)
          go_wp2_with fail
          clear hr
          go_loopw [11, 12] (fun ov iv wx => ∃ (j : Nat) (u : Value) (l : List PutT), u = ov ∧ j ≤ k ∧ iv = .int .i64 (j : Int) ∧ OwnPu wx w7.heap.size u l ∧ PutsG j a2 l ∧ Below w7.heap.size w7 wx) (fun _ iv _ => k - (intOf iv).toNat)
          case atStart => exact ⟨0, _, [], rfl, by omega, rfl, OwnPu.nil _ _, ⟨rfl, fun i hi => absurd hi (by simp)⟩, Below.refl _ _⟩
          case round =>
            obtain ⟨j, u, l, rfl, hj, rfl, hO, hP, hbx⟩ := hrel
            obtain ⟨wo, rfl⟩ : ∃ wo, wo = wr := ⟨_, rfl⟩
            by_cases hlt : j < k
            · have HLT := Go.Lib.hid (show j < k ∧ k ≤ 30 from ⟨hlt, HK.out⟩)
              have hjI : (j : Int) < (k : Int) := by omega
              have e67 : IntKind.i64.wrap (97 + (j : Int)) = ((97 + j : Nat) : Int) := by rw [IntKind.wrap_i64]; omega
              have e68 : IntKind.u8.wrap ((97 + j : Nat) : Int) = ((97 + j : Nat) : Int) := by rw [IntKind.wrap_u8']; omega
              have hbz := newB wo (.cells #[.int .u8 ((97 + j : Nat) : Int)] 5)
              have hr6 := TX.lits wo [UInt8.ofNat (97 + j)] #[.int .u8 ((97 + j : Nat) : Int)] 1 (byte_row1 (97 + j) (by omega)) rfl (by simp) (0, 0)
              have hcv := run_string_RB (wo.alloc (.cells #[.int .u8 ((97 + j : Nat) : Int)] 5)) 45 5 9 Tryz.underlying45 Tryz.underlying5 Tryz.underlying9 (.slice (some ⟨wo.heap.size, 0, none⟩) 1 1) [UInt8.ofNat (97 + j)] hr6.1
              rw [show str [UInt8.ofNat (97 + j)] = nmI j from rfl] at hcv
              obtain ⟨wz, hwz⟩ : ∃ wz, wz = wo.alloc (.cells #[.int .u8 ((97 + j : Nat) : Int)] 5) := ⟨_, rfl⟩
              have hbp := newB wz (.cells #[.string (nmI j), .bool a2, .slice none 0 0] 47)
              have hbxp := below_to (hwz ▸ hbz) (Nat.le_refl _) hbp
              have HOP := Go.Lib.hid (hO.below hbxp)
              have HNP := Go.Lib.hid (newPu2 wz (wo.heap.size + 1) (by rw [hwz]; simp) (nmI j) a2 none 0 0 [])
              have HBP := Go.Lib.hid (below_to hbx (Nat.le_refl _) hbxp)
              have HP := Go.Lib.hid hP
              subst hwz
              generalize ((97 + j : Nat) : Int) = CK at *
              clear hO hP hbx hbz hr6 hbp hbxp hlt hj
              go_wp2_with (first
                | (with_reducible show wpList _ _ _ (⟨some 74, _, _, _, _, _⟩ :: _) _ _; go_must (refine wpList_append_put rfl (.tmp 65) (.tmp 73) rfl w7.heap.size u l (nmI j, a2, (none, 0, 0), []) (wo.heap.size + 1) (0, 0) rfl rfl HOP.out HNP.out (TX.nil _) (by have := HP.out.len; have := HLT.out; omega) HBP.out.size ?_); intro v8 w8 ho8 hg8; have HO8 := Go.Lib.hid ho8; go_must (have HB8 := Go.Lib.hid (HBP.out.grown hg8 HBP.out.size HOP.out.own)); clear ho8 hg8)
                | fail)
              go_roundw
              case rel => exact ⟨j + 1, _, _, rfl, by have := HLT.out; omega, by go_num, HO8.out, HP.out.snoc _ rfl rfl rfl, HB8.out⟩
              case measure => simp only [intOf]; have := HLT.out; omega
            · obtain rfl : j = k := by omega
              have hcn := hP.count (by have := HK.out; omega) zs
              have CA := Go.Lib.hid (apply_empty (HLR.out.below hbx) HR.out (HT.out.below (below_to HB7.out (Nat.le_refl _) hbx)) HT.out.low hO.rpt (by rw [hP.len]; have := HK.out; omega) hP.zero hP.ok (by rw [hcn]; have := HK.out; split <;> omega) (by have := HKK.out; have := HK.out; omega) (by have := HK.out; omega))
              have HBX := Go.Lib.hid (below_to HB7.out (Nat.le_refl _) hbx)
              have HCN := Go.Lib.hid hcn
              clear hO hP hbx hcn hlt hj
              go_wp2_with fail
              refine CA.out.mono ?_
              rintro e w8 ⟨rfl, ⟨L', t', hlw8⟩, hb8⟩
              have HB8 := Go.Lib.hid (HBX.out.trans hb8)
              have CN := Go.Lib.hid (names_ok hlw8)
              clear hlw8 hb8 CA
              cases a2 with
              | true =>
                go_wp2_with fail
                refine CN.out.mono ?_
                rintro e w9 ⟨vn, rfl, hon, hb9⟩
                obtain ⟨an, cn, rfl, -⟩ := hon.rv.form
                rw [List.length_map, (by simpa using HCN.out : (doneL (GN j zs) l).length = 0)]
                have HB9 := Go.Lib.hid (below_to HB8.out (Nat.le_refl _) hb9)
                clear hon hb9 CN
                go_wp2_with fail
                go_ret
                exact ⟨rfl, HB9.out⟩
              | false =>
                go_wp2_with fail
                refine CN.out.mono ?_
                rintro e w9 ⟨vn, rfl, hon, hb9⟩
                obtain ⟨an, cn, rfl, -⟩ := hon.rv.form
                rw [List.length_map, (by simpa using HCN.out : (doneL (GN j zs) l).length = j)]
                have HB9 := Go.Lib.hid (below_to HB8.out (Nat.le_refl _) hb9)
                clear hon hb9 CN
                cases hj0 : ((j : Int) == 0)
                · go_wp2_with fail
                  go_ret
                  exact ⟨rfl, HB9.out⟩
                · go_wp2_with fail
                  go_ret
                  exact ⟨rfl, HB9.out⟩

/-! ### THE ROW's STEP: WRITTEN OUT: LEAVE IT -/
noncomputable def laidWorld (os : Os) : World := World.doorLaid Tryz.prog 400 os
theorem laid_met (os : Os) : laidMetH Tryz.prog Rows.storeRoomRow.laid ((laidWorld os).forCall (fun _ _ => 0) ⟨#[], #[.int .i64 0, .int .i64 0, .bool false], []⟩).memory :=
  laidMetH_of_parts3 (fuel := 8) (laidMet_of_run' 8 (by kernel_rfl) (by kernel_rfl)) (by kernel_rfl) (by kernel_rfl)
theorem reads (os : Os) {H : Type} (enc : TypeId × Value → H) : ∃ places, DataW.whole enc Tryz.prog ((laidWorld os).forCall (fun _ _ => 0) ⟨#[], #[.int .i64 0, .int .i64 0, .bool false], []⟩).memory Tryz.f4.params.toList Rows.storeRoomSpec.vars false (Array.toList #[.int .i64 0, .int .i64 0, .bool false]) 8 = some ([.lit (.int .i64 0), .lit (.int .i64 0), .lit (.bool false)], [], places) :=
  ⟨[], by kernel_rfl⟩

set_option maxRecDepth 100000 in
theorem lifted (os : Os) (started : os.Started) (H : Type) (enc : TypeId × Value → H) (F : Stop.Interp) :
    ReturnsInHanded {} Tryz.checked os 4 .any ((OpenSpec.ofChange Rows.storeRoomSpec).preRow enc Tryz.prog Tryz.f4 Rows.storeRoomRow.domain false Rows.storeRoomRow.laid) (((OpenSpec.ofChange Rows.storeRoomSpec).at F).post enc Tryz.prog Tryz.f4 false true false false) := by
  obtain ⟨places, hx⟩ := reads os enc
  refine returnsInHanded_of_row (C := Tryz.checked) (s := OpenSpec.ofChange Rows.storeRoomSpec) own started (by kernel_rfl) Tryz.func4
    (witness_row_at (enc := enc) (C := Tryz.checked) false (laidWorld os) #[.int .i64 0, .int .i64 0, .bool false] rfl (by kernel_rfl) (by kernel_rfl) (by kernel_rfl)
      (OpenSpec.preRow_of_cond 8 hx (by kernel_rfl) (fun k hk => by cases hk) (by kernel_rfl) (laid_met os))) ?_
  intro W base args ds gs before hval0 hW _ _ _ hL _ _
  have hval : ∀ (j : Nat) t v, Tryz.f4.params[j]? = some t → args[j]? = some v → Value.okWide Tryz.prog W .any base t v := hval0
  have hW' := hW
  obtain ⟨p, q, hA0, hV, rfl, hfz, hnd⟩ := hW
  have hA : DataW.TrodAll enc Tryz.prog W 0 (fun _ => true) true Tryz.f4.params.toList args.toList ds p := hA0
  rw [Tryz.params4] at hA hval
  obtain ⟨v0, vs0, d0, ds0, p0, q0, hargs, rfl, rfl, h0, r0⟩ := trodAll_cons hA
  obtain ⟨v1, vs1, d1, ds1, p1, q1, rfl, rfl, rfl, h1, r1⟩ := trodAll_cons r0
  obtain ⟨v2, vs2, d2, ds2, p2, q2, rfl, rfl, rfl, h2, r2⟩ := trodAll_cons r1
  obtain ⟨rfl, rfl, rfl⟩ := trodAll_nil r2
  obtain rfl : args = #[v0, v1, v2] := by cases args; simp_all
  obtain ⟨rfl, rfl⟩ := trodVars_none hV
  obtain ⟨a0, rfl, rfl, rfl, w0⟩ := open_int Tryz.underlying3 (hval 0 3 v0 rfl rfl) h0
  obtain ⟨a1, rfl, rfl, rfl, w1⟩ := open_int Tryz.underlying3 (hval 1 3 v1 rfl rfl) h1
  obtain ⟨a2, rfl, rfl, rfl⟩ := open_bool Tryz.underlying4 (hval 2 4 v2 rfl rfl) h2
  clear hA0 hval0
  refine (walk a0 a1 a2 w0 w1 W hL).mono fun e W' ⟨he, hg⟩ => ?_
  subst he
  exact ⟨_, rfl, _, _, _, [], _, [], hW', (trodAll_cons_mk (shut_bool Tryz.underlying4 _) trodAll_mk0), (trodAll_cons_mk (shut_int Tryz.underlying3 w0) (trodAll_cons_mk (shut_int Tryz.underlying3 w1) (trodAll_cons_mk (shut_bool Tryz.underlying4 _) trodAll_mk0))), rfl, hg.frame _, fun h => by cases h⟩

theorem said : Rows.StoreRoomSaid :=
  OpenClaim.holds_of_cond 4 Tryz.f4 rfl rfl rfl rfl rfl rfl rfl ⟨rfl, rfl, rfl, rfl, rfl⟩ rfl rfl rfl rfl rfl (by kernel_rfl) Tryz.func4 (by kernel_rfl)
    (of_decide_eq_true (by kernel_rfl)) (by unfold Func.isWrapper; first | (rw [if_pos (by decide +kernel)]; kernel_rfl) | (rw [if_neg (by decide +kernel)]; exact ⟨rfl, rfl⟩))
    (fun os started H enc _ F => by rw [OpenClaim.pre_eq_preRow]; exact lifted os started H enc F)

/-- No parameter wants a stand-in; the program's own looks are off: what the card asks. -/
theorem plain (f : FuncId) (fn : Func) (hf : Tryz.pinned.checked.prog.funcNamed "loess/loesslaw15.StoreRoom" = some f) (hfn : Tryz.pinned.checked.prog.funcs[f]? = some fn) :
    false = Tryz.pinned.checked.prog.looks [] ∧ ∀ (j : Nat) t, fn.params[j]? = some t → Tryz.pinned.checked.prog.wantsStandIn t = false := by
  obtain rfl : f = 4 := Option.some.inj ((show Tryz.prog.funcNamed "loess/loesslaw15.StoreRoom" = some 4 by kernel_rfl).symm.trans hf) |>.symm
  obtain rfl : fn = Tryz.f4 := (Option.some.inj (Tryz.func4.symm.trans hfn)).symm
  refine ⟨by kernel_rfl, fun j t ht => ?_⟩
  rw [Tryz.params4] at ht
  have hm : t ∈ [3, 3, 4] := by simpa using Array.mem_of_getElem? ht
  have hall : ([3, 3, 4].all fun u => !Tryz.prog.wantsStandIn u) = true := by kernel_rfl
  exact (show Tryz.prog.wantsStandIn t = false by simpa using List.all_eq_true.1 hall t hm)

/-- THE CARD. -/
theorem proved : Rows.StoreRoomCardSaid :=
  Claim7.holds_tied_plain_at .later [] _ _ _ _ said (fun _ h => by cases h) (by kernel_rfl) (fun _ h => by cases h) storeRoom_row_tie rfl ⟨rfl, rfl⟩ (by kernel_rfl) rfl plain (by kernel_rfl)
end Go.Proofs.YtnalokjnbccjnaaGreatDoor.storeRoom
