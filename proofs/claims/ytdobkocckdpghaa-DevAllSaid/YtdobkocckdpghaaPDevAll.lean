/- DevAll: sectors are written, flushed; the device dies when its fuse is at its end; a crash keeps of the loose ones what it will: for every input the law returns true. -/
import Derived.Test.YtdobkocckdpghaaRows
import Derived.WalkKit
import Derived.ProofKit
import Derived.OpenShut
import Derived.ShutString
import Derived.ChangeOld
import Derived.Below
import Derived.Test.YtdobkocckdpghaaOps
import Derived.Test.YtdobkocckdpghaaWorN
import Derived.Test.YtdobkocckdpghaaShort
namespace Go.Proofs.Ytdobkocckdpghaa.devAll
open Go.ChangeShapes Go.WideShapes Go.ChangeAt Go.RowKit
open Go.ChangeMaps (open_string shut_string)
set_option linter.unusedVariables false

theorem own : ownKnob Try.prog.godebug = none := by kernel_rfl
theorem laidOut : laidOutB Try.prog = true := by kernel_rfl

open Go.Lib (hid)
set_option maxHeartbeats 2000000 in
set_option maxRecDepth 100000 in
theorem walk (w : World) (a0 : Int) (w0 : (Lit.int .i64 a0).wf = true) (a1 : Option Addr) (len1 cap1 : Nat) (l1 : List OpT) (w1 : ROps w (.slice a1 len1 cap1) l1) :
    Calls Try.prog 3 #[.int .i64 a0, .slice a1 len1 cap1] w fun e w' => e = .returned (.bool true) ∧ Below w.heap.size w w' := by
  obtain ⟨hlen, hl63⟩ := w1.len
  have HO := hid w1
  clear w0 w1 hlen
  obtain ⟨n, hn⟩ : ∃ n : Nat, max 1 (min a0 8) = (n : Int) := ⟨(max 1 (min a0 8)).toNat, by omega⟩
  have hn1 : 0 < n := by omega
  have hn8 : n ≤ 8 := by omega
  go_enter Try.func3, Try.ntmps3
  go_wp2_with fail
  refine (begun_c _).mono ?_
  rintro e w2 ⟨rfl, k2⟩
  have C1 := hid (dnew_c (n : Int) w2)
  rw [show lenD (n : Int) = n from by unfold lenD; omega] at C1
  have K2 := hid k2; clear k2
  go_wp2_with fail
  refine C1.out.mono ?_
  rintro e w3 ⟨d, g, rfl, hd, hb⟩
  have hWI := WI.new w3 w.heap.size (Nat.le_trans K2.out.size hb.size)
  have hD3 := (hd.mono K2.out.size).alloc (.cells #[.slice none 0 0, .slice none 0 0, .slice none 0 0, .int .i64 0, .int .i64 (-1)] 30)
  have hK3 := K2.out.trans (hb.mono K2.out.size)
  have K3 := hid (hK3.trans ((below_new w3 (.cells #[.slice none 0 0, .slice none 0 0, .slice none 0 0, .int .i64 0, .int .i64 (-1)] 30)).mono hK3.size))
  have HWI := hid hWI
  have HD3 := hid hD3
  obtain ⟨q, hq⟩ : ∃ q, w3.heap.size = q := ⟨_, rfl⟩
  clear C1 hWI hD3 hK3 hd hb
  go_wp2_with fail
  rw [hq] at HWI
  clear hq
  go_loopw [8] (fun c wr => ∃ (i : Nat) (v1 v2 v3 : Value) (xs1 xs2 : List Value), i ≤ n ∧ c = .int .i64 (i : Int) ∧ WI wr w.heap.size q i v1 v2 v3 xs1 xs2 ∧ DV wr w.heap.size d g n newS born ∧ Below w.heap.size w wr) (fun c _ => n - (intOf c).toNat)
  case atStart => exact ⟨0, _, _, _, _, _, by omega, rfl, HWI.out, HD3.out, K3.out⟩
  case round =>
    obtain ⟨i, v1, v2, v3, xs1, xs2, hi, rfl, wi, hdv, hbw⟩ := hrel
    clear HWI HD3 K3
    by_cases hin : i < n
    · have hiI : (i : Int) < (n : Int) := by omega
      have hbs := hid hbw.size
      have HW1 := hid (show (i : Int) + 1 = ((i + 1 : Nat) : Int) from by omega)
      have HBW0 := hid hbw
      have WI0 := hid wi
      have DV0 := hid hdv
      clear wi hdv hbw
      go_upto_region 10 with (fail)
      have HI0 : Go.RowKit.Hid (∀ a, IY wr w.heap.size q d g n i v1 v2 v3 (fun _ => false) a wr.drew) := fun a =>
        ⟨v1, v2, v3, v1, v2, v3, xs1, xs2, i, ⟨WI0.out.blk, WI0.out.r1, WI0.out.r2, WI0.out.r3, WI0.out.e1, WI0.out.e2, WI0.out.ne, WI0.out.lq⟩, DV0.out.drew, (Below.refl _ _).drew, hbs.out, fun j hj => by
          rcases hj with hj | hj | hj
          · exact (World.ownsRow.lt WI0.out.r1 j hj).2
          · exact (World.ownsRow.lt WI0.out.r2 j hj).2
          · exact (World.ownsRow.lt WI0.out.r3 j hj).2, ⟨rfl, WI0.out.n1⟩, ⟨rfl, WI0.out.n2⟩, ⟨rfl, rfl⟩, rfl, rfl, rfl⟩
      refine wp_region_inv3 (by kernel_rfl) (VX q w.heap.size v1 v2 v3) (IY wr w.heap.size q d g n i v1 v2 v3) (by decide +kernel) (by decide +kernel) (by rfl) [28, 29, 30, 31, 32, 33, 34, 35, 36, 37, 38, 39, 40, 41, 42, 43, 44, 45, 46, 47, 48, 49, 50, 51, 52, 53, 54, 55, 56] (by rfl) (HI0.out _) ?_ ?_
      · intro j o ho a w6 done hI hnot hr hsh hlen hg
        match j, ho with
        | 0, ho =>
          obtain rfl := Option.some.inj ho
          have h7 := given_old hg 7 (by decide +kernel)
          clear hg
          exact st_yield ho (wanted_none rfl) (.pointer (some ⟨q, 0, none⟩)) w6 (by simp [execOp, Act.eval, h7, go_sem]) ⟨_, rfl, IY.keep 0 (by decide) 28 (by decide) _ (Below.refl _ _) hI, fun _ _ _ h => h, by rintro t' ⟨⟩; rfl⟩
        | 1, ho =>
          obtain rfl := Option.some.inj ho
          have h7 := given_old hg 7 (by decide +kernel)
          clear hg
          exact st_yield ho (wanted_none rfl) (.pointer (some ⟨q, 0, none⟩)) w6 (by simp [execOp, Act.eval, h7, go_sem]) ⟨_, rfl, IY.keep 1 (by decide) 29 (by decide) _ (Below.refl _ _) hI, fun _ _ _ h => h, by rintro t' ⟨⟩; rfl⟩
        | 2, ho =>
          obtain rfl := Option.some.inj ho
          have h7 := given_old hg 7 (by decide +kernel)
          clear hg
          exact st_yield ho (wanted_none rfl) (.pointer (some ⟨q, 0, none⟩)) w6 (by simp [execOp, Act.eval, h7, go_sem]) ⟨_, rfl, IY.keep 2 (by decide) 30 (by decide) _ (Below.refl _ _) hI, fun _ _ _ h => h, by rintro t' ⟨⟩; rfl⟩
        | 3, ho =>
          obtain rfl := Option.some.inj ho
          have h7 := given_old hg 7 (by decide +kernel)
          clear hg
          exact st_yield ho (wanted_none rfl) (.pointer (some ⟨q, 0, none⟩)) w6 (by simp [execOp, Act.eval, h7, go_sem]) ⟨_, rfl, IY.keep 3 (by decide) 31 (by decide) _ (Below.refl _ _) hI, fun _ _ _ h => h, by rintro t' ⟨⟩; rfl⟩
        | 4, ho =>
          obtain rfl := Option.some.inj ho
          obtain ⟨_, h31, rfl⟩ := given_fed hg 31 (by decide +kernel)
          clear hg
          exact st_yield ho (wanted_none rfl) (.pointer (some ⟨q, 0, none⟩)) w6 (by simp [execOp, Act.eval, h31, go_sem]) ⟨_, rfl, IY.keep 4 (by decide) 32 (by decide) _ (Below.refl _ _) hI, fun _ _ _ h => h, by rintro t' ⟨⟩; rfl⟩
        | 5, ho =>
          obtain rfl := Option.some.inj ho
          obtain ⟨_, h32, rfl⟩ := given_fed hg 32 (by decide +kernel)
          clear hg
          exact st_yield ho (wanted_none rfl) (.pointer (some ⟨q, 0, none⟩)) w6 (by simp [execOp, Act.eval, h32, go_sem]) ⟨_, rfl, IY.keep 5 (by decide) 33 (by decide) _ (Below.refl _ _) hI, fun _ _ _ h => h, by rintro t' ⟨⟩; rfl⟩
        | 6, ho =>
          obtain rfl := Option.some.inj ho
          obtain ⟨_, h33, rfl⟩ := given_fed hg 33 (by decide +kernel)
          clear hg
          have hs : done 25 = false := by cases h : done 25 with | false => rfl | true => have := hsh 25 6 h (by decide +kernel); rw [hnot] at this; cases this
          obtain ⟨x0, x1, x2, r1, r2, r3, ys1, ys2, m, hx⟩ := id hI
          have e := hx.s1
          rw [if_neg (by rw [hs]; decide)] at e
          have k0 : w6.cell? ⟨q, 0, none⟩ = some v1 := by rw [cell_of_row w6 q 0 _ _ _ hx.wj.blk, ← e]; rfl
          exact st_yield ho (wanted_none rfl) v1 w6 (by simp [execOp, Act.eval, h33, go_sem, k0]) ⟨_, rfl, IY.keep 6 (by decide) 34 (by decide) _ (Below.refl _ _) hI, fun _ _ _ h => h, by rintro t' ⟨⟩; rfl⟩
        | 7, ho =>
          obtain rfl := Option.some.inj ho
          clear hg
          have hsz : w.heap.size ≤ w6.heap.size := by obtain ⟨x0, x1, x2, r1, r2, r3, ys1, ys2, m, hx⟩ := id hI; exact hx.size
          exact st_list ho (wanted_none rfl) fun Q' hQ => wpList_make_len rfl (.const (.int .i64 64)) (.const (.int .i64 64)) 31 rfl 5 Try.underlying31 info8 .i64 .i64 64 64 64 64 rfl rfl rfl rfl (Nat.le_refl _) (by decide) (fun v' w' hown hg2 => wpList_nil (hQ _ _ ⟨v', rfl, IY.keep 7 (by decide) 35 (by decide) _ (grown_below hg2 (Nat.le_refl _) (by simp)) hI, fun t u _ => VX.below t u (grown_below hg2 (Nat.le_refl _) (by simp)), by rintro t' ⟨⟩; exact hown.mono hsz⟩))
        | 8, ho =>
          obtain rfl := Option.some.inj ho
          obtain ⟨v35, h35, p35⟩ := given_fed hg 35 (by decide +kernel)
          clear hg
          have p35 : Own 5 w6 w.heap.size v35 zeros := p35
          obtain ⟨ya, yc, hy⟩ := own_form p35
          rw [zeros_length] at hy
          subst hy
          obtain ⟨x0, x1, x2, r1, r2, r3, ys1, ys2, m, hx⟩ := id hI
          have hb := below_new w6 (.cells #[.slice ya 64 yc] 31)
          exact st_yield ho (wanted_none rfl) (.slice (some ⟨w6.heap.size, 0, none⟩) 1 1) (w6.alloc (.cells #[.slice ya 64 yc] 31)) (by simp [execOp, Act.eval, h35, go_sem]) ⟨_, rfl, IY.keep 8 (by decide) 36 (by decide) _ hb hI, fun t u _ => VX.below t u hb, by rintro t' ⟨⟩; exact ⟨_, _, rfl, heap_alloc_new w6 _, p35.below hb, fun e => Nat.lt_irrefl _ (hx.old _ (.inl e)), fun e => Nat.lt_irrefl _ (hx.old _ (.inr (.inl e))), fun e => Nat.lt_irrefl _ (hx.old _ (.inr (.inr e)))⟩⟩
        | 9, ho =>
          obtain rfl := Option.some.inj ho
          obtain ⟨v34, h34, p34⟩ := given_fed hg 34 (by decide +kernel)
          obtain ⟨v36, h36, p36⟩ := given_fed hg 36 (by decide +kernel)
          clear hg
          have hs : done 25 = false := by cases h : done 25 with | false => rfl | true => have := hsh 25 9 h (by decide +kernel); rw [hnot] at this; cases this
          obtain ⟨x0, x1, x2, r1, r2, r3, ys1, ys2, m, hx⟩ := hI
          have e := hx.p1
          rw [if_neg (by rw [hnot]; decide)] at e
          obtain ⟨e, hyl⟩ := e
          have p34 : v34 = v1 := p34
          rw [p34] at h34
          obtain ⟨hh, u, rfl, hc, hu, -⟩ := p36
          have hu0 : Own 5 w6 w.heap.size u zeros := hu
          obtain ⟨ua, uc, hue⟩ := own_form hu0
          refine st_list ho (wanted_none rfl) fun Q' hQ => ?_
          refine wpList_append_where w6 rfl (.tmp 34) (.tmp 36) 27 rfl w.heap.size 31 Try.underlying27 (.slice none 0 0) 1 24 infoS rfl (by decide) v1 ys1.length ys1 (by simp [Act.eval, h34]) (by rw [← e]; exact hx.wj.o1) ⟨hh, 0, none⟩ 1 1 [u] (by simp [Act.eval, h36]) rfl (fun j x hj => by
            match j, hj with
            | 0, hj =>
              obtain rfl := Option.some.inj hj
              rw [Addr.add_mid, cell_of_row w6 hh _ _ _ _ hc]; rfl
            | j + 1, hj => simp at hj) (by intro x hx2; obtain rfl := List.mem_singleton.1 hx2; rw [hue]; rfl) (by unfold maxLen; omega) (by omega) hx.size ?_
          intro y w7 ho7 hg7 hw7
          rw [← e] at hg7 hw7
          have ho7' : OwnV 31 w7 w.heap.size y (ys1 ++ [u]) := by unfold OwnV; rw [List.length_append]; exact ho7
          refine wpList_nil (hQ _ _ ⟨y, rfl, ⟨x0, x1, x2, y, r2, r3, ys1 ++ [u], ys2, m, hx.wj.grow1 hg7 ho7' hu0 hw7, hx.dv.grown hx.wj.o1 (by decide) (by decide) hg7, hx.bel.trans (grown_below hg7 hx.size hx.wj.o1.row), Nat.le_trans hx.size hg7.size, fun j hj => Nat.lt_of_lt_of_le (hx.old j hj) hg7.size, ?_, ?_, ?_, ?_, ?_, ?_⟩, fun t x _ => VX.grown t x hx.wj.o1 (by decide) (.inl e) hg7, by rintro t' ⟨⟩; trivial⟩)
          · rw [doneToo_self, if_pos rfl]; exact ⟨put_same (by rw [hlen]; exact (show (37 : Nat) < 150 by decide)), by rw [List.length_append, hyl]; rfl⟩
          · show (if doneToo done 9 16 = true then (a.put (some 37) y).tmps[44]? = some r2 ∧ ys2.length = i + 1 else r2 = v2 ∧ ys2.length = i)
            rw [doneToo_other (show (16 : Nat) ≠ 9 by decide), put_other (show (44 : Nat) ≠ 37 by decide)]
            exact hx.p2
          · show (if doneToo done 9 22 = true then (a.put (some 37) y).tmps[50]? = some r3 ∧ m = i + 1 else r3 = v3 ∧ m = i)
            rw [doneToo_other (show (22 : Nat) ≠ 9 by decide), put_other (show (50 : Nat) ≠ 37 by decide)]
            exact hx.p3
          · rw [doneToo_other (show (25 : Nat) ≠ 9 by decide), if_neg (by rw [hs]; decide)]; have := hx.s1; rwa [if_neg (by rw [hs]; decide)] at this
          · rw [doneToo_other (show (28 : Nat) ≠ 9 by decide)]; exact hx.s2
          · rw [doneToo_other (show (31 : Nat) ≠ 9 by decide)]; exact hx.s3
        | 10, ho =>
          obtain rfl := Option.some.inj ho
          have h7 := given_old hg 7 (by decide +kernel)
          clear hg
          exact st_yield ho (wanted_none rfl) (.pointer (some ⟨q, 0, none⟩)) w6 (by simp [execOp, Act.eval, h7, go_sem]) ⟨_, rfl, IY.keep 10 (by decide) 38 (by decide) _ (Below.refl _ _) hI, fun _ _ _ h => h, by rintro t' ⟨⟩; rfl⟩
        | 11, ho =>
          obtain rfl := Option.some.inj ho
          obtain ⟨_, h38, rfl⟩ := given_fed hg 38 (by decide +kernel)
          clear hg
          exact st_yield ho (wanted_none rfl) (.pointer (some ⟨q, 0, none⟩)) w6 (by simp [execOp, Act.eval, h38, go_sem]) ⟨_, rfl, IY.keep 11 (by decide) 39 (by decide) _ (Below.refl _ _) hI, fun _ _ _ h => h, by rintro t' ⟨⟩; rfl⟩
        | 12, ho =>
          obtain rfl := Option.some.inj ho
          obtain ⟨_, h39, rfl⟩ := given_fed hg 39 (by decide +kernel)
          clear hg
          exact st_yield ho (wanted_none rfl) (.pointer (some ⟨q, 1, none⟩)) w6 (by simp [execOp, Act.eval, h39, go_sem]) ⟨_, rfl, IY.keep 12 (by decide) 40 (by decide) _ (Below.refl _ _) hI, fun _ _ _ h => h, by rintro t' ⟨⟩; rfl⟩
        | 13, ho =>
          obtain rfl := Option.some.inj ho
          obtain ⟨_, h40, rfl⟩ := given_fed hg 40 (by decide +kernel)
          clear hg
          have hs : done 28 = false := by cases h : done 28 with | false => rfl | true => have := hsh 28 13 h (by decide +kernel); rw [hnot] at this; cases this
          obtain ⟨x0, x1, x2, r1, r2, r3, ys1, ys2, m, hx⟩ := id hI
          have e := hx.s2
          rw [if_neg (by rw [hs]; decide)] at e
          have k0 : w6.cell? ⟨q, 1, none⟩ = some v2 := by rw [cell_of_row w6 q 1 _ _ _ hx.wj.blk, ← e]; rfl
          exact st_yield ho (wanted_none rfl) v2 w6 (by simp [execOp, Act.eval, h40, go_sem, k0]) ⟨_, rfl, IY.keep 13 (by decide) 41 (by decide) _ (Below.refl _ _) hI, fun _ _ _ h => h, by rintro t' ⟨⟩; rfl⟩
        | 14, ho =>
          obtain rfl := Option.some.inj ho
          clear hg
          have hsz : w.heap.size ≤ w6.heap.size := by obtain ⟨x0, x1, x2, r1, r2, r3, ys1, ys2, m, hx⟩ := id hI; exact hx.size
          exact st_list ho (wanted_none rfl) fun Q' hQ => wpList_make_len rfl (.const (.int .i64 64)) (.const (.int .i64 64)) 31 rfl 5 Try.underlying31 info8 .i64 .i64 64 64 64 64 rfl rfl rfl rfl (Nat.le_refl _) (by decide) (fun v' w' hown hg2 => wpList_nil (hQ _ _ ⟨v', rfl, IY.keep 14 (by decide) 42 (by decide) _ (grown_below hg2 (Nat.le_refl _) (by simp)) hI, fun t u _ => VX.below t u (grown_below hg2 (Nat.le_refl _) (by simp)), by rintro t' ⟨⟩; exact hown.mono hsz⟩))
        | 15, ho =>
          obtain rfl := Option.some.inj ho
          obtain ⟨v42, h42, p42⟩ := given_fed hg 42 (by decide +kernel)
          clear hg
          have p42 : Own 5 w6 w.heap.size v42 zeros := p42
          obtain ⟨ya, yc, hy⟩ := own_form p42
          rw [zeros_length] at hy
          subst hy
          obtain ⟨x0, x1, x2, r1, r2, r3, ys1, ys2, m, hx⟩ := id hI
          have hb := below_new w6 (.cells #[.slice ya 64 yc] 31)
          exact st_yield ho (wanted_none rfl) (.slice (some ⟨w6.heap.size, 0, none⟩) 1 1) (w6.alloc (.cells #[.slice ya 64 yc] 31)) (by simp [execOp, Act.eval, h42, go_sem]) ⟨_, rfl, IY.keep 15 (by decide) 43 (by decide) _ hb hI, fun t u _ => VX.below t u hb, by rintro t' ⟨⟩; exact ⟨_, _, rfl, heap_alloc_new w6 _, p42.below hb, fun e => Nat.lt_irrefl _ (hx.old _ (.inl e)), fun e => Nat.lt_irrefl _ (hx.old _ (.inr (.inl e))), fun e => Nat.lt_irrefl _ (hx.old _ (.inr (.inr e)))⟩⟩
        | 16, ho =>
          obtain rfl := Option.some.inj ho
          obtain ⟨v41, h41, p41⟩ := given_fed hg 41 (by decide +kernel)
          obtain ⟨v43, h43, p43⟩ := given_fed hg 43 (by decide +kernel)
          clear hg
          have hs : done 28 = false := by cases h : done 28 with | false => rfl | true => have := hsh 28 16 h (by decide +kernel); rw [hnot] at this; cases this
          obtain ⟨x0, x1, x2, r1, r2, r3, ys1, ys2, m, hx⟩ := hI
          have e := hx.p2
          rw [if_neg (by rw [hnot]; decide)] at e
          obtain ⟨e, hyl⟩ := e
          have p41 : v41 = v2 := p41
          rw [p41] at h41
          obtain ⟨hh, u, rfl, hc, hu, -⟩ := p43
          have hu0 : Own 5 w6 w.heap.size u zeros := hu
          obtain ⟨ua, uc, hue⟩ := own_form hu0
          refine st_list ho (wanted_none rfl) fun Q' hQ => ?_
          refine wpList_append_where w6 rfl (.tmp 41) (.tmp 43) 27 rfl w.heap.size 31 Try.underlying27 (.slice none 0 0) 1 24 infoS rfl (by decide) v2 ys2.length ys2 (by simp [Act.eval, h41]) (by rw [← e]; exact hx.wj.o2) ⟨hh, 0, none⟩ 1 1 [u] (by simp [Act.eval, h43]) rfl (fun j x hj => by
            match j, hj with
            | 0, hj =>
              obtain rfl := Option.some.inj hj
              rw [Addr.add_mid, cell_of_row w6 hh _ _ _ _ hc]; rfl
            | j + 1, hj => simp at hj) (by intro x hx2; obtain rfl := List.mem_singleton.1 hx2; rw [hue]; rfl) (by unfold maxLen; omega) (by omega) hx.size ?_
          intro y w7 ho7 hg7 hw7
          rw [← e] at hg7 hw7
          have ho7' : OwnV 31 w7 w.heap.size y (ys2 ++ [u]) := by unfold OwnV; rw [List.length_append]; exact ho7
          refine wpList_nil (hQ _ _ ⟨y, rfl, ⟨x0, x1, x2, r1, y, r3, ys1, ys2 ++ [u], m, hx.wj.grow2 hg7 ho7' hu0 hw7, hx.dv.grown hx.wj.o2 (by decide) (by decide) hg7, hx.bel.trans (grown_below hg7 hx.size hx.wj.o2.row), Nat.le_trans hx.size hg7.size, fun j hj => Nat.lt_of_lt_of_le (hx.old j hj) hg7.size, ?_, ?_, ?_, ?_, ?_, ?_⟩, fun t x _ => VX.grown t x hx.wj.o2 (by decide) (.inr (.inl e)) hg7, by rintro t' ⟨⟩; trivial⟩)
          · show (if doneToo done 16 9 = true then (a.put (some 44) y).tmps[37]? = some r1 ∧ ys1.length = i + 1 else r1 = v1 ∧ ys1.length = i)
            rw [doneToo_other (show (9 : Nat) ≠ 16 by decide), put_other (show (37 : Nat) ≠ 44 by decide)]
            exact hx.p1
          · rw [doneToo_self, if_pos rfl]; exact ⟨put_same (by rw [hlen]; exact (show (44 : Nat) < 150 by decide)), by rw [List.length_append, hyl]; rfl⟩
          · show (if doneToo done 16 22 = true then (a.put (some 44) y).tmps[50]? = some r3 ∧ m = i + 1 else r3 = v3 ∧ m = i)
            rw [doneToo_other (show (22 : Nat) ≠ 16 by decide), put_other (show (50 : Nat) ≠ 44 by decide)]
            exact hx.p3
          · rw [doneToo_other (show (25 : Nat) ≠ 16 by decide)]; exact hx.s1
          · rw [doneToo_other (show (28 : Nat) ≠ 16 by decide), if_neg (by rw [hs]; decide)]; have := hx.s2; rwa [if_neg (by rw [hs]; decide)] at this
          · rw [doneToo_other (show (31 : Nat) ≠ 16 by decide)]; exact hx.s3
        | 17, ho =>
          obtain rfl := Option.some.inj ho
          have h7 := given_old hg 7 (by decide +kernel)
          clear hg
          exact st_yield ho (wanted_none rfl) (.pointer (some ⟨q, 0, none⟩)) w6 (by simp [execOp, Act.eval, h7, go_sem]) ⟨_, rfl, IY.keep 17 (by decide) 45 (by decide) _ (Below.refl _ _) hI, fun _ _ _ h => h, by rintro t' ⟨⟩; rfl⟩
        | 18, ho =>
          obtain rfl := Option.some.inj ho
          obtain ⟨_, h45, rfl⟩ := given_fed hg 45 (by decide +kernel)
          clear hg
          exact st_yield ho (wanted_none rfl) (.pointer (some ⟨q, 0, none⟩)) w6 (by simp [execOp, Act.eval, h45, go_sem]) ⟨_, rfl, IY.keep 18 (by decide) 46 (by decide) _ (Below.refl _ _) hI, fun _ _ _ h => h, by rintro t' ⟨⟩; rfl⟩
        | 19, ho =>
          obtain rfl := Option.some.inj ho
          obtain ⟨_, h46, rfl⟩ := given_fed hg 46 (by decide +kernel)
          clear hg
          exact st_yield ho (wanted_none rfl) (.pointer (some ⟨q, 2, none⟩)) w6 (by simp [execOp, Act.eval, h46, go_sem]) ⟨_, rfl, IY.keep 19 (by decide) 47 (by decide) _ (Below.refl _ _) hI, fun _ _ _ h => h, by rintro t' ⟨⟩; rfl⟩
        | 20, ho =>
          obtain rfl := Option.some.inj ho
          obtain ⟨_, h47, rfl⟩ := given_fed hg 47 (by decide +kernel)
          clear hg
          have hs : done 31 = false := by cases h : done 31 with | false => rfl | true => have := hsh 31 20 h (by decide +kernel); rw [hnot] at this; cases this
          obtain ⟨x0, x1, x2, r1, r2, r3, ys1, ys2, m, hx⟩ := id hI
          have e := hx.s3
          rw [if_neg (by rw [hs]; decide)] at e
          have k0 : w6.cell? ⟨q, 2, none⟩ = some v3 := by rw [cell_of_row w6 q 2 _ _ _ hx.wj.blk, ← e]; rfl
          exact st_yield ho (wanted_none rfl) v3 w6 (by simp [execOp, Act.eval, h47, go_sem, k0]) ⟨_, rfl, IY.keep 20 (by decide) 48 (by decide) _ (Below.refl _ _) hI, fun _ _ _ h => h, by rintro t' ⟨⟩; rfl⟩
        | 21, ho =>
          obtain rfl := Option.some.inj ho
          clear hg
          obtain ⟨x0, x1, x2, r1, r2, r3, ys1, ys2, m, hx⟩ := id hI
          have hb := below_new w6 (.cells #[.bool false] 4)
          exact st_yield ho (wanted_none rfl) (.slice (some ⟨w6.heap.size, 0, none⟩) 1 1) (w6.alloc (.cells #[.bool false] 4)) (by simp [execOp, Act.eval, go_sem]) ⟨_, rfl, IY.keep 21 (by decide) 49 (by decide) _ hb hI, fun t u _ => VX.below t u hb, by rintro t' ⟨⟩; exact ⟨_, rfl, heap_alloc_new w6 _, fun e => Nat.lt_irrefl _ (hx.old _ (.inl e)), fun e => Nat.lt_irrefl _ (hx.old _ (.inr (.inl e))), fun e => Nat.lt_irrefl _ (hx.old _ (.inr (.inr e)))⟩⟩
        | 22, ho =>
          obtain rfl := Option.some.inj ho
          obtain ⟨v48, h48, p48⟩ := given_fed hg 48 (by decide +kernel)
          obtain ⟨v49, h49, p49⟩ := given_fed hg 49 (by decide +kernel)
          clear hg
          have hs : done 31 = false := by cases h : done 31 with | false => rfl | true => have := hsh 31 22 h (by decide +kernel); rw [hnot] at this; cases this
          obtain ⟨x0, x1, x2, r1, r2, r3, ys1, ys2, m, hx⟩ := hI
          have e := hx.p3
          rw [if_neg (by rw [hnot]; decide)] at e
          obtain ⟨e, hyl⟩ := e
          have p48 : v48 = v3 := p48
          rw [p48] at h48
          obtain ⟨hh, rfl, hc, -⟩ := p49
          refine st_list ho (wanted_none rfl) fun Q' hQ => ?_
          refine wpList_append_where w6 rfl (.tmp 48) (.tmp 49) 28 rfl w.heap.size 4 Try.underlying28 (.bool false) 1 1 infoB rfl (by decide) v3 (zb (List.replicate m false)).length (zb (List.replicate m false)) (by simp [Act.eval, h48]) (by rw [← e]; exact hx.wj.o3) ⟨hh, 0, none⟩ 1 1 [.bool false] (by simp [Act.eval, h49]) rfl (fun j x hj => by
            match j, hj with
            | 0, hj =>
              obtain rfl := Option.some.inj hj
              rw [Addr.add_mid, cell_of_row w6 hh _ _ _ _ hc]; rfl
            | j + 1, hj => simp at hj) (by intro x hx2; obtain rfl := List.mem_singleton.1 hx2; rfl) (by rw [zb_length, List.length_replicate]; unfold maxLen; omega) (by rw [zb_length, List.length_replicate]; omega) hx.size ?_
          intro y w7 ho7 hg7 _
          rw [← e] at hg7
          have ho7' : OwnV 4 w7 w.heap.size y (zb (List.replicate (m + 1) false)) := by
            rw [show List.replicate (m + 1) false = List.replicate m false ++ [false] from by rw [List.replicate_succ']]
            rw [zb_append]
            unfold OwnV
            rw [List.length_append]
            exact ho7
          refine wpList_nil (hQ _ _ ⟨y, rfl, ⟨x0, x1, x2, r1, r2, y, ys1, ys2, m + 1, hx.wj.grow3 hg7 ho7', hx.dv.grown hx.wj.o3 (by decide) (by decide) hg7, hx.bel.trans (grown_below hg7 hx.size hx.wj.o3.row), Nat.le_trans hx.size hg7.size, fun j hj => Nat.lt_of_lt_of_le (hx.old j hj) hg7.size, ?_, ?_, ?_, ?_, ?_, ?_⟩, fun t x _ => VX.grown t x hx.wj.o3 (by decide) (.inr (.inr e)) hg7, by rintro t' ⟨⟩; trivial⟩)
          · show (if doneToo done 22 9 = true then (a.put (some 50) y).tmps[37]? = some r1 ∧ ys1.length = i + 1 else r1 = v1 ∧ ys1.length = i)
            rw [doneToo_other (show (9 : Nat) ≠ 22 by decide), put_other (show (37 : Nat) ≠ 50 by decide)]
            exact hx.p1
          · show (if doneToo done 22 16 = true then (a.put (some 50) y).tmps[44]? = some r2 ∧ ys2.length = i + 1 else r2 = v2 ∧ ys2.length = i)
            rw [doneToo_other (show (16 : Nat) ≠ 22 by decide), put_other (show (44 : Nat) ≠ 50 by decide)]
            exact hx.p2
          · rw [doneToo_self, if_pos rfl]; exact ⟨put_same (by rw [hlen]; exact (show (50 : Nat) < 150 by decide)), by rw [hyl]⟩
          · rw [doneToo_other (show (25 : Nat) ≠ 22 by decide)]; exact hx.s1
          · rw [doneToo_other (show (28 : Nat) ≠ 22 by decide)]; exact hx.s2
          · rw [doneToo_other (show (31 : Nat) ≠ 22 by decide), if_neg (by rw [hs]; decide)]; have := hx.s3; rwa [if_neg (by rw [hs]; decide)] at this
        | 23, ho =>
          obtain rfl := Option.some.inj ho
          obtain ⟨_, h28, rfl⟩ := given_fed hg 28 (by decide +kernel)
          clear hg
          exact st_yield ho (wanted_none rfl) (.pointer (some ⟨q, 0, none⟩)) w6 (by simp [execOp, Act.eval, h28, go_sem]) ⟨_, rfl, IY.keep 23 (by decide) 51 (by decide) _ (Below.refl _ _) hI, fun _ _ _ h => h, by rintro t' ⟨⟩; rfl⟩
        | 24, ho =>
          obtain rfl := Option.some.inj ho
          obtain ⟨_, h51, rfl⟩ := given_fed hg 51 (by decide +kernel)
          clear hg
          exact st_yield ho (wanted_none rfl) (.pointer (some ⟨q, 0, none⟩)) w6 (by simp [execOp, Act.eval, h51, go_sem]) ⟨_, rfl, IY.keep 24 (by decide) 52 (by decide) _ (Below.refl _ _) hI, fun _ _ _ h => h, by rintro t' ⟨⟩; rfl⟩
        | 25, ho =>
          obtain rfl := Option.some.inj ho
          obtain ⟨_, h52, rfl⟩ := given_fed hg 52 (by decide +kernel)
          obtain ⟨v37, h37, p37⟩ := given_fed hg 37 (by decide +kernel)
          clear hg
          have hap : done 9 = true := hr 9 (by decide +kernel)
          obtain ⟨x0, x1, x2, r1, r2, r3, ys1, ys2, m, hx⟩ := hI
          have e := hx.p1
          rw [if_pos hap, h37] at e
          have e1 := Option.some.inj e.1
          subst e1
          obtain ⟨ra, rn, rc, hre⟩ : ∃ a n c, v37 = .slice a n c := by
            obtain ⟨a, c, hh, -⟩ := hx.wj.o1.rv.form
            exact ⟨_, _, _, hh⟩
          have hfz : w6.frozen? ⟨q, 0, none⟩ = false := frozen_of_row w6 q 0 _ _ hx.wj.blk
          have k0 : w6.cell? ⟨q, 0, none⟩ = some x0 := by rw [cell_of_row w6 q 0 _ _ _ hx.wj.blk]; rfl
          refine st_done ho (wanted_none rfl) (w6.setCell ⟨q, 0, none⟩ v37) (by rw [hre] at h37 ⊢; simp [execOp, Act.eval, h37, h52, go_sem, hfz, k0]) ⟨_, rfl, ⟨v37, x1, x2, v37, r2, r3, ys1, ys2, m, hx.wj.store0 _, hx.dv.setOf hx.wj.blk (by decide) (by decide) _, hx.bel.setCell (by exact hx.wj.lq) _, by simpa [World.setCell] using hx.size, fun j hj => by simpa [World.setCell] using hx.old j hj, ?_, ?_, ?_, ?_, ?_, ?_⟩, fun t u _ => VX.set t u _ hx.wj.blk, by rintro t' ⟨⟩⟩
          · rw [doneToo_other (show (9 : Nat) ≠ 25 by decide)]; exact hx.p1
          · rw [doneToo_other (show (16 : Nat) ≠ 25 by decide)]; exact hx.p2
          · rw [doneToo_other (show (22 : Nat) ≠ 25 by decide)]; exact hx.p3
          · rw [doneToo_self, if_pos rfl]
          · rw [doneToo_other (show (28 : Nat) ≠ 25 by decide)]; exact hx.s2
          · rw [doneToo_other (show (31 : Nat) ≠ 25 by decide)]; exact hx.s3
        | 26, ho =>
          obtain rfl := Option.some.inj ho
          obtain ⟨_, h29, rfl⟩ := given_fed hg 29 (by decide +kernel)
          clear hg
          exact st_yield ho (wanted_none rfl) (.pointer (some ⟨q, 0, none⟩)) w6 (by simp [execOp, Act.eval, h29, go_sem]) ⟨_, rfl, IY.keep 26 (by decide) 53 (by decide) _ (Below.refl _ _) hI, fun _ _ _ h => h, by rintro t' ⟨⟩; rfl⟩
        | 27, ho =>
          obtain rfl := Option.some.inj ho
          obtain ⟨_, h53, rfl⟩ := given_fed hg 53 (by decide +kernel)
          clear hg
          exact st_yield ho (wanted_none rfl) (.pointer (some ⟨q, 1, none⟩)) w6 (by simp [execOp, Act.eval, h53, go_sem]) ⟨_, rfl, IY.keep 27 (by decide) 54 (by decide) _ (Below.refl _ _) hI, fun _ _ _ h => h, by rintro t' ⟨⟩; rfl⟩
        | 28, ho =>
          obtain rfl := Option.some.inj ho
          obtain ⟨_, h54, rfl⟩ := given_fed hg 54 (by decide +kernel)
          obtain ⟨v44, h44, p44⟩ := given_fed hg 44 (by decide +kernel)
          clear hg
          have hap : done 16 = true := hr 16 (by decide +kernel)
          obtain ⟨x0, x1, x2, r1, r2, r3, ys1, ys2, m, hx⟩ := hI
          have e := hx.p2
          rw [if_pos hap, h44] at e
          have e1 := Option.some.inj e.1
          subst e1
          obtain ⟨ra, rn, rc, hre⟩ : ∃ a n c, v44 = .slice a n c := by
            obtain ⟨a, c, hh, -⟩ := hx.wj.o2.rv.form
            exact ⟨_, _, _, hh⟩
          have hfz : w6.frozen? ⟨q, 1, none⟩ = false := frozen_of_row w6 q 1 _ _ hx.wj.blk
          have k0 : w6.cell? ⟨q, 1, none⟩ = some x1 := by rw [cell_of_row w6 q 1 _ _ _ hx.wj.blk]; rfl
          refine st_done ho (wanted_none rfl) (w6.setCell ⟨q, 1, none⟩ v44) (by rw [hre] at h44 ⊢; simp [execOp, Act.eval, h44, h54, go_sem, hfz, k0]) ⟨_, rfl, ⟨x0, v44, x2, r1, v44, r3, ys1, ys2, m, hx.wj.store1 _, hx.dv.setOf hx.wj.blk (by decide) (by decide) _, hx.bel.setCell (by exact hx.wj.lq) _, by simpa [World.setCell] using hx.size, fun j hj => by simpa [World.setCell] using hx.old j hj, ?_, ?_, ?_, ?_, ?_, ?_⟩, fun t u _ => VX.set t u _ hx.wj.blk, by rintro t' ⟨⟩⟩
          · rw [doneToo_other (show (9 : Nat) ≠ 28 by decide)]; exact hx.p1
          · rw [doneToo_other (show (16 : Nat) ≠ 28 by decide)]; exact hx.p2
          · rw [doneToo_other (show (22 : Nat) ≠ 28 by decide)]; exact hx.p3
          · rw [doneToo_other (show (25 : Nat) ≠ 28 by decide)]; exact hx.s1
          · rw [doneToo_self, if_pos rfl]
          · rw [doneToo_other (show (31 : Nat) ≠ 28 by decide)]; exact hx.s3
        | 29, ho =>
          obtain rfl := Option.some.inj ho
          obtain ⟨_, h30, rfl⟩ := given_fed hg 30 (by decide +kernel)
          clear hg
          exact st_yield ho (wanted_none rfl) (.pointer (some ⟨q, 0, none⟩)) w6 (by simp [execOp, Act.eval, h30, go_sem]) ⟨_, rfl, IY.keep 29 (by decide) 55 (by decide) _ (Below.refl _ _) hI, fun _ _ _ h => h, by rintro t' ⟨⟩; rfl⟩
        | 30, ho =>
          obtain rfl := Option.some.inj ho
          obtain ⟨_, h55, rfl⟩ := given_fed hg 55 (by decide +kernel)
          clear hg
          exact st_yield ho (wanted_none rfl) (.pointer (some ⟨q, 2, none⟩)) w6 (by simp [execOp, Act.eval, h55, go_sem]) ⟨_, rfl, IY.keep 30 (by decide) 56 (by decide) _ (Below.refl _ _) hI, fun _ _ _ h => h, by rintro t' ⟨⟩; rfl⟩
        | 31, ho =>
          obtain rfl := Option.some.inj ho
          obtain ⟨_, h56, rfl⟩ := given_fed hg 56 (by decide +kernel)
          obtain ⟨v50, h50, p50⟩ := given_fed hg 50 (by decide +kernel)
          clear hg
          have hap : done 22 = true := hr 22 (by decide +kernel)
          obtain ⟨x0, x1, x2, r1, r2, r3, ys1, ys2, m, hx⟩ := hI
          have e := hx.p3
          rw [if_pos hap, h50] at e
          have e1 := Option.some.inj e.1
          subst e1
          obtain ⟨ra, rn, rc, hre⟩ : ∃ a n c, v50 = .slice a n c := by
            obtain ⟨a, c, hh, -⟩ := hx.wj.o3.rv.form
            exact ⟨_, _, _, hh⟩
          have hfz : w6.frozen? ⟨q, 2, none⟩ = false := frozen_of_row w6 q 2 _ _ hx.wj.blk
          have k0 : w6.cell? ⟨q, 2, none⟩ = some x2 := by rw [cell_of_row w6 q 2 _ _ _ hx.wj.blk]; rfl
          refine st_done ho (wanted_none rfl) (w6.setCell ⟨q, 2, none⟩ v50) (by rw [hre] at h50 ⊢; simp [execOp, Act.eval, h50, h56, go_sem, hfz, k0]) ⟨_, rfl, ⟨x0, x1, v50, r1, r2, v50, ys1, ys2, m, hx.wj.store2 _, hx.dv.setOf hx.wj.blk (by decide) (by decide) _, hx.bel.setCell (by exact hx.wj.lq) _, by simpa [World.setCell] using hx.size, fun j hj => by simpa [World.setCell] using hx.old j hj, ?_, ?_, ?_, ?_, ?_, ?_⟩, fun t u _ => VX.set t u _ hx.wj.blk, by rintro t' ⟨⟩⟩
          · rw [doneToo_other (show (9 : Nat) ≠ 31 by decide)]; exact hx.p1
          · rw [doneToo_other (show (16 : Nat) ≠ 31 by decide)]; exact hx.p2
          · rw [doneToo_other (show (22 : Nat) ≠ 31 by decide)]; exact hx.p3
          · rw [doneToo_other (show (25 : Nat) ≠ 31 by decide)]; exact hx.s1
          · rw [doneToo_other (show (28 : Nat) ≠ 31 by decide)]; exact hx.s2
          · rw [doneToo_self, if_pos rfl]
        | j + 32, ho => simp at ho
      intro f w6 done hall hI hv
      obtain ⟨x0, x1, x2, r1, r2, r3, ys1, ys2, m, hx⟩ := hI
      have e1 := hx.p1
      have e2 := hx.p2
      have e3 := hx.p3
      have e4 := hx.s1
      have e5 := hx.s2
      have e6 := hx.s3
      rw [if_pos (hall _ (by decide))] at e1 e2 e3 e4 e5 e6
      obtain ⟨-, e1⟩ := e1
      obtain ⟨-, e2⟩ := e2
      obtain ⟨-, e3⟩ := e3
      subst e4 e5 e6 e3
      have HWI2 := hid (show WI w6 w.heap.size q (i + 1) x0 x1 x2 ys1 ys2 from ⟨hx.wj.blk, hx.wj.o1, hx.wj.o2, hx.wj.o3, e1, e2, hx.wj.e1, hx.wj.e2, hx.wj.ne, hx.wj.lq⟩)
      have HDV2 := hid hx.dv
      have HBW2 := hid (HBW0.out.trans hx.bel)
      clear hx hv hall e1 e2
      unfold putAll
      simp only [List.foldl]
      go_simp
      go_wp2_with fail
      go_roundw
      case rel => exact ⟨i + 1, _, _, _, _, _, by omega, by rw [HW1.out], HWI2.out, HDV2.out, HBW2.out⟩
      case measure => simp only [intOf]; omega
    · obtain rfl : i = n := by omega
      obtain ⟨g1, c1, g2, c2, g3, c3, wv⟩ := wi.wv hn1
      have HWV := hid wv
      have HDV := hid hdv
      have HBW := hid hbw
      clear wi hdv hbw wv
      go_wp2_with fail
      go_loopw [6, 9] (fun u c wx => ∃ (k d g : Nat) (X1 X2 : Nat → Value) (S : Nat → Sec) (L : Life), k ≤ len1 ∧ k ≤ 50 ∧ c = .int .i64 (k : Int) ∧ u = .pointer (some ⟨d, 0, none⟩) ∧ DV wx w.heap.size d g i S L ∧ WV wx w.heap.size q g1 c1 g2 c2 g3 c3 i X1 X2 S L.calls (fuseOf L) ∧ Clean S i ∧ L.calls ≤ k ∧ Below w.heap.size w wx) (fun _ c _ => len1 - (intOf c).toNat)
      case atStart => exact ⟨0, d, g, _, _, newS, born, by omega, by omega, rfl, rfl, HDV.out, HWV.out, Clean.new i, by decide, HBW.out⟩
      case round =>
        obtain ⟨k, d, g, X1, X2, S, L, hk, hk50, rfl, rfl, hdv, hwv, hcl, hlc, hbw⟩ := hrel
        clear HWV HDV HBW
        by_cases hkl : k < len1
        · by_cases hk5 : k < 50
          · obtain ⟨ob, oo, x, rfl, hok, -, o0, o1, o2, o3⟩ := HO.out.get k hkl
            have hkI : (k : Int) < (len1 : Int) := by omega
            have hk5I : (k : Int) < 50 := by omega
            have HW := hid (show (k : Int) + 1 = ((k + 1 : Nat) : Int) from by omega)
            obtain ⟨kind, at_, bv, bs, kv, ks⟩ := x
            simp only at o0 o1 o2 o3
            have hol := World.block_lt_of_cell? w _ o0
            have o0 := (hbw.cell (by exact hol)).trans o0
            have o1 := (hbw.cell (by exact hol)).trans o1
            have o2 := (hbw.cell (by exact hol)).trans o2
            have o3 := (hbw.cell (by exact hol)).trans o3
            have hrb : RB w bv bs := hok.rb
            have hrk : RV w kv (zb ks) := hok.rk
            have hwa : (Lit.int .i64 at_).wf = true := hok.wa
            obtain ⟨p0, p1⟩ := bounds_i64 hwa
            have p1 : at_ ≤ 9223372036854775807 := by omega
            clear hok hwa
            obtain ⟨ka, kcap, rfl, -, -⟩ := hrk.zbForm
            obtain ⟨ba, bcap, rfl, -, -, -⟩ := id hrb
            have HRB := hid hrb
            have HRK := hid hrk
            have HDV0 := hid hdv
            have HWV0 := hid hwv
            have HCL := hid hcl
            have HLC := hid hlc
            have HBW := hid hbw
            clear hrb hrk hdv hwv hcl hlc hbw hol
            go_upto_region 16 with (first
              | (refine (short_w _ bs 70 _ ((HRB.out.below HBW.out).below (below_new wr _)) (by omega)).mono ?_; rintro e wsh ⟨⟨bv2, rfl, hb2⟩, rfl⟩; have hb2 := hb2 w HRB.out; generalize bs.take 70 = bt at hb2; obtain ⟨b2a, b2c, rfl, b2l, b2m, -⟩ := id hb2; have HB2 := hid hb2; clear hb2))
            have hbn := below_new wr (.cells #[.int .i64 kind, .int .i64 at_, .slice b2a bt.length b2c, .slice ka ks.length kcap] 33)
            have hnw := heap_alloc_new wr (.cells #[.int .i64 kind, .int .i64 at_, .slice b2a bt.length b2c, .slice ka ks.length kcap] 33)
            have z0 := cell_of_row _ wr.heap.size 0 _ _ _ hnw
            have z1 := cell_of_row _ wr.heap.size 1 _ _ _ hnw
            have z2 := cell_of_row _ wr.heap.size 2 _ _ _ hnw
            have z3 := cell_of_row _ wr.heap.size 3 _ _ _ hnw
            simp only [List.getElem?_toArray, List.getElem?_cons_zero, List.getElem?_cons_succ] at z0 z1 z2 z3
            have HDV := hid (HDV0.out.below hbn)
            have HWV := hid (HWV0.out.below hbn)
            have HBO := hid (HBW.out.trans (hbn.mono HBW.out.size))
            have HBT := hid (HB2.out.below HBO.out)
            have hop := hid (show wr.heap.size ≠ d from by have := HDV0.out.lt; omega)
            have hog := hid (show wr.heap.size ≠ g from by have := HDV0.out.ltg; omega)
            clear hbn hnw HDV0 HWV0 HBW HRB o0 o1 o2 o3
            unfold maxLen at b2m
            generalize wr.alloc (.cells #[.int .i64 kind, .int .i64 at_, .slice b2a bt.length b2c, .slice ka ks.length kcap] 33) = wo at *
            generalize wr.heap.size = bo at *
            have CW := hid (wdead_c HWV.out)
            rw [← fuse_dead HDV.out.ok] at CW
            have HLC1 := hid (show L.calls ≤ ((k + 1 : Nat) : Int) from by have := HLC.out; omega)
            have hcm := hid (show L.calls < 1000000 from by have := HLC.out; omega)
            have hc0 := hid HDV.out.ok.c0
            have hc1 := hid (show L.tick.calls ≤ ((k + 1 : Nat) : Int) from by rw [Life.tick_calls]; have := HLC.out; omega)
            have hBs := hid HBO.out.size
            by_cases hk0 : kind = 0
            · subst hk0
              cases hd : L.dead with
              | true =>
                rw [hd] at CW
                have C2 := hid (dwrite_dead HDV.out hd at_ (.slice b2a bt.length b2c))
                clear hd
                go_wp2_with fail
                refine CW.out.mono ?_
                rintro e wx ⟨rfl, rfl⟩
                go_wp2_with fail
                refine C2.out.mono ?_
                rintro e wx ⟨rfl, rfl⟩
                have HDV2 := HDV
                have HWV2 := HWV
                have HCL2 := HCL
                have HLC2 := HLC1
                have HBZ2 := HBO
                clear C2 CW HDV HWV
                go_wp2_with fail
                refine (same_c HWV2.out HDV2.out rfl (fuse_dead HDV2.out.ok) hn8).mono ?_
                rintro e wt ⟨rfl, hbt⟩
                have HDV3 := hid (HDV2.out.below hbt)
                have HWV3 := hid (HWV2.out.below hbt)
                have HBZ3 := hid (HBZ2.out.trans (hbt.mono HBZ2.out.size))
                clear hbt HDV2 HWV2 HBZ2
                go_wp2_with fail
                go_roundw
                case rel => exact ⟨k + 1, _, _, _, _, _, _, by omega, by omega, by rw [HW.out], rfl, HDV3.out, HWV3.out, HCL2.out, HLC2.out, HBZ3.out⟩
                case measure => simp only [intOf]; omega
              | false =>
                rw [hd] at CW
                by_cases hlo : at_ < 0
                · have C2 := hid (dwrite_out HDV.out hd at_ (.inl hlo) (.slice b2a bt.length b2c))
                  clear hd
                  go_wp2_with fail
                  refine CW.out.mono ?_
                  rintro e wx ⟨rfl, rfl⟩
                  go_wp2_with fail
                  refine C2.out.mono ?_
                  rintro e wx ⟨rfl, rfl⟩
                  have HDV2 := HDV
                  have HWV2 := HWV
                  have HCL2 := HCL
                  have HLC2 := HLC1
                  have HBZ2 := HBO
                  clear C2 CW HDV HWV
                  go_wp2_with fail
                  refine (same_c HWV2.out HDV2.out rfl (fuse_dead HDV2.out.ok) hn8).mono ?_
                  rintro e wt ⟨rfl, hbt⟩
                  have HDV3 := hid (HDV2.out.below hbt)
                  have HWV3 := hid (HWV2.out.below hbt)
                  have HBZ3 := hid (HBZ2.out.trans (hbt.mono HBZ2.out.size))
                  clear hbt HDV2 HWV2 HBZ2
                  go_wp2_with fail
                  go_roundw
                  case rel => exact ⟨k + 1, _, _, _, _, _, _, by omega, by omega, by rw [HW.out], rfl, HDV3.out, HWV3.out, HCL2.out, HLC2.out, HBZ3.out⟩
                  case measure => simp only [intOf]; omega
                · by_cases hhi : (i : Int) ≤ at_
                  · have C2 := hid (dwrite_out HDV.out hd at_ (.inr hhi) (.slice b2a bt.length b2c))
                    clear hd
                    go_wp2_with fail
                    refine CW.out.mono ?_
                    rintro e wx ⟨rfl, rfl⟩
                    go_wp2_with fail
                    refine C2.out.mono ?_
                    rintro e wx ⟨rfl, rfl⟩
                    have HDV2 := HDV
                    have HWV2 := HWV
                    have HCL2 := HCL
                    have HLC2 := HLC1
                    have HBZ2 := HBO
                    clear C2 CW HDV HWV
                    go_wp2_with fail
                    refine (same_c HWV2.out HDV2.out rfl (fuse_dead HDV2.out.ok) hn8).mono ?_
                    rintro e wt ⟨rfl, hbt⟩
                    have HDV3 := hid (HDV2.out.below hbt)
                    have HWV3 := hid (HWV2.out.below hbt)
                    have HBZ3 := hid (HBZ2.out.trans (hbt.mono HBZ2.out.size))
                    clear hbt HDV2 HWV2 HBZ2
                    go_wp2_with fail
                    go_roundw
                    case rel => exact ⟨k + 1, _, _, _, _, _, _, by omega, by omega, by rw [HW.out], rfl, HDV3.out, HWV3.out, HCL2.out, HLC2.out, HBZ3.out⟩
                    case measure => simp only [intOf]; omega
                  · by_cases hln : 64 < bt.length
                    · have C2 := hid (dwrite_long HDV.out hd at_ (by omega) (by omega) (.slice b2a bt.length b2c) bt HBT.out hln)
                      have hlnI : (64 : Int) < (bt.length : Int) := by omega
                      clear hd
                      generalize bt.length = bl at *
                      go_wp2_with fail
                      refine CW.out.mono ?_
                      rintro e wx ⟨rfl, rfl⟩
                      go_wp2_with fail
                      refine C2.out.mono ?_
                      rintro e wx ⟨rfl, rfl⟩
                      have HDV2 := HDV
                      have HWV2 := HWV
                      have HCL2 := HCL
                      have HLC2 := HLC1
                      have HBZ2 := HBO
                      clear C2 CW HDV HWV
                      go_wp2_with fail
                      refine (same_c HWV2.out HDV2.out rfl (fuse_dead HDV2.out.ok) hn8).mono ?_
                      rintro e wt ⟨rfl, hbt⟩
                      have HDV3 := hid (HDV2.out.below hbt)
                      have HWV3 := hid (HWV2.out.below hbt)
                      have HBZ3 := hid (HBZ2.out.trans (hbt.mono HBZ2.out.size))
                      clear hbt HDV2 HWV2 HBZ2
                      go_wp2_with fail
                      go_roundw
                      case rel => exact ⟨k + 1, _, _, _, _, _, _, by omega, by omega, by rw [HW.out], rfl, HDV3.out, HWV3.out, HCL2.out, HLC2.out, HBZ3.out⟩
                      case measure => simp only [intOf]; omega
                    · obtain ⟨a, rfl⟩ : ∃ a : Nat, at_ = (a : Int) := ⟨at_.toNat, by omega⟩
                      have hai : a < i := by omega
                      have C2 := hid (dwrite_c HDV.out hd hcm.out a hai (.slice b2a bt.length b2c) bt HBT.out (by omega))
                      have hlnI : (bt.length : Int) ≤ 64 := by omega
                      have hHD := hid hd
                      clear hd
                      have HLN := hid (show bt.length ≤ 64 from by omega)
                      obtain ⟨bl, hbl⟩ : ∃ bl, bt.length = bl := ⟨_, rfl⟩
                      rw [hbl] at C2 z2 hlnI b2l HBT HB2 hln ⊢
                      have HBL := hid hbl
                      clear hbl
                      go_wp2_with fail
                      refine CW.out.mono ?_
                      rintro e wx ⟨rfl, rfl⟩
                      go_wp2_with fail
                      refine C2.out.mono ?_
                      rintro e wx ⟨rfl, hd2, ht2⟩
                      have z1' := ht2.cell z1 hop.out hog.out
                      have z2' := ht2.cell z2 hop.out hog.out
                      have HWV1 := hid (HWV.out.two HDV.out ht2)
                      have HBO1 := hid (HBO.out.trans (ht2.belowDV HDV.out HBO.out.size))
                      have hrbx := hid (HB2.out.below HBO1.out)
                      have HD2 := hid hd2
                      have C3 := hid (wwrites_c HWV1.out (fuse_lo HDV.out.ok) (fuse_hi HDV.out.ok) hc0.out (by have := hcm.out; omega) a hai (.slice b2a bl b2c) bt hrbx.out HLN.out HBO1.out.size hn8)
                      rw [burn_tick HDV.out.ok hHD.out] at C3
                      clear hd2 ht2 z1 z2 z0 z3 HDV HWV HBO C2 CW
                      go_wp2_with fail
                      refine C3.out.mono ?_
                      rintro e wy ⟨rfl, X1', hwv2, hf2⟩
                      have HDV2 := hid (HD2.out.far HWV1.out hf2)
                      have HWV2 := hid (show WV wy w.heap.size q g1 c1 g2 c2 g3 c3 i X1' X2 (wrS S a bt) L.tick.calls (fuseOf L.tick) from hwv2)
                      have HCL2 := hid (HCL.out.wr a bt)
                      have HLC2 := hc1
                      have HBZ2 := hid (HBO1.out.trans (hf2.belowWV HWV1.out HBO1.out.size))
                      clear hwv2 hf2 HD2 HWV1 HBO1 C3
                      go_wp2_with fail
                      refine (same_c HWV2.out HDV2.out rfl (fuse_dead HDV2.out.ok) hn8).mono ?_
                      rintro e wt ⟨rfl, hbt⟩
                      have HDV3 := hid (HDV2.out.below hbt)
                      have HWV3 := hid (HWV2.out.below hbt)
                      have HBZ3 := hid (HBZ2.out.trans (hbt.mono HBZ2.out.size))
                      clear hbt HDV2 HWV2 HBZ2
                      go_wp2_with fail
                      go_roundw
                      case rel => exact ⟨k + 1, _, _, _, _, _, _, by omega, by omega, by rw [HW.out], rfl, HDV3.out, HWV3.out, HCL2.out, HLC2.out, HBZ3.out⟩
                      case measure => simp only [intOf]; omega
            · by_cases hk1 : kind = 1
              · subst hk1
                cases hd : L.dead with
                | true =>
                  rw [hd] at CW
                  have C2 := hid (dflush_dead HDV.out hd)
                  clear hd
                  go_wp2_with fail
                  refine CW.out.mono ?_
                  rintro e wx ⟨rfl, rfl⟩
                  go_wp2_with fail
                  refine C2.out.mono ?_
                  rintro e wx ⟨rfl, rfl⟩
                  have HDV2 := HDV
                  have HWV2 := HWV
                  have HCL2 := HCL
                  have HLC2 := HLC1
                  have HBZ2 := HBO
                  clear C2 CW HDV HWV
                  go_wp2_with fail
                  refine (same_c HWV2.out HDV2.out rfl (fuse_dead HDV2.out.ok) hn8).mono ?_
                  rintro e wt ⟨rfl, hbt⟩
                  have HDV3 := hid (HDV2.out.below hbt)
                  have HWV3 := hid (HWV2.out.below hbt)
                  have HBZ3 := hid (HBZ2.out.trans (hbt.mono HBZ2.out.size))
                  clear hbt HDV2 HWV2 HBZ2
                  go_wp2_with fail
                  go_roundw
                  case rel => exact ⟨k + 1, _, _, _, _, _, _, by omega, by omega, by rw [HW.out], rfl, HDV3.out, HWV3.out, HCL2.out, HLC2.out, HBZ3.out⟩
                  case measure => simp only [intOf]; omega
                | false =>
                  rw [hd] at CW
                  have C3 := hid (wflushes_c HWV.out (fuse_lo HDV.out.ok) (fuse_hi HDV.out.ok) hc0.out (by have := hcm.out; omega) hn8)
                  rw [burn_tick HDV.out.ok hd] at C3
                  have hHD := hid hd
                  clear hd
                  go_wp2_with fail
                  refine CW.out.mono ?_
                  rintro e wx ⟨rfl, rfl⟩
                  go_wp2_with fail
                  refine C3.out.mono ?_
                  rintro e wx ⟨rfl, X2', hwv1, hf1⟩
                  have HBO1 := hid (HBO.out.trans (hf1.belowWV HWV.out HBO.out.size))
                  have HDV1 := hid (HDV.out.far HWV.out hf1)
                  have HWV1 := hid (hwv1.congr (fun j hj => (HCL.out.fl_all j hj).symm))
                  have C2 := hid (dflush_c HDV1.out hHD.out hcm.out)
                  clear hwv1 hf1 HDV HWV HBO C3 CW
                  go_wp2_with fail
                  refine C2.out.mono ?_
                  rintro e wy ⟨rfl, hd2, ht2⟩
                  have HDV2 := hid hd2
                  have HWV2 := hid (show WV wy w.heap.size q g1 c1 g2 c2 g3 c3 i X1 X2' (flS S) L.tick.calls (fuseOf L.tick) from HWV1.out.two HDV1.out ht2)
                  have HCL2 := hid HCL.out.fl
                  have HLC2 := hc1
                  have HBZ2 := hid (HBO1.out.trans (ht2.belowDV HDV1.out HBO1.out.size))
                  clear hd2 ht2 HWV1 HDV1 HBO1 C2
                  go_wp2_with fail
                  refine (same_c HWV2.out HDV2.out rfl (fuse_dead HDV2.out.ok) hn8).mono ?_
                  rintro e wt ⟨rfl, hbt⟩
                  have HDV3 := hid (HDV2.out.below hbt)
                  have HWV3 := hid (HWV2.out.below hbt)
                  have HBZ3 := hid (HBZ2.out.trans (hbt.mono HBZ2.out.size))
                  clear hbt HDV2 HWV2 HBZ2
                  go_wp2_with fail
                  go_roundw
                  case rel => exact ⟨k + 1, _, _, _, _, _, _, by omega, by omega, by rw [HW.out], rfl, HDV3.out, HWV3.out, HCL2.out, HLC2.out, HBZ3.out⟩
                  case measure => simp only [intOf]; omega
              · by_cases hk2 : kind = 2
                · subst hk2
                  have C2 := hid (dcrash_c HDV.out _ ks (HRK.out.below HBO.out))
                  go_wp2_with fail
                  refine C2.out.mono ?_
                  rintro e wx ⟨d', g', rfl, hd2, hb2⟩
                  have z3' := (hb2.cell (p := ⟨bo, 3, none⟩) (World.block_lt_of_cell? wo _ z3)).trans z3
                  have HWV1 := hid (HWV.out.below hb2)
                  have HBO1 := hid (HBO.out.trans (hb2.mono HBO.out.size))
                  have HD2 := hid (hd2.mono HBO.out.size)
                  have C3 := hid (wcrashes_c HWV1.out HCL.out (.slice ka ks.length kcap) ks (HRK.out.below HBO1.out) HBO1.out.size hn8 (fun h0 b o hb => by
                    obtain ⟨lx, cx, e⟩ := hb
                    simp only [Value.slice.injEq] at e
                    obtain ⟨rfl, -, -⟩ := e
                    obtain ⟨b', o', e', -, hlt⟩ := HRK.out.zbAt 0 h0
                    simp only [Option.some.injEq, Addr.mk.injEq] at e'
                    obtain ⟨rfl, -, -⟩ := e'
                    exact hlt))
                  clear hd2 hb2 z0 z1 z2 z3 HDV HWV HBO C2 CW
                  go_wp2_with fail
                  refine C3.out.mono ?_
                  rintro e wy ⟨rfl, Y1, Y2, hwv2, hf2⟩
                  have HDV2 := hid (HD2.out.far HWV1.out hf2)
                  have HWV2 := hid (show WV wy w.heap.size q g1 c1 g2 c2 g3 c3 i Y1 Y2 (crS S ks) born.calls (fuseOf born) from hwv2)
                  have HCL2 := hid (Clean.cr S ks i)
                  have HLC2 := hid (show born.calls ≤ ((k + 1 : Nat) : Int) from by show (0 : Int) ≤ _; omega)
                  have HBZ2 := hid (HBO1.out.trans (hf2.belowWV HWV1.out HBO1.out.size))
                  clear hwv2 hf2 HD2 HWV1 HBO1 C3
                  go_wp2_with fail
                  refine (same_c HWV2.out HDV2.out rfl (fuse_dead HDV2.out.ok) hn8).mono ?_
                  rintro e wt ⟨rfl, hbt⟩
                  have HDV3 := hid (HDV2.out.below hbt)
                  have HWV3 := hid (HWV2.out.below hbt)
                  have HBZ3 := hid (HBZ2.out.trans (hbt.mono HBZ2.out.size))
                  clear hbt HDV2 HWV2 HBZ2
                  go_wp2_with fail
                  go_roundw
                  case rel => exact ⟨k + 1, _, _, _, _, _, _, by omega, by omega, by rw [HW.out], rfl, HDV3.out, HWV3.out, HCL2.out, HLC2.out, HBZ3.out⟩
                  case measure => simp only [intOf]; omega
                · have C2 := hid (dfuse_c HDV.out at_ p0 p1)
                  have hk0' : (kind == 0) = false := by simpa using hk0
                  have hk1' : (kind == 1) = false := by simpa using hk1
                  have hk2' : (kind == 2) = false := by simpa using hk2
                  clear hk0 hk1 hk2 CW
                  go_wp2_with fail
                  refine C2.out.mono ?_
                  rintro e wx ⟨rfl, hd2, ht2⟩
                  have z1' := ht2.cell z1 hop.out hog.out
                  have HWV1 := hid (HWV.out.two HDV.out ht2)
                  have HBO1 := hid (HBO.out.trans (ht2.belowDV HDV.out HBO.out.size))
                  have CW := hid (wdead_c HWV1.out)
                  rw [← fuse_dead HDV.out.ok] at CW
                  have q4 := HWV1.out.k4
                  have z4 := HWV1.out.fz 4
                  have HLC2 := hid (show (L.fuseTo at_).calls ≤ ((k + 1 : Nat) : Int) from by rw [fuse_to_calls]; exact HLC1.out)
                  cases hd : L.dead with
                  | true =>
                    rw [hd] at CW
                    rw [fuse_to_dead hd] at hd2
                    have HDV2 := hid hd2
                    have HWV2 := HWV1
                    have HCL2 := HCL
                    have HLC2 := HLC1
                    have HBZ2 := HBO1
                    clear hd hd2 ht2 HDV HWV HBO C2 HWV1 HBO1 z0 z1 z2 z3
                    go_wp2_with fail
                    refine CW.out.mono ?_
                    rintro e wy ⟨rfl, rfl⟩
                    go_wp2_with fail
                    refine (same_c HWV2.out HDV2.out rfl (fuse_dead HDV2.out.ok) hn8).mono ?_
                    rintro e wt ⟨rfl, hbt⟩
                    have HDV3 := hid (HDV2.out.below hbt)
                    have HWV3 := hid (HWV2.out.below hbt)
                    have HBZ3 := hid (HBZ2.out.trans (hbt.mono HBZ2.out.size))
                    clear hbt HDV2 HWV2 HBZ2
                    go_wp2_with fail
                    go_roundw
                    case rel => exact ⟨k + 1, _, _, _, _, _, _, by omega, by omega, by rw [HW.out], rfl, HDV3.out, HWV3.out, HCL2.out, HLC2.out, HBZ3.out⟩
                    case measure => simp only [intOf]; omega
                  | false =>
                    rw [hd] at CW
                    have hft := fuse_to hd at_
                    have HD2 := hid hd2
                    have HFT := hid hft
                    clear hd hd2 ht2 HDV HWV HBO C2 hft z0 z1 z2 z3
                    go_wp2_with fail
                    refine CW.out.mono ?_
                    rintro e wy ⟨rfl, rfl⟩
                    have HWV2 := hid (show WV (wx.setCell ⟨q, 4, none⟩ (.int .i64 (max (-1) at_))) w.heap.size q g1 c1 g2 c2 g3 c3 i X1 X2 S (L.fuseTo at_).calls (fuseOf (L.fuseTo at_)) from by rw [HFT.out, fuse_to_calls]; exact HWV1.out.setFuse _)
                    have hf2 := (Far.refl q g1 g2 g3 wx).set (k := q) (o := 4) (.inl rfl) (.int .i64 (max (-1) at_))
                    have HDV2 := hid (HD2.out.far HWV1.out hf2)
                    have HCL2 := HCL
                    have HBZ2 := hid (HBO1.out.trans (hf2.belowWV HWV1.out HBO1.out.size))
                    clear hf2 HWV1 HBO1 HD2 CW
                    go_wp2_with fail
                    refine (same_c HWV2.out HDV2.out rfl (fuse_dead HDV2.out.ok) hn8).mono ?_
                    rintro e wt ⟨rfl, hbt⟩
                    have HDV3 := hid (HDV2.out.below hbt)
                    have HWV3 := hid (HWV2.out.below hbt)
                    have HBZ3 := hid (HBZ2.out.trans (hbt.mono HBZ2.out.size))
                    clear hbt HDV2 HWV2 HBZ2
                    go_wp2_with fail
                    go_roundw
                    case rel => exact ⟨k + 1, _, _, _, _, _, _, by omega, by omega, by rw [HW.out], rfl, HDV3.out, HWV3.out, HCL2.out, HLC2.out, HBZ3.out⟩
                    case measure => simp only [intOf]; omega
          · obtain rfl : k = 50 := by omega
            have hkI : ((50 : Nat) : Int) < (len1 : Int) := by omega
            have HBZ := hid hbw
            clear hdv hwv hcl hlc hbw hk hk50
            go_wp2_with fail
            go_ret
            exact ⟨rfl, HBZ.out⟩
        · obtain rfl : k = len1 := by omega
          have HBZ := hid hbw
          clear hdv hwv hcl hlc hbw hk
          go_wp2_with fail
          go_ret
          exact ⟨rfl, HBZ.out⟩

/-! ### THE ROW -/
set_option maxRecDepth 100000 in
theorem lifted (os : Os) (started : os.Started) (H : Type) (enc : TypeId × Value → H) :
    ReturnsInHanded {} Try.checked os 3 .any (Rows.devAllSpec.pre6 enc Try.prog Try.f3 Rows.devAllRow.domain false) (Rows.devAllSpec.post enc Try.prog Try.f3 false true false false) := by
  refine returnsInHanded_of_change (C := Try.checked) own started (by kernel_rfl) Try.func3
    (ChangeSpec.witness6 (enc := enc) (C := Try.checked) false ⟨#[], #[.int .i64 0, .slice none 0 0], []⟩ 8 (by kernel_rfl) (by kernel_rfl) (by kernel_rfl) (by kernel_rfl)) ?_
  intro W base args ds gs before hval0 hW hcnd _
  have hval : ∀ (j : Nat) t v, Try.f3.params[j]? = some t → args[j]? = some v → Value.okWide Try.prog W .any base t v := hval0
  have hW' := hW
  obtain ⟨p, q, hA0, hV, rfl, hfz, hnd⟩ := hW
  have hA : DataW.TrodAll enc Try.prog W 0 (fun _ => true) true Try.f3.params.toList args.toList ds p := hA0
  rw [Try.params3] at hA hval
  obtain ⟨v0, vs0, d0, ds0, p0, q0, hargs, rfl, rfl, h0, r0⟩ := trodAll_cons hA
  obtain ⟨v1, vs1, d1, ds1, p1, q1, rfl, rfl, rfl, h1, r1⟩ := trodAll_cons r0
  obtain ⟨rfl, rfl, rfl⟩ := trodAll_nil r1
  obtain rfl : args = #[v0, v1] := by cases args; simp_all
  obtain ⟨rfl, rfl⟩ := trodVars_none hV
  have kk0 := h0
  have lt0 : ∀ x ∈ p0, x.block < W.heap.size := by obtain ⟨m, hm⟩ := kk0; exact DataW.trod_lt m _ _ _ hm
  have kk1 := h1
  have lt1 : ∀ x ∈ p1, x.block < W.heap.size := by obtain ⟨m, hm⟩ := kk1; exact DataW.trod_lt m _ _ _ hm
  obtain ⟨a0, rfl, rfl, rfl, w0⟩ := open_int Try.underlying3 (hval 0 3 v0 rfl rfl) h0
  obtain ⟨a1, len1, cap1, rfl⟩ := okWide_slice Try.underlying22 (hval 1 22 v1 rfl rfl)
  obtain ⟨l1, w1⟩ := open_ops h1
  clear hA0 hval0
  refine (walk W a0 w0 a1 len1 cap1 l1 w1).mono fun e W' ⟨he, bel⟩ => ?_
  subst he
  exact ⟨_, rfl, _, _, _, [], _, [], hW', trodAll_mk1 (shut_bool Try.underlying4 _), (trodAll_cons_mk (Below.trod laidOut (by kernel_rfl) (of_decide_eq_true (by kernel_rfl)) kk0 bel lt0) (trodAll_cons_mk (Below.trod laidOut (by kernel_rfl) (of_decide_eq_true (by kernel_rfl)) kk1 bel lt1) trodAll_mk0)), rfl, bel.frame _, fun h => by cases h⟩

theorem over : Rows.devAllRow.holds Try.pinned (OpenSpec.ofChange Rows.devAllSpec) :=
  OpenClaim.holds_of_wide 3 Try.f3 rfl rfl rfl rfl rfl rfl rfl ⟨rfl, rfl, rfl, rfl, rfl⟩ rfl rfl rfl rfl rfl (by kernel_rfl) Try.func3 (by kernel_rfl)
    (of_decide_eq_true (by kernel_rfl)) (by unfold Func.isWrapper; first | (rw [if_pos (by decide +kernel)]; kernel_rfl) | (rw [if_neg (by decide +kernel)]; exact ⟨rfl, rfl⟩))
    (fun os started H enc _ => lifted os started H enc)

theorem proved : Rows.DevAllSaid := over
#print axioms proved
end Go.Proofs.Ytdobkocckdpghaa.devAll
