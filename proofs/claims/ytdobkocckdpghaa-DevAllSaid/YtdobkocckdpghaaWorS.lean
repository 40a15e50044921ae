/-
  The contract of the laws' same: the device against the law's own.
-/
import Derived.Test.YtdobkocckdpghaaWorG
import Derived.Test.YtdobkocckdpghaaDraw
import Derived.Test.YtdobkocckdpghaaHead
namespace Go.Proofs.Ytdobkocckdpghaa
open Go.RowKit

def V7 (q g1 n c1 k vc xc : Nat) (va xa : Option Addr) (t : ByteArray) : Nat → World → Value → Prop
  | 28, _, v => v = .int .i64 0
  | 29, _, v => v = .bool false
  | 30, _, v => v = .bool false
  | 31, _, v => v = .slice va 64 vc
  | 32, _, v => v = .string t
  | 33, _, v => v = .pointer (some ⟨q, 0, none⟩)
  | 34, _, v => v = .pointer (some ⟨q, 0, none⟩)
  | 35, _, v => v = .pointer (some ⟨q, 0, none⟩)
  | 36, _, v => v = .slice (some ⟨g1, 0, none⟩) n c1
  | 37, _, v => v = .int .i64 (k : Int)
  | 38, _, v => v = .pointer (some ⟨g1, k, none⟩)
  | 39, _, v => v = .slice xa 64 xc
  | 40, _, v => v = .string t
  | 41, _, v => v = .bool false
  | 42, _, v => v = .bool false
  | _, _, _ => True

theorem V7_below (q g1 n c1 k vc xc : Nat) (va xa : Option Addr) (t : ByteArray) : ∀ (i : Nat) (w w' : World) (v : Value), V7 q g1 n c1 k vc xc va xa t i w v → Below w.heap.size w w' → V7 q g1 n c1 k vc xc va xa t i w' v := by
  intro i w w' v h hb
  unfold V7 at h ⊢
  split at h <;> first | exact h | trivial | exact RB.below h hb | exact Own.below h hb

def V15 (q d m lc : Nat) (la : Option Addr) (calls : Int) (dd : Bool) : Nat → World → Value → Prop
  | 75, _, v => v = .int .i64 (m : Int)
  | 76, _, v => v = .slice la m lc
  | 77, _, v => v = .int .i64 (m : Int)
  | 78, _, v => v = .bool true
  | 79, _, v => v = .bool true
  | 80, _, v => v = .pointer (some ⟨d, 0, none⟩)
  | 81, _, v => v = .int .i64 calls
  | 82, _, v => v = .pointer (some ⟨q, 0, none⟩)
  | 83, _, v => v = .pointer (some ⟨q, 0, none⟩)
  | 84, _, v => v = .pointer (some ⟨q, 3, none⟩)
  | 85, _, v => v = .int .i64 calls
  | 86, _, v => v = .bool true
  | 87, _, v => v = .bool true
  | 88, _, v => v = .bool true
  | 89, _, v => v = .pointer (some ⟨d, 0, none⟩)
  | 90, _, v => v = .bool dd
  | 91, _, v => v = .pointer (some ⟨q, 0, none⟩)
  | 92, _, v => v = .bool dd
  | 93, _, v => v = .bool true
  | 94, _, v => v = .bool true
  | 95, _, v => v = .bool true
  | 96, _, v => v = .int .i64 3
  | 97, _, v => v = .bool true
  | 98, _, v => v = .bool true
  | 4, _, v => v = .bool true
  | _, _, _ => True

theorem V15_below (q d m lc : Nat) (la : Option Addr) (calls : Int) (dd : Bool) : ∀ (i : Nat) (w w' : World) (v : Value), V15 q d m lc la calls dd i w v → Below w.heap.size w w' → V15 q d m lc la calls dd i w' v := by
  intro i w w' v h hb
  unfold V15 at h ⊢
  split at h <;> first | exact h | trivial | exact RB.below h hb | exact Own.below h hb

theorem calls_below {f : FuncId} {args : Array Value} {w : World} {v : Value} (h : Calls Try.prog f args w fun e w' => e = .returned v ∧ w = w') : Calls Try.prog f args w fun e w' => e = .returned v ∧ Below w.heap.size w w' :=
  h.mono (by rintro e w7 ⟨rfl, rfl⟩; exact ⟨rfl, Below.refl _ _⟩)
theorem infoS : (Try.prog.info? 31).map (fun i => (i.zero, i.size, i.bytes)) = some (some (.slice none 0 0), 1, 24) := by kernel_rfl
theorem run_idxB (b n cap j : Nat) (h : j < n) (W : World) : (Instr.indexAt 27 (.slice (some ⟨b, 0, none⟩) n cap) (.int .i64 (j : Int))).run Try.prog W = .ok (.pointer (some ⟨b, j, none⟩)) W := by
  obtain ⟨i, hi, -, hsize, -⟩ := info_parts infoS
  have he : Try.prog.elem 27 = 31 := by kernel_rfl
  have hs : (sizeOf 31).run Try.prog W = .ok 1 W := by simp [sizeOf, typeInfo, hi, hsize]
  have hadd : (⟨b, 0, none⟩ : Addr).add j = ⟨b, j, none⟩ := by unfold Addr.add; split <;> simp_all
  rw [run_indexAt_slice W _ _ _ _ _ _ (by rw [he]; exact Try.underlying27), if_pos ⟨by omega, by omega⟩, he, hs]
  simp [Result.andThen, hadd]

section
variable {w : World} {B B1 q g1 c1 g2 c2 g3 c3 n d g : Nat} {X1 X2 : Nat → Value} {S : Nat → Sec} {calls fuse : Int} {L : Life}
set_option maxRecDepth 100000
set_option maxHeartbeats 1000000
theorem same_c (h : WV w B q g1 c1 g2 c2 g3 c3 n X1 X2 S calls fuse) (hd : DV w B1 d g n S L) (hc : L.calls = calls) (hf : L.dead = (fuse == 0)) (hn : n ≤ 8) :
    Calls Try.prog 20 #[.pointer (some ⟨d, 0, none⟩), .pointer (some ⟨q, 0, none⟩)] w fun e w' => e = .returned (.bool true) ∧ Below w.heap.size w w' := by
  have CL := Go.Lib.hid (dloose_c hd)
  have H := Go.Lib.hid h
  have HD := Go.Lib.hid hd
  have HC := Go.Lib.hid hc
  have HF := Go.Lib.hid hf
  clear h hd hc hf
  go_enter Try.func20, Try.ntmps20
  go_wp2_with fail
  refine CL.out.mono ?_
  rintro e w1 ⟨v, rfl, hown, hb1⟩
  clear CL
  have j0 := (H.out.below hb1).k0
  obtain ⟨la, lc, rfl, hlen⟩ := hown.rv.form
  rw [zi_length] at hlen
  obtain ⟨m, hm⟩ : ∃ m, m = (looseL (lf S) n).length := ⟨_, rfl⟩
  rw [← hm] at hlen
  have HM := Go.Lib.hid hm; clear hm
  rw [zi_length, ← HM.out] at hown ⊢
  have hmn : m ≤ 8 := by have := looseL_length_le (lf S) n; have := HM.out; omega
  have HOWN := Go.Lib.hid hown
  have HB1 := Go.Lib.hid hb1
  clear hown hb1
  go_wp2_with fail
  clear j0
  go_loopw [6, 19] (fun u c wr => ∃ k : Nat, k ≤ n ∧ c = .int .i64 (k : Int) ∧ u = .int .i64 ((rankD (lf S) k : Nat) : Int) ∧ Below w1.heap.size w1 wr) (fun _ c _ => n - (intOf c).toNat)
  case atStart => exact ⟨0, by omega, rfl, rfl, Below.refl _ _⟩
  case round =>
    obtain ⟨k, hi, rfl, rfl, hbw⟩ := hrel
    have hbw0 := Go.Lib.hid (HB1.out.trans (hbw.mono HB1.out.size))
    have hdv := HD.out.below hbw0.out
    have wv := H.out.below hbw0.out
    have HW := Go.Lib.hid (show (k : Int) + 1 = ((k + 1 : Nat) : Int) from by omega)
    by_cases hin : k < n
    · have CR := Go.Lib.hid (dread_c hdv k hin)
      have hl := (wv.whole k hin).1
      have HL := Go.Lib.hid hl
      obtain ⟨xa, xc, hx⟩ := own_form (wv.e1 k hin)
      rw [hl] at hx
      have HX := Go.Lib.hid hx
      have hox := wv.e1 k hin
      rw [hx] at hox
      have hrs := Go.Lib.hid (rankD_succ (lf S) k)
      have hiI : (k : Int) < (n : Int) := by omega
      have HBW := Go.Lib.hid hbw
      have HWV0 := Go.Lib.hid wv
      have HOX0 := Go.Lib.hid hox
      clear hdv wv hl hx hox hbw
      go_wp2_with fail
      refine CR.out.mono ?_
      rintro e w8 ⟨v8, rfl, ho8, hb8⟩
      obtain ⟨va, vc, rfl⟩ := own_form ho8
      rw [HL.out] at ho8 ⊢
      have HO8 := Go.Lib.hid ho8
      have HWV := Go.Lib.hid (HWV0.out.below hb8)
      have HOX := Go.Lib.hid (HOX0.out.below hb8)
      have HB8 := Go.Lib.hid (HBW.out.trans (hb8.mono HBW.out.size))
      obtain ⟨t, ht⟩ : ∃ t, str (S k).now = t := ⟨_, rfl⟩
      have HT := Go.Lib.hid ht
      clear ho8 hb8 ht CR HWV0 HOX0 HBW hbw0
      go_upto_region 7 with (fail)
      refine wp_region_each (by kernel_rfl) (V7 q g1 n c1 k vc xc va xa t) (V7_below q g1 n c1 k vc xc va xa t) (by decide +kernel) (by decide +kernel) (by rfl) [28, 29, 30, 31, 32, 33, 34, 35, 36, 37, 38, 39, 40, 41, 42] (by rfl) ?_ ?_
      · intro i o ho a w6 hb6 hlen hg
        have wv := HWV.out.below hb6
        have k0 := wv.k0
        have r1 := wv.r1 k hin
        rw [HX.out] at r1
        have cv8 := run_string_RB w6 31 5 9 Try.underlying31 Try.underlying5 Try.underlying9 (.slice va 64 vc) _ (HO8.out.below hb6).rb
        have cvX := run_string_RB w6 31 5 9 Try.underlying31 Try.underlying5 Try.underlying9 (.slice xa 64 xc) _ (HOX.out.below hb6).rb
        rw [HT.out] at cv8 cvX
        have hix := run_idxB g1 n c1 k hin
        match i, ho with
        | 0, ho =>
          obtain rfl := Option.some.inj ho
          have h9 := given_old hg 9 (by decide +kernel)
          clear hg
          exact st_yield ho (wanted_none rfl) (.int .i64 0) w6 (by simp [execOp, Act.eval, h9, go_sem]) ⟨_, rfl, Below.refl _ _, by rintro t' ⟨⟩; rfl⟩
        | 1, ho =>
          obtain rfl := Option.some.inj ho
          obtain ⟨_, h28, rfl⟩ := given_fed hg 28 (by decide +kernel)
          clear hg
          exact st_yield ho (wanted_none rfl) (.bool false) w6 (by simp [execOp, Act.eval, h28, go_sem]) ⟨_, rfl, Below.refl _ _, by rintro t' ⟨⟩; rfl⟩
        | 2, ho =>
          obtain rfl := Option.some.inj ho
          obtain ⟨_, h29, rfl⟩ := given_fed hg 29 (by decide +kernel)
          clear hg
          exact st_yield ho (wanted_none rfl) (.bool false) w6 (by simp [execOp, Act.eval, h29, go_sem]) ⟨_, rfl, Below.refl _ _, by rintro t' ⟨⟩; rfl⟩
        | 3, ho =>
          obtain rfl := Option.some.inj ho
          have h8 := given_old hg 8 (by decide +kernel)
          obtain ⟨_, h30, rfl⟩ := given_fed hg 30 (by decide +kernel)
          clear hg
          exact st_yield ho (wanted_some rfl rfl h30 rfl) (.slice va 64 vc) w6 (by simp [execOp, Act.eval, h8, go_sem]) ⟨_, rfl, Below.refl _ _, by rintro t' ⟨⟩; rfl⟩
        | 4, ho =>
          obtain rfl := Option.some.inj ho
          obtain ⟨_, h31, rfl⟩ := given_fed hg 31 (by decide +kernel)
          obtain ⟨_, h30, rfl⟩ := given_fed hg 30 (by decide +kernel)
          clear hg
          exact st_yield ho (wanted_some rfl rfl h30 rfl) (.string t) w6 (by simp [execOp, Act.eval, h31, go_sem, cv8]) ⟨_, rfl, Below.refl _ _, by rintro t' ⟨⟩; rfl⟩
        | 5, ho =>
          obtain rfl := Option.some.inj ho
          have h1 := given_old hg 1 (by decide +kernel)
          obtain ⟨_, h30, rfl⟩ := given_fed hg 30 (by decide +kernel)
          clear hg
          exact st_yield ho (wanted_some rfl rfl h30 rfl) (.pointer (some ⟨q, 0, none⟩)) w6 (by simp [execOp, Act.eval, h1, go_sem]) ⟨_, rfl, Below.refl _ _, by rintro t' ⟨⟩; rfl⟩
        | 6, ho =>
          obtain rfl := Option.some.inj ho
          obtain ⟨_, h33, rfl⟩ := given_fed hg 33 (by decide +kernel)
          obtain ⟨_, h30, rfl⟩ := given_fed hg 30 (by decide +kernel)
          clear hg
          exact st_yield ho (wanted_some rfl rfl h30 rfl) (.pointer (some ⟨q, 0, none⟩)) w6 (by simp [execOp, Act.eval, h33, go_sem]) ⟨_, rfl, Below.refl _ _, by rintro t' ⟨⟩; rfl⟩
        | 7, ho =>
          obtain rfl := Option.some.inj ho
          obtain ⟨_, h34, rfl⟩ := given_fed hg 34 (by decide +kernel)
          obtain ⟨_, h30, rfl⟩ := given_fed hg 30 (by decide +kernel)
          clear hg
          exact st_yield ho (wanted_some rfl rfl h30 rfl) (.pointer (some ⟨q, 0, none⟩)) w6 (by simp [execOp, Act.eval, h34, go_sem]) ⟨_, rfl, Below.refl _ _, by rintro t' ⟨⟩; rfl⟩
        | 8, ho =>
          obtain rfl := Option.some.inj ho
          obtain ⟨_, h35, rfl⟩ := given_fed hg 35 (by decide +kernel)
          obtain ⟨_, h30, rfl⟩ := given_fed hg 30 (by decide +kernel)
          clear hg
          exact st_yield ho (wanted_some rfl rfl h30 rfl) (.slice (some ⟨g1, 0, none⟩) n c1) w6 (by simp [execOp, Act.eval, h35, go_sem, k0]) ⟨_, rfl, Below.refl _ _, by rintro t' ⟨⟩; rfl⟩
        | 9, ho =>
          obtain rfl := Option.some.inj ho
          have h7 := given_old hg 7 (by decide +kernel)
          obtain ⟨_, h30, rfl⟩ := given_fed hg 30 (by decide +kernel)
          clear hg
          exact st_yield ho (wanted_some rfl rfl h30 rfl) (.int .i64 (k : Int)) w6 (by simp [execOp, Act.eval, h7, go_sem]) ⟨_, rfl, Below.refl _ _, by rintro t' ⟨⟩; rfl⟩
        | 10, ho =>
          obtain rfl := Option.some.inj ho
          obtain ⟨_, h36, rfl⟩ := given_fed hg 36 (by decide +kernel)
          obtain ⟨_, h37, rfl⟩ := given_fed hg 37 (by decide +kernel)
          obtain ⟨_, h30, rfl⟩ := given_fed hg 30 (by decide +kernel)
          clear hg
          exact st_yield ho (wanted_some rfl rfl h30 rfl) (.pointer (some ⟨g1, k, none⟩)) w6 (by simp [execOp, Act.eval, h36, h37, go_sem, hix]) ⟨_, rfl, Below.refl _ _, by rintro t' ⟨⟩; rfl⟩
        | 11, ho =>
          obtain rfl := Option.some.inj ho
          obtain ⟨_, h38, rfl⟩ := given_fed hg 38 (by decide +kernel)
          obtain ⟨_, h30, rfl⟩ := given_fed hg 30 (by decide +kernel)
          clear hg
          exact st_yield ho (wanted_some rfl rfl h30 rfl) (.slice xa 64 xc) w6 (by simp [execOp, Act.eval, h38, go_sem, r1]) ⟨_, rfl, Below.refl _ _, by rintro t' ⟨⟩; rfl⟩
        | 12, ho =>
          obtain rfl := Option.some.inj ho
          obtain ⟨_, h39, rfl⟩ := given_fed hg 39 (by decide +kernel)
          obtain ⟨_, h30, rfl⟩ := given_fed hg 30 (by decide +kernel)
          clear hg
          exact st_yield ho (wanted_some rfl rfl h30 rfl) (.string t) w6 (by simp [execOp, Act.eval, h39, go_sem, cvX]) ⟨_, rfl, Below.refl _ _, by rintro t' ⟨⟩; rfl⟩
        | 13, ho =>
          obtain rfl := Option.some.inj ho
          obtain ⟨_, h32, rfl⟩ := given_fed hg 32 (by decide +kernel)
          obtain ⟨_, h40, rfl⟩ := given_fed hg 40 (by decide +kernel)
          obtain ⟨_, h30, rfl⟩ := given_fed hg 30 (by decide +kernel)
          clear hg
          exact st_yield ho (wanted_some rfl rfl h30 rfl) (.bool false) w6 (by simp [execOp, Act.eval, h32, h40, go_sem]) ⟨_, rfl, Below.refl _ _, by rintro t' ⟨⟩; rfl⟩
        | 14, ho =>
          obtain rfl := Option.some.inj ho
          obtain ⟨_, h30, rfl⟩ := given_fed hg 30 (by decide +kernel)
          obtain ⟨_, h41, rfl⟩ := given_fed hg 41 (by decide +kernel)
          clear hg
          exact st_yield ho (wanted_none rfl) (.bool false) w6 (by simp [execOp, Act.eval, h30, h41, go_sem]) ⟨_, rfl, Below.refl _ _, by rintro t' ⟨⟩; rfl⟩
        | n + 15, ho => simp at ho
      intro f w6 hb6 hv
      have h42 := hv 42 (by decide)
      simp only [V7] at h42
      clear hv
      unfold putAll
      simp only [List.foldl]
      simp only [h42]
      go_simp
      have HB6 := Go.Lib.hid (HB8.out.trans (hb6.mono HB8.out.size))
      have wv := HWV.out.below hb6
      have q2 := wv.k2
      have s3 := wv.r3 k hin
      clear wv hb6 HB8 HWV HO8 HOX h42
      cases hlo : (S k).loose with
      | false =>
        rw [hlo] at s3
        have HR := Go.Lib.hid (show rankD (lf S) (k + 1) = rankD (lf S) k from by rw [hrs.out, if_neg (by show ¬ (S k).loose = true; rw [hlo]; decide)]; rfl)
        clear hlo
        generalize rankD (lf S) k = r at *
        go_wp2_with fail
        go_roundw
        case rel => exact ⟨k + 1, by omega, by rw [HW.out], by rw [HR.out], HB6.out⟩
        case measure => simp only [intOf]; omega
      | true =>
        rw [hlo] at s3
        have HR := Go.Lib.hid (show rankD (lf S) (k + 1) = rankD (lf S) k + 1 from by rw [hrs.out, if_pos (show lf S k = true from hlo)])
        have hrl := rankD_lt (lf S) hin hlo
        have hget := looseL_rank (lf S) n k hin hlo
        have hrm : rankD (lf S) k < m := by rw [HM.out]; exact hrl
        have hrv := (HOWN.out.below HB6.out).rv
        obtain ⟨lb, lo, rfl, hlc, -⟩ := hrv.at (rankD (lf S) k) (by rw [zi_length]; exact hrl)
        rw [zi_at .i64 _ _ hrl] at hlc
        have hge : (looseL (lf S) n)[rankD (lf S) k] = k := by
          have := List.getElem?_eq_getElem hrl
          rw [hget] at this
          exact (Option.some.inj this).symm
        rw [hge] at hlc
        clear hlo hget hrv hge hrl
        have hrI : ((rankD (lf S) k : Nat) : Int) < (m : Int) := by omega
        have HWR := Go.Lib.hid (show ((rankD (lf S) k : Nat) : Int) + 1 = ((rankD (lf S) k + 1 : Nat) : Int) from by omega)
        generalize rankD (lf S) k = r at *
        go_wp2_with fail
        go_roundw
        case rel => exact ⟨k + 1, by omega, by rw [HW.out], by rw [HR.out, HWR.out], HB6.out⟩
        case measure => simp only [intOf]; omega
    · obtain rfl : k = n := by omega
      have q0 := wv.k0
      have CR := Go.Lib.hid (dread_out hdv (k : Int) (.inr (Int.le_refl _)))
      have HWV := Go.Lib.hid wv
      have HDV := Go.Lib.hid hdv
      have hrm : rankD (lf S) k = m := HM.out.symm
      rw [hrm]
      clear wv hdv hbw
      go_wp2_with fail
      refine CR.out.mono ?_
      rintro e w8 ⟨rfl, rfl⟩
      clear CR q0
      obtain ⟨dd, hdd0⟩ : ∃ dd, L.dead = dd := ⟨_, rfl⟩
      have HDD := Go.Lib.hid hdd0
      have HFU := Go.Lib.hid (show (fuse == 0) = dd from by rw [← hdd0]; exact HF.out.symm)
      clear hdd0
      have hcalls : Go.RowKit.Hid (L.calls = calls) := HC
      go_upto_region 15 with (fail)
      refine wp_region_each (by kernel_rfl) (V15 q d m lc la calls dd) (V15_below q d m lc la calls dd) (by decide +kernel) (by decide +kernel) (by rfl) [75, 76, 77, 78, 79, 80, 81, 82, 83, 84, 85, 86, 87, 88, 89, 90, 91, 92, 93, 94, 95, 96, 97, 98, 4] (by rfl) ?_ ?_
      · intro i o ho a w6 hb6 hlen hg
        have wv := HWV.out.below hb6
        have k3 := wv.k3
        have hd := HDV.out.below hb6
        have hdd := calls_below (ddead_c hd)
        have hwd := calls_below (wdead_c wv)
        have hdc := calls_below (dcalls_c hd)
        rw [hcalls.out] at hdc
        rw [HDD.out] at hdd
        rw [HFU.out] at hwd
        match i, ho with
        | 0, ho =>
          obtain rfl := Option.some.inj ho
          have h6 := given_old hg 6 (by decide +kernel)
          clear hg
          exact st_yield ho (wanted_none rfl) (.int .i64 (m : Int)) w6 (by simp [execOp, Act.eval, h6, go_sem]) ⟨_, rfl, Below.refl _ _, by rintro t' ⟨⟩; rfl⟩
        | 1, ho =>
          obtain rfl := Option.some.inj ho
          have h5 := given_old hg 5 (by decide +kernel)
          clear hg
          exact st_yield ho (wanted_none rfl) (.slice la m lc) w6 (by simp [execOp, Act.eval, h5, go_sem]) ⟨_, rfl, Below.refl _ _, by rintro t' ⟨⟩; rfl⟩
        | 2, ho =>
          obtain rfl := Option.some.inj ho
          obtain ⟨_, h76, rfl⟩ := given_fed hg 76 (by decide +kernel)
          clear hg
          exact st_yield ho (wanted_none rfl) (.int .i64 (m : Int)) w6 (by simp [execOp, Act.eval, h76, go_sem, resolve, invoke, builtin]) ⟨_, rfl, Below.refl _ _, by rintro t' ⟨⟩; rfl⟩
        | 3, ho =>
          obtain rfl := Option.some.inj ho
          obtain ⟨_, h75, rfl⟩ := given_fed hg 75 (by decide +kernel)
          obtain ⟨_, h77, rfl⟩ := given_fed hg 77 (by decide +kernel)
          clear hg
          exact st_yield ho (wanted_none rfl) (.bool true) w6 (by simp [execOp, Act.eval, h75, h77, go_sem]) ⟨_, rfl, Below.refl _ _, by rintro t' ⟨⟩; rfl⟩
        | 4, ho =>
          obtain rfl := Option.some.inj ho
          obtain ⟨_, h78, rfl⟩ := given_fed hg 78 (by decide +kernel)
          clear hg
          exact st_yield ho (wanted_none rfl) (.bool true) w6 (by simp [execOp, Act.eval, h78, go_sem]) ⟨_, rfl, Below.refl _ _, by rintro t' ⟨⟩; rfl⟩
        | 5, ho =>
          obtain rfl := Option.some.inj ho
          have h0 := given_old hg 0 (by decide +kernel)
          obtain ⟨_, h79, rfl⟩ := given_fed hg 79 (by decide +kernel)
          clear hg
          exact st_yield ho (wanted_some rfl rfl h79 rfl) (.pointer (some ⟨d, 0, none⟩)) w6 (by simp [execOp, Act.eval, h0, go_sem]) ⟨_, rfl, Below.refl _ _, by rintro t' ⟨⟩; rfl⟩
        | 6, ho =>
          obtain rfl := Option.some.inj ho
          obtain ⟨_, h80, rfl⟩ := given_fed hg 80 (by decide +kernel)
          obtain ⟨_, h79, rfl⟩ := given_fed hg 79 (by decide +kernel)
          clear hg
          exact st_enter (w1 := w6) ho (wanted_some rfl rfl h79 rfl) 24 #[.pointer (some ⟨d, 0, none⟩)] (by simp [execOp, Act.eval, h80, resolve, go_sem]) ((hdc).mono (by rintro e w7 ⟨rfl, hb7⟩; exact ⟨_, rfl, _, rfl, hb7, by rintro t' ⟨⟩; rfl⟩))
        | 7, ho =>
          obtain rfl := Option.some.inj ho
          have h1 := given_old hg 1 (by decide +kernel)
          obtain ⟨_, h79, rfl⟩ := given_fed hg 79 (by decide +kernel)
          clear hg
          exact st_yield ho (wanted_some rfl rfl h79 rfl) (.pointer (some ⟨q, 0, none⟩)) w6 (by simp [execOp, Act.eval, h1, go_sem]) ⟨_, rfl, Below.refl _ _, by rintro t' ⟨⟩; rfl⟩
        | 8, ho =>
          obtain rfl := Option.some.inj ho
          obtain ⟨_, h82, rfl⟩ := given_fed hg 82 (by decide +kernel)
          obtain ⟨_, h79, rfl⟩ := given_fed hg 79 (by decide +kernel)
          clear hg
          exact st_yield ho (wanted_some rfl rfl h79 rfl) (.pointer (some ⟨q, 0, none⟩)) w6 (by simp [execOp, Act.eval, h82, go_sem]) ⟨_, rfl, Below.refl _ _, by rintro t' ⟨⟩; rfl⟩
        | 9, ho =>
          obtain rfl := Option.some.inj ho
          obtain ⟨_, h83, rfl⟩ := given_fed hg 83 (by decide +kernel)
          obtain ⟨_, h79, rfl⟩ := given_fed hg 79 (by decide +kernel)
          clear hg
          exact st_yield ho (wanted_some rfl rfl h79 rfl) (.pointer (some ⟨q, 3, none⟩)) w6 (by simp [execOp, Act.eval, h83, go_sem]) ⟨_, rfl, Below.refl _ _, by rintro t' ⟨⟩; rfl⟩
        | 10, ho =>
          obtain rfl := Option.some.inj ho
          obtain ⟨_, h84, rfl⟩ := given_fed hg 84 (by decide +kernel)
          obtain ⟨_, h79, rfl⟩ := given_fed hg 79 (by decide +kernel)
          clear hg
          exact st_yield ho (wanted_some rfl rfl h79 rfl) (.int .i64 calls) w6 (by simp [execOp, Act.eval, h84, go_sem, k3]) ⟨_, rfl, Below.refl _ _, by rintro t' ⟨⟩; rfl⟩
        | 11, ho =>
          obtain rfl := Option.some.inj ho
          obtain ⟨_, h81, rfl⟩ := given_fed hg 81 (by decide +kernel)
          obtain ⟨_, h85, rfl⟩ := given_fed hg 85 (by decide +kernel)
          obtain ⟨_, h79, rfl⟩ := given_fed hg 79 (by decide +kernel)
          clear hg
          exact st_yield ho (wanted_some rfl rfl h79 rfl) (.bool true) w6 (by simp [execOp, Act.eval, h81, h85, go_sem]) ⟨_, rfl, Below.refl _ _, by rintro t' ⟨⟩; rfl⟩
        | 12, ho =>
          obtain rfl := Option.some.inj ho
          obtain ⟨_, h79, rfl⟩ := given_fed hg 79 (by decide +kernel)
          obtain ⟨_, h86, rfl⟩ := given_fed hg 86 (by decide +kernel)
          clear hg
          exact st_yield ho (wanted_none rfl) (.bool true) w6 (by simp [execOp, Act.eval, h79, h86, go_sem]) ⟨_, rfl, Below.refl _ _, by rintro t' ⟨⟩; rfl⟩
        | 13, ho =>
          obtain rfl := Option.some.inj ho
          obtain ⟨_, h87, rfl⟩ := given_fed hg 87 (by decide +kernel)
          clear hg
          exact st_yield ho (wanted_none rfl) (.bool true) w6 (by simp [execOp, Act.eval, h87, go_sem]) ⟨_, rfl, Below.refl _ _, by rintro t' ⟨⟩; rfl⟩
        | 14, ho =>
          obtain rfl := Option.some.inj ho
          have h0 := given_old hg 0 (by decide +kernel)
          obtain ⟨_, h88, rfl⟩ := given_fed hg 88 (by decide +kernel)
          clear hg
          exact st_yield ho (wanted_some rfl rfl h88 rfl) (.pointer (some ⟨d, 0, none⟩)) w6 (by simp [execOp, Act.eval, h0, go_sem]) ⟨_, rfl, Below.refl _ _, by rintro t' ⟨⟩; rfl⟩
        | 15, ho =>
          obtain rfl := Option.some.inj ho
          obtain ⟨_, h89, rfl⟩ := given_fed hg 89 (by decide +kernel)
          obtain ⟨_, h88, rfl⟩ := given_fed hg 88 (by decide +kernel)
          clear hg
          exact st_enter (w1 := w6) ho (wanted_some rfl rfl h88 rfl) 25 #[.pointer (some ⟨d, 0, none⟩)] (by simp [execOp, Act.eval, h89, resolve, go_sem]) ((hdd).mono (by rintro e w7 ⟨rfl, hb7⟩; exact ⟨_, rfl, _, rfl, hb7, by rintro t' ⟨⟩; rfl⟩))
        | 16, ho =>
          obtain rfl := Option.some.inj ho
          have h1 := given_old hg 1 (by decide +kernel)
          obtain ⟨_, h88, rfl⟩ := given_fed hg 88 (by decide +kernel)
          clear hg
          exact st_yield ho (wanted_some rfl rfl h88 rfl) (.pointer (some ⟨q, 0, none⟩)) w6 (by simp [execOp, Act.eval, h1, go_sem]) ⟨_, rfl, Below.refl _ _, by rintro t' ⟨⟩; rfl⟩
        | 17, ho =>
          obtain rfl := Option.some.inj ho
          obtain ⟨_, h91, rfl⟩ := given_fed hg 91 (by decide +kernel)
          obtain ⟨_, h88, rfl⟩ := given_fed hg 88 (by decide +kernel)
          clear hg
          exact st_enter (w1 := w6) ho (wanted_some rfl rfl h88 rfl) 12 #[.pointer (some ⟨q, 0, none⟩)] (by simp [execOp, Act.eval, h91, resolve, go_sem]) ((hwd).mono (by rintro e w7 ⟨rfl, hb7⟩; exact ⟨_, rfl, _, rfl, hb7, by rintro t' ⟨⟩; rfl⟩))
        | 18, ho =>
          obtain rfl := Option.some.inj ho
          obtain ⟨_, h90, rfl⟩ := given_fed hg 90 (by decide +kernel)
          obtain ⟨_, h92, rfl⟩ := given_fed hg 92 (by decide +kernel)
          obtain ⟨_, h88, rfl⟩ := given_fed hg 88 (by decide +kernel)
          clear hg
          exact st_yield ho (wanted_some rfl rfl h88 rfl) (.bool true) w6 (by simp [execOp, Act.eval, h90, h92, go_sem]) ⟨_, rfl, Below.refl _ _, by rintro t' ⟨⟩; rfl⟩
        | 19, ho =>
          obtain rfl := Option.some.inj ho
          obtain ⟨_, h88, rfl⟩ := given_fed hg 88 (by decide +kernel)
          obtain ⟨_, h93, rfl⟩ := given_fed hg 93 (by decide +kernel)
          clear hg
          exact st_yield ho (wanted_none rfl) (.bool true) w6 (by simp [execOp, Act.eval, h88, h93, go_sem]) ⟨_, rfl, Below.refl _ _, by rintro t' ⟨⟩; rfl⟩
        | 20, ho =>
          obtain rfl := Option.some.inj ho
          obtain ⟨_, h94, rfl⟩ := given_fed hg 94 (by decide +kernel)
          clear hg
          exact st_yield ho (wanted_none rfl) (.bool true) w6 (by simp [execOp, Act.eval, h94, go_sem]) ⟨_, rfl, Below.refl _ _, by rintro t' ⟨⟩; rfl⟩
        | 21, ho =>
          obtain rfl := Option.some.inj ho
          have h11 := given_old hg 11 (by decide +kernel)
          obtain ⟨_, h95, rfl⟩ := given_fed hg 95 (by decide +kernel)
          clear hg
          exact st_yield ho (wanted_some rfl rfl h95 rfl) (.int .i64 3) w6 (by simp [execOp, Act.eval, h11, go_sem]) ⟨_, rfl, Below.refl _ _, by rintro t' ⟨⟩; rfl⟩
        | 22, ho =>
          obtain rfl := Option.some.inj ho
          obtain ⟨_, h96, rfl⟩ := given_fed hg 96 (by decide +kernel)
          obtain ⟨_, h95, rfl⟩ := given_fed hg 95 (by decide +kernel)
          clear hg
          exact st_yield ho (wanted_some rfl rfl h95 rfl) (.bool true) w6 (by simp [execOp, Act.eval, h96, go_sem]) ⟨_, rfl, Below.refl _ _, by rintro t' ⟨⟩; rfl⟩
        | 23, ho =>
          obtain rfl := Option.some.inj ho
          obtain ⟨_, h95, rfl⟩ := given_fed hg 95 (by decide +kernel)
          obtain ⟨_, h97, rfl⟩ := given_fed hg 97 (by decide +kernel)
          clear hg
          exact st_yield ho (wanted_none rfl) (.bool true) w6 (by simp [execOp, Act.eval, h95, h97, go_sem]) ⟨_, rfl, Below.refl _ _, by rintro t' ⟨⟩; rfl⟩
        | 24, ho =>
          obtain rfl := Option.some.inj ho
          obtain ⟨_, h98, rfl⟩ := given_fed hg 98 (by decide +kernel)
          clear hg
          exact st_yield ho (wanted_none rfl) (.bool true) w6 (by simp [execOp, Act.eval, h98, go_sem]) ⟨_, rfl, Below.refl _ _, by rintro t' ⟨⟩; rfl⟩
        | n + 25, ho => simp at ho
      intro f w6 hb6 hv
      have h4 := hv 4 (by decide)
      simp only [V15] at h4
      clear hv
      unfold putAll
      simp only [List.foldl]
      simp only [h4]
      go_simp
      go_wp2_with fail
      go_ret
      exact ⟨rfl, hbw0.out.trans (hb6.mono hbw0.out.size)⟩
end

end Go.Proofs.Ytdobkocckdpghaa
