/-
  Stage 20: the law's right: a store tells just a table's.
  Stage 19: the law's Of, Back: a table as the program has it, as the document has it.
  Stage 19: the law's eq, at tables that are the same.
-/
import Derived.Test.YthbnecdeebmlhaaGreatM11
import Derived.Test.YthbnecdeebmlhaaGreatM06
import Derived.Test.YthbnecdeebmlhaaGreatM10
namespace Go.Proofs.YthbnecdeebmlhaaGreat
open Go.RowKit

def VRa (TL : List Value) (RC : List RecT) (B : List UInt8) (p n : Nat) (a7 : Option Addr) (c7 : Nat) : Nat → World → Value → Prop
  | 17, _, v => v = .pointer (some ⟨p, 0, none⟩)
  | 18, _, v => v = .int .i64 (n : Int)
  | 19, _, v => v = .slice a7 n c7
  | 20, _, v => v = .int .i64 (n : Int)
  | 21, _, v => v = .bool false
  | 22, _, v => v = .bool false
  | 23, _, v => v = .pointer (some ⟨p, 0, none⟩)
  | 24, w, v => RS w v RC
  | 25, _, v => v = .slice a7 n c7
  | 26, _, v => v = .bool true
  | 27, _, v => v = .bool false
  | 28, _, v => v = .bool false
  | 29, _, v => v = .bool false
  | 30, _, v => v = .pointer (some ⟨p, 0, none⟩)
  | 31, w, v => RB w v B
  | 32, _, v => v = .string (str B)
  | 33, _, v => v = .agg TL.toArray
  | 34, w, v => RB w v B
  | 35, _, v => v = .string (str B)
  | 36, _, v => v = .bool false
  | 37, _, v => v = .bool false
  | _, _, _ => True

theorem VRa_below (TL : List Value) (RC : List RecT) (B : List UInt8) (p n : Nat) (a7 : Option Addr) (c7 : Nat) : ∀ (i : Nat) (w w' : World) (v : Value), VRa TL RC B p n a7 c7 i w v → Below w.heap.size w w' → VRa TL RC B p n a7 c7 i w' v := by
  intro i w w' v h hb
  unfold VRa at h ⊢
  split at h <;> first | exact h | trivial | exact RB.below h hb | exact RS.below h hb | exact Own.below h hb | exact OwnV.below h hb | exact OwnRec.below h hb | exact Lay.R.below h hb

def VRb (p n c7 b q k m : Nat) (kx : ByteArray) (gx : Bool) (ax nx : Int) (sx : ByteArray) : Nat → World → Value → Prop
  | 54, _, v => v = .bool true
  | 55, _, v => v = .bool false
  | 56, _, v => v = .bool false
  | 57, _, v => v = .agg #[.string kx, .bool gx, .int .i64 ax, .int .i64 nx, .string sx]
  | 58, _, v => v = .slice (some ⟨b, q, none⟩) n c7
  | 59, _, v => v = .int .i64 (k : Int)
  | 60, _, v => v = .pointer (some ⟨b, q + k * 5, none⟩)
  | 61, _, v => v = .agg #[.string kx, .bool gx, .int .i64 ax, .int .i64 nx, .string sx]
  | 62, _, v => v = .bool true
  | 63, _, v => v = .bool false
  | 64, _, v => v = .bool false
  | 65, _, v => v = .bool false
  | 66, _, v => v = .pointer (some ⟨p, 0, none⟩)
  | 67, _, v => v = .slice (some ⟨b, q, none⟩) n c7
  | 68, _, v => v = .int .i64 (k : Int)
  | 69, _, v => v = .pointer (some ⟨b, q + k * 5, none⟩)
  | 70, _, v => v = .pointer (some ⟨b, q + k * 5, none⟩)
  | 71, _, v => v = .string kx
  | 72, _, v => v = .int .i64 (m : Int)
  | 73, _, v => v = .slice (some ⟨b, q, none⟩) n c7
  | 74, _, v => v = .slice (some ⟨b, q, none⟩) n c7
  | 75, _, v => v = .int .i64 (k : Int)
  | 76, _, v => v = .pointer (some ⟨b, q + k * 5, none⟩)
  | 77, _, v => v = .pointer (some ⟨b, q + k * 5, none⟩)
  | 78, _, v => v = .string kx
  | 79, _, v => v = .int .i64 (m : Int)
  | 80, _, v => v = .bool false
  | 81, _, v => v = .bool false
  | _, _, _ => True

theorem VRb_below (p n c7 b q k m : Nat) (kx : ByteArray) (gx : Bool) (ax nx : Int) (sx : ByteArray) : ∀ (i : Nat) (w w' : World) (v : Value), VRb p n c7 b q k m kx gx ax nx sx i w v → Below w.heap.size w w' → VRb p n c7 b q k m kx gx ax nx sx i w' v := by
  intro i w w' v h hb
  unfold VRb at h ⊢
  split at h <;> first | exact h | trivial | exact h

theorem eqRec_same (x : RecT) : eqRec x.1 x.2.1 x.2.2.1 x.2.2.2.1 x.2.2.2.2 x.1 x.2.1 x.2.2.1 x.2.2.2.1 x.2.2.2.2 = true := by
  rw [eqRec_iff]
  exact decide_eq_true rfl
set_option maxHeartbeats 8000000 in
set_option maxRecDepth 100000 in
theorem right_c {w : World} {B0 p : Nat} {u : Value} {r : Option Addr} {TT : TabT} (h : HW w B0 p u r TT) (ask : ByteArray) (hask : ask.size ≤ 1000000) :
    Calls Tryz.prog 13 #[.pointer (some ⟨p, 0, none⟩), .agg (tabL TT 32).toArray, .string ask] w fun e w' => e = .returned (.bool true) ∧ Below w.heap.size w w' := by
  have hK := ok_keys h.lay.ok
  have hNL := newest_len hK
  have CLN := Go.Lib.hid (show ∀ W, Below w.heap.size w W → Calls Tryz.prog 22 #[.pointer (some ⟨p, 0, none⟩)] W fun e w' => e = .returned (.int .i64 ((newestR (recsT TT 32)).length : Int)) ∧ Below W.heap.size W w' from fun W hb => (hlen_c (h.below hb)).mono fun e w' hh => ⟨by rw [hNL]; exact hh.1, by rw [← hh.2]; exact Below.refl _ _⟩)
  have CLS := Go.Lib.hid fun W (hb : Below w.heap.size w W) => hlist_c (h.below hb)
  have CBY := Go.Lib.hid fun W (hb : Below w.heap.size w W) => hbytes_c (h.below hb)
  have CTB := fun W => rtabbytes_c TT W h.lay.sizes h.lay.recs
  rw [if_pos h.lay.ok] at CTB
  have CTB := Go.Lib.hid CTB
  have CRC := Go.Lib.hid fun W => rrecs_c TT W
  have CG := Go.Lib.hid (show ∀ W k, Below w.heap.size w W → k.size ≤ 1000000 → Calls Tryz.prog 19 #[.pointer (some ⟨p, 0, none⟩), .string k] W fun e w' => e = .returned (outR (findK keyR (newestR (recsT TT 32)) k.toList)) ∧ Below W.heap.size W w' from fun W k hb hk => (hget_c (h.below hb) k hk).mono fun e w' hh => ⟨by rw [newest_find hK]; exact hh.1, hh.2⟩)
  have CRD := Go.Lib.hid (show ∀ W k, Below w.heap.size w W → k.size ≤ 1000000 → Calls Tryz.prog 20 #[.pointer (some ⟨p, 0, none⟩), .string k] W fun e w' => e = .returned (.int .i64 (readsR (newestR (recsT TT 32)) k : Int)) ∧ Below W.heap.size W w' from fun W k hb hk => (hreads_c (h.below hb) k hk).mono fun e w' hh => ⟨by rw [readsR_newest hK]; exact hh.1, hh.2⟩)
  have HSZ := Go.Lib.hid (fun x (hx : x ∈ newestR (recsT TT 32)) => h.sizes x ((newest_mem hK x).1 hx))
  have hL := hNL ▸ h.len
  have HNK := Go.Lib.hid (newest_keys (recsT TT 32))
  have HSR := Go.Lib.hid (sizeTab TT)
  have HASK := Go.Lib.hid hask
  clear h hK hNL hask
  generalize newestR (recsT TT 32) = RC at *
  generalize tabB TT = B at *
  generalize tabL TT 32 = TL at *
  have hb1 := below_one w (.cells TL.toArray 33)
  have HX4 := Go.Lib.hid (heap_alloc_new w (.cells TL.toArray 33))
  have HB := Go.Lib.hid hb1
  clear hb1
  go_enter Tryz.func13, Tryz.ntmps13
  go_upto_region 1 with (fail)
  obtain ⟨g4, hg4⟩ : ∃ g, g = w.heap.size := ⟨_, rfl⟩
  rw [← hg4] at HX4 ⊢
  clear hg4
  generalize w.alloc (.cells TL.toArray 33) = w1 at *
  go_wp2_with (first
    | (with_reducible show wpList _ _ _ (⟨some 15, _, _, _, _, _⟩ :: _) _ _; go_loud (refine wpList_load_row rfl 33 (.tmp 4) rfl g4 rfl 33 TL.toArray (0, 0) _ HX4.out Tryz.underlying33 rfl (by rw [HSR.out, List.size_toArray]) ?_))
    | fail)
  refine (CRC.out _).mono ?_
  rintro e w2 ⟨v7, rfl, ho, hc⟩
  have HX4 := Go.Lib.hid (row_kept HX4.out hc)
  have HB := Go.Lib.hid (HB.out.trans (hc.mono HB.out.size))
  have HO := Go.Lib.hid ho
  obtain ⟨a7, c7, rfl, -⟩ := ho.rs.form
  clear ho hc CRC
  obtain ⟨n, hn⟩ : ∃ n, n = RC.length := ⟨_, rfl⟩
  have HN := Go.Lib.hid hn
  rw [← hn] at hL CLN HO ⊢
  clear hn
  go_upto_region 2 with (fail)
  have hss : ((str B).toList == (str B).toList) = true := by simp
  refine wp_region_each (by kernel_rfl) (VRa TL RC B p n a7 c7) (VRa_below TL RC B p n a7 c7) (by decide +kernel) (by decide +kernel) (by rfl) [17, 18, 19, 20, 21, 22, 23, 24, 25, 26, 27, 28, 29, 30, 31, 32, 33, 34, 35, 36, 37] (by rfl) ?_ ?_
  · intro i o ho a w6 hb6 hlen hg
    match i, ho with
    | 0, ho =>
      obtain rfl := Option.some.inj ho
      have h0 := given_old hg 0 (by decide +kernel)
      clear hg
      exact st_yield ho (wanted_none rfl) (.pointer (some ⟨p, 0, none⟩)) w6 (by simp [execOp, Act.eval, h0, go_sem]) ⟨_, rfl, Below.refl _ _, by rintro t' ⟨⟩; rfl⟩
    | 1, ho =>
      obtain rfl := Option.some.inj ho
      obtain ⟨_, h17, rfl⟩ := given_fed hg 17 (by decide +kernel)
      clear hg
      exact st_enter (w1 := w6) ho (wanted_none rfl) 22 #[.pointer (some ⟨p, 0, none⟩)] (by simp [execOp, Act.eval, h17, resolve, go_sem]) ((CLN.out w6 (HB.out.trans (hb6.mono HB.out.size))).mono (by rintro e w7 ⟨rfl, hb7⟩; exact ⟨_, rfl, _, rfl, hb7, by rintro t' ⟨⟩; rfl⟩))
    | 2, ho =>
      obtain rfl := Option.some.inj ho
      have h7 := given_old hg 7 (by decide +kernel)
      clear hg
      exact st_yield ho (wanted_none rfl) (.slice a7 n c7) w6 (by simp [execOp, Act.eval, h7, go_sem]) ⟨_, rfl, Below.refl _ _, by rintro t' ⟨⟩; rfl⟩
    | 3, ho =>
      obtain rfl := Option.some.inj ho
      obtain ⟨_, h19, rfl⟩ := given_fed hg 19 (by decide +kernel)
      clear hg
      exact st_yield ho (wanted_none rfl) (.int .i64 (n : Int)) w6 (by simp [execOp, Act.eval, h19, go_sem, resolve]) ⟨_, rfl, Below.refl _ _, by rintro t' ⟨⟩; rfl⟩
    | 4, ho =>
      obtain rfl := Option.some.inj ho
      obtain ⟨_, h18, rfl⟩ := given_fed hg 18 (by decide +kernel)
      obtain ⟨_, h20, rfl⟩ := given_fed hg 20 (by decide +kernel)
      clear hg
      exact st_yield ho (wanted_none rfl) (.bool false) w6 (by simp [execOp, Act.eval, h18, h20, go_sem]) ⟨_, rfl, Below.refl _ _, by rintro t' ⟨⟩; rfl⟩
    | 5, ho =>
      obtain rfl := Option.some.inj ho
      obtain ⟨_, h21, rfl⟩ := given_fed hg 21 (by decide +kernel)
      clear hg
      exact st_yield ho (wanted_none rfl) (.bool false) w6 (by simp [execOp, Act.eval, h21, go_sem]) ⟨_, rfl, Below.refl _ _, by rintro t' ⟨⟩; rfl⟩
    | 6, ho =>
      obtain rfl := Option.some.inj ho
      have h0 := given_old hg 0 (by decide +kernel)
      obtain ⟨_, h22, rfl⟩ := given_fed hg 22 (by decide +kernel)
      clear hg
      exact st_yield ho (wanted_some rfl rfl h22 rfl) (.pointer (some ⟨p, 0, none⟩)) w6 (by simp [execOp, Act.eval, h0, go_sem]) ⟨_, rfl, Below.refl _ _, by rintro t' ⟨⟩; rfl⟩
    | 7, ho =>
      obtain rfl := Option.some.inj ho
      obtain ⟨_, h23, rfl⟩ := given_fed hg 23 (by decide +kernel)
      obtain ⟨_, h22, rfl⟩ := given_fed hg 22 (by decide +kernel)
      clear hg
      exact st_enter (w1 := w6) ho (wanted_some rfl rfl h22 rfl) 21 #[.pointer (some ⟨p, 0, none⟩)] (by simp [execOp, Act.eval, h23, resolve, go_sem]) ((CLS.out w6 (HB.out.trans (hb6.mono HB.out.size))).mono (by rintro e w7 ⟨v, rfl, hown, hb7⟩; exact ⟨v, rfl, _, rfl, hb7, by rintro t' ⟨⟩; exact hown.rs⟩))
    | 8, ho =>
      obtain rfl := Option.some.inj ho
      have h7 := given_old hg 7 (by decide +kernel)
      obtain ⟨_, h22, rfl⟩ := given_fed hg 22 (by decide +kernel)
      clear hg
      exact st_yield ho (wanted_some rfl rfl h22 rfl) (.slice a7 n c7) w6 (by simp [execOp, Act.eval, h7, go_sem]) ⟨_, rfl, Below.refl _ _, by rintro t' ⟨⟩; rfl⟩
    | 9, ho =>
      obtain rfl := Option.some.inj ho
      obtain ⟨v24, h24, p24⟩ := given_fed hg 24 (by decide +kernel)
      obtain ⟨_, h25, rfl⟩ := given_fed hg 25 (by decide +kernel)
      obtain ⟨_, h22, rfl⟩ := given_fed hg 22 (by decide +kernel)
      clear hg
      have ce := reqrecs_c v24 (.slice a7 n c7) RC RC w6 p24 (HO.out.below hb6).rs
      rw [decide_eq_true rfl] at ce
      exact st_enter (w1 := w6) ho (wanted_some rfl rfl h22 rfl) 27 #[v24, .slice a7 n c7] (by simp [execOp, Act.eval, h24, h25, resolve, go_sem]) (ce.mono (by rintro e w7 ⟨rfl, hb7⟩; exact ⟨_, rfl, _, rfl, hb7, by rintro t' ⟨⟩; rfl⟩))
    | 10, ho =>
      obtain rfl := Option.some.inj ho
      obtain ⟨_, h26, rfl⟩ := given_fed hg 26 (by decide +kernel)
      obtain ⟨_, h22, rfl⟩ := given_fed hg 22 (by decide +kernel)
      clear hg
      exact st_yield ho (wanted_some rfl rfl h22 rfl) (.bool false) w6 (by simp [execOp, Act.eval, h26, go_sem]) ⟨_, rfl, Below.refl _ _, by rintro t' ⟨⟩; rfl⟩
    | 11, ho =>
      obtain rfl := Option.some.inj ho
      obtain ⟨_, h22, rfl⟩ := given_fed hg 22 (by decide +kernel)
      obtain ⟨_, h27, rfl⟩ := given_fed hg 27 (by decide +kernel)
      clear hg
      exact st_yield ho (wanted_none rfl) (.bool false) w6 (by simp [execOp, Act.eval, h22, h27, go_sem]) ⟨_, rfl, Below.refl _ _, by rintro t' ⟨⟩; rfl⟩
    | 12, ho =>
      obtain rfl := Option.some.inj ho
      obtain ⟨_, h28, rfl⟩ := given_fed hg 28 (by decide +kernel)
      clear hg
      exact st_yield ho (wanted_none rfl) (.bool false) w6 (by simp [execOp, Act.eval, h28, go_sem]) ⟨_, rfl, Below.refl _ _, by rintro t' ⟨⟩; rfl⟩
    | 13, ho =>
      obtain rfl := Option.some.inj ho
      have h0 := given_old hg 0 (by decide +kernel)
      obtain ⟨_, h29, rfl⟩ := given_fed hg 29 (by decide +kernel)
      clear hg
      exact st_yield ho (wanted_some rfl rfl h29 rfl) (.pointer (some ⟨p, 0, none⟩)) w6 (by simp [execOp, Act.eval, h0, go_sem]) ⟨_, rfl, Below.refl _ _, by rintro t' ⟨⟩; rfl⟩
    | 14, ho =>
      obtain rfl := Option.some.inj ho
      obtain ⟨_, h30, rfl⟩ := given_fed hg 30 (by decide +kernel)
      obtain ⟨_, h29, rfl⟩ := given_fed hg 29 (by decide +kernel)
      clear hg
      exact st_enter (w1 := w6) ho (wanted_some rfl rfl h29 rfl) 15 #[.pointer (some ⟨p, 0, none⟩)] (by simp [execOp, Act.eval, h30, resolve, go_sem]) ((CBY.out w6 (HB.out.trans (hb6.mono HB.out.size))).mono (by rintro e w7 ⟨v, rfl, hown, hb7⟩; exact ⟨v, rfl, _, rfl, hb7, by rintro t' ⟨⟩; exact hown.rb⟩))
    | 15, ho =>
      obtain rfl := Option.some.inj ho
      obtain ⟨v31, h31, p31⟩ := given_fed hg 31 (by decide +kernel)
      obtain ⟨_, h29, rfl⟩ := given_fed hg 29 (by decide +kernel)
      clear hg
      have cv := run_string_RB w6 47 5 9 Tryz.underlying47 Tryz.underlying5 Tryz.underlying9 v31 B p31
      exact st_yield ho (wanted_some rfl rfl h29 rfl) (.string (str B)) w6 (by simp [execOp, Act.eval, h31, cv, Result.andThen]) ⟨_, rfl, Below.refl _ _, by rintro t' ⟨⟩; rfl⟩
    | 16, ho =>
      obtain rfl := Option.some.inj ho
      have h4 := given_old hg 4 (by decide +kernel)
      obtain ⟨_, h29, rfl⟩ := given_fed hg 29 (by decide +kernel)
      clear hg
      exact st_list ho (wanted_some rfl rfl h29 rfl) fun Q' hQ => wpList_met (wanted_some rfl rfl h29 rfl) (wpList_load_row rfl 33 (.tmp 4) rfl g4 (by simp [Act.eval, h4]) 33 TL.toArray (0, 0) _ (row_kept HX4.out hb6) Tryz.underlying33 rfl (by rw [HSR.out, List.size_toArray]) (wpList_nil (hQ _ _ ⟨_, rfl, Below.refl _ _, by rintro t' ⟨⟩; rfl⟩)))
    | 17, ho =>
      obtain rfl := Option.some.inj ho
      obtain ⟨_, h33, rfl⟩ := given_fed hg 33 (by decide +kernel)
      obtain ⟨_, h29, rfl⟩ := given_fed hg 29 (by decide +kernel)
      clear hg
      exact st_enter (w1 := w6) ho (wanted_some rfl rfl h29 rfl) 46 #[.agg TL.toArray] (by simp [execOp, Act.eval, h33, resolve, go_sem]) ((CTB.out w6).mono (by rintro e w7 ⟨v, rfl, hown, hb7⟩; exact ⟨v, rfl, _, rfl, hb7, by rintro t' ⟨⟩; exact hown.rb⟩))
    | 18, ho =>
      obtain rfl := Option.some.inj ho
      obtain ⟨v34, h34, p34⟩ := given_fed hg 34 (by decide +kernel)
      obtain ⟨_, h29, rfl⟩ := given_fed hg 29 (by decide +kernel)
      clear hg
      have cv := run_string_RB w6 47 5 9 Tryz.underlying47 Tryz.underlying5 Tryz.underlying9 v34 B p34
      exact st_yield ho (wanted_some rfl rfl h29 rfl) (.string (str B)) w6 (by simp [execOp, Act.eval, h34, cv, Result.andThen]) ⟨_, rfl, Below.refl _ _, by rintro t' ⟨⟩; rfl⟩
    | 19, ho =>
      obtain rfl := Option.some.inj ho
      obtain ⟨_, h32, rfl⟩ := given_fed hg 32 (by decide +kernel)
      obtain ⟨_, h35, rfl⟩ := given_fed hg 35 (by decide +kernel)
      obtain ⟨_, h29, rfl⟩ := given_fed hg 29 (by decide +kernel)
      clear hg
      exact st_yield ho (wanted_some rfl rfl h29 rfl) (.bool false) w6 (by simp [execOp, Act.eval, h32, h35, go_sem]) ⟨_, rfl, Below.refl _ _, by rintro t' ⟨⟩; rfl⟩
    | 20, ho =>
      obtain rfl := Option.some.inj ho
      obtain ⟨_, h29, rfl⟩ := given_fed hg 29 (by decide +kernel)
      obtain ⟨_, h36, rfl⟩ := given_fed hg 36 (by decide +kernel)
      clear hg
      exact st_yield ho (wanted_none rfl) (.bool false) w6 (by simp [execOp, Act.eval, h29, h36, go_sem]) ⟨_, rfl, Below.refl _ _, by rintro t' ⟨⟩; rfl⟩
    | n + 21, ho => simp at ho
  · intro f w20 hb20 hv
    have h37 := hv 37 (by decide)
    simp only [VRa] at h37
    have HB := Go.Lib.hid (HB.out.trans (hb20.mono HB.out.size))
    have HR := Go.Lib.hid (show ∀ W, Below w20.heap.size w20 W → RS W (.slice a7 n c7) RC from fun W hb => (HO.out.below (hb20.trans (hb.mono hb20.size))).rs)
    clear hv hb20 HX4 HO hss CLN CLS CBY CTB HSR
    unfold putAll
    simp only [List.foldl]
    simp only [h37]
    go_simp
    go_wp2_with fail
    go_loopw [8] (fun iv wr => ∃ k : Nat, k ≤ n ∧ iv = .int .i64 (k : Int) ∧ Hid (Below w20.heap.size w20 wr)) (fun iv _ => n - (intOf iv).toNat)
    case atStart => exact ⟨0, by omega, rfl, Go.Lib.hid (Below.refl _ _)⟩
    case round =>
      obtain ⟨k, hi, rfl, HBr⟩ := hrel
      by_cases hlt : k < n
      · have hltI : (k : Int) < (n : Int) := by omega
        have hlt2 : k < RC.length := by rw [← HN.out]; exact hlt
        obtain ⟨b, q, rfl, -, -, c0, c1, c2, c3, c4⟩ := (HR.out _ HBr.out).at k hlt2
        have hix := run_idx5 b q n c7 k hlt
        have hsz := HSZ.out _ (List.getElem_mem hlt2)
        have HFD := Go.Lib.hid (show findK keyR RC (RC[k].1).toList = some RC[k] from (find_iff HNK.out _ _).2 ⟨List.getElem_mem hlt2, rfl⟩)
        have HEQ := Go.Lib.hid (eqRec_same RC[k])
        generalize RC[k] = x at *
        obtain ⟨kx, gx, ax, nx, sx⟩ := x
        simp only [] at c0 c1 c2 c3 c4 hsz HFD HEQ
        have HBw := Go.Lib.hid (HB.out.trans (HBr.out.mono HB.out.size))
        have CGX := CG.out wr kx HBw.out (by omega)
        rw [HFD.out, outR_some] at CGX
        unfold recOf recV at CGX
        have CGX := Go.Lib.hid CGX
        have CE := fun W => reqrec_c kx gx ax nx sx kx gx ax nx sx W
        unfold recV at CE
        rw [HEQ.out] at CE
        have CE := Go.Lib.hid CE
        have CRD := Go.Lib.hid fun W hb => CRD.out W kx hb (by omega)
        have CRR := Go.Lib.hid (show ∀ W, Below w20.heap.size w20 W → Calls Tryz.prog 47 #[.slice (some ⟨b, q, none⟩) n c7, .string kx] W fun e w' => e = .returned (.int .i64 (readsR RC kx : Int)) ∧ Below W.heap.size W w' from fun W hb => rreads_c _ RC kx W (HR.out W hb) (by rw [← HN.out]; omega) (fun x hx => by have := HSZ.out x hx; omega) (by omega))
        generalize readsR RC kx = m at *
        clear hsz HFD HEQ hlt2
        go_wp2_with fail
        refine CGX.out.mono ?_
        rintro e w5 ⟨rfl, hc⟩
        have hbA := below_one w5 (.cells #[.string kx, .bool gx, .int .i64 ax, .int .i64 nx, .string sx] 28)
        have HX9 := Go.Lib.hid (heap_alloc_new w5 (.cells #[.string kx, .bool gx, .int .i64 ax, .int .i64 nx, .string sx] 28))
        have hcA := hc.trans (hbA.mono hc.size)
        have HBr9 := Go.Lib.hid (HBr.out.trans (hcA.mono HBr.out.size))
        have HB9 := Go.Lib.hid (HB.out.trans (HBr9.out.mono HB.out.size))
        have HC := Go.Lib.hid (fun (W : World) (hb : Below (w5.alloc (.cells #[.string kx, .bool gx, .int .i64 ax, .int .i64 nx, .string sx] 28)).heap.size (w5.alloc (.cells #[.string kx, .bool gx, .int .i64 ax, .int .i64 nx, .string sx] 28)) W) => by
          have hh := hcA.trans (hb.mono hcA.size)
          exact And.intro (keepC c0 hh) (And.intro (keepC c1 hh) (And.intro (keepC c2 hh) (And.intro (keepC c3 hh) (keepC c4 hh)))))
        clear hc hbA hcA CGX HBr HBw c0 c1 c2 c3 c4
        go_upto_region 8 with (fail)
        obtain ⟨g9, hg9⟩ : ∃ g, g = w5.heap.size := ⟨_, rfl⟩
        rw [← hg9] at HX9 ⊢
        clear hg9
        generalize w5.alloc (.cells #[.string kx, .bool gx, .int .i64 ax, .int .i64 nx, .string sx] 28) = w9 at *
        refine wp_region_each (by kernel_rfl) (VRb p n c7 b q k m kx gx ax nx sx) (VRb_below p n c7 b q k m kx gx ax nx sx) (by decide +kernel) (by decide +kernel) (by rfl) [54, 55, 56, 57, 58, 59, 60, 61, 62, 63, 64, 65, 66, 67, 68, 69, 70, 71, 72, 73, 74, 75, 76, 77, 78, 79, 80, 81] (by rfl) ?_ ?_
        · intro i o ho a w6 hb6 hlen hg
          obtain ⟨y0, y1, y2, y3, y4⟩ := row5 (row_kept HX9.out hb6)
          obtain ⟨c0, c1, c2, c3, c4⟩ := HC.out w6 hb6
          match i, ho with
          | 0, ho =>
            obtain rfl := Option.some.inj ho
            have h10 := given_old hg 10 (by decide +kernel)
            clear hg
            exact st_yield ho (wanted_none rfl) (.bool true) w6 (by simp [execOp, Act.eval, h10, go_sem]) ⟨_, rfl, Below.refl _ _, by rintro t' ⟨⟩; rfl⟩
          | 1, ho =>
            obtain rfl := Option.some.inj ho
            obtain ⟨_, h54, rfl⟩ := given_fed hg 54 (by decide +kernel)
            clear hg
            exact st_yield ho (wanted_none rfl) (.bool false) w6 (by simp [execOp, Act.eval, h54, go_sem]) ⟨_, rfl, Below.refl _ _, by rintro t' ⟨⟩; rfl⟩
          | 2, ho =>
            obtain rfl := Option.some.inj ho
            obtain ⟨_, h55, rfl⟩ := given_fed hg 55 (by decide +kernel)
            clear hg
            exact st_yield ho (wanted_none rfl) (.bool false) w6 (by simp [execOp, Act.eval, h55, go_sem]) ⟨_, rfl, Below.refl _ _, by rintro t' ⟨⟩; rfl⟩
          | 3, ho =>
            obtain rfl := Option.some.inj ho
            have h9 := given_old hg 9 (by decide +kernel)
            obtain ⟨_, h56, rfl⟩ := given_fed hg 56 (by decide +kernel)
            clear hg
            exact st_yield ho (wanted_some rfl rfl h56 rfl) (.agg #[.string kx, .bool gx, .int .i64 ax, .int .i64 nx, .string sx]) w6 (by simp [execOp, Act.eval, h9, go_sem, y0, y1, y2, y3, y4]) ⟨_, rfl, Below.refl _ _, by rintro t' ⟨⟩; rfl⟩
          | 4, ho =>
            obtain rfl := Option.some.inj ho
            have h7 := given_old hg 7 (by decide +kernel)
            obtain ⟨_, h56, rfl⟩ := given_fed hg 56 (by decide +kernel)
            clear hg
            exact st_yield ho (wanted_some rfl rfl h56 rfl) (.slice (some ⟨b, q, none⟩) n c7) w6 (by simp [execOp, Act.eval, h7, go_sem]) ⟨_, rfl, Below.refl _ _, by rintro t' ⟨⟩; rfl⟩
          | 5, ho =>
            obtain rfl := Option.some.inj ho
            have h8 := given_old hg 8 (by decide +kernel)
            obtain ⟨_, h56, rfl⟩ := given_fed hg 56 (by decide +kernel)
            clear hg
            exact st_yield ho (wanted_some rfl rfl h56 rfl) (.int .i64 (k : Int)) w6 (by simp [execOp, Act.eval, h8, go_sem]) ⟨_, rfl, Below.refl _ _, by rintro t' ⟨⟩; rfl⟩
          | 6, ho =>
            obtain rfl := Option.some.inj ho
            obtain ⟨_, h58, rfl⟩ := given_fed hg 58 (by decide +kernel)
            obtain ⟨_, h59, rfl⟩ := given_fed hg 59 (by decide +kernel)
            obtain ⟨_, h56, rfl⟩ := given_fed hg 56 (by decide +kernel)
            clear hg
            exact st_yield ho (wanted_some rfl rfl h56 rfl) (.pointer (some ⟨b, q + k * 5, none⟩)) w6 (by simp [execOp, Act.eval, h58, h59, go_sem, hix]) ⟨_, rfl, Below.refl _ _, by rintro t' ⟨⟩; rfl⟩
          | 7, ho =>
            obtain rfl := Option.some.inj ho
            obtain ⟨_, h60, rfl⟩ := given_fed hg 60 (by decide +kernel)
            obtain ⟨_, h56, rfl⟩ := given_fed hg 56 (by decide +kernel)
            clear hg
            exact st_yield ho (wanted_some rfl rfl h56 rfl) (.agg #[.string kx, .bool gx, .int .i64 ax, .int .i64 nx, .string sx]) w6 (by simp [execOp, Act.eval, h60, go_sem, c0, c1, c2, c3, c4]) ⟨_, rfl, Below.refl _ _, by rintro t' ⟨⟩; rfl⟩
          | 8, ho =>
            obtain rfl := Option.some.inj ho
            obtain ⟨_, h57, rfl⟩ := given_fed hg 57 (by decide +kernel)
            obtain ⟨_, h61, rfl⟩ := given_fed hg 61 (by decide +kernel)
            obtain ⟨_, h56, rfl⟩ := given_fed hg 56 (by decide +kernel)
            clear hg
            exact st_enter (w1 := w6) ho (wanted_some rfl rfl h56 rfl) 30 #[.agg #[.string kx, .bool gx, .int .i64 ax, .int .i64 nx, .string sx], .agg #[.string kx, .bool gx, .int .i64 ax, .int .i64 nx, .string sx]] (by simp [execOp, Act.eval, h57, h61, resolve, go_sem]) ((CE.out w6).mono (by rintro e w7 ⟨rfl, hb7⟩; exact ⟨_, rfl, _, rfl, hb7, by rintro t' ⟨⟩; rfl⟩))
          | 9, ho =>
            obtain rfl := Option.some.inj ho
            obtain ⟨_, h62, rfl⟩ := given_fed hg 62 (by decide +kernel)
            obtain ⟨_, h56, rfl⟩ := given_fed hg 56 (by decide +kernel)
            clear hg
            exact st_yield ho (wanted_some rfl rfl h56 rfl) (.bool false) w6 (by simp [execOp, Act.eval, h62, go_sem]) ⟨_, rfl, Below.refl _ _, by rintro t' ⟨⟩; rfl⟩
          | 10, ho =>
            obtain rfl := Option.some.inj ho
            obtain ⟨_, h56, rfl⟩ := given_fed hg 56 (by decide +kernel)
            obtain ⟨_, h63, rfl⟩ := given_fed hg 63 (by decide +kernel)
            clear hg
            exact st_yield ho (wanted_none rfl) (.bool false) w6 (by simp [execOp, Act.eval, h56, h63, go_sem]) ⟨_, rfl, Below.refl _ _, by rintro t' ⟨⟩; rfl⟩
          | 11, ho =>
            obtain rfl := Option.some.inj ho
            obtain ⟨_, h64, rfl⟩ := given_fed hg 64 (by decide +kernel)
            clear hg
            exact st_yield ho (wanted_none rfl) (.bool false) w6 (by simp [execOp, Act.eval, h64, go_sem]) ⟨_, rfl, Below.refl _ _, by rintro t' ⟨⟩; rfl⟩
          | 12, ho =>
            obtain rfl := Option.some.inj ho
            have h0 := given_old hg 0 (by decide +kernel)
            obtain ⟨_, h65, rfl⟩ := given_fed hg 65 (by decide +kernel)
            clear hg
            exact st_yield ho (wanted_some rfl rfl h65 rfl) (.pointer (some ⟨p, 0, none⟩)) w6 (by simp [execOp, Act.eval, h0, go_sem]) ⟨_, rfl, Below.refl _ _, by rintro t' ⟨⟩; rfl⟩
          | 13, ho =>
            obtain rfl := Option.some.inj ho
            have h7 := given_old hg 7 (by decide +kernel)
            obtain ⟨_, h65, rfl⟩ := given_fed hg 65 (by decide +kernel)
            clear hg
            exact st_yield ho (wanted_some rfl rfl h65 rfl) (.slice (some ⟨b, q, none⟩) n c7) w6 (by simp [execOp, Act.eval, h7, go_sem]) ⟨_, rfl, Below.refl _ _, by rintro t' ⟨⟩; rfl⟩
          | 14, ho =>
            obtain rfl := Option.some.inj ho
            have h8 := given_old hg 8 (by decide +kernel)
            obtain ⟨_, h65, rfl⟩ := given_fed hg 65 (by decide +kernel)
            clear hg
            exact st_yield ho (wanted_some rfl rfl h65 rfl) (.int .i64 (k : Int)) w6 (by simp [execOp, Act.eval, h8, go_sem]) ⟨_, rfl, Below.refl _ _, by rintro t' ⟨⟩; rfl⟩
          | 15, ho =>
            obtain rfl := Option.some.inj ho
            obtain ⟨_, h67, rfl⟩ := given_fed hg 67 (by decide +kernel)
            obtain ⟨_, h68, rfl⟩ := given_fed hg 68 (by decide +kernel)
            obtain ⟨_, h65, rfl⟩ := given_fed hg 65 (by decide +kernel)
            clear hg
            exact st_yield ho (wanted_some rfl rfl h65 rfl) (.pointer (some ⟨b, q + k * 5, none⟩)) w6 (by simp [execOp, Act.eval, h67, h68, go_sem, hix]) ⟨_, rfl, Below.refl _ _, by rintro t' ⟨⟩; rfl⟩
          | 16, ho =>
            obtain rfl := Option.some.inj ho
            obtain ⟨_, h69, rfl⟩ := given_fed hg 69 (by decide +kernel)
            obtain ⟨_, h65, rfl⟩ := given_fed hg 65 (by decide +kernel)
            clear hg
            exact st_yield ho (wanted_some rfl rfl h65 rfl) (.pointer (some ⟨b, q + k * 5, none⟩)) w6 (by simp [execOp, Act.eval, h69, go_sem]) ⟨_, rfl, Below.refl _ _, by rintro t' ⟨⟩; rfl⟩
          | 17, ho =>
            obtain rfl := Option.some.inj ho
            obtain ⟨_, h70, rfl⟩ := given_fed hg 70 (by decide +kernel)
            obtain ⟨_, h65, rfl⟩ := given_fed hg 65 (by decide +kernel)
            clear hg
            exact st_yield ho (wanted_some rfl rfl h65 rfl) (.string kx) w6 (by simp [execOp, Act.eval, h70, go_sem, c0]) ⟨_, rfl, Below.refl _ _, by rintro t' ⟨⟩; rfl⟩
          | 18, ho =>
            obtain rfl := Option.some.inj ho
            obtain ⟨_, h66, rfl⟩ := given_fed hg 66 (by decide +kernel)
            obtain ⟨_, h71, rfl⟩ := given_fed hg 71 (by decide +kernel)
            obtain ⟨_, h65, rfl⟩ := given_fed hg 65 (by decide +kernel)
            clear hg
            exact st_enter (w1 := w6) ho (wanted_some rfl rfl h65 rfl) 20 #[.pointer (some ⟨p, 0, none⟩), .string kx] (by simp [execOp, Act.eval, h66, h71, resolve, go_sem]) ((CRD.out w6 (HB9.out.trans (hb6.mono HB9.out.size))).mono (by rintro e w7 ⟨rfl, hb7⟩; exact ⟨_, rfl, _, rfl, hb7, by rintro t' ⟨⟩; rfl⟩))
          | 19, ho =>
            obtain rfl := Option.some.inj ho
            have h7 := given_old hg 7 (by decide +kernel)
            obtain ⟨_, h65, rfl⟩ := given_fed hg 65 (by decide +kernel)
            clear hg
            exact st_yield ho (wanted_some rfl rfl h65 rfl) (.slice (some ⟨b, q, none⟩) n c7) w6 (by simp [execOp, Act.eval, h7, go_sem]) ⟨_, rfl, Below.refl _ _, by rintro t' ⟨⟩; rfl⟩
          | 20, ho =>
            obtain rfl := Option.some.inj ho
            have h7 := given_old hg 7 (by decide +kernel)
            obtain ⟨_, h65, rfl⟩ := given_fed hg 65 (by decide +kernel)
            clear hg
            exact st_yield ho (wanted_some rfl rfl h65 rfl) (.slice (some ⟨b, q, none⟩) n c7) w6 (by simp [execOp, Act.eval, h7, go_sem]) ⟨_, rfl, Below.refl _ _, by rintro t' ⟨⟩; rfl⟩
          | 21, ho =>
            obtain rfl := Option.some.inj ho
            have h8 := given_old hg 8 (by decide +kernel)
            obtain ⟨_, h65, rfl⟩ := given_fed hg 65 (by decide +kernel)
            clear hg
            exact st_yield ho (wanted_some rfl rfl h65 rfl) (.int .i64 (k : Int)) w6 (by simp [execOp, Act.eval, h8, go_sem]) ⟨_, rfl, Below.refl _ _, by rintro t' ⟨⟩; rfl⟩
          | 22, ho =>
            obtain rfl := Option.some.inj ho
            obtain ⟨_, h74, rfl⟩ := given_fed hg 74 (by decide +kernel)
            obtain ⟨_, h75, rfl⟩ := given_fed hg 75 (by decide +kernel)
            obtain ⟨_, h65, rfl⟩ := given_fed hg 65 (by decide +kernel)
            clear hg
            exact st_yield ho (wanted_some rfl rfl h65 rfl) (.pointer (some ⟨b, q + k * 5, none⟩)) w6 (by simp [execOp, Act.eval, h74, h75, go_sem, hix]) ⟨_, rfl, Below.refl _ _, by rintro t' ⟨⟩; rfl⟩
          | 23, ho =>
            obtain rfl := Option.some.inj ho
            obtain ⟨_, h76, rfl⟩ := given_fed hg 76 (by decide +kernel)
            obtain ⟨_, h65, rfl⟩ := given_fed hg 65 (by decide +kernel)
            clear hg
            exact st_yield ho (wanted_some rfl rfl h65 rfl) (.pointer (some ⟨b, q + k * 5, none⟩)) w6 (by simp [execOp, Act.eval, h76, go_sem]) ⟨_, rfl, Below.refl _ _, by rintro t' ⟨⟩; rfl⟩
          | 24, ho =>
            obtain rfl := Option.some.inj ho
            obtain ⟨_, h77, rfl⟩ := given_fed hg 77 (by decide +kernel)
            obtain ⟨_, h65, rfl⟩ := given_fed hg 65 (by decide +kernel)
            clear hg
            exact st_yield ho (wanted_some rfl rfl h65 rfl) (.string kx) w6 (by simp [execOp, Act.eval, h77, go_sem, c0]) ⟨_, rfl, Below.refl _ _, by rintro t' ⟨⟩; rfl⟩
          | 25, ho =>
            obtain rfl := Option.some.inj ho
            obtain ⟨_, h73, rfl⟩ := given_fed hg 73 (by decide +kernel)
            obtain ⟨_, h78, rfl⟩ := given_fed hg 78 (by decide +kernel)
            obtain ⟨_, h65, rfl⟩ := given_fed hg 65 (by decide +kernel)
            clear hg
            exact st_enter (w1 := w6) ho (wanted_some rfl rfl h65 rfl) 47 #[.slice (some ⟨b, q, none⟩) n c7, .string kx] (by simp [execOp, Act.eval, h73, h78, resolve, go_sem]) ((CRR.out w6 (HBr9.out.trans (hb6.mono HBr9.out.size))).mono (by rintro e w7 ⟨rfl, hb7⟩; exact ⟨_, rfl, _, rfl, hb7, by rintro t' ⟨⟩; rfl⟩))
          | 26, ho =>
            obtain rfl := Option.some.inj ho
            obtain ⟨_, h72, rfl⟩ := given_fed hg 72 (by decide +kernel)
            obtain ⟨_, h79, rfl⟩ := given_fed hg 79 (by decide +kernel)
            obtain ⟨_, h65, rfl⟩ := given_fed hg 65 (by decide +kernel)
            clear hg
            exact st_yield ho (wanted_some rfl rfl h65 rfl) (.bool false) w6 (by simp [execOp, Act.eval, h72, h79, go_sem]) ⟨_, rfl, Below.refl _ _, by rintro t' ⟨⟩; rfl⟩
          | 27, ho =>
            obtain rfl := Option.some.inj ho
            obtain ⟨_, h65, rfl⟩ := given_fed hg 65 (by decide +kernel)
            obtain ⟨_, h80, rfl⟩ := given_fed hg 80 (by decide +kernel)
            clear hg
            exact st_yield ho (wanted_none rfl) (.bool false) w6 (by simp [execOp, Act.eval, h65, h80, go_sem]) ⟨_, rfl, Below.refl _ _, by rintro t' ⟨⟩; rfl⟩
          | n + 28, ho => simp at ho
        · intro f w8 hb8 hv
          have h81 := hv 81 (by decide)
          simp only [VRb] at h81
          have HBr8 := Go.Lib.hid (HBr9.out.trans (hb8.mono HBr9.out.size))
          clear hv hb8 HX9 HC HBr9 HB9 CE CRD CRR hix
          unfold putAll
          simp only [List.foldl]
          simp only [h81]
          clear h81
          go_simp
          go_wp2_with fail
          go_roundw
          case rel => exact ⟨k + 1, by omega, by go_num, HBr8⟩
          case measure => simp only [intOf]; omega
      · obtain rfl : k = n := by omega
        have HBw := Go.Lib.hid (HB.out.trans (HBr.out.mono HB.out.size))
        have CGX := Go.Lib.hid (CG.out wr ask HBw.out HASK.out)
        have CF := Go.Lib.hid (show ∀ W, Below w20.heap.size w20 W → _ from fun W hb => rfind_c (.slice a7 k c7) RC ask W (HR.out W hb))
        have HEQ := Go.Lib.hid (eqRec_same ((findK keyR RC ask.toList).getD nullR))
        unfold outR at CGX CF
        generalize (findK keyR RC ask.toList).isSome = bq at *
        generalize (findK keyR RC ask.toList).getD nullR = x at *
        obtain ⟨kx, gx, ax, nx, sx⟩ := x
        unfold recOf recV at CGX CF
        simp only [] at CGX CF HEQ
        have CE := fun W => reqrec_c kx gx ax nx sx kx gx ax nx sx W
        unfold recV at CE
        rw [HEQ.out] at CE
        have CE := Go.Lib.hid CE
        have CRD := Go.Lib.hid fun W hb => CRD.out W ask hb HASK.out
        have CRR := Go.Lib.hid (show ∀ W, Below w20.heap.size w20 W → Calls Tryz.prog 47 #[.slice a7 k c7, .string ask] W fun e w' => e = .returned (.int .i64 (readsR RC ask : Int)) ∧ Below W.heap.size W w' from fun W hb => rreads_c _ RC ask W (HR.out W hb) (by rw [← HN.out]; omega) (fun x hx => by have := HSZ.out x hx; omega) HASK.out)
        generalize readsR RC ask = m at *
        clear HEQ
        go_wp2_with fail
        refine CGX.out.mono ?_
        rintro e w5 ⟨rfl, hc⟩
        have hbA := below_one w5 (.cells #[.string kx, .bool gx, .int .i64 ax, .int .i64 nx, .string sx] 28)
        have HXA := Go.Lib.hid (heap_alloc_new w5 (.cells #[.string kx, .bool gx, .int .i64 ax, .int .i64 nx, .string sx] 28))
        have hcA := hc.trans (hbA.mono hc.size)
        have HBrA := Go.Lib.hid (HBr.out.trans (hcA.mono HBr.out.size))
        have CF := Go.Lib.hid (CF.out _ HBrA.out)
        clear hc hbA hcA CGX HBr HBw CG
        go_wp2_with fail
        refine CF.out.mono ?_
        rintro e w6 ⟨rfl, hc⟩
        have hbB := below_one w6 (.cells #[.string kx, .bool gx, .int .i64 ax, .int .i64 nx, .string sx] 28)
        have HXB := Go.Lib.hid (heap_alloc_new w6 (.cells #[.string kx, .bool gx, .int .i64 ax, .int .i64 nx, .string sx] 28))
        have hcB := hc.trans (hbB.mono hc.size)
        have HXA := Go.Lib.hid (row_kept HXA.out hcB)
        have HBrB := Go.Lib.hid (HBrA.out.trans (hcB.mono HBrA.out.size))
        obtain ⟨y0, y1, y2, y3, y4⟩ := row5 HXA.out
        obtain ⟨z0, z1, z2, z3, z4⟩ := row5 HXB.out
        clear hc hbB hcB CF HBrA
        go_upto_region 12 with (fail)
        have hbq : (bq == bq) = true := by simp
        go_wp2_with fail
        refine (CE.out _).mono ?_
        rintro e w7 ⟨rfl, hc⟩
        have HBr7 := Go.Lib.hid (HBrB.out.trans (hc.mono HBrB.out.size))
        have CRD := Go.Lib.hid (CRD.out _ (HB.out.trans (HBr7.out.mono HB.out.size)))
        clear hc HBrB HXA HXB y0 y1 y2 y3 y4 z0 z1 z2 z3 z4 CE
        go_wp2_with fail
        refine CRD.out.mono ?_
        rintro e w8 ⟨rfl, hc⟩
        have HBr8 := Go.Lib.hid (HBr7.out.trans (hc.mono HBr7.out.size))
        have CRR := Go.Lib.hid (CRR.out _ HBr8.out)
        clear hc HBr7 CRD
        go_wp2_with fail
        refine CRR.out.mono ?_
        rintro e w9 ⟨rfl, hc⟩
        have HF := Go.Lib.hid (HB.out.trans ((HBr8.out.trans (hc.mono HBr8.out.size)).mono HB.out.size))
        clear hc HBr8 CRR
        go_wp2_with fail
        go_ret
        exact ⟨rfl, HF.out⟩
end Go.Proofs.YthbnecdeebmlhaaGreat

namespace Go.Proofs.YthbnecdeebmlhaaGreat
open Go.RowKit

theorem build_rslot (hq : Bool) (kx : ByteArray) (gx : Bool) (ax nx : Int) (sx : ByteArray) (W : World) : (Instr.build 30 #[(0, .bool hq), (1, .agg #[.string kx, .bool gx, .int .i64 ax, .int .i64 nx, .string sx])]).run Tryz.prog W = .ok (.agg #[.bool hq, .string kx, .bool gx, .int .i64 ax, .int .i64 nx, .string sx]) W :=
  run_build W _ _ _ (by kernel_rfl)
theorem zero_tabRZ (W : World) : (zeroValue 33).run Tryz.prog W = .ok (.agg (tabL zeroT 32).toArray) W := zero_tab W

def VWOf (gs gd i D R : Nat) (hq : Bool) (kx : ByteArray) (gx : Bool) (ax nx : Int) (sx : ByteArray) : Nat → World → Value → Prop
  | 9, _, v => v = .int .i64 (i : Int)
  | 10, _, v => v = .int .i64 (D : Int)
  | 11, _, v => v = .int .i64 (i : Int)
  | 12, _, v => v = .int .i64 (R : Int)
  | 13, _, v => v = .int .i64 (i : Int)
  | 14, _, v => v = .int .i64 (D : Int)
  | 15, _, v => v = .int .i64 (i : Int)
  | 16, _, v => v = .int .i64 (R : Int)
  | 17, _, v => v = .pointer (some ⟨gs, 24 * D, none⟩)
  | 18, _, v => v = .pointer (some ⟨gs, 24 * D + 6 * R, none⟩)
  | 19, _, v => v = .pointer (some ⟨gs, 24 * D + 6 * R, none⟩)
  | 20, _, v => v = .bool hq
  | 21, _, v => v = .int .i64 (i : Int)
  | 22, _, v => v = .int .i64 (D : Int)
  | 23, _, v => v = .int .i64 (i : Int)
  | 24, _, v => v = .int .i64 (R : Int)
  | 25, _, v => v = .pointer (some ⟨gs, 24 * D, none⟩)
  | 26, _, v => v = .pointer (some ⟨gs, 24 * D + 6 * R, none⟩)
  | 27, _, v => v = .pointer (some ⟨gs, 24 * D + 6 * R + 1, none⟩)
  | 28, _, v => v = .agg #[.string kx, .bool gx, .int .i64 ax, .int .i64 nx, .string sx]
  | 29, _, v => v = .agg #[.bool hq, .string kx, .bool gx, .int .i64 ax, .int .i64 nx, .string sx]
  | 30, _, v => v = .pointer (some ⟨gd, 24 * D, none⟩)
  | 31, _, v => v = .pointer (some ⟨gd, 24 * D + 6 * R, none⟩)
  | _, _, _ => True
theorem VWOf_below (gs gd i D R : Nat) (hq : Bool) (kx : ByteArray) (gx : Bool) (ax nx : Int) (sx : ByteArray) : ∀ (i' : Nat) (w w' : World) (v : Value), VWOf gs gd i D R hq kx gx ax nx sx i' w v → Below w.heap.size w w' → VWOf gs gd i D R hq kx gx ax nx sx i' w' v := by
  intro i' w w' v h hb
  unfold VWOf at h ⊢
  split at h <;> first | exact h | trivial | exact h

theorem ret_lof_at {w w0 : World} {tmps : Array Value} {TL : List Value} {g : Nat} {fr : Nat × Nat}
    (hp : tmps.getD 2 undef = .pointer (some ⟨g, 0, none⟩)) (hg : w.heap[g]? = some (.cells TL.toArray 43 fr)) (hs : (Tryz.prog.info? 43).map (·.size) = some TL.length) (hb : Below w0.heap.size w0 w) :
    bodyPost Tryz.prog Tryz.f12 (fun e w' => e = .returned (.agg TL.toArray) ∧ Below w0.heap.size w0 w') Exit.ret { tmps := tmps, defers := [] } w :=
  bodyPost_ret (results_cell_row (P := Tryz.prog) (fn := Tryz.f12) (p := 2) (ty := 43) rfl tmps w g 43 TL.toArray fr _ hp hg Tryz.underlying43 rfl (by rw [hs, List.size_toArray])) rfl ⟨rfl, hb⟩

set_option maxHeartbeats 8000000 in
set_option maxRecDepth 100000 in
theorem lof_c (TT : TabT) (w : World) :
    Calls Tryz.prog 12 #[.agg (tabL TT 32).toArray] w fun e w' => e = .returned (.agg (tabL TT 32).toArray) ∧ Below w.heap.size w w' := by
  have hz := zero_tabZ
  have HSZ := Go.Lib.hid (sizeTabO zeroT)
  have HST := Go.Lib.hid (sizeTabO TT)
  have HTO := Go.Lib.hid (tabL_one TT)
  have hT1 := TK.new w TT
  have HLE := Go.Lib.hid (show (tabL zeroT 32).length = (tabL TT 32).length from by rw [tabL_len, tabL_len])
  have HT0 := Go.Lib.hid (fun W => TO.new W zeroT)
  have HCT := Go.Lib.hid (show tabL (cutT TT 32) 32 = tabL TT 32 from tabL_congr 32 (fun q hq => cutT_old TT hq))
  have HRG := Go.Lib.hid (fun (W : World) g (h : TO W g (cutT TT 32)) => h.range)
  rw [HCT.out] at HRG
  have hb1 := below_one w (.cells (tabL TT 32).toArray 33)
  have hs1 : (w.alloc (.cells (tabL TT 32).toArray 33)).heap.size = w.heap.size + 1 := Array.size_push _
  generalize tabL zeroT 32 = ZL at *
  generalize tabL TT 32 = TL at *
  have hb2 := below_one (w.alloc (.cells TL.toArray 33)) (.cells ZL.toArray 43)
  have HT2 := Go.Lib.hid (hT1.below hb2)
  have HZ2 := Go.Lib.hid (heap_alloc_new (w.alloc (.cells TL.toArray 33)) (.cells ZL.toArray 43))
  rw [hs1] at HZ2
  have HB2 := Go.Lib.hid (hb1.trans (hb2.mono hb1.size))
  have HS2 := Go.Lib.hid (show ((w.alloc (.cells TL.toArray 33)).alloc (.cells ZL.toArray 43)).heap.size = w.heap.size + 2 from (Array.size_push _).trans (by rw [hs1]))
  clear hb1 hb2 hs1 hT1 HCT
  go_enter Tryz.func12, Tryz.ntmps12
  go_upto_region 1 with (fail)
  generalize (w.alloc (.cells TL.toArray 33)).alloc (.cells ZL.toArray 43) = w2 at *
  obtain ⟨g, hg⟩ : ∃ g, g = w.heap.size := ⟨_, rfl⟩
  rw [← hg] at HT2 HZ2 HS2 ⊢
  have HG := Go.Lib.hid (show w.heap.size ≤ g by omega)
  clear hg
  go_upto_region 2 with (fail)
  have hb3 := below_one w2 (.cells ZL.toArray 43)
  have HT3 := Go.Lib.hid (HT2.out.below hb3)
  have HZ3 := Go.Lib.hid (row_kept HZ2.out hb3)
  have HB3 := Go.Lib.hid (HB2.out.trans (hb3.mono HB2.out.size))
  have HD3 := Go.Lib.hid (HT0.out w2)
  rw [HS2.out] at HD3
  obtain ⟨g3, hg3⟩ : ∃ g3, g3 = w2.heap.size := ⟨_, rfl⟩
  have HG3 := Go.Lib.hid (show g3 = g + 2 by rw [hg3, HS2.out])
  rw [← HG3.out] at HD3
  rw [← hg3]
  clear hb3 HT2 HZ2 HB2 HT0 hg3 HS2
  generalize w2.alloc (.cells ZL.toArray 43) = w3 at *
  have HD3 := Go.Lib.hid (show TO w3 g3 (cutT TT 0) from by
    have : cutT TT 0 = zeroT := by funext q; unfold cutT zeroT; rw [if_neg (by omega)]
    rw [this]
    exact HD3.out)
  go_wp2_with fail
  go_loopw [4] (fun iv wr => ∃ i : Nat, i ≤ 32 ∧ iv = .int .i64 (i : Int) ∧ Hid (TK wr g TT) ∧ Hid (TO wr g3 (cutT TT i)) ∧ Hid (wr.heap[g + 1]? = some (.cells ZL.toArray 43)) ∧ Hid (Below w.heap.size w wr)) (fun iv _ => 32 - (intOf iv).toNat)
  case atStart => exact ⟨0, by omega, rfl, HT3, HD3, HZ3, HB3⟩
  case round =>
    clear HT3 HD3 HZ3 HB3
    obtain ⟨i, hi, rfl, HT, HD, HZ, HB⟩ := hrel
    by_cases hlt : i < 32
    · have hltI : (i : Int) < 32 := by omega
      obtain ⟨D, hD⟩ : ∃ D, D = i / 4 := ⟨_, rfl⟩
      obtain ⟨R, hR⟩ : ∃ R, R = i % 4 := ⟨_, rfl⟩
      have d1 : (i : Int).tdiv 4 = (D : Int) := by rw [Int.tdiv_eq_ediv_of_nonneg (by omega)]; omega
      have r1 : (i : Int).tmod 4 = (R : Int) := by rw [Int.tmod_eq_emod_of_nonneg (by omega)]; omega
      have hD8 : D < 8 := by omega
      have hR4 : R < 4 := by omega
      have hwD : IntKind.i64.wrap (D : Int) = (D : Int) := by rw [IntKind.wrap_i64]; omega
      have HIE := Go.Lib.hid (show 4 * D + R = i by omega)
      have hix1 := idxT g D hD8
      have hix2 := idxT2 g (24 * D) R hR4
      have hjx1 := idxO g3 D hD8
      have hjx2 := idxO2 g3 (24 * D) R hR4
      have HCELL := Go.Lib.hid (fun W (hb : Below wr.heap.size wr W) => by
        have h := (HT.out.below hb).at hD8 hR4
        rw [show 4 * D + R = i by omega] at h
        exact h)
      have HSET := Go.Lib.hid (cutT_set TT i)
      clear hD hR
      go_upto_region 5 with (fail)
      generalize TT i = y at *
      obtain ⟨hq, kx, gx, ax, nx, sx⟩ := y
      simp only [] at HCELL
      refine wp_region_head 23 (by decide) (by kernel_rfl) (VWOf g g3 i D R hq kx gx ax nx sx) (VWOf_below g g3 i D R hq kx gx ax nx sx) (by decide +kernel) (by rfl) [9, 10, 11, 12, 13, 14, 15, 16, 17, 18, 19, 20, 21, 22, 23, 24, 25, 26, 27, 28, 29, 30, 31] (by rfl) ?_ ?_
      · intro i' o hin ho a w8 hb8 hlen hg
        obtain ⟨y0, y1, y2, y3, y4, y5⟩ := HCELL.out w8 hb8
        match i', hin, ho with
        | 0, hin, ho =>
          obtain rfl := Option.some.inj ho
          have h4 := given_old hg 4 (by decide +kernel)
          clear hg
          exact st_yield ho (wanted_none rfl) (.int .i64 (i : Int)) w8 (by simp [execOp, Act.eval, h4, go_sem]) ⟨_, rfl, Below.refl _ _, by rintro t' ⟨⟩; rfl⟩
        | 1, hin, ho =>
          obtain rfl := Option.some.inj ho
          obtain ⟨_, h9, rfl⟩ := given_fed hg 9 (by decide +kernel)
          clear hg
          exact st_yield ho (wanted_none rfl) (.int .i64 (D : Int)) w8 (by simp [execOp, Act.eval, h9, go_sem, d1, hwD]) ⟨_, rfl, Below.refl _ _, by rintro t' ⟨⟩; rfl⟩
        | 2, hin, ho =>
          obtain rfl := Option.some.inj ho
          have h4 := given_old hg 4 (by decide +kernel)
          clear hg
          exact st_yield ho (wanted_none rfl) (.int .i64 (i : Int)) w8 (by simp [execOp, Act.eval, h4, go_sem]) ⟨_, rfl, Below.refl _ _, by rintro t' ⟨⟩; rfl⟩
        | 3, hin, ho =>
          obtain rfl := Option.some.inj ho
          obtain ⟨_, h11, rfl⟩ := given_fed hg 11 (by decide +kernel)
          clear hg
          exact st_yield ho (wanted_none rfl) (.int .i64 (R : Int)) w8 (by simp [execOp, Act.eval, h11, go_sem, r1]) ⟨_, rfl, Below.refl _ _, by rintro t' ⟨⟩; rfl⟩
        | 4, hin, ho =>
          obtain rfl := Option.some.inj ho
          have h4 := given_old hg 4 (by decide +kernel)
          clear hg
          exact st_yield ho (wanted_none rfl) (.int .i64 (i : Int)) w8 (by simp [execOp, Act.eval, h4, go_sem]) ⟨_, rfl, Below.refl _ _, by rintro t' ⟨⟩; rfl⟩
        | 5, hin, ho =>
          obtain rfl := Option.some.inj ho
          obtain ⟨_, h13, rfl⟩ := given_fed hg 13 (by decide +kernel)
          clear hg
          exact st_yield ho (wanted_none rfl) (.int .i64 (D : Int)) w8 (by simp [execOp, Act.eval, h13, go_sem, d1, hwD]) ⟨_, rfl, Below.refl _ _, by rintro t' ⟨⟩; rfl⟩
        | 6, hin, ho =>
          obtain rfl := Option.some.inj ho
          have h4 := given_old hg 4 (by decide +kernel)
          clear hg
          exact st_yield ho (wanted_none rfl) (.int .i64 (i : Int)) w8 (by simp [execOp, Act.eval, h4, go_sem]) ⟨_, rfl, Below.refl _ _, by rintro t' ⟨⟩; rfl⟩
        | 7, hin, ho =>
          obtain rfl := Option.some.inj ho
          obtain ⟨_, h15, rfl⟩ := given_fed hg 15 (by decide +kernel)
          clear hg
          exact st_yield ho (wanted_none rfl) (.int .i64 (R : Int)) w8 (by simp [execOp, Act.eval, h15, go_sem, r1]) ⟨_, rfl, Below.refl _ _, by rintro t' ⟨⟩; rfl⟩
        | 8, hin, ho =>
          obtain rfl := Option.some.inj ho
          have h1 := given_old hg 1 (by decide +kernel)
          obtain ⟨_, h14, rfl⟩ := given_fed hg 14 (by decide +kernel)
          clear hg
          exact st_yield ho (wanted_none rfl) (.pointer (some ⟨g, 24 * D, none⟩)) w8 (by simp [execOp, Act.eval, h1, h14, go_sem, hix1]) ⟨_, rfl, Below.refl _ _, by rintro t' ⟨⟩; rfl⟩
        | 9, hin, ho =>
          obtain rfl := Option.some.inj ho
          obtain ⟨_, h17, rfl⟩ := given_fed hg 17 (by decide +kernel)
          obtain ⟨_, h16, rfl⟩ := given_fed hg 16 (by decide +kernel)
          clear hg
          exact st_yield ho (wanted_none rfl) (.pointer (some ⟨g, 24 * D + 6 * R, none⟩)) w8 (by simp [execOp, Act.eval, h17, h16, go_sem, hix2]) ⟨_, rfl, Below.refl _ _, by rintro t' ⟨⟩; rfl⟩
        | 10, hin, ho =>
          obtain rfl := Option.some.inj ho
          obtain ⟨_, h18, rfl⟩ := given_fed hg 18 (by decide +kernel)
          clear hg
          exact st_yield ho (wanted_none rfl) (.pointer (some ⟨g, 24 * D + 6 * R, none⟩)) w8 (by simp [execOp, Act.eval, h18, go_sem]) ⟨_, rfl, Below.refl _ _, by rintro t' ⟨⟩; rfl⟩
        | 11, hin, ho =>
          obtain rfl := Option.some.inj ho
          obtain ⟨_, h19, rfl⟩ := given_fed hg 19 (by decide +kernel)
          clear hg
          exact st_yield ho (wanted_none rfl) (.bool hq) w8 (by simp [execOp, Act.eval, h19, go_sem, y0]) ⟨_, rfl, Below.refl _ _, by rintro t' ⟨⟩; rfl⟩
        | 12, hin, ho =>
          obtain rfl := Option.some.inj ho
          have h4 := given_old hg 4 (by decide +kernel)
          clear hg
          exact st_yield ho (wanted_none rfl) (.int .i64 (i : Int)) w8 (by simp [execOp, Act.eval, h4, go_sem]) ⟨_, rfl, Below.refl _ _, by rintro t' ⟨⟩; rfl⟩
        | 13, hin, ho =>
          obtain rfl := Option.some.inj ho
          obtain ⟨_, h21, rfl⟩ := given_fed hg 21 (by decide +kernel)
          clear hg
          exact st_yield ho (wanted_none rfl) (.int .i64 (D : Int)) w8 (by simp [execOp, Act.eval, h21, go_sem, d1, hwD]) ⟨_, rfl, Below.refl _ _, by rintro t' ⟨⟩; rfl⟩
        | 14, hin, ho =>
          obtain rfl := Option.some.inj ho
          have h4 := given_old hg 4 (by decide +kernel)
          clear hg
          exact st_yield ho (wanted_none rfl) (.int .i64 (i : Int)) w8 (by simp [execOp, Act.eval, h4, go_sem]) ⟨_, rfl, Below.refl _ _, by rintro t' ⟨⟩; rfl⟩
        | 15, hin, ho =>
          obtain rfl := Option.some.inj ho
          obtain ⟨_, h23, rfl⟩ := given_fed hg 23 (by decide +kernel)
          clear hg
          exact st_yield ho (wanted_none rfl) (.int .i64 (R : Int)) w8 (by simp [execOp, Act.eval, h23, go_sem, r1]) ⟨_, rfl, Below.refl _ _, by rintro t' ⟨⟩; rfl⟩
        | 16, hin, ho =>
          obtain rfl := Option.some.inj ho
          have h1 := given_old hg 1 (by decide +kernel)
          obtain ⟨_, h22, rfl⟩ := given_fed hg 22 (by decide +kernel)
          clear hg
          exact st_yield ho (wanted_none rfl) (.pointer (some ⟨g, 24 * D, none⟩)) w8 (by simp [execOp, Act.eval, h1, h22, go_sem, hix1]) ⟨_, rfl, Below.refl _ _, by rintro t' ⟨⟩; rfl⟩
        | 17, hin, ho =>
          obtain rfl := Option.some.inj ho
          obtain ⟨_, h25, rfl⟩ := given_fed hg 25 (by decide +kernel)
          obtain ⟨_, h24, rfl⟩ := given_fed hg 24 (by decide +kernel)
          clear hg
          exact st_yield ho (wanted_none rfl) (.pointer (some ⟨g, 24 * D + 6 * R, none⟩)) w8 (by simp [execOp, Act.eval, h25, h24, go_sem, hix2]) ⟨_, rfl, Below.refl _ _, by rintro t' ⟨⟩; rfl⟩
        | 18, hin, ho =>
          obtain rfl := Option.some.inj ho
          obtain ⟨_, h26, rfl⟩ := given_fed hg 26 (by decide +kernel)
          clear hg
          exact st_yield ho (wanted_none rfl) (.pointer (some ⟨g, 24 * D + 6 * R + 1, none⟩)) w8 (by simp [execOp, Act.eval, h26, go_sem]) ⟨_, rfl, Below.refl _ _, by rintro t' ⟨⟩; rfl⟩
        | 19, hin, ho =>
          obtain rfl := Option.some.inj ho
          obtain ⟨_, h27, rfl⟩ := given_fed hg 27 (by decide +kernel)
          clear hg
          exact st_yield ho (wanted_none rfl) (.agg #[.string kx, .bool gx, .int .i64 ax, .int .i64 nx, .string sx]) w8 (by simp [execOp, Act.eval, h27, go_sem, y1, y2, y3, y4, y5]) ⟨_, rfl, Below.refl _ _, by rintro t' ⟨⟩; rfl⟩
        | 20, hin, ho =>
          obtain rfl := Option.some.inj ho
          obtain ⟨_, h20, rfl⟩ := given_fed hg 20 (by decide +kernel)
          obtain ⟨_, h28, rfl⟩ := given_fed hg 28 (by decide +kernel)
          clear hg
          exact st_yield ho (wanted_none rfl) (.agg #[.bool hq, .string kx, .bool gx, .int .i64 ax, .int .i64 nx, .string sx]) w8 (by simp [execOp, Act.eval, h20, h28, build_oslot hq kx gx ax nx sx w8]) ⟨_, rfl, Below.refl _ _, by rintro t' ⟨⟩; rfl⟩
        | 21, hin, ho =>
          obtain rfl := Option.some.inj ho
          have h3 := given_old hg 3 (by decide +kernel)
          obtain ⟨_, h10, rfl⟩ := given_fed hg 10 (by decide +kernel)
          clear hg
          exact st_yield ho (wanted_none rfl) (.pointer (some ⟨g3, 24 * D, none⟩)) w8 (by simp [execOp, Act.eval, h3, h10, go_sem, hjx1]) ⟨_, rfl, Below.refl _ _, by rintro t' ⟨⟩; rfl⟩
        | 22, hin, ho =>
          obtain rfl := Option.some.inj ho
          obtain ⟨_, h30, rfl⟩ := given_fed hg 30 (by decide +kernel)
          obtain ⟨_, h12, rfl⟩ := given_fed hg 12 (by decide +kernel)
          clear hg
          exact st_yield ho (wanted_none rfl) (.pointer (some ⟨g3, 24 * D + 6 * R, none⟩)) w8 (by simp [execOp, Act.eval, h30, h12, go_sem, hjx2]) ⟨_, rfl, Below.refl _ _, by rintro t' ⟨⟩; rfl⟩
        | n + 23, hin, ho => omega
      · intro f w8 hb8 hv
        have h29 := hv 29 (by decide)
        have h31 := hv 31 (by decide)
        simp only [VWOf] at h29 h31
        have HT8 := Go.Lib.hid (HT.out.below hb8)
        have HD8 := Go.Lib.hid (HD.out.below hb8)
        have HZ8 := Go.Lib.hid (row_kept HZ.out hb8)
        have HB8 := Go.Lib.hid (HB.out.trans (hb8.mono HB.out.size))
        have HTH := Go.Lib.hid (show w8.there g3 (24 * D + 6 * R) (#[.bool hq, .string kx, .bool gx, .int .i64 ax, .int .i64 nx, .string sx] : Array Value).size from by rw [show 24 * D + 6 * R = 6 * i by have := HIE.out; omega]; exact HD8.out.there (by omega))
        have hgr := setCells_gr (enc6 (hq, kx, gx, ax, nx, sx)) w8 g3 (24 * D + 6 * R)
        have HT9 := Go.Lib.hid (HT8.out.same (hgr.block g HT8.out.lt (fun e => by have := HG3.out; have := Option.some.inj e; omega)))
        have HD9 := Go.Lib.hid (show TO (w8.setCells g3 (24 * D + 6 * R) (enc6 (hq, kx, gx, ax, nx, sx))) g3 (cutT TT (i + 1)) from by
          have := HD8.out.set (q := i) (by omega) (hq, kx, gx, ax, nx, sx)
          rw [show 6 * i = 24 * D + 6 * R by have := HIE.out; omega, HSET.out] at this
          exact this)
        have HZ9 := Go.Lib.hid ((hgr.block (g + 1) (row_lt HZ8.out) (fun e => by have := HG3.out; have := Option.some.inj e; omega)).trans HZ8.out)
        have HB9 := Go.Lib.hid (HB8.out.grown hgr HB8.out.size (fun j e => by have := HG3.out; have := HG.out; have := Option.some.inj e; omega))
        clear hv hb8 hix1 hix2 hjx1 hjx2 HT HD HZ HB HT8 HD8 HZ8 HB8 hgr d1 r1 hwD HCELL
        unfold putAll
        simp only [List.foldl, List.drop]
        simp only [h29, h31]
        clear h29 h31
        go_simp
        go_wp2_with (first
          | (with_reducible show wpList _ _ _ (⟨none, _, _, _, _, _⟩ :: _) _ _; go_loud (refine wpList_store_mid rfl 40 (.tmp 31) (.tmp 29) rfl g3 (24 * D + 6 * R) #[.bool hq, .string kx, .bool gx, .int .i64 ax, .int .i64 nx, .string sx] rfl rfl HTH.out (by kernel_rfl) (six1 hq kx gx ax nx sx) ?_))
          | fail)
        go_roundw
        case rel => exact ⟨i + 1, by omega, by go_num, HT9, HD9, HZ9, HB9⟩
        case measure => simp only [intOf]; omega
    · obtain rfl : i = 32 := by omega
      have HR9 := Go.Lib.hid (HRG.out _ _ HD.out)
      clear HT HD HRG
      go_wp2_with (first
        | (with_reducible show wpList _ _ _ (⟨some 32, _, _, _, _, _⟩ :: _) _ _; go_loud (refine wpList_load_mid rfl 43 (.tmp 3) rfl g3 0 rfl TL _ HR9.out Tryz.underlying43 rfl HST.out ?_))
        | (with_reducible show wpList _ _ _ (⟨none, Op.store 43 (.tmp 2) (.tmp 32), _, _, _, _⟩ :: _) _ _; go_loud (refine wpList_store_row rfl 43 (.tmp 2) (.tmp 32) rfl (g + 1) TL.toArray rfl rfl 43 _ HZ.out (by rw [HST.out, List.size_toArray]) (by rw [List.size_toArray, List.size_toArray]; exact HLE.out) HTO.out ?_))
        | fail)
      exact ret_lof_at rfl (setRow_heap _ _ _ _ _ (0, 0) HZ.out) HST.out (setRow_below _ HB.out (by have := HG.out; omega))

def VWBack (gs gd i D R : Nat) (hq : Bool) (kx : ByteArray) (gx : Bool) (ax nx : Int) (sx : ByteArray) : Nat → World → Value → Prop
  | 9, _, v => v = .int .i64 (i : Int)
  | 10, _, v => v = .int .i64 (D : Int)
  | 11, _, v => v = .int .i64 (i : Int)
  | 12, _, v => v = .int .i64 (R : Int)
  | 13, _, v => v = .int .i64 (i : Int)
  | 14, _, v => v = .int .i64 (D : Int)
  | 15, _, v => v = .int .i64 (i : Int)
  | 16, _, v => v = .int .i64 (R : Int)
  | 17, _, v => v = .pointer (some ⟨gs, 24 * D, none⟩)
  | 18, _, v => v = .pointer (some ⟨gs, 24 * D + 6 * R, none⟩)
  | 19, _, v => v = .pointer (some ⟨gs, 24 * D + 6 * R, none⟩)
  | 20, _, v => v = .bool hq
  | 21, _, v => v = .int .i64 (i : Int)
  | 22, _, v => v = .int .i64 (D : Int)
  | 23, _, v => v = .int .i64 (i : Int)
  | 24, _, v => v = .int .i64 (R : Int)
  | 25, _, v => v = .pointer (some ⟨gs, 24 * D, none⟩)
  | 26, _, v => v = .pointer (some ⟨gs, 24 * D + 6 * R, none⟩)
  | 27, _, v => v = .pointer (some ⟨gs, 24 * D + 6 * R + 1, none⟩)
  | 28, _, v => v = .agg #[.string kx, .bool gx, .int .i64 ax, .int .i64 nx, .string sx]
  | 29, _, v => v = .agg #[.bool hq, .string kx, .bool gx, .int .i64 ax, .int .i64 nx, .string sx]
  | 30, _, v => v = .pointer (some ⟨gd, 24 * D, none⟩)
  | 31, _, v => v = .pointer (some ⟨gd, 24 * D + 6 * R, none⟩)
  | _, _, _ => True
theorem VWBack_below (gs gd i D R : Nat) (hq : Bool) (kx : ByteArray) (gx : Bool) (ax nx : Int) (sx : ByteArray) : ∀ (i' : Nat) (w w' : World) (v : Value), VWBack gs gd i D R hq kx gx ax nx sx i' w v → Below w.heap.size w w' → VWBack gs gd i D R hq kx gx ax nx sx i' w' v := by
  intro i' w w' v h hb
  unfold VWBack at h ⊢
  split at h <;> first | exact h | trivial | exact h

theorem ret_lback_at {w w0 : World} {tmps : Array Value} {TL : List Value} {g : Nat} {fr : Nat × Nat}
    (hp : tmps.getD 2 undef = .pointer (some ⟨g, 0, none⟩)) (hg : w.heap[g]? = some (.cells TL.toArray 33 fr)) (hs : (Tryz.prog.info? 33).map (·.size) = some TL.length) (hb : Below w0.heap.size w0 w) :
    bodyPost Tryz.prog Tryz.f104 (fun e w' => e = .returned (.agg TL.toArray) ∧ Below w0.heap.size w0 w') Exit.ret { tmps := tmps, defers := [] } w :=
  bodyPost_ret (results_cell_row (P := Tryz.prog) (fn := Tryz.f104) (p := 2) (ty := 33) rfl tmps w g 33 TL.toArray fr _ hp hg Tryz.underlying33 rfl (by rw [hs, List.size_toArray])) rfl ⟨rfl, hb⟩

set_option maxHeartbeats 8000000 in
set_option maxRecDepth 100000 in
theorem lback_c (TT : TabT) (w : World) :
    Calls Tryz.prog 104 #[.agg (tabL TT 32).toArray] w fun e w' => e = .returned (.agg (tabL TT 32).toArray) ∧ Below w.heap.size w w' := by
  have hz := zero_tabRZ
  have HSZ := Go.Lib.hid (sizeTab zeroT)
  have HST := Go.Lib.hid (sizeTab TT)
  have HTO := Go.Lib.hid (tabL_one TT)
  have hT1 := TO.new w TT
  have HLE := Go.Lib.hid (show (tabL zeroT 32).length = (tabL TT 32).length from by rw [tabL_len, tabL_len])
  have HT0 := Go.Lib.hid (fun W => TK.new W zeroT)
  have HCT := Go.Lib.hid (show tabL (cutT TT 32) 32 = tabL TT 32 from tabL_congr 32 (fun q hq => cutT_old TT hq))
  have HRG := Go.Lib.hid (fun (W : World) g (h : TK W g (cutT TT 32)) => h.range)
  rw [HCT.out] at HRG
  have hb1 := below_one w (.cells (tabL TT 32).toArray 43)
  have hs1 : (w.alloc (.cells (tabL TT 32).toArray 43)).heap.size = w.heap.size + 1 := Array.size_push _
  generalize tabL zeroT 32 = ZL at *
  generalize tabL TT 32 = TL at *
  have hb2 := below_one (w.alloc (.cells TL.toArray 43)) (.cells ZL.toArray 33)
  have HT2 := Go.Lib.hid (hT1.below hb2)
  have HZ2 := Go.Lib.hid (heap_alloc_new (w.alloc (.cells TL.toArray 43)) (.cells ZL.toArray 33))
  rw [hs1] at HZ2
  have HB2 := Go.Lib.hid (hb1.trans (hb2.mono hb1.size))
  have HS2 := Go.Lib.hid (show ((w.alloc (.cells TL.toArray 43)).alloc (.cells ZL.toArray 33)).heap.size = w.heap.size + 2 from (Array.size_push _).trans (by rw [hs1]))
  clear hb1 hb2 hs1 hT1 HCT
  go_enter Tryz.func104, Tryz.ntmps104
  go_upto_region 1 with (fail)
  generalize (w.alloc (.cells TL.toArray 43)).alloc (.cells ZL.toArray 33) = w2 at *
  obtain ⟨g, hg⟩ : ∃ g, g = w.heap.size := ⟨_, rfl⟩
  rw [← hg] at HT2 HZ2 HS2 ⊢
  have HG := Go.Lib.hid (show w.heap.size ≤ g by omega)
  clear hg
  go_upto_region 2 with (fail)
  have hb3 := below_one w2 (.cells ZL.toArray 33)
  have HT3 := Go.Lib.hid (HT2.out.below hb3)
  have HZ3 := Go.Lib.hid (row_kept HZ2.out hb3)
  have HB3 := Go.Lib.hid (HB2.out.trans (hb3.mono HB2.out.size))
  have HD3 := Go.Lib.hid (HT0.out w2)
  rw [HS2.out] at HD3
  obtain ⟨g3, hg3⟩ : ∃ g3, g3 = w2.heap.size := ⟨_, rfl⟩
  have HG3 := Go.Lib.hid (show g3 = g + 2 by rw [hg3, HS2.out])
  rw [← HG3.out] at HD3
  rw [← hg3]
  clear hb3 HT2 HZ2 HB2 HT0 hg3 HS2
  generalize w2.alloc (.cells ZL.toArray 33) = w3 at *
  have HD3 := Go.Lib.hid (show TK w3 g3 (cutT TT 0) from by
    have : cutT TT 0 = zeroT := by funext q; unfold cutT zeroT; rw [if_neg (by omega)]
    rw [this]
    exact HD3.out)
  go_wp2_with fail
  go_loopw [4] (fun iv wr => ∃ i : Nat, i ≤ 32 ∧ iv = .int .i64 (i : Int) ∧ Hid (TO wr g TT) ∧ Hid (TK wr g3 (cutT TT i)) ∧ Hid (wr.heap[g + 1]? = some (.cells ZL.toArray 33)) ∧ Hid (Below w.heap.size w wr)) (fun iv _ => 32 - (intOf iv).toNat)
  case atStart => exact ⟨0, by omega, rfl, HT3, HD3, HZ3, HB3⟩
  case round =>
    clear HT3 HD3 HZ3 HB3
    obtain ⟨i, hi, rfl, HT, HD, HZ, HB⟩ := hrel
    by_cases hlt : i < 32
    · have hltI : (i : Int) < 32 := by omega
      obtain ⟨D, hD⟩ : ∃ D, D = i / 4 := ⟨_, rfl⟩
      obtain ⟨R, hR⟩ : ∃ R, R = i % 4 := ⟨_, rfl⟩
      have d1 : (i : Int).tdiv 4 = (D : Int) := by rw [Int.tdiv_eq_ediv_of_nonneg (by omega)]; omega
      have r1 : (i : Int).tmod 4 = (R : Int) := by rw [Int.tmod_eq_emod_of_nonneg (by omega)]; omega
      have hD8 : D < 8 := by omega
      have hR4 : R < 4 := by omega
      have hwD : IntKind.i64.wrap (D : Int) = (D : Int) := by rw [IntKind.wrap_i64]; omega
      have HIE := Go.Lib.hid (show 4 * D + R = i by omega)
      have hix1 := idxO g D hD8
      have hix2 := idxO2 g (24 * D) R hR4
      have hjx1 := idxT g3 D hD8
      have hjx2 := idxT2 g3 (24 * D) R hR4
      have HCELL := Go.Lib.hid (fun W (hb : Below wr.heap.size wr W) => by
        have h := (HT.out.below hb).at hD8 hR4
        rw [show 4 * D + R = i by omega] at h
        exact h)
      have HSET := Go.Lib.hid (cutT_set TT i)
      clear hD hR
      go_upto_region 5 with (fail)
      generalize TT i = y at *
      obtain ⟨hq, kx, gx, ax, nx, sx⟩ := y
      simp only [] at HCELL
      refine wp_region_head 23 (by decide) (by kernel_rfl) (VWBack g g3 i D R hq kx gx ax nx sx) (VWBack_below g g3 i D R hq kx gx ax nx sx) (by decide +kernel) (by rfl) [9, 10, 11, 12, 13, 14, 15, 16, 17, 18, 19, 20, 21, 22, 23, 24, 25, 26, 27, 28, 29, 30, 31] (by rfl) ?_ ?_
      · intro i' o hin ho a w8 hb8 hlen hg
        obtain ⟨y0, y1, y2, y3, y4, y5⟩ := HCELL.out w8 hb8
        match i', hin, ho with
        | 0, hin, ho =>
          obtain rfl := Option.some.inj ho
          have h4 := given_old hg 4 (by decide +kernel)
          clear hg
          exact st_yield ho (wanted_none rfl) (.int .i64 (i : Int)) w8 (by simp [execOp, Act.eval, h4, go_sem]) ⟨_, rfl, Below.refl _ _, by rintro t' ⟨⟩; rfl⟩
        | 1, hin, ho =>
          obtain rfl := Option.some.inj ho
          obtain ⟨_, h9, rfl⟩ := given_fed hg 9 (by decide +kernel)
          clear hg
          exact st_yield ho (wanted_none rfl) (.int .i64 (D : Int)) w8 (by simp [execOp, Act.eval, h9, go_sem, d1, hwD]) ⟨_, rfl, Below.refl _ _, by rintro t' ⟨⟩; rfl⟩
        | 2, hin, ho =>
          obtain rfl := Option.some.inj ho
          have h4 := given_old hg 4 (by decide +kernel)
          clear hg
          exact st_yield ho (wanted_none rfl) (.int .i64 (i : Int)) w8 (by simp [execOp, Act.eval, h4, go_sem]) ⟨_, rfl, Below.refl _ _, by rintro t' ⟨⟩; rfl⟩
        | 3, hin, ho =>
          obtain rfl := Option.some.inj ho
          obtain ⟨_, h11, rfl⟩ := given_fed hg 11 (by decide +kernel)
          clear hg
          exact st_yield ho (wanted_none rfl) (.int .i64 (R : Int)) w8 (by simp [execOp, Act.eval, h11, go_sem, r1]) ⟨_, rfl, Below.refl _ _, by rintro t' ⟨⟩; rfl⟩
        | 4, hin, ho =>
          obtain rfl := Option.some.inj ho
          have h4 := given_old hg 4 (by decide +kernel)
          clear hg
          exact st_yield ho (wanted_none rfl) (.int .i64 (i : Int)) w8 (by simp [execOp, Act.eval, h4, go_sem]) ⟨_, rfl, Below.refl _ _, by rintro t' ⟨⟩; rfl⟩
        | 5, hin, ho =>
          obtain rfl := Option.some.inj ho
          obtain ⟨_, h13, rfl⟩ := given_fed hg 13 (by decide +kernel)
          clear hg
          exact st_yield ho (wanted_none rfl) (.int .i64 (D : Int)) w8 (by simp [execOp, Act.eval, h13, go_sem, d1, hwD]) ⟨_, rfl, Below.refl _ _, by rintro t' ⟨⟩; rfl⟩
        | 6, hin, ho =>
          obtain rfl := Option.some.inj ho
          have h4 := given_old hg 4 (by decide +kernel)
          clear hg
          exact st_yield ho (wanted_none rfl) (.int .i64 (i : Int)) w8 (by simp [execOp, Act.eval, h4, go_sem]) ⟨_, rfl, Below.refl _ _, by rintro t' ⟨⟩; rfl⟩
        | 7, hin, ho =>
          obtain rfl := Option.some.inj ho
          obtain ⟨_, h15, rfl⟩ := given_fed hg 15 (by decide +kernel)
          clear hg
          exact st_yield ho (wanted_none rfl) (.int .i64 (R : Int)) w8 (by simp [execOp, Act.eval, h15, go_sem, r1]) ⟨_, rfl, Below.refl _ _, by rintro t' ⟨⟩; rfl⟩
        | 8, hin, ho =>
          obtain rfl := Option.some.inj ho
          have h1 := given_old hg 1 (by decide +kernel)
          obtain ⟨_, h14, rfl⟩ := given_fed hg 14 (by decide +kernel)
          clear hg
          exact st_yield ho (wanted_none rfl) (.pointer (some ⟨g, 24 * D, none⟩)) w8 (by simp [execOp, Act.eval, h1, h14, go_sem, hix1]) ⟨_, rfl, Below.refl _ _, by rintro t' ⟨⟩; rfl⟩
        | 9, hin, ho =>
          obtain rfl := Option.some.inj ho
          obtain ⟨_, h17, rfl⟩ := given_fed hg 17 (by decide +kernel)
          obtain ⟨_, h16, rfl⟩ := given_fed hg 16 (by decide +kernel)
          clear hg
          exact st_yield ho (wanted_none rfl) (.pointer (some ⟨g, 24 * D + 6 * R, none⟩)) w8 (by simp [execOp, Act.eval, h17, h16, go_sem, hix2]) ⟨_, rfl, Below.refl _ _, by rintro t' ⟨⟩; rfl⟩
        | 10, hin, ho =>
          obtain rfl := Option.some.inj ho
          obtain ⟨_, h18, rfl⟩ := given_fed hg 18 (by decide +kernel)
          clear hg
          exact st_yield ho (wanted_none rfl) (.pointer (some ⟨g, 24 * D + 6 * R, none⟩)) w8 (by simp [execOp, Act.eval, h18, go_sem]) ⟨_, rfl, Below.refl _ _, by rintro t' ⟨⟩; rfl⟩
        | 11, hin, ho =>
          obtain rfl := Option.some.inj ho
          obtain ⟨_, h19, rfl⟩ := given_fed hg 19 (by decide +kernel)
          clear hg
          exact st_yield ho (wanted_none rfl) (.bool hq) w8 (by simp [execOp, Act.eval, h19, go_sem, y0]) ⟨_, rfl, Below.refl _ _, by rintro t' ⟨⟩; rfl⟩
        | 12, hin, ho =>
          obtain rfl := Option.some.inj ho
          have h4 := given_old hg 4 (by decide +kernel)
          clear hg
          exact st_yield ho (wanted_none rfl) (.int .i64 (i : Int)) w8 (by simp [execOp, Act.eval, h4, go_sem]) ⟨_, rfl, Below.refl _ _, by rintro t' ⟨⟩; rfl⟩
        | 13, hin, ho =>
          obtain rfl := Option.some.inj ho
          obtain ⟨_, h21, rfl⟩ := given_fed hg 21 (by decide +kernel)
          clear hg
          exact st_yield ho (wanted_none rfl) (.int .i64 (D : Int)) w8 (by simp [execOp, Act.eval, h21, go_sem, d1, hwD]) ⟨_, rfl, Below.refl _ _, by rintro t' ⟨⟩; rfl⟩
        | 14, hin, ho =>
          obtain rfl := Option.some.inj ho
          have h4 := given_old hg 4 (by decide +kernel)
          clear hg
          exact st_yield ho (wanted_none rfl) (.int .i64 (i : Int)) w8 (by simp [execOp, Act.eval, h4, go_sem]) ⟨_, rfl, Below.refl _ _, by rintro t' ⟨⟩; rfl⟩
        | 15, hin, ho =>
          obtain rfl := Option.some.inj ho
          obtain ⟨_, h23, rfl⟩ := given_fed hg 23 (by decide +kernel)
          clear hg
          exact st_yield ho (wanted_none rfl) (.int .i64 (R : Int)) w8 (by simp [execOp, Act.eval, h23, go_sem, r1]) ⟨_, rfl, Below.refl _ _, by rintro t' ⟨⟩; rfl⟩
        | 16, hin, ho =>
          obtain rfl := Option.some.inj ho
          have h1 := given_old hg 1 (by decide +kernel)
          obtain ⟨_, h22, rfl⟩ := given_fed hg 22 (by decide +kernel)
          clear hg
          exact st_yield ho (wanted_none rfl) (.pointer (some ⟨g, 24 * D, none⟩)) w8 (by simp [execOp, Act.eval, h1, h22, go_sem, hix1]) ⟨_, rfl, Below.refl _ _, by rintro t' ⟨⟩; rfl⟩
        | 17, hin, ho =>
          obtain rfl := Option.some.inj ho
          obtain ⟨_, h25, rfl⟩ := given_fed hg 25 (by decide +kernel)
          obtain ⟨_, h24, rfl⟩ := given_fed hg 24 (by decide +kernel)
          clear hg
          exact st_yield ho (wanted_none rfl) (.pointer (some ⟨g, 24 * D + 6 * R, none⟩)) w8 (by simp [execOp, Act.eval, h25, h24, go_sem, hix2]) ⟨_, rfl, Below.refl _ _, by rintro t' ⟨⟩; rfl⟩
        | 18, hin, ho =>
          obtain rfl := Option.some.inj ho
          obtain ⟨_, h26, rfl⟩ := given_fed hg 26 (by decide +kernel)
          clear hg
          exact st_yield ho (wanted_none rfl) (.pointer (some ⟨g, 24 * D + 6 * R + 1, none⟩)) w8 (by simp [execOp, Act.eval, h26, go_sem]) ⟨_, rfl, Below.refl _ _, by rintro t' ⟨⟩; rfl⟩
        | 19, hin, ho =>
          obtain rfl := Option.some.inj ho
          obtain ⟨_, h27, rfl⟩ := given_fed hg 27 (by decide +kernel)
          clear hg
          exact st_yield ho (wanted_none rfl) (.agg #[.string kx, .bool gx, .int .i64 ax, .int .i64 nx, .string sx]) w8 (by simp [execOp, Act.eval, h27, go_sem, y1, y2, y3, y4, y5]) ⟨_, rfl, Below.refl _ _, by rintro t' ⟨⟩; rfl⟩
        | 20, hin, ho =>
          obtain rfl := Option.some.inj ho
          obtain ⟨_, h20, rfl⟩ := given_fed hg 20 (by decide +kernel)
          obtain ⟨_, h28, rfl⟩ := given_fed hg 28 (by decide +kernel)
          clear hg
          exact st_yield ho (wanted_none rfl) (.agg #[.bool hq, .string kx, .bool gx, .int .i64 ax, .int .i64 nx, .string sx]) w8 (by simp [execOp, Act.eval, h20, h28, build_rslot hq kx gx ax nx sx w8]) ⟨_, rfl, Below.refl _ _, by rintro t' ⟨⟩; rfl⟩
        | 21, hin, ho =>
          obtain rfl := Option.some.inj ho
          have h3 := given_old hg 3 (by decide +kernel)
          obtain ⟨_, h10, rfl⟩ := given_fed hg 10 (by decide +kernel)
          clear hg
          exact st_yield ho (wanted_none rfl) (.pointer (some ⟨g3, 24 * D, none⟩)) w8 (by simp [execOp, Act.eval, h3, h10, go_sem, hjx1]) ⟨_, rfl, Below.refl _ _, by rintro t' ⟨⟩; rfl⟩
        | 22, hin, ho =>
          obtain rfl := Option.some.inj ho
          obtain ⟨_, h30, rfl⟩ := given_fed hg 30 (by decide +kernel)
          obtain ⟨_, h12, rfl⟩ := given_fed hg 12 (by decide +kernel)
          clear hg
          exact st_yield ho (wanted_none rfl) (.pointer (some ⟨g3, 24 * D + 6 * R, none⟩)) w8 (by simp [execOp, Act.eval, h30, h12, go_sem, hjx2]) ⟨_, rfl, Below.refl _ _, by rintro t' ⟨⟩; rfl⟩
        | n + 23, hin, ho => omega
      · intro f w8 hb8 hv
        have h29 := hv 29 (by decide)
        have h31 := hv 31 (by decide)
        simp only [VWBack] at h29 h31
        have HT8 := Go.Lib.hid (HT.out.below hb8)
        have HD8 := Go.Lib.hid (HD.out.below hb8)
        have HZ8 := Go.Lib.hid (row_kept HZ.out hb8)
        have HB8 := Go.Lib.hid (HB.out.trans (hb8.mono HB.out.size))
        have HTH := Go.Lib.hid (show w8.there g3 (24 * D + 6 * R) (#[.bool hq, .string kx, .bool gx, .int .i64 ax, .int .i64 nx, .string sx] : Array Value).size from by rw [show 24 * D + 6 * R = 6 * i by have := HIE.out; omega]; exact HD8.out.there (by omega))
        have hgr := setCells_gr (enc6 (hq, kx, gx, ax, nx, sx)) w8 g3 (24 * D + 6 * R)
        have HT9 := Go.Lib.hid (HT8.out.same (hgr.block g HT8.out.lt (fun e => by have := HG3.out; have := Option.some.inj e; omega)))
        have HD9 := Go.Lib.hid (show TK (w8.setCells g3 (24 * D + 6 * R) (enc6 (hq, kx, gx, ax, nx, sx))) g3 (cutT TT (i + 1)) from by
          have := HD8.out.set (q := i) (by omega) (hq, kx, gx, ax, nx, sx)
          rw [show 6 * i = 24 * D + 6 * R by have := HIE.out; omega, HSET.out] at this
          exact this)
        have HZ9 := Go.Lib.hid ((hgr.block (g + 1) (row_lt HZ8.out) (fun e => by have := HG3.out; have := Option.some.inj e; omega)).trans HZ8.out)
        have HB9 := Go.Lib.hid (HB8.out.grown hgr HB8.out.size (fun j e => by have := HG3.out; have := HG.out; have := Option.some.inj e; omega))
        clear hv hb8 hix1 hix2 hjx1 hjx2 HT HD HZ HB HT8 HD8 HZ8 HB8 hgr d1 r1 hwD HCELL
        unfold putAll
        simp only [List.foldl, List.drop]
        simp only [h29, h31]
        clear h29 h31
        go_simp
        go_wp2_with (first
          | (with_reducible show wpList _ _ _ (⟨none, _, _, _, _, _⟩ :: _) _ _; go_loud (refine wpList_store_mid rfl 30 (.tmp 31) (.tmp 29) rfl g3 (24 * D + 6 * R) #[.bool hq, .string kx, .bool gx, .int .i64 ax, .int .i64 nx, .string sx] rfl rfl HTH.out (by kernel_rfl) (six1 hq kx gx ax nx sx) ?_))
          | fail)
        go_roundw
        case rel => exact ⟨i + 1, by omega, by go_num, HT9, HD9, HZ9, HB9⟩
        case measure => simp only [intOf]; omega
    · obtain rfl : i = 32 := by omega
      have HR9 := Go.Lib.hid (HRG.out _ _ HD.out)
      clear HT HD HRG
      go_wp2_with (first
        | (with_reducible show wpList _ _ _ (⟨some 32, _, _, _, _, _⟩ :: _) _ _; go_loud (refine wpList_load_mid rfl 33 (.tmp 3) rfl g3 0 rfl TL _ HR9.out Tryz.underlying33 rfl HST.out ?_))
        | (with_reducible show wpList _ _ _ (⟨none, Op.store 33 (.tmp 2) (.tmp 32), _, _, _, _⟩ :: _) _ _; go_loud (refine wpList_store_row rfl 33 (.tmp 2) (.tmp 32) rfl (g + 1) TL.toArray rfl rfl 33 _ HZ.out (by rw [HST.out, List.size_toArray]) (by rw [List.size_toArray, List.size_toArray]; exact HLE.out) HTO.out ?_))
        | fail)
      exact ret_lback_at rfl (setRow_heap _ _ _ _ _ (0, 0) HZ.out) HST.out (setRow_below _ HB.out (by have := HG.out; omega))

end Go.Proofs.YthbnecdeebmlhaaGreat

namespace Go.Proofs.YthbnecdeebmlhaaGreat
open Go.RowKit

/-- A pointer to a slot of the region's own. -/
def SlotAt (B : Nat) (w : World) (v : Value) : Prop := ∃ q X, v = .pointer (some ⟨q, 0, none⟩) ∧ B ≤ q ∧ w.heap[q]? = some (.cells X 30 (0, 0)) ∧ X.size = 6
theorem SlotAt.below {B : Nat} {w w' : World} {v : Value} (h : SlotAt B w v) (hb : Below w.heap.size w w') : SlotAt B w' v := by
  obtain ⟨q, X, h1, h2, h3, h4⟩ := h
  exact ⟨q, X, h1, h2, row_kept h3 hb, h4⟩
theorem SlotAt.set {B q : Nat} {w : World} {v : Value} {X A : Array Value} (h : SlotAt B w v) (hq2 : w.heap[q]? = some (.cells X 30 (0, 0))) (hA : A.size = 6) : SlotAt B (w.setRow q A) v := by
  obtain ⟨r, Y, h1, h2, h3, h4⟩ := h
  by_cases e : r = q
  · subst e; exact ⟨r, A, h1, h2, setRow_heap _ _ _ _ _ (0, 0) hq2, hA⟩
  · exact ⟨r, Y, h1, h2, (setRow_other w q r A e).trans h3, h4⟩
def VQe (B g i D R : Nat) (hq : Bool) (kx : ByteArray) (gx : Bool) (ax nx : Int) (sx : ByteArray) : Nat → World → Value → Prop
  | 12, _, v => v = .int .i64 (i : Int)
  | 13, _, v => v = .int .i64 (D : Int)
  | 14, _, v => v = .int .i64 (i : Int)
  | 15, _, v => v = .int .i64 (R : Int)
  | 16, _, v => v = .pointer (some ⟨g, 24 * D, none⟩)
  | 17, _, v => v = .pointer (some ⟨g, 24 * D + 6 * R, none⟩)
  | 18, _, v => v = .agg #[.bool hq, .string kx, .bool gx, .int .i64 ax, .int .i64 nx, .string sx]
  | 19, _, v => v = .int .i64 (i : Int)
  | 20, _, v => v = .int .i64 (D : Int)
  | 21, _, v => v = .int .i64 (i : Int)
  | 22, _, v => v = .int .i64 (R : Int)
  | 23, _, v => v = .pointer (some ⟨g + 1, 24 * D, none⟩)
  | 24, _, v => v = .pointer (some ⟨g + 1, 24 * D + 6 * R, none⟩)
  | 25, _, v => v = .agg #[.bool hq, .string kx, .bool gx, .int .i64 ax, .int .i64 nx, .string sx]
  | 6, w, v => SlotAt B w v
  | 7, w, v => SlotAt B w v
  | _, _, _ => True
theorem VQe_below (B g i D R : Nat) (hq : Bool) (kx : ByteArray) (gx : Bool) (ax nx : Int) (sx : ByteArray) : ∀ (i' : Nat) (w w' : World) (v : Value), VQe B g i D R hq kx gx ax nx sx i' w v → Below w.heap.size w w' → VQe B g i D R hq kx gx ax nx sx i' w' v := by
  intro i' w w' v h hb
  unfold VQe at h ⊢
  split at h <;> first | exact h | trivial | exact SlotAt.below h hb
theorem VQe_set (B g i D R : Nat) (hq : Bool) (kx : ByteArray) (gx : Bool) (ax nx : Int) (sx : ByteArray) {w : World} {q : Nat} {X A : Array Value} (hq2 : w.heap[q]? = some (.cells X 30 (0, 0))) (hA : A.size = 6) : ∀ (i' : Nat) (v : Value), VQe B g i D R hq kx gx ax nx sx i' w v → VQe B g i D R hq kx gx ax nx sx i' (w.setRow q A) v := by
  intro i' v h
  unfold VQe at h ⊢
  split at h <;> first | exact h | trivial | exact SlotAt.set h hq2 hA
/-- What the region has done. -/
structure IQe (w0 : World) (A : Array Value) (done : Nat → Bool) (a : Act) (w : World) : Prop where
  bel : Below w0.heap.size w0 w
  s6 : done 16 = true → ∃ q, a.tmps[6]? = some (.pointer (some ⟨q, 0, none⟩)) ∧ w.heap[q]? = some (.cells A 30 (0, 0))
  s7 : done 17 = true → ∃ q, a.tmps[7]? = some (.pointer (some ⟨q, 0, none⟩)) ∧ w.heap[q]? = some (.cells A 30 (0, 0))
section
variable {w0 w : World} {A : Array Value} {done : Nat → Bool} {a a' : Act}
theorem IQe.keep (h : IQe w0 A done a w) {i : Nat} (n16 : 16 ≠ i) (n17 : 17 ≠ i) (h6 : a'.tmps[6]? = a.tmps[6]?) (h7 : a'.tmps[7]? = a.tmps[7]?) : IQe w0 A (doneToo done i) a' w := by
  refine ⟨h.bel, fun e => ?_, fun e => ?_⟩
  · rw [doneToo_other n16] at e; rw [h6]; exact h.s6 e
  · rw [doneToo_other n17] at e; rw [h7]; exact h.s7 e
theorem IQe.alloc6 (h : IQe w0 A done a w) {o : Obj} (hnot : done 14 = false) (hsh : done 16 = true → done 14 = true) (h7 : a'.tmps[7]? = a.tmps[7]?) : IQe w0 A (doneToo done 14) a' (w.alloc o) := by
  have hb := below_one w o
  refine ⟨h.bel.trans (hb.mono h.bel.size), fun e => ?_, fun e => ?_⟩
  · rw [doneToo_other (by decide)] at e; rw [hsh e] at hnot; cases hnot
  · rw [doneToo_other (by decide)] at e; rw [h7]
    obtain ⟨q, h1, h2⟩ := h.s7 e
    exact ⟨q, h1, row_kept h2 hb⟩
theorem IQe.alloc7 (h : IQe w0 A done a w) {o : Obj} (hnot : done 15 = false) (hsh : done 17 = true → done 15 = true) (h6 : a'.tmps[6]? = a.tmps[6]?) : IQe w0 A (doneToo done 15) a' (w.alloc o) := by
  have hb := below_one w o
  refine ⟨h.bel.trans (hb.mono h.bel.size), fun e => ?_, fun e => ?_⟩
  · rw [doneToo_other (by decide)] at e; rw [h6]
    obtain ⟨q, h1, h2⟩ := h.s6 e
    exact ⟨q, h1, row_kept h2 hb⟩
  · rw [doneToo_other (by decide)] at e; rw [hsh e] at hnot; cases hnot
theorem row_again {q r : Nat} {X : Array Value} {t : TypeId} (hr : w.heap[r]? = some (.cells X t (0, 0))) (hq : w.heap[q]? = some (.cells A t (0, 0))) : (w.setRow r A).heap[q]? = some (.cells A t (0, 0)) := by
  by_cases e : q = r
  · subst e; exact setRow_heap _ _ _ _ _ (0, 0) hr
  · exact (setRow_other w r q A e).trans hq
theorem IQe.store6 (h : IQe w0 A done a w) {q : Nat} {X : Array Value} (h6 : a.tmps[6]? = some (.pointer (some ⟨q, 0, none⟩))) (hq1 : w0.heap.size ≤ q) (hq2 : w.heap[q]? = some (.cells X 30 (0, 0))) : IQe w0 A (doneToo done 16) (a.put none undef) (w.setRow q A) := by
  refine ⟨setRow_below A h.bel hq1, fun _ => ⟨q, h6, setRow_heap _ _ _ _ _ (0, 0) hq2⟩, fun e => ?_⟩
  rw [doneToo_other (by decide)] at e
  obtain ⟨r, h1, h2⟩ := h.s7 e
  exact ⟨r, h1, row_again hq2 h2⟩
theorem IQe.store7 (h : IQe w0 A done a w) {q : Nat} {X : Array Value} (h7 : a.tmps[7]? = some (.pointer (some ⟨q, 0, none⟩))) (hq1 : w0.heap.size ≤ q) (hq2 : w.heap[q]? = some (.cells X 30 (0, 0))) : IQe w0 A (doneToo done 17) (a.put none undef) (w.setRow q A) := by
  refine ⟨setRow_below A h.bel hq1, fun e => ?_, fun _ => ⟨q, h7, setRow_heap _ _ _ _ _ (0, 0) hq2⟩⟩
  rw [doneToo_other (by decide)] at e
  obtain ⟨r, h1, h2⟩ := h.s6 e
  exact ⟨r, h1, row_again hq2 h2⟩
end
theorem eqRec_self (x : RecT) : eqRec x.1 x.2.1 x.2.2.1 x.2.2.2.1 x.2.2.2.2 x.1 x.2.1 x.2.2.1 x.2.2.2.1 x.2.2.2.2 = true := by rw [eqRec_iff]; exact decide_eq_true rfl

set_option maxHeartbeats 8000000 in
set_option maxRecDepth 100000 in
theorem leq_c (TT : TabT) (w : World) :
    Calls Tryz.prog 103 #[.agg (tabL TT 32).toArray, .agg (tabL TT 32).toArray] w fun e w' => e = .returned (.bool true) ∧ Below w.heap.size w w' := by
  have hT1 := TK.new w TT
  have hb1 := below_one w (.cells (tabL TT 32).toArray 33)
  have hs1 : (w.alloc (.cells (tabL TT 32).toArray 33)).heap.size = w.heap.size + 1 := Array.size_push _
  have hT2 := TK.new (w.alloc (.cells (tabL TT 32).toArray 33)) TT
  rw [hs1] at hT2
  generalize tabL TT 32 = TL at *
  have hb2 := below_one (w.alloc (.cells TL.toArray 33)) (.cells TL.toArray 33)
  have HT := Go.Lib.hid (hT1.below hb2)
  have HU := Go.Lib.hid hT2
  have HB := Go.Lib.hid (hb1.trans (hb2.mono hb1.size))
  clear hb1 hb2 hs1 hT1 hT2
  go_enter Tryz.func103, Tryz.ntmps103
  go_upto_region 1 with (fail)
  generalize (w.alloc (.cells TL.toArray 33)).alloc (.cells TL.toArray 33) = w2 at *
  obtain ⟨g, hg⟩ : ∃ g, g = w.heap.size := ⟨_, rfl⟩
  rw [← hg] at HT HU ⊢
  have HG := Go.Lib.hid (show w.heap.size ≤ g by omega)
  clear hg
  go_wp2_with fail
  go_loopw [5] (fun iv wr => ∃ i : Nat, i ≤ 32 ∧ iv = .int .i64 (i : Int) ∧ Hid (TK wr g TT) ∧ Hid (TK wr (g + 1) TT) ∧ Hid (Below w.heap.size w wr)) (fun iv _ => 32 - (intOf iv).toNat)
  case atStart => exact ⟨0, by omega, rfl, HT, HU, HB⟩
  case round =>
    clear HT HU HB
    obtain ⟨i, hi, rfl, HT, HU, HB⟩ := hrel
    by_cases hlt : i < 32
    · have hltI : (i : Int) < 32 := by omega
      obtain ⟨D, hD⟩ : ∃ D, D = i / 4 := ⟨_, rfl⟩
      obtain ⟨R, hR⟩ : ∃ R, R = i % 4 := ⟨_, rfl⟩
      have d1 : (i : Int).tdiv 4 = (D : Int) := by rw [Int.tdiv_eq_ediv_of_nonneg (by omega)]; omega
      have r1 : (i : Int).tmod 4 = (R : Int) := by rw [Int.tmod_eq_emod_of_nonneg (by omega)]; omega
      have hD8 : D < 8 := by omega
      have hR4 : R < 4 := by omega
      have hwD : IntKind.i64.wrap (D : Int) = (D : Int) := by rw [IntKind.wrap_i64]; omega
      have hix1 := idxT g D hD8
      have hix2 := idxT2 g (24 * D) R hR4
      have hjx1 := idxT (g + 1) D hD8
      have hjx2 := idxT2 (g + 1) (24 * D) R hR4
      have HCELL := Go.Lib.hid (fun W (hb : Below wr.heap.size wr W) => by
        have h := (HT.out.below hb).at hD8 hR4
        have k := (HU.out.below hb).at hD8 hR4
        rw [show 4 * D + R = i by omega] at h k
        exact And.intro h k)
      clear hD hR
      go_upto_region 4 with (fail)
      generalize TT i = y at *
      obtain ⟨hq, kx, gx, ax, nx, sx⟩ := y
      simp only [] at HCELL
      refine wp_region_inv3 (by kernel_rfl) (VQe wr.heap.size g i D R hq kx gx ax nx sx) (IQe wr #[.bool hq, .string kx, .bool gx, .int .i64 ax, .int .i64 nx, .string sx]) (by decide +kernel) (by decide +kernel) (by rfl) [12, 13, 14, 15, 16, 17, 18, 19, 20, 21, 22, 23, 24, 25, 6, 7] (by rfl) ⟨below_drewN (Below.refl _ _) 1, (fun e => by cases e), (fun e => by cases e)⟩ ?_ ?_
      · intro i' o ho a w8 done hI hnot hr hsh0 hlen hg
        obtain ⟨⟨y0, y1, y2, y3, y4, y5⟩, ⟨z0, z1, z2, z3, z4, z5⟩⟩ := HCELL.out w8 hI.bel
        match i', ho with
        | 0, ho =>
          obtain rfl := Option.some.inj ho
          have h5 := given_old hg 5 (by decide +kernel)
          clear hg
          exact st_yield ho (wanted_none rfl) (.int .i64 (i : Int)) w8 (by simp [execOp, Act.eval, h5, go_sem]) ⟨_, rfl, hI.keep (by decide) (by decide) (put_tmps_other (by decide)) (put_tmps_other (by decide)), fun _ _ _ h => h, by rintro t' ⟨⟩; rfl⟩
        | 1, ho =>
          obtain rfl := Option.some.inj ho
          obtain ⟨_, h12, rfl⟩ := given_fed hg 12 (by decide +kernel)
          clear hg
          exact st_yield ho (wanted_none rfl) (.int .i64 (D : Int)) w8 (by simp [execOp, Act.eval, h12, go_sem, d1, hwD]) ⟨_, rfl, hI.keep (by decide) (by decide) (put_tmps_other (by decide)) (put_tmps_other (by decide)), fun _ _ _ h => h, by rintro t' ⟨⟩; rfl⟩
        | 2, ho =>
          obtain rfl := Option.some.inj ho
          have h5 := given_old hg 5 (by decide +kernel)
          clear hg
          exact st_yield ho (wanted_none rfl) (.int .i64 (i : Int)) w8 (by simp [execOp, Act.eval, h5, go_sem]) ⟨_, rfl, hI.keep (by decide) (by decide) (put_tmps_other (by decide)) (put_tmps_other (by decide)), fun _ _ _ h => h, by rintro t' ⟨⟩; rfl⟩
        | 3, ho =>
          obtain rfl := Option.some.inj ho
          obtain ⟨_, h14, rfl⟩ := given_fed hg 14 (by decide +kernel)
          clear hg
          exact st_yield ho (wanted_none rfl) (.int .i64 (R : Int)) w8 (by simp [execOp, Act.eval, h14, go_sem, r1]) ⟨_, rfl, hI.keep (by decide) (by decide) (put_tmps_other (by decide)) (put_tmps_other (by decide)), fun _ _ _ h => h, by rintro t' ⟨⟩; rfl⟩
        | 4, ho =>
          obtain rfl := Option.some.inj ho
          have h2 := given_old hg 2 (by decide +kernel)
          obtain ⟨_, h13, rfl⟩ := given_fed hg 13 (by decide +kernel)
          clear hg
          exact st_yield ho (wanted_none rfl) (.pointer (some ⟨g, 24 * D, none⟩)) w8 (by simp [execOp, Act.eval, h2, h13, go_sem, hix1]) ⟨_, rfl, hI.keep (by decide) (by decide) (put_tmps_other (by decide)) (put_tmps_other (by decide)), fun _ _ _ h => h, by rintro t' ⟨⟩; rfl⟩
        | 5, ho =>
          obtain rfl := Option.some.inj ho
          obtain ⟨_, h16, rfl⟩ := given_fed hg 16 (by decide +kernel)
          obtain ⟨_, h15, rfl⟩ := given_fed hg 15 (by decide +kernel)
          clear hg
          exact st_yield ho (wanted_none rfl) (.pointer (some ⟨g, 24 * D + 6 * R, none⟩)) w8 (by simp [execOp, Act.eval, h16, h15, go_sem, hix2]) ⟨_, rfl, hI.keep (by decide) (by decide) (put_tmps_other (by decide)) (put_tmps_other (by decide)), fun _ _ _ h => h, by rintro t' ⟨⟩; rfl⟩
        | 6, ho =>
          obtain rfl := Option.some.inj ho
          obtain ⟨_, h17, rfl⟩ := given_fed hg 17 (by decide +kernel)
          clear hg
          exact st_yield ho (wanted_none rfl) (.agg #[.bool hq, .string kx, .bool gx, .int .i64 ax, .int .i64 nx, .string sx]) w8 (by simp [execOp, Act.eval, h17, go_sem, y0, y1, y2, y3, y4, y5]) ⟨_, rfl, hI.keep (by decide) (by decide) (put_tmps_other (by decide)) (put_tmps_other (by decide)), fun _ _ _ h => h, by rintro t' ⟨⟩; rfl⟩
        | 7, ho =>
          obtain rfl := Option.some.inj ho
          have h5 := given_old hg 5 (by decide +kernel)
          clear hg
          exact st_yield ho (wanted_none rfl) (.int .i64 (i : Int)) w8 (by simp [execOp, Act.eval, h5, go_sem]) ⟨_, rfl, hI.keep (by decide) (by decide) (put_tmps_other (by decide)) (put_tmps_other (by decide)), fun _ _ _ h => h, by rintro t' ⟨⟩; rfl⟩
        | 8, ho =>
          obtain rfl := Option.some.inj ho
          obtain ⟨_, h19, rfl⟩ := given_fed hg 19 (by decide +kernel)
          clear hg
          exact st_yield ho (wanted_none rfl) (.int .i64 (D : Int)) w8 (by simp [execOp, Act.eval, h19, go_sem, d1, hwD]) ⟨_, rfl, hI.keep (by decide) (by decide) (put_tmps_other (by decide)) (put_tmps_other (by decide)), fun _ _ _ h => h, by rintro t' ⟨⟩; rfl⟩
        | 9, ho =>
          obtain rfl := Option.some.inj ho
          have h5 := given_old hg 5 (by decide +kernel)
          clear hg
          exact st_yield ho (wanted_none rfl) (.int .i64 (i : Int)) w8 (by simp [execOp, Act.eval, h5, go_sem]) ⟨_, rfl, hI.keep (by decide) (by decide) (put_tmps_other (by decide)) (put_tmps_other (by decide)), fun _ _ _ h => h, by rintro t' ⟨⟩; rfl⟩
        | 10, ho =>
          obtain rfl := Option.some.inj ho
          obtain ⟨_, h21, rfl⟩ := given_fed hg 21 (by decide +kernel)
          clear hg
          exact st_yield ho (wanted_none rfl) (.int .i64 (R : Int)) w8 (by simp [execOp, Act.eval, h21, go_sem, r1]) ⟨_, rfl, hI.keep (by decide) (by decide) (put_tmps_other (by decide)) (put_tmps_other (by decide)), fun _ _ _ h => h, by rintro t' ⟨⟩; rfl⟩
        | 11, ho =>
          obtain rfl := Option.some.inj ho
          have h3 := given_old hg 3 (by decide +kernel)
          obtain ⟨_, h20, rfl⟩ := given_fed hg 20 (by decide +kernel)
          clear hg
          exact st_yield ho (wanted_none rfl) (.pointer (some ⟨g + 1, 24 * D, none⟩)) w8 (by simp [execOp, Act.eval, h3, h20, go_sem, hjx1]) ⟨_, rfl, hI.keep (by decide) (by decide) (put_tmps_other (by decide)) (put_tmps_other (by decide)), fun _ _ _ h => h, by rintro t' ⟨⟩; rfl⟩
        | 12, ho =>
          obtain rfl := Option.some.inj ho
          obtain ⟨_, h23, rfl⟩ := given_fed hg 23 (by decide +kernel)
          obtain ⟨_, h22, rfl⟩ := given_fed hg 22 (by decide +kernel)
          clear hg
          exact st_yield ho (wanted_none rfl) (.pointer (some ⟨g + 1, 24 * D + 6 * R, none⟩)) w8 (by simp [execOp, Act.eval, h23, h22, go_sem, hjx2]) ⟨_, rfl, hI.keep (by decide) (by decide) (put_tmps_other (by decide)) (put_tmps_other (by decide)), fun _ _ _ h => h, by rintro t' ⟨⟩; rfl⟩
        | 13, ho =>
          obtain rfl := Option.some.inj ho
          obtain ⟨_, h24, rfl⟩ := given_fed hg 24 (by decide +kernel)
          clear hg
          exact st_yield ho (wanted_none rfl) (.agg #[.bool hq, .string kx, .bool gx, .int .i64 ax, .int .i64 nx, .string sx]) w8 (by simp [execOp, Act.eval, h24, go_sem, z0, z1, z2, z3, z4, z5]) ⟨_, rfl, hI.keep (by decide) (by decide) (put_tmps_other (by decide)) (put_tmps_other (by decide)), fun _ _ _ h => h, by rintro t' ⟨⟩; rfl⟩
        | 14, ho =>
          obtain rfl := Option.some.inj ho
          clear hg
          exact st_yield ho (wanted_none rfl) (.pointer (some ⟨w8.heap.size, 0, none⟩)) (w8.alloc (.cells #[.bool false, .string ⟨#[]⟩, .bool false, .int .i64 0, .int .i64 0, .string ⟨#[]⟩] 30)) (by simp [execOp, go_sem]) ⟨_, rfl, hI.alloc6 hnot (fun e => hsh0 16 14 e (by decide +kernel)) (put_tmps_other (by decide)), fun t u _ h => VQe_below _ _ _ _ _ _ _ _ _ _ _ t w8 _ u h (below_one _ _), by rintro t' ⟨⟩; exact ⟨w8.heap.size, _, rfl, hI.bel.size, heap_alloc_new w8 _, rfl⟩⟩
        | 15, ho =>
          obtain rfl := Option.some.inj ho
          clear hg
          exact st_yield ho (wanted_none rfl) (.pointer (some ⟨w8.heap.size, 0, none⟩)) (w8.alloc (.cells #[.bool false, .string ⟨#[]⟩, .bool false, .int .i64 0, .int .i64 0, .string ⟨#[]⟩] 30)) (by simp [execOp, go_sem]) ⟨_, rfl, hI.alloc7 hnot (fun e => hsh0 17 15 e (by decide +kernel)) (put_tmps_other (by decide)), fun t u _ h => VQe_below _ _ _ _ _ _ _ _ _ _ _ t w8 _ u h (below_one _ _), by rintro t' ⟨⟩; exact ⟨w8.heap.size, _, rfl, hI.bel.size, heap_alloc_new w8 _, rfl⟩⟩
        | 16, ho =>
          obtain rfl := Option.some.inj ho
          obtain ⟨v6, h6, p6⟩ := given_fed hg 6 (by decide +kernel)
          obtain ⟨_, h18, rfl⟩ := given_fed hg 18 (by decide +kernel)
          obtain ⟨q, X, rfl, hq1, hq2, hq3⟩ := p6
          clear hg
          exact st_list ho (wanted_none rfl) fun Q' hQ => wpList_store_row rfl 30 (.tmp 6) (.tmp 18) rfl q #[.bool hq, .string kx, .bool gx, .int .i64 ax, .int .i64 nx, .string sx] (by simp [Act.eval, h6]) (by simp [Act.eval, h18]) 30 X hq2 (by kernel_rfl) hq3 (six1 hq kx gx ax nx sx) (wpList_nil (hQ _ _ ⟨undef, rfl, hI.store6 h6 hq1 hq2, fun t u _ h => VQe_set _ _ _ _ _ _ _ _ _ _ _ hq2 rfl t u h, by rintro t' ⟨⟩⟩))
        | 17, ho =>
          obtain rfl := Option.some.inj ho
          obtain ⟨v7, h7, p7⟩ := given_fed hg 7 (by decide +kernel)
          obtain ⟨_, h25, rfl⟩ := given_fed hg 25 (by decide +kernel)
          obtain ⟨q, X, rfl, hq1, hq2, hq3⟩ := p7
          clear hg
          exact st_list ho (wanted_none rfl) fun Q' hQ => wpList_store_row rfl 30 (.tmp 7) (.tmp 25) rfl q #[.bool hq, .string kx, .bool gx, .int .i64 ax, .int .i64 nx, .string sx] (by simp [Act.eval, h7]) (by simp [Act.eval, h25]) 30 X hq2 (by kernel_rfl) hq3 (six1 hq kx gx ax nx sx) (wpList_nil (hQ _ _ ⟨undef, rfl, hI.store7 h7 hq1 hq2, fun t u _ h => VQe_set _ _ _ _ _ _ _ _ _ _ _ hq2 rfl t u h, by rintro t' ⟨⟩⟩))
        | n + 18, ho => simp at ho
      · intro f w9 done hall hI hv
        obtain ⟨g6, h6, HX6'⟩ := hI.s6 (hall 16 (by decide))
        obtain ⟨g7, h7, HX7⟩ := hI.s7 (hall 17 (by decide))
        have HX6' := Go.Lib.hid HX6'
        have HX7 := Go.Lib.hid HX7
        have HT9 := Go.Lib.hid (HT.out.below hI.bel)
        have HU9 := Go.Lib.hid (HU.out.below hI.bel)
        have HB9 := Go.Lib.hid (HB.out.trans (hI.bel.mono HB.out.size))
        rw [putAll_tmps, if_pos ⟨by decide, by simp⟩] at h6 h7
        have h6 := Option.some.inj h6
        have h7 := Option.some.inj h7
        clear hv hall hI hix1 hix2 hjx1 hjx2 d1 r1 hwD HCELL HT HU HB
        unfold putAll
        simp only [List.foldl]
        simp only [h6, h7]
        go_simp
        obtain ⟨y0, y1, y2, y3, y4, y5⟩ := row6 HX6'.out
        obtain ⟨z0, z1, z2, z3, z4, z5⟩ := row6 HX7.out
        have CE := reqrec_c kx gx ax nx sx kx gx ax nx sx w9
        rw [eqRec_self (kx, gx, ax, nx, sx)] at CE
        unfold recV at CE
        have CE := Go.Lib.hid CE
        have hqq : (hq != hq) = false := by simp
        go_wp2_with fail
        refine CE.out.mono ?_
        rintro e w10 ⟨rfl, hc⟩
        have HT10 := Go.Lib.hid (HT9.out.below hc)
        have HU10 := Go.Lib.hid (HU9.out.below hc)
        have HB10 := Go.Lib.hid (HB9.out.trans (hc.mono HB9.out.size))
        clear hc CE HT9 HU9 HB9 y0 y1 y2 y3 y4 y5 z0 z1 z2 z3 z4 z5
        go_wp2_with fail
        go_roundw
        case rel => exact ⟨i + 1, by omega, by go_num, HT10, HU10, HB10⟩
        case measure => simp only [intOf]; omega
    · obtain rfl : i = 32 := by omega
      go_wp2_with fail
      go_ret
      exact ⟨rfl, HB.out⟩
end Go.Proofs.YthbnecdeebmlhaaGreat
