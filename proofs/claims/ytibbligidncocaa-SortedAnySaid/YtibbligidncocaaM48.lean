/-
  Stage 22: the law's begun.
  Stage 22: New, Open, Pairs as laws meet them.
  The contract of the laws' 'Short(b, n)': the first n bytes.
-/
import Derived.Test.YtibbligidncocaaM47
import Derived.Test.YtibbligidncocaaM01
namespace Go.Proofs.Ytibbligidncocaa
open Go.RowKit

def VBa (b q c : Nat) : Nat → World → Value → Prop
  | 10, _, v => v = .pointer none
  | 11, _, v => v = .int .i64 1
  | 52, _, v => v = .tuple #[.pointer none, .int .i64 1]
  | 53, _, v => v = .slice (some ⟨b, q, none⟩) 2 c
  | 54, _, v => v = .pointer (some ⟨b, q + 4, none⟩)
  | 55, _, v => v = .agg #[.string ⟨#[97]⟩, .int .i64 1, .int .i64 1, .string ⟨#[]⟩]
  | 56, _, v => v = .slice (some ⟨b, q, none⟩) 2 c
  | 57, _, v => v = .pointer (some ⟨b, q, none⟩)
  | 58, _, v => v = .agg #[.string ⟨#[98]⟩, .int .i64 1, .int .i64 2, .string ⟨#[]⟩]
  | 59, w, v => K4.R w v [raS, rbS]
  | 60, _, v => v = .tuple #[.pointer none, .int .i64 1]
  | 61, _, v => v = .pointer none
  | 62, _, v => v = .int .i64 1
  | _, _, _ => True

theorem VBa_below (b q c : Nat) : ∀ (i : Nat) (w w' : World) (v : Value), VBa b q c i w v → Below w.heap.size w w' → VBa b q c i w' v := by
  intro i w w' v h hb
  unfold VBa at h ⊢
  split at h <;> first | exact h | trivial | exact Lay.R.below h hb

def VBb (b q c g4 p p2 : Nat) : Nat → World → Value → Prop
  | 0, _, v => v = .bool true
  | 67, _, v => v = .pointer (some ⟨g4, 1, none⟩)
  | 68, _, v => v = .int .i64 2
  | 69, _, v => v = .bool true
  | 70, _, v => v = .bool true
  | 71, _, v => v = .bool true
  | 72, _, v => v = .bool true
  | 73, _, v => v = .bool true
  | 74, _, v => v = .bool false
  | 75, _, v => v = .bool true
  | 76, _, v => v = .bool true
  | 77, _, v => v = .bool true
  | 78, _, v => v = .pointer (some ⟨p, 0, none⟩)
  | 79, _, v => v = .int .i64 1
  | 80, _, v => v = .bool true
  | 81, _, v => v = .bool true
  | 82, _, v => v = .bool true
  | 83, _, v => v = .int .i64 0
  | 84, _, v => v = .bool true
  | 85, _, v => v = .bool true
  | 86, _, v => v = .bool true
  | 87, _, v => v = .pointer (some ⟨p2, 0, none⟩)
  | 88, _, v => v = .int .i64 2
  | 89, _, v => v = .bool true
  | 90, _, v => v = .bool true
  | 91, _, v => v = .bool true
  | 92, _, v => v = .int .i64 1
  | 93, _, v => v = .bool true
  | 94, _, v => v = .bool true
  | 95, _, v => v = .bool true
  | 96, _, v => v = .int .i64 8
  | 97, _, v => v = .bool true
  | 98, _, v => v = .bool true
  | 99, _, v => v = .bool true
  | 100, _, v => v = .slice (some ⟨b, q, none⟩) 2 c
  | 101, _, v => v = .pointer (some ⟨b, q, none⟩)
  | 102, _, v => v = .pointer (some ⟨b, q, none⟩)
  | 103, _, v => v = .string ⟨#[98]⟩
  | 104, _, v => v = .slice (some ⟨b, q, none⟩) 2 c
  | 105, _, v => v = .pointer (some ⟨b, q + 4, none⟩)
  | 106, _, v => v = .pointer (some ⟨b, q + 4, none⟩)
  | 107, _, v => v = .string ⟨#[97]⟩
  | 108, _, v => v = .bool true
  | 109, _, v => v = .bool true
  | _, _, _ => True

theorem VBb_below (b q c g4 p p2 : Nat) : ∀ (i : Nat) (w w' : World) (v : Value), VBb b q c g4 p p2 i w v → Below w.heap.size w w' → VBb b q c g4 p p2 i w' v := by
  intro i w w' v h hb
  unfold VBb at h ⊢
  split at h <;> first | exact h | trivial | exact h

theorem ab_row (w : World) : K4.R (w.alloc (.cells #[.string ⟨#[97]⟩, .int .i64 1, .int .i64 1, .string ⟨#[]⟩, .string ⟨#[98]⟩, .int .i64 1, .int .i64 2, .string ⟨#[]⟩] 42)) (.slice (some ⟨w.heap.size, 0, none⟩) 2 2) [raS, rbS] := by
  refine ⟨some ⟨w.heap.size, 0, none⟩, 2, rfl, Nat.le_refl _, by simp [maxLen], (fun h => by cases h), fun _ => ⟨w.heap.size, 0, rfl, fun j u hj => ?_⟩⟩
  rw [cell_of_row _ w.heap.size (0 + j) _ _ _ (heap_alloc_new w _), Nat.zero_add]
  have h : (K4.flat [raS, rbS]).toArray[j]? = some u := by rw [List.getElem?_toArray]; exact hj
  exact h
theorem ab_rec (w : World) : RRec (w.alloc (.cells #[.string ⟨#[97]⟩, .bool false, .int .i64 1, .int .i64 1, .string ⟨#[]⟩, .string ⟨#[98]⟩, .bool false, .int .i64 1, .int .i64 2, .string ⟨#[]⟩] 39)) (.slice (some ⟨w.heap.size, 0, none⟩) 2 2) [raS, rbS] := by
  refine ⟨some ⟨w.heap.size, 0, none⟩, 2, rfl, Nat.le_refl _, by simp [maxLen], (fun h => by cases h), fun x hx => ba_ok x (by simp only [List.mem_cons, List.not_mem_nil, or_false] at hx ⊢; exact hx.symm), fun _ => ⟨w.heap.size, 0, rfl, fun i hi => ?_⟩⟩
  have c := fun j => cell_of_row _ w.heap.size j _ _ _ (heap_alloc_new w (.cells #[.string ⟨#[97]⟩, .bool false, .int .i64 1, .int .i64 1, .string ⟨#[]⟩, .string ⟨#[98]⟩, .bool false, .int .i64 1, .int .i64 2, .string ⟨#[]⟩] 39))
  match i, hi with
  | 0, _ => exact ⟨c 0, c 1, c 2, c 3, c 4⟩
  | 1, _ => exact ⟨c 5, c 6, c 7, c 8, c 9⟩
  | i + 2, hi => exact absurd (show i + 2 < 2 from hi) (by omega)

set_option maxHeartbeats 8000000 in
set_option maxRecDepth 100000 in
theorem begun22_c (w : World) : Calls Try.prog 10 #[] w fun e w' => e = .returned (.bool true) ∧ Below w.heap.size w w' := by
  have CP := Go.Lib.hid fun W v (h : RRec W v [raS, rbS]) => (lpairs_c v [raS, rbS] W h).mono (R' := fun e w' => ∃ v', e = .returned v' ∧ K4.O w' W.heap.size v' [rbS, raS] ∧ Below W.heap.size W w') (fun e w' ⟨v', h1, h2⟩ => ⟨v', h1, ba_pairs h2⟩)
  have CN := Go.Lib.hid fun W v (h : K4.R W v [rbS, raS]) => (snew_c v [rbS, raS] W h (mayP_small ba_may) (by decide)).mono (R' := fun e w' => ∃ p, e = .returned (.tuple #[.pointer (some ⟨p, 0, none⟩), .int .i64 0]) ∧ SW w' W.heap.size p [rbS, raS] ∧ Below W.heap.size W w') (fun e w' ⟨hb, hq⟩ => by
    rcases hq with ⟨-, p, h1, h2⟩ | ⟨h1, -⟩
    · exact ⟨p, h1, h2, hb⟩
    · rw [ba_may] at h1; cases h1)
  have CN2 := Go.Lib.hid fun W v (h : K4.R W v [raS, rbS]) => (snew_c v [raS, rbS] W h (fun x hx => by simp only [List.mem_cons, List.not_mem_nil, or_false] at hx; rcases hx with rfl | rfl <;> decide) (by decide)).mono (R' := fun e w' => e = .returned (.tuple #[.pointer none, .int .i64 1]) ∧ Below W.heap.size W w') (fun e w' ⟨hb, hq⟩ => by
    rcases hq with ⟨h1, -⟩ | ⟨-, h1⟩
    · rw [ab_may] at h1; cases h1
    · exact ⟨h1, hb⟩)
  have CGB := Go.Lib.hid fun (W : World) B p (h : SW W B p [rbS, raS]) => by
    have := sget_c h ⟨#[98]⟩ (by decide)
    rw [ba_findB] at this
    exact this
  have CGC := Go.Lib.hid fun (W : World) B p (h : SW W B p [rbS, raS]) => by
    have := sget_c h ⟨#[99]⟩ (by decide)
    rw [ba_findC] at this
    exact this
  unfold outV rbS at CGB
  unfold outV at CGC
  simp only [] at CGB CGC
  have CRD0 := Go.Lib.hid fun (W : World) B p (h : SW W B p [rbS, raS]) => by
    have := sreads_c h ⟨#[97]⟩ (by decide)
    rw [ba_reads] at this
    exact this
  have CBY := Go.Lib.hid fun (W : World) B p (h : SW W B p [rbS, raS]) => sbytes_c h ba_ok
  have CO1 := Go.Lib.hid fun W v (h : RB W v (rowB [rbS, raS])) => (sopen_c v _ W h).mono (R' := fun e w' => ∃ p, e = .returned (.tuple #[.pointer (some ⟨p, 0, none⟩), .int .i64 0]) ∧ SW w' W.heap.size p [rbS, raS] ∧ Below W.heap.size W w') (fun e w' ⟨hb, hq⟩ => by
    rcases hq with ⟨P, h0, -, p, h1, h2⟩ | ⟨h1, -⟩
    · rw [ba_row] at h0
      cases h0
      exact ⟨p, h1, h2, hb⟩
    · have := h1 _ ba_row
      rw [ba_may] at this; cases this)
  have CO0 := Go.Lib.hid fun W => (sopen_c (.slice none 0 0) [] W (RB.nil _)).mono (R' := fun e w' => e = .returned (.tuple #[.pointer none, .int .i64 8]) ∧ Below W.heap.size W w') (fun e w' ⟨hb, hq⟩ => by
    rcases hq with ⟨P, h0, -⟩ | ⟨-, h1⟩
    · exact absurd h0 (by rw [show rowD [] = none by decide]; simp)
    · exact ⟨h1, hb⟩)
  have CLS := Go.Lib.hid fun W => sless_c ⟨#[98]⟩ ⟨#[97]⟩ true W (by decide) (by decide) ba_less
  have HRC := Go.Lib.hid (ab_rec w)
  have HB1 := Go.Lib.hid (below_one w (.cells #[.string ⟨#[97]⟩, .bool false, .int .i64 1, .int .i64 1, .string ⟨#[]⟩, .string ⟨#[98]⟩, .bool false, .int .i64 1, .int .i64 2, .string ⟨#[]⟩] 39))
  have hbr := fun (a n : Int) W => (show (Instr.build 37 #[(0, .int .i64 a), (1, .int .i64 n)]).run Try.prog W = .ok (.agg #[.int .i64 a, .int .i64 n, .string ⟨#[]⟩]) W from run_build W _ _ _ (by kernel_rfl))
  have hb2 := fun (k : ByteArray) (a n : Int) W => build_rec k a n ⟨#[]⟩ W
  go_enter Try.func10, Try.ntmps10
  go_wp2_with fail
  refine (CP.out _ _ HRC.out).mono ?_
  rintro e w2 ⟨v1, rfl, ho, hc⟩
  have HB2 := Go.Lib.hid (HB1.out.trans (hc.mono HB1.out.size))
  have HR2 := Go.Lib.hid (show ∀ W, Below w2.heap.size w2 W → K4.R W v1 [rbS, raS] from fun W hb => ho.r.below hb)
  obtain ⟨a1, c, rfl, -⟩ := ho.r.form
  rw [show [rbS, raS].length = 2 from rfl] at *
  obtain ⟨b, q, rfl, -, -, -⟩ := K4.at' (HR2.out w2 (Below.refl _ _)) 0 (by decide)
  have HCS2 := Go.Lib.hid (show ∀ W, Below w2.heap.size w2 W → (W.cell? ⟨b, q, none⟩ = some (.string ⟨#[98]⟩) ∧ W.cell? ⟨b, q + 1, none⟩ = some (.int .i64 1) ∧ W.cell? ⟨b, q + 2, none⟩ = some (.int .i64 2) ∧ W.cell? ⟨b, q + 3, none⟩ = some (.string ⟨#[]⟩)) ∧ (W.cell? ⟨b, q + 4, none⟩ = some (.string ⟨#[97]⟩) ∧ W.cell? ⟨b, q + 5, none⟩ = some (.int .i64 1) ∧ W.cell? ⟨b, q + 6, none⟩ = some (.int .i64 1) ∧ W.cell? ⟨b, q + 7, none⟩ = some (.string ⟨#[]⟩)) from fun W hb => by
    obtain ⟨b', q', e', -, -, c0, c1, c2, c3⟩ := K4.at' (HR2.out W hb) 0 (by decide)
    cases e'
    obtain ⟨b', q', e', -, -, d0, d1, d2, d3⟩ := K4.at' (HR2.out W hb) 1 (by decide)
    cases e'
    exact ⟨⟨c0, c1, c2, c3⟩, ⟨d0, d1, d2, d3⟩⟩)
  have ix0 := fun W => (by have := idx4 b q 2 c 0 (by decide) W; simpa using this : (Instr.indexAt 24 (.slice (some ⟨b, q, none⟩) 2 c) (.int .i64 0)).run Try.prog W = .ok (.pointer (some ⟨b, q, none⟩)) W)
  have ix1 := fun W => (by have := idx4 b q 2 c 1 (by decide) W; simpa using this : (Instr.indexAt 24 (.slice (some ⟨b, q, none⟩) 2 c) (.int .i64 1)).run Try.prog W = .ok (.pointer (some ⟨b, q + 4, none⟩)) W)
  have IX0 := Go.Lib.hid ix0
  have IX1 := Go.Lib.hid ix1
  clear ho hc CP HRC HB1 hbr hb2 ix0 ix1
  have CN := Go.Lib.hid (CN.out _ _ (HR2.out w2 (Below.refl _ _)))
  go_wp2_with fail
  refine CN.out.mono ?_
  rintro e w3 ⟨p, rfl, hsw, hc⟩
  have HB3 := Go.Lib.hid (HB2.out.trans (hc.mono HB2.out.size))
  have HW3 := Go.Lib.hid hsw
  have HCB := Go.Lib.hid hc
  clear hsw hc CN HB2
  go_wp2_with fail
  refine (CGB.out _ _ _ HW3.out).mono ?_
  rintro e w4 ⟨rfl, hc⟩
  have hbA := below_one w4 (.cells #[.int .i64 1, .int .i64 2, .string ⟨#[]⟩] 37)
  have HX4 := Go.Lib.hid (heap_alloc_new w4 (.cells #[.int .i64 1, .int .i64 2, .string ⟨#[]⟩] 37))
  have hcA := hc.trans (hbA.mono hc.size)
  have HW5 := Go.Lib.hid (HW3.out.below hcA)
  have HB5 := Go.Lib.hid (HB3.out.trans (hcA.mono HB3.out.size))
  have HC5 := Go.Lib.hid (HCB.out.trans (hcA.mono HCB.out.size))
  clear hc hbA hcA CGB HW3 HB3 HCB
  go_upto_region 6 with (fail)
  obtain ⟨g4, hg4⟩ : ∃ g, g = w4.heap.size := ⟨_, rfl⟩
  rw [← hg4] at HX4 ⊢
  clear hg4
  generalize w4.alloc (.cells #[.int .i64 1, .int .i64 2, .string ⟨#[]⟩] 37) = w5 at *
  go_wp2_with fail
  refine (CGC.out _ _ _ HW5.out).mono ?_
  rintro e w6 ⟨rfl, hc⟩
  have hbA := below_one w6 (.cells #[.int .i64 0, .int .i64 0, .string ⟨#[]⟩] 37)
  have hcA := hc.trans (hbA.mono hc.size)
  have HX4 := Go.Lib.hid (row_kept HX4.out hcA)
  have HW7 := Go.Lib.hid (HW5.out.below hcA)
  have HB7 := Go.Lib.hid (HB5.out.trans (hcA.mono HB5.out.size))
  have HC7 := Go.Lib.hid (HC5.out.trans (hcA.mono HC5.out.size))
  clear hc hbA hcA CGC HW5 HB5 HC5
  go_upto_region 7 with (fail)
  generalize w6.alloc (.cells #[.int .i64 0, .int .i64 0, .string ⟨#[]⟩] 37) = w7 at *
  go_wp2_with fail
  refine (CBY.out _ _ _ HW7.out).mono ?_
  rintro e w8 ⟨v8, rfl, ho, hc⟩
  rw [show [rbS, raS].map plainR = [rbS, raS] from rfl] at ho
  have HO8 := Go.Lib.hid ho.rb
  have HX4 := Go.Lib.hid (row_kept HX4.out hc)
  have HW8 := Go.Lib.hid (HW7.out.below hc)
  have HB8 := Go.Lib.hid (HB7.out.trans (hc.mono HB7.out.size))
  have HC8 := Go.Lib.hid (HC7.out.trans (hc.mono HC7.out.size))
  clear hc ho CBY HW7 HB7 HC7
  go_wp2_with fail
  refine (CO1.out _ _ HO8.out).mono ?_
  rintro e w9 ⟨p2, rfl, hsw, hc⟩
  have HX4 := Go.Lib.hid (row_kept HX4.out hc)
  have HW9 := Go.Lib.hid (HW8.out.below hc)
  have HQ9 := Go.Lib.hid hsw
  have HB9 := Go.Lib.hid (HB8.out.trans (hc.mono HB8.out.size))
  have HC9 := Go.Lib.hid (HC8.out.trans (hc.mono HC8.out.size))
  have HCS := Go.Lib.hid (fun W (hb : Below w9.heap.size w9 W) => HCS2.out W (HC9.out.trans (hb.mono HC9.out.size)))
  clear hc hsw CO1 HW8 HB8 HC8 HO8
  go_upto_region 8 with (fail)
  have ix0 := IX0.out
  have ix1 := IX1.out
  refine wp_region_each (by kernel_rfl) (VBa b q c) (VBa_below b q c) (by decide +kernel) (by decide +kernel) (by rfl) [53, 54, 55, 56, 57, 58, 59, 60, 52, 61, 62, 10, 11] (by rfl) ?_ ?_
  · intro i o ho a w6 hb6 hlen hg
    obtain ⟨⟨c0, c1, c2, c3⟩, ⟨d0, d1, d2, d3⟩⟩ := HCS.out w6 hb6
    match i, ho with
    | 0, ho =>
      obtain rfl := Option.some.inj ho
      have h1 := given_old hg 1 (by decide +kernel)
      clear hg
      exact st_yield ho (wanted_none rfl) (.slice (some ⟨b, q, none⟩) 2 c) w6 (by simp [execOp, Act.eval, h1, go_sem]) ⟨_, rfl, Below.refl _ _, by rintro t' ⟨⟩; rfl⟩
    | 1, ho =>
      obtain rfl := Option.some.inj ho
      obtain ⟨_, h53, rfl⟩ := given_fed hg 53 (by decide +kernel)
      clear hg
      exact st_yield ho (wanted_none rfl) (.pointer (some ⟨b, q + 4, none⟩)) w6 (by simp [execOp, Act.eval, h53, go_sem, ix1]) ⟨_, rfl, Below.refl _ _, by rintro t' ⟨⟩; rfl⟩
    | 2, ho =>
      obtain rfl := Option.some.inj ho
      obtain ⟨_, h54, rfl⟩ := given_fed hg 54 (by decide +kernel)
      clear hg
      exact st_yield ho (wanted_none rfl) (.agg #[.string ⟨#[97]⟩, .int .i64 1, .int .i64 1, .string ⟨#[]⟩]) w6 (by simp [execOp, Act.eval, h54, go_sem, d0, d1, d2, d3]) ⟨_, rfl, Below.refl _ _, by rintro t' ⟨⟩; rfl⟩
    | 3, ho =>
      obtain rfl := Option.some.inj ho
      have h1 := given_old hg 1 (by decide +kernel)
      clear hg
      exact st_yield ho (wanted_none rfl) (.slice (some ⟨b, q, none⟩) 2 c) w6 (by simp [execOp, Act.eval, h1, go_sem]) ⟨_, rfl, Below.refl _ _, by rintro t' ⟨⟩; rfl⟩
    | 4, ho =>
      obtain rfl := Option.some.inj ho
      obtain ⟨_, h56, rfl⟩ := given_fed hg 56 (by decide +kernel)
      clear hg
      exact st_yield ho (wanted_none rfl) (.pointer (some ⟨b, q, none⟩)) w6 (by simp [execOp, Act.eval, h56, go_sem, ix0]) ⟨_, rfl, Below.refl _ _, by rintro t' ⟨⟩; rfl⟩
    | 5, ho =>
      obtain rfl := Option.some.inj ho
      obtain ⟨_, h57, rfl⟩ := given_fed hg 57 (by decide +kernel)
      clear hg
      exact st_yield ho (wanted_none rfl) (.agg #[.string ⟨#[98]⟩, .int .i64 1, .int .i64 2, .string ⟨#[]⟩]) w6 (by simp [execOp, Act.eval, h57, go_sem, c0, c1, c2, c3]) ⟨_, rfl, Below.refl _ _, by rintro t' ⟨⟩; rfl⟩
    | 6, ho =>
      obtain rfl := Option.some.inj ho
      obtain ⟨_, h55, rfl⟩ := given_fed hg 55 (by decide +kernel)
      obtain ⟨_, h58, rfl⟩ := given_fed hg 58 (by decide +kernel)
      clear hg
      exact st_yield ho (wanted_none rfl) (.slice (some ⟨w6.heap.size, 0, none⟩) 2 2) (w6.alloc (.cells #[.string ⟨#[97]⟩, .int .i64 1, .int .i64 1, .string ⟨#[]⟩, .string ⟨#[98]⟩, .int .i64 1, .int .i64 2, .string ⟨#[]⟩] 42)) (by simp [execOp, Act.eval, h55, h58, go_sem]) ⟨_, rfl, (Below.refl _ _).alloc (Nat.le_refl _) _, by rintro t' ⟨⟩; exact ab_row w6⟩
    | 7, ho =>
      obtain rfl := Option.some.inj ho
      obtain ⟨v59, h59, p59⟩ := given_fed hg 59 (by decide +kernel)
      clear hg
      exact st_enter (w1 := w6) ho (wanted_none rfl) 13 #[v59] (by simp [execOp, Act.eval, h59, resolve, go_sem]) ((CN2.out w6 v59 p59).mono (by rintro e w7 ⟨rfl, hb7⟩; exact ⟨_, rfl, _, rfl, hb7, by rintro t' ⟨⟩; rfl⟩))
    | 8, ho =>
      obtain rfl := Option.some.inj ho
      obtain ⟨_, h60, rfl⟩ := given_fed hg 60 (by decide +kernel)
      clear hg
      exact st_yield ho (wanted_none rfl) (.tuple #[.pointer none, .int .i64 1]) w6 (by simp [execOp, Act.eval, h60, go_sem]) ⟨_, rfl, Below.refl _ _, by rintro t' ⟨⟩; rfl⟩
    | 9, ho =>
      obtain rfl := Option.some.inj ho
      obtain ⟨_, h52, rfl⟩ := given_fed hg 52 (by decide +kernel)
      clear hg
      exact st_yield ho (wanted_none rfl) (.pointer none) w6 (by simp [execOp, Act.eval, h52, go_sem]) ⟨_, rfl, Below.refl _ _, by rintro t' ⟨⟩; rfl⟩
    | 10, ho =>
      obtain rfl := Option.some.inj ho
      obtain ⟨_, h52, rfl⟩ := given_fed hg 52 (by decide +kernel)
      clear hg
      exact st_yield ho (wanted_none rfl) (.int .i64 1) w6 (by simp [execOp, Act.eval, h52, go_sem]) ⟨_, rfl, Below.refl _ _, by rintro t' ⟨⟩; rfl⟩
    | 11, ho =>
      obtain rfl := Option.some.inj ho
      obtain ⟨_, h61, rfl⟩ := given_fed hg 61 (by decide +kernel)
      clear hg
      exact st_yield ho (wanted_none rfl) (.pointer none) w6 (by simp [execOp, Act.eval, h61, go_sem]) ⟨_, rfl, Below.refl _ _, by rintro t' ⟨⟩; rfl⟩
    | 12, ho =>
      obtain rfl := Option.some.inj ho
      obtain ⟨_, h62, rfl⟩ := given_fed hg 62 (by decide +kernel)
      clear hg
      exact st_yield ho (wanted_none rfl) (.int .i64 1) w6 (by simp [execOp, Act.eval, h62, go_sem]) ⟨_, rfl, Below.refl _ _, by rintro t' ⟨⟩; rfl⟩
    | n + 13, ho => simp at ho
  · intro f w10 hb10 hv
    have h10 := hv 10 (by decide)
    have h11 := hv 11 (by decide)
    simp only [VBa] at h10 h11
    have HX4 := Go.Lib.hid (row_kept HX4.out hb10)
    have HWA := Go.Lib.hid (HW9.out.below hb10)
    have HQA := Go.Lib.hid (HQ9.out.below hb10)
    have HBA := Go.Lib.hid (HB9.out.trans (hb10.mono HB9.out.size))
    have HCA := Go.Lib.hid (HC9.out.trans (hb10.mono HC9.out.size))
    clear hv hb10 HW9 HQ9 HB9 HC9 HCS CN2 ix0 ix1
    unfold putAll
    simp only [List.foldl]
    simp only [h10, h11]
    clear h10 h11
    go_simp
    go_wp2_with fail
    refine (CO0.out _).mono ?_
    rintro e w11 ⟨rfl, hc⟩
    have HX4 := Go.Lib.hid (row_kept HX4.out hc)
    have HWB := Go.Lib.hid (HWA.out.below hc)
    have HQB := Go.Lib.hid (HQA.out.below hc)
    have HBB := Go.Lib.hid (HBA.out.trans (hc.mono HBA.out.size))
    have HCC := Go.Lib.hid (HCA.out.trans (hc.mono HCA.out.size))
    have HCS := Go.Lib.hid (fun W (hb : Below w11.heap.size w11 W) => HCS2.out W (HCC.out.trans (hb.mono HCC.out.size)))
    have CRD := Go.Lib.hid (fun W (hb : Below w11.heap.size w11 W) => CRD0.out W _ _ (HWB.out.below hb))
    have CL2 := Go.Lib.hid (show ∀ W, Below w11.heap.size w11 W → Calls Try.prog 24 #[.pointer (some ⟨p2, 0, none⟩)] W fun e w' => e = .returned (.int .i64 2) ∧ Below W.heap.size W w' from fun W hb => (slen_c (HQB.out.below hb)).mono fun e w' hh => ⟨hh.1, by rw [← hh.2]; exact Below.refl _ _⟩)
    clear hc HWA HQA HBA HCA CO0 HCC HWB HQB CRD0 HCS2
    go_upto_region 10 with (fail)
    have ix0 := IX0.out
    have ix1 := IX1.out
    refine wp_region_each (by kernel_rfl) (VBb b q c g4 p p2) (VBb_below b q c g4 p p2) (by decide +kernel) (by decide +kernel) (by rfl) [67, 68, 69, 70, 71, 72, 73, 74, 75, 76, 77, 78, 79, 80, 81, 82, 83, 84, 85, 86, 87, 88, 89, 90, 91, 92, 93, 94, 95, 96, 97, 98, 99, 100, 101, 102, 103, 104, 105, 106, 107, 108, 109, 0] (by rfl) ?_ ?_
    · intro i o ho a w6 hb6 hlen hg
      obtain ⟨⟨c0, -, -, -⟩, ⟨d0, -, -, -⟩⟩ := HCS.out w6 hb6
      obtain ⟨y0, y1, y2⟩ := raw3 (row_kept HX4.out hb6)
      match i, ho with
      | 0, ho =>
        obtain rfl := Option.some.inj ho
        have h4 := given_old hg 4 (by decide +kernel)
        clear hg
        exact st_yield ho (wanted_none rfl) (.pointer (some ⟨g4, 1, none⟩)) w6 (by simp [execOp, Act.eval, h4, go_sem]) ⟨_, rfl, Below.refl _ _, by rintro t' ⟨⟩; rfl⟩
      | 1, ho =>
        obtain rfl := Option.some.inj ho
        obtain ⟨_, h67, rfl⟩ := given_fed hg 67 (by decide +kernel)
        clear hg
        exact st_yield ho (wanted_none rfl) (.int .i64 2) w6 (by simp [execOp, Act.eval, h67, go_sem, y1]) ⟨_, rfl, Below.refl _ _, by rintro t' ⟨⟩; rfl⟩
      | 2, ho =>
        obtain rfl := Option.some.inj ho
        obtain ⟨_, h68, rfl⟩ := given_fed hg 68 (by decide +kernel)
        clear hg
        exact st_yield ho (wanted_none rfl) (.bool true) w6 (by simp [execOp, Act.eval, h68, go_sem]) ⟨_, rfl, Below.refl _ _, by rintro t' ⟨⟩; rfl⟩
      | 3, ho =>
        obtain rfl := Option.some.inj ho
        obtain ⟨_, h69, rfl⟩ := given_fed hg 69 (by decide +kernel)
        clear hg
        exact st_yield ho (wanted_none rfl) (.bool true) w6 (by simp [execOp, Act.eval, h69, go_sem]) ⟨_, rfl, Below.refl _ _, by rintro t' ⟨⟩; rfl⟩
      | 4, ho =>
        obtain rfl := Option.some.inj ho
        have h5 := given_old hg 5 (by decide +kernel)
        obtain ⟨_, h70, rfl⟩ := given_fed hg 70 (by decide +kernel)
        clear hg
        exact st_yield ho (wanted_some rfl rfl h70 rfl) (.bool true) w6 (by simp [execOp, Act.eval, h5, go_sem]) ⟨_, rfl, Below.refl _ _, by rintro t' ⟨⟩; rfl⟩
      | 5, ho =>
        obtain rfl := Option.some.inj ho
        obtain ⟨_, h70, rfl⟩ := given_fed hg 70 (by decide +kernel)
        obtain ⟨_, h71, rfl⟩ := given_fed hg 71 (by decide +kernel)
        clear hg
        exact st_yield ho (wanted_none rfl) (.bool true) w6 (by simp [execOp, Act.eval, h70, h71, go_sem]) ⟨_, rfl, Below.refl _ _, by rintro t' ⟨⟩; rfl⟩
      | 6, ho =>
        obtain rfl := Option.some.inj ho
        obtain ⟨_, h72, rfl⟩ := given_fed hg 72 (by decide +kernel)
        clear hg
        exact st_yield ho (wanted_none rfl) (.bool true) w6 (by simp [execOp, Act.eval, h72, go_sem]) ⟨_, rfl, Below.refl _ _, by rintro t' ⟨⟩; rfl⟩
      | 7, ho =>
        obtain rfl := Option.some.inj ho
        have h7 := given_old hg 7 (by decide +kernel)
        obtain ⟨_, h73, rfl⟩ := given_fed hg 73 (by decide +kernel)
        clear hg
        exact st_yield ho (wanted_some rfl rfl h73 rfl) (.bool false) w6 (by simp [execOp, Act.eval, h7, go_sem]) ⟨_, rfl, Below.refl _ _, by rintro t' ⟨⟩; rfl⟩
      | 8, ho =>
        obtain rfl := Option.some.inj ho
        obtain ⟨_, h74, rfl⟩ := given_fed hg 74 (by decide +kernel)
        obtain ⟨_, h73, rfl⟩ := given_fed hg 73 (by decide +kernel)
        clear hg
        exact st_yield ho (wanted_some rfl rfl h73 rfl) (.bool true) w6 (by simp [execOp, Act.eval, h74, go_sem]) ⟨_, rfl, Below.refl _ _, by rintro t' ⟨⟩; rfl⟩
      | 9, ho =>
        obtain rfl := Option.some.inj ho
        obtain ⟨_, h73, rfl⟩ := given_fed hg 73 (by decide +kernel)
        obtain ⟨_, h75, rfl⟩ := given_fed hg 75 (by decide +kernel)
        clear hg
        exact st_yield ho (wanted_none rfl) (.bool true) w6 (by simp [execOp, Act.eval, h73, h75, go_sem]) ⟨_, rfl, Below.refl _ _, by rintro t' ⟨⟩; rfl⟩
      | 10, ho =>
        obtain rfl := Option.some.inj ho
        obtain ⟨_, h76, rfl⟩ := given_fed hg 76 (by decide +kernel)
        clear hg
        exact st_yield ho (wanted_none rfl) (.bool true) w6 (by simp [execOp, Act.eval, h76, go_sem]) ⟨_, rfl, Below.refl _ _, by rintro t' ⟨⟩; rfl⟩
      | 11, ho =>
        obtain rfl := Option.some.inj ho
        have h2 := given_old hg 2 (by decide +kernel)
        obtain ⟨_, h77, rfl⟩ := given_fed hg 77 (by decide +kernel)
        clear hg
        exact st_yield ho (wanted_some rfl rfl h77 rfl) (.pointer (some ⟨p, 0, none⟩)) w6 (by simp [execOp, Act.eval, h2, go_sem]) ⟨_, rfl, Below.refl _ _, by rintro t' ⟨⟩; rfl⟩
      | 12, ho =>
        obtain rfl := Option.some.inj ho
        obtain ⟨_, h78, rfl⟩ := given_fed hg 78 (by decide +kernel)
        obtain ⟨_, h77, rfl⟩ := given_fed hg 77 (by decide +kernel)
        clear hg
        exact st_enter (w1 := w6) ho (wanted_some rfl rfl h77 rfl) 26 #[.pointer (some ⟨p, 0, none⟩), .string ⟨#[97]⟩] (by simp [execOp, Act.eval, h78, resolve, go_sem]) ((CRD.out w6 hb6).mono (by rintro e w7 ⟨rfl, hb7⟩; exact ⟨_, rfl, _, rfl, hb7, by rintro t' ⟨⟩; rfl⟩))
      | 13, ho =>
        obtain rfl := Option.some.inj ho
        obtain ⟨_, h79, rfl⟩ := given_fed hg 79 (by decide +kernel)
        obtain ⟨_, h77, rfl⟩ := given_fed hg 77 (by decide +kernel)
        clear hg
        exact st_yield ho (wanted_some rfl rfl h77 rfl) (.bool true) w6 (by simp [execOp, Act.eval, h79, go_sem]) ⟨_, rfl, Below.refl _ _, by rintro t' ⟨⟩; rfl⟩
      | 14, ho =>
        obtain rfl := Option.some.inj ho
        obtain ⟨_, h77, rfl⟩ := given_fed hg 77 (by decide +kernel)
        obtain ⟨_, h80, rfl⟩ := given_fed hg 80 (by decide +kernel)
        clear hg
        exact st_yield ho (wanted_none rfl) (.bool true) w6 (by simp [execOp, Act.eval, h77, h80, go_sem]) ⟨_, rfl, Below.refl _ _, by rintro t' ⟨⟩; rfl⟩
      | 15, ho =>
        obtain rfl := Option.some.inj ho
        obtain ⟨_, h81, rfl⟩ := given_fed hg 81 (by decide +kernel)
        clear hg
        exact st_yield ho (wanted_none rfl) (.bool true) w6 (by simp [execOp, Act.eval, h81, go_sem]) ⟨_, rfl, Below.refl _ _, by rintro t' ⟨⟩; rfl⟩
      | 16, ho =>
        obtain rfl := Option.some.inj ho
        have h9 := given_old hg 9 (by decide +kernel)
        obtain ⟨_, h82, rfl⟩ := given_fed hg 82 (by decide +kernel)
        clear hg
        exact st_yield ho (wanted_some rfl rfl h82 rfl) (.int .i64 0) w6 (by simp [execOp, Act.eval, h9, go_sem]) ⟨_, rfl, Below.refl _ _, by rintro t' ⟨⟩; rfl⟩
      | 17, ho =>
        obtain rfl := Option.some.inj ho
        obtain ⟨_, h83, rfl⟩ := given_fed hg 83 (by decide +kernel)
        obtain ⟨_, h82, rfl⟩ := given_fed hg 82 (by decide +kernel)
        clear hg
        exact st_yield ho (wanted_some rfl rfl h82 rfl) (.bool true) w6 (by simp [execOp, Act.eval, h83, go_sem]) ⟨_, rfl, Below.refl _ _, by rintro t' ⟨⟩; rfl⟩
      | 18, ho =>
        obtain rfl := Option.some.inj ho
        obtain ⟨_, h82, rfl⟩ := given_fed hg 82 (by decide +kernel)
        obtain ⟨_, h84, rfl⟩ := given_fed hg 84 (by decide +kernel)
        clear hg
        exact st_yield ho (wanted_none rfl) (.bool true) w6 (by simp [execOp, Act.eval, h82, h84, go_sem]) ⟨_, rfl, Below.refl _ _, by rintro t' ⟨⟩; rfl⟩
      | 19, ho =>
        obtain rfl := Option.some.inj ho
        obtain ⟨_, h85, rfl⟩ := given_fed hg 85 (by decide +kernel)
        clear hg
        exact st_yield ho (wanted_none rfl) (.bool true) w6 (by simp [execOp, Act.eval, h85, go_sem]) ⟨_, rfl, Below.refl _ _, by rintro t' ⟨⟩; rfl⟩
      | 20, ho =>
        obtain rfl := Option.some.inj ho
        have h8 := given_old hg 8 (by decide +kernel)
        obtain ⟨_, h86, rfl⟩ := given_fed hg 86 (by decide +kernel)
        clear hg
        exact st_yield ho (wanted_some rfl rfl h86 rfl) (.pointer (some ⟨p2, 0, none⟩)) w6 (by simp [execOp, Act.eval, h8, go_sem]) ⟨_, rfl, Below.refl _ _, by rintro t' ⟨⟩; rfl⟩
      | 21, ho =>
        obtain rfl := Option.some.inj ho
        obtain ⟨_, h87, rfl⟩ := given_fed hg 87 (by decide +kernel)
        obtain ⟨_, h86, rfl⟩ := given_fed hg 86 (by decide +kernel)
        clear hg
        exact st_enter (w1 := w6) ho (wanted_some rfl rfl h86 rfl) 24 #[.pointer (some ⟨p2, 0, none⟩)] (by simp [execOp, Act.eval, h87, resolve, go_sem]) ((CL2.out w6 hb6).mono (by rintro e w7 ⟨rfl, hb7⟩; exact ⟨_, rfl, _, rfl, hb7, by rintro t' ⟨⟩; rfl⟩))
      | 22, ho =>
        obtain rfl := Option.some.inj ho
        obtain ⟨_, h88, rfl⟩ := given_fed hg 88 (by decide +kernel)
        obtain ⟨_, h86, rfl⟩ := given_fed hg 86 (by decide +kernel)
        clear hg
        exact st_yield ho (wanted_some rfl rfl h86 rfl) (.bool true) w6 (by simp [execOp, Act.eval, h88, go_sem]) ⟨_, rfl, Below.refl _ _, by rintro t' ⟨⟩; rfl⟩
      | 23, ho =>
        obtain rfl := Option.some.inj ho
        obtain ⟨_, h86, rfl⟩ := given_fed hg 86 (by decide +kernel)
        obtain ⟨_, h89, rfl⟩ := given_fed hg 89 (by decide +kernel)
        clear hg
        exact st_yield ho (wanted_none rfl) (.bool true) w6 (by simp [execOp, Act.eval, h86, h89, go_sem]) ⟨_, rfl, Below.refl _ _, by rintro t' ⟨⟩; rfl⟩
      | 24, ho =>
        obtain rfl := Option.some.inj ho
        obtain ⟨_, h90, rfl⟩ := given_fed hg 90 (by decide +kernel)
        clear hg
        exact st_yield ho (wanted_none rfl) (.bool true) w6 (by simp [execOp, Act.eval, h90, go_sem]) ⟨_, rfl, Below.refl _ _, by rintro t' ⟨⟩; rfl⟩
      | 25, ho =>
        obtain rfl := Option.some.inj ho
        have h11 := given_old hg 11 (by decide +kernel)
        obtain ⟨_, h91, rfl⟩ := given_fed hg 91 (by decide +kernel)
        clear hg
        exact st_yield ho (wanted_some rfl rfl h91 rfl) (.int .i64 1) w6 (by simp [execOp, Act.eval, h11, go_sem]) ⟨_, rfl, Below.refl _ _, by rintro t' ⟨⟩; rfl⟩
      | 26, ho =>
        obtain rfl := Option.some.inj ho
        obtain ⟨_, h92, rfl⟩ := given_fed hg 92 (by decide +kernel)
        obtain ⟨_, h91, rfl⟩ := given_fed hg 91 (by decide +kernel)
        clear hg
        exact st_yield ho (wanted_some rfl rfl h91 rfl) (.bool true) w6 (by simp [execOp, Act.eval, h92, go_sem]) ⟨_, rfl, Below.refl _ _, by rintro t' ⟨⟩; rfl⟩
      | 27, ho =>
        obtain rfl := Option.some.inj ho
        obtain ⟨_, h91, rfl⟩ := given_fed hg 91 (by decide +kernel)
        obtain ⟨_, h93, rfl⟩ := given_fed hg 93 (by decide +kernel)
        clear hg
        exact st_yield ho (wanted_none rfl) (.bool true) w6 (by simp [execOp, Act.eval, h91, h93, go_sem]) ⟨_, rfl, Below.refl _ _, by rintro t' ⟨⟩; rfl⟩
      | 28, ho =>
        obtain rfl := Option.some.inj ho
        obtain ⟨_, h94, rfl⟩ := given_fed hg 94 (by decide +kernel)
        clear hg
        exact st_yield ho (wanted_none rfl) (.bool true) w6 (by simp [execOp, Act.eval, h94, go_sem]) ⟨_, rfl, Below.refl _ _, by rintro t' ⟨⟩; rfl⟩
      | 29, ho =>
        obtain rfl := Option.some.inj ho
        have h13 := given_old hg 13 (by decide +kernel)
        obtain ⟨_, h95, rfl⟩ := given_fed hg 95 (by decide +kernel)
        clear hg
        exact st_yield ho (wanted_some rfl rfl h95 rfl) (.int .i64 8) w6 (by simp [execOp, Act.eval, h13, go_sem]) ⟨_, rfl, Below.refl _ _, by rintro t' ⟨⟩; rfl⟩
      | 30, ho =>
        obtain rfl := Option.some.inj ho
        obtain ⟨_, h96, rfl⟩ := given_fed hg 96 (by decide +kernel)
        obtain ⟨_, h95, rfl⟩ := given_fed hg 95 (by decide +kernel)
        clear hg
        exact st_yield ho (wanted_some rfl rfl h95 rfl) (.bool true) w6 (by simp [execOp, Act.eval, h96, go_sem]) ⟨_, rfl, Below.refl _ _, by rintro t' ⟨⟩; rfl⟩
      | 31, ho =>
        obtain rfl := Option.some.inj ho
        obtain ⟨_, h95, rfl⟩ := given_fed hg 95 (by decide +kernel)
        obtain ⟨_, h97, rfl⟩ := given_fed hg 97 (by decide +kernel)
        clear hg
        exact st_yield ho (wanted_none rfl) (.bool true) w6 (by simp [execOp, Act.eval, h95, h97, go_sem]) ⟨_, rfl, Below.refl _ _, by rintro t' ⟨⟩; rfl⟩
      | 32, ho =>
        obtain rfl := Option.some.inj ho
        obtain ⟨_, h98, rfl⟩ := given_fed hg 98 (by decide +kernel)
        clear hg
        exact st_yield ho (wanted_none rfl) (.bool true) w6 (by simp [execOp, Act.eval, h98, go_sem]) ⟨_, rfl, Below.refl _ _, by rintro t' ⟨⟩; rfl⟩
      | 33, ho =>
        obtain rfl := Option.some.inj ho
        have h1 := given_old hg 1 (by decide +kernel)
        obtain ⟨_, h99, rfl⟩ := given_fed hg 99 (by decide +kernel)
        clear hg
        exact st_yield ho (wanted_some rfl rfl h99 rfl) (.slice (some ⟨b, q, none⟩) 2 c) w6 (by simp [execOp, Act.eval, h1, go_sem]) ⟨_, rfl, Below.refl _ _, by rintro t' ⟨⟩; rfl⟩
      | 34, ho =>
        obtain rfl := Option.some.inj ho
        obtain ⟨_, h100, rfl⟩ := given_fed hg 100 (by decide +kernel)
        obtain ⟨_, h99, rfl⟩ := given_fed hg 99 (by decide +kernel)
        clear hg
        exact st_yield ho (wanted_some rfl rfl h99 rfl) (.pointer (some ⟨b, q, none⟩)) w6 (by simp [execOp, Act.eval, h100, go_sem, ix0]) ⟨_, rfl, Below.refl _ _, by rintro t' ⟨⟩; rfl⟩
      | 35, ho =>
        obtain rfl := Option.some.inj ho
        obtain ⟨_, h101, rfl⟩ := given_fed hg 101 (by decide +kernel)
        obtain ⟨_, h99, rfl⟩ := given_fed hg 99 (by decide +kernel)
        clear hg
        exact st_yield ho (wanted_some rfl rfl h99 rfl) (.pointer (some ⟨b, q, none⟩)) w6 (by simp [execOp, Act.eval, h101, go_sem]) ⟨_, rfl, Below.refl _ _, by rintro t' ⟨⟩; rfl⟩
      | 36, ho =>
        obtain rfl := Option.some.inj ho
        obtain ⟨_, h102, rfl⟩ := given_fed hg 102 (by decide +kernel)
        obtain ⟨_, h99, rfl⟩ := given_fed hg 99 (by decide +kernel)
        clear hg
        exact st_yield ho (wanted_some rfl rfl h99 rfl) (.string ⟨#[98]⟩) w6 (by simp [execOp, Act.eval, h102, go_sem, c0]) ⟨_, rfl, Below.refl _ _, by rintro t' ⟨⟩; rfl⟩
      | 37, ho =>
        obtain rfl := Option.some.inj ho
        have h1 := given_old hg 1 (by decide +kernel)
        obtain ⟨_, h99, rfl⟩ := given_fed hg 99 (by decide +kernel)
        clear hg
        exact st_yield ho (wanted_some rfl rfl h99 rfl) (.slice (some ⟨b, q, none⟩) 2 c) w6 (by simp [execOp, Act.eval, h1, go_sem]) ⟨_, rfl, Below.refl _ _, by rintro t' ⟨⟩; rfl⟩
      | 38, ho =>
        obtain rfl := Option.some.inj ho
        obtain ⟨_, h104, rfl⟩ := given_fed hg 104 (by decide +kernel)
        obtain ⟨_, h99, rfl⟩ := given_fed hg 99 (by decide +kernel)
        clear hg
        exact st_yield ho (wanted_some rfl rfl h99 rfl) (.pointer (some ⟨b, q + 4, none⟩)) w6 (by simp [execOp, Act.eval, h104, go_sem, ix1]) ⟨_, rfl, Below.refl _ _, by rintro t' ⟨⟩; rfl⟩
      | 39, ho =>
        obtain rfl := Option.some.inj ho
        obtain ⟨_, h105, rfl⟩ := given_fed hg 105 (by decide +kernel)
        obtain ⟨_, h99, rfl⟩ := given_fed hg 99 (by decide +kernel)
        clear hg
        exact st_yield ho (wanted_some rfl rfl h99 rfl) (.pointer (some ⟨b, q + 4, none⟩)) w6 (by simp [execOp, Act.eval, h105, go_sem]) ⟨_, rfl, Below.refl _ _, by rintro t' ⟨⟩; rfl⟩
      | 40, ho =>
        obtain rfl := Option.some.inj ho
        obtain ⟨_, h106, rfl⟩ := given_fed hg 106 (by decide +kernel)
        obtain ⟨_, h99, rfl⟩ := given_fed hg 99 (by decide +kernel)
        clear hg
        exact st_yield ho (wanted_some rfl rfl h99 rfl) (.string ⟨#[97]⟩) w6 (by simp [execOp, Act.eval, h106, go_sem, d0]) ⟨_, rfl, Below.refl _ _, by rintro t' ⟨⟩; rfl⟩
      | 41, ho =>
        obtain rfl := Option.some.inj ho
        obtain ⟨_, h103, rfl⟩ := given_fed hg 103 (by decide +kernel)
        obtain ⟨_, h107, rfl⟩ := given_fed hg 107 (by decide +kernel)
        obtain ⟨_, h99, rfl⟩ := given_fed hg 99 (by decide +kernel)
        clear hg
        exact st_enter (w1 := w6) ho (wanted_some rfl rfl h99 rfl) 19 #[.string ⟨#[98]⟩, .string ⟨#[97]⟩] (by simp [execOp, Act.eval, h103, h107, resolve, go_sem]) ((CLS.out w6).mono (by rintro e w7 ⟨rfl, hb7⟩; exact ⟨_, rfl, _, rfl, hb7, by rintro t' ⟨⟩; rfl⟩))
      | 42, ho =>
        obtain rfl := Option.some.inj ho
        obtain ⟨_, h99, rfl⟩ := given_fed hg 99 (by decide +kernel)
        obtain ⟨_, h108, rfl⟩ := given_fed hg 108 (by decide +kernel)
        clear hg
        exact st_yield ho (wanted_none rfl) (.bool true) w6 (by simp [execOp, Act.eval, h99, h108, go_sem]) ⟨_, rfl, Below.refl _ _, by rintro t' ⟨⟩; rfl⟩
      | 43, ho =>
        obtain rfl := Option.some.inj ho
        obtain ⟨_, h109, rfl⟩ := given_fed hg 109 (by decide +kernel)
        clear hg
        exact st_yield ho (wanted_none rfl) (.bool true) w6 (by simp [execOp, Act.eval, h109, go_sem]) ⟨_, rfl, Below.refl _ _, by rintro t' ⟨⟩; rfl⟩
      | n + 44, ho => simp at ho
    · intro f w12 hb12 hv
      have h0 := hv 0 (by decide)
      simp only [VBb] at h0
      have HF := Go.Lib.hid (HBB.out.trans (hb12.mono HBB.out.size))
      clear hv hb12 HX4 HCS CRD CL2 HBB ix0 ix1
      unfold putAll
      simp only [List.foldl]
      simp only [h0]
      clear h0
      go_simp
      go_wp2_with fail
      go_ret
      exact ⟨rfl, HF.out⟩
end Go.Proofs.Ytibbligidncocaa

namespace Go.Proofs.Ytibbligidncocaa
open Go.RowKit

theorem snew_ok {P : List RecT} (hm : mayP P = true) (v : Value) (w : World) (h : K4.R w v P) : Calls Try.prog 13 #[v] w fun e w' => ∃ p, e = .returned (.tuple #[.pointer (some ⟨p, 0, none⟩), .int .i64 0]) ∧ SW w' w.heap.size p P ∧ Below w.heap.size w w' :=
  (snew_c v P w h (mayP_small hm) (by have := mayP_len hm; omega)).mono fun e w' ⟨hb, hq⟩ => by
    rcases hq with ⟨-, p, h1, h2⟩ | ⟨h1, -⟩
    · exact ⟨p, h1, h2, hb⟩
    · rw [hm] at h1; cases h1
/-- Pairs of which none is gone: their row is read again. -/
theorem srow_back {P : List RecT} (hm : mayP P = true) (hg : ∀ x ∈ P, x.2.1 = false) (hok : ∀ x ∈ P, RecOk x) : P.map plainR = P ∧ rowD (rowB P) = some P := by
  have h1 : P.map plainR = P := (List.map_congr_left fun x hx => by
    obtain ⟨k, g, a, n, s⟩ := x
    have : g = false := hg _ hx
    subst this
    rfl).trans (List.map_id P)
  refine ⟨h1, rowD_put ?_ hok⟩
  rw [mayRow_iff]
  refine ⟨mayP_len hm, fun x hx => ?_⟩
  rw [← h1] at hx
  obtain ⟨y, hy, rfl⟩ := List.mem_map.1 hx
  exact (mayP_sort.1 hm).2.1 y hy
theorem sopen_ok {P : List RecT} (hm : mayP P = true) (hg : ∀ x ∈ P, x.2.1 = false) (hok : ∀ x ∈ P, RecOk x) (v : Value) (w : World) (h : RB w v (rowB P)) : Calls Try.prog 15 #[v] w fun e w' => ∃ p, e = .returned (.tuple #[.pointer (some ⟨p, 0, none⟩), .int .i64 0]) ∧ SW w' w.heap.size p P ∧ Below w.heap.size w w' :=
  (sopen_c v _ w h).mono fun e w' ⟨hb, hq⟩ => by
    have hd := (srow_back hm hg hok).2
    rcases hq with ⟨Q, h0, -, p, h1, h2⟩ | ⟨h1, -⟩
    · rw [hd] at h0
      cases h0
      exact ⟨p, h1, h2, hb⟩
    · have := h1 _ hd
      rw [hm] at this; cases this

theorem cut_recok {x : RecT} (h : RecOk x) : RecOk (cutR x) := by
  obtain ⟨-, h2, h3, -⟩ := h
  refine ⟨?_, h2, h3, ?_⟩
  · show (str _).size ≤ maxLen
    rw [str_size]
    have := List.length_take_le 20 (bl x.1)
    unfold maxLen; omega
  · show (str _).size ≤ maxLen
    rw [str_size]
    have := List.length_take_le 30 (bl x.2.2.2.2)
    unfold maxLen; omega
/-- What the law's Pairs makes of some records. -/
structure PairsP (P l : List RecT) : Prop where
  may : mayP P = true
  live : ∀ x ∈ P, x.2.1 = false
  ok : ∀ x ∈ P, RecOk x
  mem : ∀ x, x ∈ P ↔ x ∈ firstsK kf (keepL ((l.take 30).map cutR))
theorem spairs_c (v : Value) (l : List RecT) (w : World) (h : RRec w v l) :
    Calls Try.prog 11 #[v] w fun e w' => ∃ v' P, e = .returned v' ∧ PairsP P l ∧ K4.O w' w.heap.size v' P ∧ Below w.heap.size w w' :=
  (lpairs_c v l w h).mono fun e w' ⟨v', h1, h2⟩ => by
    have hlen : (firstsK kf (keepL ((l.take 30).map cutR))).length ≤ 1000 := by
      have h3 := (firstsK_facts kf (keepL ((l.take 30).map cutR))).2.2.2
      have h4 : (keepL ((l.take 30).map cutR)).length ≤ ((l.take 30).map cutR).length := List.length_filter_le _ _
      rw [List.length_map, List.length_take] at h4
      omega
    obtain ⟨P, h3, h4, h5, h6, h7⟩ := pairs_may h2 hlen
    refine ⟨v', P, h1, ⟨h4, h5, fun x hx => ?_, h6⟩, h3, h7⟩
    have h8 := (firstsK_facts kf _).2.1 x ((h6 x).1 hx)
    have h9 : x ∈ (l.take 30).map cutR := (List.mem_filter.1 h8).1
    obtain ⟨y, hy, rfl⟩ := List.mem_map.1 h9
    exact cut_recok (h.ok y (List.mem_of_mem_take hy))
end Go.Proofs.Ytibbligidncocaa

namespace Go.Proofs.Ytibbligidncocaa
open Go.RowKit

set_option maxRecDepth 100000 in
theorem short_c (v : Value) (l : List UInt8) (n : Nat) (w : World) (hv : RB w v l) (hn : n ≤ 1000) :
    Calls Try.prog 21 #[v, .int .i64 n] w fun e w' => (∃ v', e = .returned v' ∧ RB w v' (l.take n)) ∧ w = w' := by
  obtain ⟨a, cap, rfl, h1, h2, h3, h4⟩ := hv
  have hs := h2
  unfold maxLen at hs
  by_cases h : n < l.length
  · cases a with
    | none => have := h3 rfl; omega
    | some a =>
      have hr : RB w (.slice (some a) n cap) (l.take n) := by
        refine ⟨some a, cap, by rw [List.length_take, Nat.min_eq_left (by omega)], by rw [List.length_take]; omega, h2, (fun h => by cases h), fun hl => ?_⟩
        obtain ⟨b, o, ha, hc⟩ := h4 (by intro e; subst e; simp at h)
        exact ⟨b, o, ha, fun i hi => by
          have := hc i (by rw [List.length_take] at hi; omega)
          simpa using this⟩
      have Hr := Go.Lib.hid hr; clear hr h3 h4
      go_enter Try.func21, Try.ntmps21
      go_wp2
      go_ret
      exact ⟨⟨_, rfl, Hr.out⟩, rfl⟩
  · have hr : RB w (.slice a l.length cap) (l.take n) := by
      rw [List.take_of_length_le (by omega)]
      exact ⟨a, cap, rfl, h1, h2, h3, h4⟩
    have Hr := Go.Lib.hid hr; clear hr h3 h4
    go_enter Try.func21, Try.ntmps21
    go_wp2
    go_ret
    exact ⟨⟨_, rfl, Hr.out⟩, rfl⟩

theorem rb_first {w : World} {a : Option Addr} {cap : Nat} {l : List UInt8} (h : RB w (.slice a l.length cap) l) (n : Nat) (hn : n ≤ l.length) : RB w (.slice a n cap) (l.take n) := by
  obtain ⟨a', cap', hv, h1, h2, h3, h4⟩ := h
  cases hv
  refine ⟨a, cap, by rw [List.length_take, Nat.min_eq_left hn], by rw [List.length_take]; omega, h2, h3, fun hl => ?_⟩
  have hne : l ≠ [] := by rintro rfl; simp at hl
  obtain ⟨b, o, ha, hc⟩ := h4 hne
  exact ⟨b, o, ha, fun i hi => by
    have := hc i (by rw [List.length_take] at hi; omega)
    simpa using this⟩
set_option maxRecDepth 100000 in
/-- .. wherever its argument reads so. -/
theorem short_w (v : Value) (l : List UInt8) (n : Nat) (w : World) (hv : RB w v l) (hn : n ≤ 1000) :
    Calls Try.prog 21 #[v, .int .i64 n] w fun e w' => (∃ v', e = .returned v' ∧ ∀ W, RB W v l → RB W v' (l.take n)) ∧ w = w' := by
  obtain ⟨a, cap, rfl, h1, h2, h3, h4⟩ := hv
  have hs := h2
  unfold maxLen at hs
  by_cases h : n < l.length
  · cases a with
    | none => have := h3 rfl; omega
    | some a =>
      have Hr := Go.Lib.hid (fun W (hW : RB W (.slice (some a) l.length cap) l) => rb_first hW n (by omega)); clear h3 h4
      go_enter Try.func21, Try.ntmps21
      go_wp2
      go_ret
      exact ⟨⟨_, rfl, Hr.out⟩, rfl⟩
  · have Hr := Go.Lib.hid (fun W (hW : RB W (.slice a l.length cap) l) => show RB W (.slice a l.length cap) (l.take n) from by rw [List.take_of_length_le (by omega)]; exact hW); clear h3 h4
    go_enter Try.func21, Try.ntmps21
    go_wp2
    go_ret
    exact ⟨⟨_, rfl, Hr.out⟩, rfl⟩

end Go.Proofs.Ytibbligidncocaa
