/-
  The contract of the laws' begun.
-/
import Derived.Test.YtmlndgkpbodnnaaPPut
import Derived.Test.YtmlndgkpbodnnaaPGet
import Derived.Test.YtmlndgkpbodnnaaPNew
import Derived.Test.YtmlndgkpbodnnaaRecBox
namespace Go.Proofs.Ytmlndgkpbodnnaa
open Go.RowKit Go.Op

theorem g10_1 : mayRec (str [97]) false 1 1 (str []) = true := by decide +kernel
theorem g10_2 : mayRec (str [97]) true 0 0 (str []) = true := by decide +kernel
theorem g10_3 : mayRec (str [97]) false 0 0 (str []) = false := by decide +kernel
theorem g10_4 : eqRec (str [97]) false 1 1 (str []) (str [97]) false 1 1 (str []) = true := by decide +kernel
theorem g10_5 : eqRec (str [97]) false 1 1 (str []) (str [97]) true 0 0 (str []) = false := by decide +kernel
theorem g10_6 : recB [97] false 1 1 [] = [2, 97, 2, 2] := by decide +kernel
theorem g10_7 : readB [2, 97, 2, 2, 7] = (([97], false, 1, 1, []), 4, 0) := by
  have := readB_put [97] false 1 1 [] [7] g10_1 (by omega) (by omega)
  rw [g10_6] at this
  exact this
theorem g10_8 : newestR [(⟨#[97]⟩, false, 1, 1, ⟨#[]⟩), (⟨#[48]⟩, true, 0, 0, ⟨#[]⟩), (⟨#[97]⟩, true, 0, 0, ⟨#[]⟩)] = [(⟨#[48]⟩, true, 0, 0, ⟨#[]⟩), (⟨#[97]⟩, true, 0, 0, ⟨#[]⟩)] := by
  simp [newestR, newestK, setGo, keyR, ByteArray.toList_eq, bytesLess]

def r10 : RecT := (⟨#[97]⟩, false, 1, 1, ⟨#[]⟩)
def z10 : RecT := (⟨#[48]⟩, true, 0, 0, ⟨#[]⟩)
def g10 : RecT := (⟨#[97]⟩, true, 0, 0, ⟨#[]⟩)
abbrev q10 (k : ByteArray) (g : Bool) (a b : Int) : Obj := .cells #[.string k, .bool g, .int .i64 a, .int .i64 b, .string ⟨#[]⟩] 25
abbrev q3 : Obj := .cells #[.string ⟨#[97]⟩, .bool false, .int .i64 1, .int .i64 1, .string ⟨#[]⟩, .string ⟨#[48]⟩, .bool true, .int .i64 0, .int .i64 0, .string ⟨#[]⟩, .string ⟨#[97]⟩, .bool true, .int .i64 0, .int .i64 0, .string ⟨#[]⟩] 25
theorem rs3 (w : World) : RS (w.alloc (.cells #[.string ⟨#[97]⟩, .bool false, .int .i64 1, .int .i64 1, .string ⟨#[]⟩, .string ⟨#[48]⟩, .bool true, .int .i64 0, .int .i64 0, .string ⟨#[]⟩, .string ⟨#[97]⟩, .bool true, .int .i64 0, .int .i64 0, .string ⟨#[]⟩] 25)) (.slice (some ⟨w.heap.size, 0, none⟩) 3 3) [r10, z10, g10] := by
  refine ⟨some ⟨w.heap.size, 0, none⟩, 3, rfl, Nat.le_refl _, by simp [maxLen], (fun h => by cases h), fun _ => ⟨w.heap.size, 0, rfl, fun i hi => ?_⟩⟩
  have c := fun j => cell_of_row _ w.heap.size j _ _ _ (heap_alloc_new w (.cells #[.string ⟨#[97]⟩, .bool false, .int .i64 1, .int .i64 1, .string ⟨#[]⟩, .string ⟨#[48]⟩, .bool true, .int .i64 0, .int .i64 0, .string ⟨#[]⟩, .string ⟨#[97]⟩, .bool true, .int .i64 0, .int .i64 0, .string ⟨#[]⟩] 25))
  match i, hi with
  | 0, _ => exact ⟨c 0, c 1, c 2, c 3, c 4⟩
  | 1, _ => exact ⟨c 5, c 6, c 7, c 8, c 9⟩
  | 2, _ => exact ⟨c 10, c 11, c 12, c 13, c 14⟩
  | i + 3, hi => exact absurd (show i + 3 < 3 from hi) (by omega)

set_option maxHeartbeats 1000000 in
set_option maxRecDepth 100000 in
theorem begun_c (w : World) : Calls Try.prog 8 #[] w fun e w' => e = .returned (.bool true) ∧ Below w.heap.size w w' := by
  have c1 := fun W => pput_c (.slice none 0 0) [] [97] false 1 1 [] W (RB.nil _) g10_1 (by omega) (by omega) (by simp)
  have c2 := fun v W (h : RB W v [2, 97, 2, 2, 7]) => pget_c v [2, 97, 2, 2, 7] W h
  have c3 := fun v W (h : RS W v [r10, z10, g10]) => pnewest_c v [r10, z10, g10] W h (by simp) (by intro x hx; simp only [List.mem_cons, List.not_mem_nil, or_false] at hx; rcases hx with rfl | rfl | rfl <;> decide)
  have c4 := fun W => pmay_c ⟨#[97]⟩ false 1 1 ⟨#[]⟩ W (by decide) (by decide)
  have c5 := fun W => pmay_c ⟨#[97]⟩ true 0 0 ⟨#[]⟩ W (by decide) (by decide)
  have c6 := fun W => pmay_c ⟨#[97]⟩ false 0 0 ⟨#[]⟩ W (by decide) (by decide)
  have c7 := fun W => peq_c ⟨#[97]⟩ false 1 1 ⟨#[]⟩ ⟨#[97]⟩ false 1 1 ⟨#[]⟩ W
  have c8 := fun W => peq_c ⟨#[97]⟩ false 1 1 ⟨#[]⟩ ⟨#[97]⟩ true 0 0 ⟨#[]⟩ W
  rw [g10_6] at c1
  rw [g10_7] at c2
  rw [show newestR [r10, z10, g10] = [z10, g10] from g10_8] at c3
  rw [show mayRec ⟨#[97]⟩ false 1 1 ⟨#[]⟩ = true from g10_1] at c4
  rw [show mayRec ⟨#[97]⟩ true 0 0 ⟨#[]⟩ = true from g10_2] at c5
  rw [show mayRec ⟨#[97]⟩ false 0 0 ⟨#[]⟩ = false from g10_3] at c6
  rw [show eqRec ⟨#[97]⟩ false 1 1 ⟨#[]⟩ ⟨#[97]⟩ false 1 1 ⟨#[]⟩ = true from g10_4] at c7
  rw [show eqRec ⟨#[97]⟩ false 1 1 ⟨#[]⟩ ⟨#[97]⟩ true 0 0 ⟨#[]⟩ = false from g10_5] at c8
  unfold rr at c2
  simp only [] at c2
  rw [show str [97] = ⟨#[97]⟩ from rfl, show str [] = ⟨#[]⟩ from rfl] at c1 c2
  unfold recV at c1 c2 c4 c5 c6 c7 c8
  have C1 := Go.Lib.hid c1; clear c1
  have C2 := Go.Lib.hid c2; clear c2
  have C3 := Go.Lib.hid c3; clear c3
  have C4 := Go.Lib.hid c4; clear c4
  have C5 := Go.Lib.hid c5; clear c5
  have C6 := Go.Lib.hid c6; clear c6
  have C7 := Go.Lib.hid c7; clear c7
  have C8 := Go.Lib.hid c8; clear c8
  have hA := two_first w (q10 ⟨#[97]⟩ false 1 1) (q10 ⟨#[97]⟩ true 0 0)
  have hB := heap_alloc2_new w (q10 ⟨#[97]⟩ false 1 1) (q10 ⟨#[97]⟩ true 0 0)
  have hbb := below_two w (q10 ⟨#[97]⟩ false 1 1) (q10 ⟨#[97]⟩ true 0 0)
  go_enter Try.func8, Try.ntmps8
  go_wp2_with fail
  generalize (w.alloc (q10 ⟨#[97]⟩ false 1 1)).alloc (q10 ⟨#[97]⟩ true 0 0) = wa at *
  have hlA := row_lt hA
  have hlB := row_lt hB
  refine (C1.out _).mono ?_
  rintro e w1 ⟨v1, rfl, own1, hc⟩
  have hA := row_kept hA hc
  have hB := row_kept hB hc
  have hbb := hbb.trans (hc.mono hbb.size)
  have hs1 := hc.size
  clear hc
  have own2 := own1.alloc (.cells #[.int .u8 7] 5)
  have hone := RB.lits w1 5 (0, 0) [7] #[.int .u8 7] 1 rfl rfl (by decide)
  have hA := row_kept hA (below_one w1 (.cells #[.int .u8 7] 5))
  have hB := row_kept hB (below_one w1 (.cells #[.int .u8 7] 5))
  have hbb2 := hbb.trans ((below_one w1 (.cells #[.int .u8 7] 5)).mono hbb.size)
  have hs2 := Nat.le_trans hs1 (below_one w1 (.cells #[.int .u8 7] 5)).size
  have hbw := hbb.size
  clear hbb C1
  have hws : w.heap.size ≤ wa.heap.size := by omega
  go_wp2_with (first
    | (with_reducible show wpList _ _ _ (⟨some 14, _, _, _, _, _⟩ :: _) _ _; go_loud (refine wpList_append_RB rfl (.tmp 12) (.tmp 13) 26 rfl wa.heap.size 5 Try.underlying26 info8 v1 (.slice (some ⟨w1.heap.size, 0, none⟩) 1 1) ([] ++ [2, 97, 2, 2]) [7] rfl rfl own2 hone (by simp) hs2 ?_); intro v3 w3 hown3 hg3; have hbb3 := hbb2.grown hg3 (Nat.le_trans hws hs2) (fun k hk => Nat.le_trans hws (own2.row k hk)); have hb3 := grown_below hg3 hs2 own2.row; have hA3 := (hb3.block _ hlA).trans hA; have hB3 := (hb3.block _ hlB).trans hB; have hrb := hown3.rb; clear hg3 hA hB hown3 own2 own1 hb3 hbb2 hone)
    | fail)
  refine (C2.out _ _ hrb).mono ?_
  rintro e w4 ⟨rfl, hc⟩
  have hA := row_kept hA3 hc
  have hB := row_kept hB3 hc
  have hbb := hbb3.trans (hc.mono hbb3.size)
  have hA := row_kept hA (below_one w4 (q10 ⟨#[97]⟩ false 1 1))
  have hB := row_kept hB (below_one w4 (q10 ⟨#[97]⟩ false 1 1))
  have hX := heap_alloc_new w4 (q10 ⟨#[97]⟩ false 1 1)
  have hbb := hbb.trans ((below_one w4 (q10 ⟨#[97]⟩ false 1 1)).mono hbb.size)
  clear hc hA3 hB3 hbb3 C2 hrb
  dsimp only [q10] at hA hB hX hbb
  obtain ⟨x0, x1, x2, x3, x4⟩ := row5 hA
  obtain ⟨y0, y1, y2, y3, y4⟩ := row5 hB
  go_wp2_with fail
  have hsz : (w4.alloc (q10 ⟨#[97]⟩ false 1 1)).heap.size = w4.heap.size + 1 := by simp
  generalize w4.alloc (q10 ⟨#[97]⟩ false 1 1) = wb at *
  have hr3 := rs3 wb
  rw [hsz] at hr3
  have b3 := below_one wb q3
  have hA := row_kept hA b3
  have hB := row_kept hB b3
  have hX := row_kept hX b3
  have hbb := hbb.trans (b3.mono hbb.size)
  clear b3
  refine (C3.out _ _ hr3).mono ?_
  rintro e w5 ⟨v5, rfl, hown5, hc⟩
  have hrs := hown5.rs
  have hA := row_kept hA hc
  have hB := row_kept hB hc
  have hX := row_kept hX hc
  have hbb := hbb.trans (hc.mono hbb.size)
  clear hc hr3 C3 hown5 x0 x1 x2 x3 x4 y0 y1 y2 y3 y4
  obtain ⟨al, cl, rfl, -⟩ := hrs.form
  simp only [List.length_cons, List.length_nil, Nat.zero_add, Nat.reduceAdd] at hrs ⊢
  obtain ⟨x0, x1, x2, x3, x4⟩ := row5 hA
  obtain ⟨y0, y1, y2, y3, y4⟩ := row5 hB
  obtain ⟨-, -, -, z3, -⟩ := row5 hX
  obtain ⟨bl, ol, el, -, -, -, l1, -, -, -⟩ := hrs.at 1 (by decide)
  cases el
  have l1 : w5.cell? ⟨bl, ol + 5 + 1, none⟩ = some (.bool true) := l1
  have HL := Go.Lib.hid fun W (h : RS W (.slice (some ⟨bl, ol, none⟩) 2 cl) [z10, g10]) => (show W.cell? ⟨bl, ol + 5 + 1, none⟩ = some (.bool true) from by obtain ⟨b', o', e', -, -, -, l1, -⟩ := h.at 1 (by decide); cases e'; exact l1)
  have hix : ∀ W : World, (Instr.indexAt 40 (.slice (some ⟨bl, ol, none⟩) 2 cl) (.int .i64 1)).run Try.prog W = .ok (.pointer (some ⟨bl, ol + 5, none⟩)) W := run_idx5 bl ol 2 cl 1 (by omega)
  go_wp2_with fail
  refine (C4.out _).mono ?_
  rintro e w6 ⟨rfl, hc⟩
  have hA := row_kept hA hc
  have hB := row_kept hB hc
  have hX := row_kept hX hc
  have hrs := hrs.below hc
  have hbb := hbb.trans (hc.mono hbb.size)
  clear hc C4 x0 x1 x2 x3 x4 y0 y1 y2 y3 y4 z3 l1
  obtain ⟨x0, x1, x2, x3, x4⟩ := row5 hA
  obtain ⟨y0, y1, y2, y3, y4⟩ := row5 hB
  obtain ⟨-, -, -, z3, -⟩ := row5 hX
  have l1 := HL.out _ hrs
  go_wp2_with fail
  refine (C5.out _).mono ?_
  rintro e w7 ⟨rfl, hc⟩
  have hA := row_kept hA hc
  have hB := row_kept hB hc
  have hX := row_kept hX hc
  have hrs := hrs.below hc
  have hbb := hbb.trans (hc.mono hbb.size)
  clear hc C5 x0 x1 x2 x3 x4 y0 y1 y2 y3 y4 z3 l1
  obtain ⟨x0, x1, x2, x3, x4⟩ := row5 hA
  obtain ⟨y0, y1, y2, y3, y4⟩ := row5 hB
  obtain ⟨-, -, -, z3, -⟩ := row5 hX
  have l1 := HL.out _ hrs
  go_wp2_with fail
  refine (C6.out _).mono ?_
  rintro e w8 ⟨rfl, hc⟩
  have hA := row_kept hA hc
  have hB := row_kept hB hc
  have hX := row_kept hX hc
  have hrs := hrs.below hc
  have hbb := hbb.trans (hc.mono hbb.size)
  clear hc C6 x0 x1 x2 x3 x4 y0 y1 y2 y3 y4 z3 l1
  obtain ⟨x0, x1, x2, x3, x4⟩ := row5 hA
  obtain ⟨y0, y1, y2, y3, y4⟩ := row5 hB
  obtain ⟨-, -, -, z3, -⟩ := row5 hX
  have l1 := HL.out _ hrs
  go_wp2_with fail
  refine (C7.out _).mono ?_
  rintro e w9 ⟨rfl, hc⟩
  have hA := row_kept hA hc
  have hB := row_kept hB hc
  have hX := row_kept hX hc
  have hrs := hrs.below hc
  have hbb := hbb.trans (hc.mono hbb.size)
  clear hc C7 x0 x1 x2 x3 x4 y0 y1 y2 y3 y4 z3 l1
  obtain ⟨x0, x1, x2, x3, x4⟩ := row5 hA
  obtain ⟨y0, y1, y2, y3, y4⟩ := row5 hB
  obtain ⟨-, -, -, z3, -⟩ := row5 hX
  have l1 := HL.out _ hrs
  go_wp2_with fail
  refine (C8.out _).mono ?_
  rintro e w10 ⟨rfl, hc⟩
  have hA := row_kept hA hc
  have hB := row_kept hB hc
  have hX := row_kept hX hc
  have hrs := hrs.below hc
  have hbb := hbb.trans (hc.mono hbb.size)
  clear hc C8 x0 x1 x2 x3 x4 y0 y1 y2 y3 y4 z3 l1
  obtain ⟨x0, x1, x2, x3, x4⟩ := row5 hA
  obtain ⟨y0, y1, y2, y3, y4⟩ := row5 hB
  obtain ⟨-, -, -, z3, -⟩ := row5 hX
  have l1 := HL.out _ hrs
  go_wp2_with fail
  go_ret
  exact ⟨rfl, hbb⟩

end Go.Proofs.Ytmlndgkpbodnnaa
