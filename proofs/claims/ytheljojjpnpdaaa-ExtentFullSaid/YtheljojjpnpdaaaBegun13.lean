/-
  The laws' begun of extent: true, whatever the memory.
-/
import Derived.Test.YtheljojjpnpdaaaExtQ
namespace Go.Proofs.Ytheljojjpnpdaaa
open Go.RowKit

def b13 : Nat → Bool := setF (setF (iv 5 12) 6 2 false) 3 1 true
theorem b13_1 : fitF (iv 2 12) (2 + 10) 3 = some (2, 10) := by decide +kernel
theorem b13_2 : setF (iv 2 12) 2 3 false = iv 5 12 := iv_take (by decide)
theorem b13_3 : allF (iv 5 12) 6 2 := fun k h1 h2 => iv_in (by omega) (by omega)
theorem b13_4 : ∀ k, 3 ≤ k → k < 3 + 1 → setF (iv 5 12) 6 2 false k = false := fun k h1 h2 => by
  rw [setF_out (by omega), iv_out (by omega)]
theorem b13_5 : fitF b13 (2 + 10) 5 = none := by decide +kernel
theorem b13_6 : spS b13 (2 + 10) = [(3, 1), (5, 1), (8, 4)] := by decide +kernel
theorem b13_7 : (cntF b13 (2 + 10) : Int) = 6 := by
  have : cntF b13 (2 + 10) = 6 := by decide +kernel
  rw [this]; rfl
theorem b13_8 : ¬ mayTurn b13 2 10 8 1 true := by
  rintro ⟨-, -, -, h⟩
  have h1 := h 8 (by decide) (by decide)
  have h2 : b13 8 = true := by decide +kernel
  rw [h2] at h1
  cases h1
theorem b13_9 : (cntF (iv 0 (0 + 0)) (0 + 0) : Int) = 0 := rfl

set_option maxHeartbeats 1000000 in
set_option maxRecDepth 100000 in
theorem begun_c (w : World) : Calls Try.prog 9 #[] w fun e w' => e = .returned (.bool true) ∧ Below w.heap.size w w' := by
  have C1 := Go.Lib.hid (new_q w 2 10 2 10 (iv 2 12) rfl rfl (by decide) (by decide) rfl)
  go_enter Try.func9, Try.ntmps9
  go_wp2_with fail
  refine C1.out.mono ?_
  rintro e w1 ⟨r, v, rfl, hr1, hb1⟩
  have C2 := Go.Lib.hid (take_q hr1 3 3 2 (2, 10) (iv 5 12) rfl rfl (by decide) b13_1 b13_2)
  have HR1 := Go.Lib.hid hr1
  have HB1 := Go.Lib.hid hb1
  clear C1 hr1 hb1
  go_wp2_with fail
  refine C2.out.mono ?_
  rintro e w2 ⟨rfl, hr2, hg2⟩
  have hb2 := below_gr HB1.out HR1.out hg2
  have hb3 := below_on hb2 (below_alloc w2 (.cells #[.int .i64 2, .int .i64 3] 30))
  have hr3 := hr2.below (below_alloc w2 (.cells #[.int .i64 2, .int .i64 3] 30))
  have hk3 := heap_alloc_new w2 (.cells #[.int .i64 2, .int .i64 3] 30)
  have C3 := Go.Lib.hid (use_q hr3 6 2 6 2 _ rfl rfl (by decide) b13_3 rfl)
  have HR3 := Go.Lib.hid hr3
  have HB3 := Go.Lib.hid hb3
  have HK3 := Go.Lib.hid hk3
  clear C2 hr2 hb2 hg2 hr3 hb3 hk3 HR1 HB1
  go_wp2_with fail
  refine C3.out.mono ?_
  rintro e w4 ⟨rfl, hr4, hg4⟩
  have hb4 := below_gr HB3.out HR3.out hg4
  have hk4 := HR3.out.blkKept hg4 HK3.out (by decide)
  have C4 := Go.Lib.hid (give_q hr4 3 1 3 1 b13 rfl rfl (by decide) (by decide) (by decide) b13_4 rfl)
  have HR4 := Go.Lib.hid hr4
  have HB4 := Go.Lib.hid hb4
  have HK4 := Go.Lib.hid hk4
  clear C3 hr4 hb4 hk4 hg4 HR3 HB3 HK3
  go_wp2_with fail
  refine C4.out.mono ?_
  rintro e w5 ⟨rfl, hr5, hg5⟩
  have hb5 := below_gr HB4.out HR4.out hg5
  have hk5 := HR4.out.blkKept hg5 HK4.out (by decide)
  have C5 := Go.Lib.hid (takeno_q hr5 5 5 rfl (by decide) b13_5)
  have HR5 := Go.Lib.hid hr5
  have HB5 := Go.Lib.hid hb5
  have HK5 := Go.Lib.hid hk5
  clear C4 hr5 hb5 hk5 hg5 HR4 HB4 HK4
  go_wp2_with fail
  refine C5.out.mono ?_
  rintro e w6 ⟨rfl, hc6⟩
  have hc7 := below_on hc6 (below_alloc w6 (.cells #[.int .i64 0, .int .i64 0] 30))
  have hr7 := HR5.out.below hc7
  have hb7 := below_on HB5.out hc7
  have hk7 := (hc7.block w2.heap.size (Array.getElem?_eq_some_iff.1 HK5.out).1).trans HK5.out
  have C6 := Go.Lib.hid (spans_q hr7 _ b13_6)
  have HR7 := Go.Lib.hid hr7
  have HB7 := Go.Lib.hid hb7
  have HK7 := Go.Lib.hid hk7
  clear C5 hr7 hb7 hk7 hc6 hc7 HR5 HB5 HK5
  go_wp2_with fail
  refine C6.out.mono ?_
  rintro e w8 ⟨a, c, rfl, ho8, hc8⟩
  have hr8 := HR7.out.below hc8
  have hb8 := below_on HB7.out hc8
  have hk8 := (hc8.block w2.heap.size (Array.getElem?_eq_some_iff.1 HK7.out).1).trans HK7.out
  obtain ⟨g, rfl, -, s0, s1, -, -⟩ := ho8.at 0 (by decide)
  obtain ⟨g', hgg, -, s2, -, -, -⟩ := ho8.at 1 (by decide)
  obtain ⟨g'', hgg2, -, s4, -, -, -⟩ := ho8.at 2 (by decide)
  cases hgg
  cases hgg2
  have s0 : w8.cell? ⟨g, 0, none⟩ = some (.int .i64 3) := s0
  have s1 : w8.cell? ⟨g, 1, none⟩ = some (.int .i64 1) := s1
  have s2 : w8.cell? ⟨g, 2, none⟩ = some (.int .i64 5) := s2
  have s4 : w8.cell? ⟨g, 4, none⟩ = some (.int .i64 8) := s4
  have k0 : w8.cell? ⟨w2.heap.size, 0, none⟩ = some (.int .i64 2) := by rw [cell_of_row _ _ 0 _ _ _ hk8]; rfl
  have k1 : w8.cell? ⟨w2.heap.size, 1, none⟩ = some (.int .i64 3) := by rw [cell_of_row _ _ 1 _ _ _ hk8]; rfl
  have C7 := Go.Lib.hid (free_q hr8 6 b13_7)
  have C8 := Go.Lib.hid (giveno_q hr8 8 1 (by decide) (by decide) b13_8)
  have HB8 := Go.Lib.hid hb8
  rw [show ([(3, 1), (5, 1), (8, 4)] : List (Nat × Nat)).length = 3 from rfl]
  clear C6 hr8 hb8 hk8 ho8 hc8 HR7 HB7 HK7
  go_wp2_with fail
  refine C7.out.mono ?_
  rintro e w9 ⟨rfl, rfl⟩
  go_wp2_with fail
  refine C8.out.mono ?_
  rintro e w9 ⟨rfl, hc9⟩
  have HB9 := Go.Lib.hid (below_on HB8.out hc9)
  have C9 := Go.Lib.hid (new_q w9 0 0 0 0 _ rfl rfl (by decide) (by decide) rfl)
  clear s0 s1 s2 s4 k0 k1 C7 C8 hc9 HB8
  go_wp2_with fail
  refine C9.out.mono ?_
  rintro e w10 ⟨r', v', rfl, hr10, hc10⟩
  have C10 := Go.Lib.hid (free_q hr10 0 b13_9)
  have HB10 := Go.Lib.hid (below_on HB9.out hc10)
  clear C9 hr10 hc10 HB9
  go_wp2_with fail
  refine C10.out.mono ?_
  rintro e w11 ⟨rfl, rfl⟩
  go_wp2_with fail
  go_ret
  exact ⟨rfl, HB10.out⟩

end Go.Proofs.Ytheljojjpnpdaaa
