/-
  The contract of the laws' begun.
-/
import Derived.Test.YtmphcpggfgehhaaTrieP
import Derived.Test.YtmphcpggfgehhaaKUW
namespace Go.Proofs.Ytmphcpggfgehhaa
open Go.RowKit

/-- Hashes that are written out. -/
theorem KU.lits (w : World) (e : TypeId) (l : List Nat) (arr : Array Value) (n : Nat) (h : arr = (KU.flat l).toArray) (hn : n = l.length) (hm : l.length ≤ 1000) : KU.R (w.alloc (.cells arr e)) (.slice (some ⟨w.heap.size, 0, none⟩) n n) l := by
  subst h hn
  refine ⟨some ⟨w.heap.size, 0, none⟩, l.length, rfl, Nat.le_refl _, by unfold maxLen; omega, (fun h => by cases h), fun _ => ⟨w.heap.size, 0, rfl, fun j u hj => ?_⟩⟩
  rw [cell_of_row _ w.heap.size (0 + j) (KU.flat l).toArray e (0, 0) (heap_alloc_new w _)]
  simpa using hj

def T21 : List Bool := treeL 64 [1, 2, 9223372036854775808]
theorem T21_def : treeL 64 [1, 2, 9223372036854775808] = T21 := rfl
theorem T21_len : T21.length ≤ 1000 := by decide +kernel
theorem T21_1 : rankB T21 2 64 0 3 0 = some 1 := by decide +kernel
theorem T21_2 : rankB T21 9223372036854775808 64 0 3 0 = some 2 := by decide +kernel
theorem T21_3 : rankB T21 5 64 0 0 0 = none := by decide +kernel
theorem T21_4 : checkB T21 3 = true := by decide +kernel
theorem T21_5 : checkB T21 1 = false := by decide +kernel
theorem R21_1 : riseB [1, 2, 9223372036854775808] = true := by decide +kernel
theorem R21_2 : riseB [2, 1] = false := by decide +kernel

set_option maxHeartbeats 1000000 in
set_option maxRecDepth 100000 in
theorem begun21_c (w : World) : Calls Try.prog 8 #[] w fun e w' => e = .returned (.bool true) ∧ Below w.heap.size w w' := by
  have h1 := KU.lits w 23 [1, 2, 9223372036854775808] #[.int .u64 1, .int .u64 2, .int .u64 9223372036854775808] 3 rfl rfl (by decide)
  have k1 : Below w.heap.size w (w.alloc (.cells #[.int .u64 1, .int .u64 2, .int .u64 9223372036854775808] 23)) := (Below.refl _ _).alloc (Nat.le_refl _) _
  have C1 := build_yes _ _ _ h1 (by decide) (by decide) R21_1
  rw [T21_def] at C1
  have HT := Go.Lib.hid T21_len
  have H1 := Go.Lib.hid T21_1
  have H2 := Go.Lib.hid T21_2
  have H3 := Go.Lib.hid T21_3
  have H4 := Go.Lib.hid T21_4
  have H5 := Go.Lib.hid T21_5
  generalize T21 = T at *
  have K1 := Go.Lib.hid C1
  clear C1 h1
  go_enter Try.func8, Try.ntmps8
  go_wp2_with fail
  refine K1.out.mono ?_
  rintro e w1 ⟨B, u, rfl, hbt, hB, hb1⟩
  have hb1 := k1.trans (hb1.mono k1.size)
  have HBT := Go.Lib.hid hbt
  have h2 := KU.lits w1 23 [2, 1] #[.int .u64 2, .int .u64 1] 2 rfl rfl (by decide)
  have k2 : Below w1.heap.size w1 (w1.alloc (.cells #[.int .u64 2, .int .u64 1] 23)) := (Below.refl _ _).alloc (Nat.le_refl _) _
  have K2 := Go.Lib.hid (build_no _ _ _ h2 (by decide) (.inr R21_2))
  clear hbt K1 k1 h2
  go_wp2_with fail
  refine K2.out.mono ?_
  rintro e w2 ⟨rfl, hb2⟩
  have hb2 := k2.trans (hb2.mono k2.size)
  have hb3 := hb1.trans (hb2.mono hb1.size)
  have HBT2 := Go.Lib.hid (HBT.out.below hb2)
  clear K2 k2 HBT hb1 hb2
  have hl := HT.out
  have HL := Go.Lib.hid (show T.length ≤ 100000000 by omega)
  clear hl
  have KR := Go.Lib.hid fun (n x : Nat) (W : World) (h : Below w2.heap.size w2 W) (hn : n ≤ 4096) (R : Option Nat) (hR : rankB T x 64 0 n 0 = R) => rank_c n x W B B u T (HBT2.out.below h) HL.out hn R hR
  have KC := Go.Lib.hid fun (n : Nat) (t : Bool) (W : World) (h : Below w2.heap.size w2 W) (hn : n ≤ 4096) (ht : checkB T n = t) => check_c n t W B B u T (HBT2.out.below h) HL.out hn ht
  clear HBT2 HT
  go_wp2_with fail
  refine (KR.out 3 2 _ (Below.refl _ _) (by decide) _ H1.out).mono ?_
  rintro e w3 ⟨rfl, hb4⟩
  simp only [endV]
  go_wp2_with fail
  refine (KR.out 3 9223372036854775808 _ hb4 (by decide) _ H2.out).mono ?_
  rintro e w4 ⟨rfl, hb5⟩
  have hb5 := hb4.trans (hb5.mono hb4.size)
  simp only [endV]
  clear hb4
  go_wp2_with fail
  refine (KR.out 0 5 _ hb5 (by decide) _ H3.out).mono ?_
  rintro e w5 ⟨rfl, hb6⟩
  have hb6 := hb5.trans (hb6.mono hb5.size)
  simp only [endV]
  clear hb5
  go_wp2_with fail
  refine (KC.out 3 true _ hb6 (by decide) H4.out).mono ?_
  rintro e w6 ⟨rfl, hb7⟩
  have hb7 := hb6.trans (hb7.mono hb6.size)
  clear hb6
  go_wp2_with fail
  refine (KC.out 1 false _ hb7 (by decide) H5.out).mono ?_
  rintro e w7 ⟨rfl, hb8⟩
  have hb8 := hb7.trans (hb8.mono hb7.size)
  have hb9 := hb3.trans (hb8.mono hb3.size)
  clear hb7
  go_wp2_with fail
  go_ret
  exact ⟨rfl, hb9⟩

end Go.Proofs.Ytmphcpggfgehhaa
