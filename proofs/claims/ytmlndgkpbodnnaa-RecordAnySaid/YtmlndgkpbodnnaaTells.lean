/-
  The contract of the laws' tells.
-/
import Derived.Test.YtmlndgkpbodnnaaPGet
import Derived.Test.YtmlndgkpbodnnaaRecBox
namespace Go.Proofs.Ytmlndgkpbodnnaa
open Go.RowKit

set_option maxHeartbeats 1000000 in
set_option maxRecDepth 100000 in
theorem tells_c (v : Value) (l : List UInt8) (w : World) (hv : RB w v l) : Calls Try.prog 18 #[v] w fun e w' => e = .returned (.bool true) ∧ Below w.heap.size w w' := by
  have c1 := fun W (h : RB W v l) => pget_c v l W h
  have c2 := fun W (h : RB W v l) => rread_c v l W h
  generalize readB l = R at *
  obtain ⟨⟨key, gone, k, n, s⟩, m, er⟩ := R
  unfold rr at c1 c2
  simp only [] at c1 c2
  generalize str key = ks at *
  generalize str s = ss at *
  have c3 := fun W => reqrec_c ks gone k n ss ks gone k n ss W
  have h3 := eqRec_iff (ks, gone, k, n, ss) (ks, gone, k, n, ss)
  simp only [decide_true] at h3
  rw [h3] at c3
  clear h3
  unfold recV at c1 c2 c3
  have C1 := Go.Lib.hid c1; clear c1
  have C2 := Go.Lib.hid c2; clear c2
  have C3 := Go.Lib.hid c3; clear c3
  have HV := Go.Lib.hid hv; clear hv
  go_enter Try.func18, Try.ntmps18
  go_wp2_with fail
  refine (C1.out _ HV.out).mono ?_
  rintro e w1 ⟨rfl, hc⟩
  have hX := heap_alloc_new w1 (.cells #[.string ks, .bool gone, .int .i64 k, .int .i64 n, .string ss] 25)
  have hbb := hc.trans ((below_one w1 (.cells #[.string ks, .bool gone, .int .i64 k, .int .i64 n, .string ss] 25)).mono hc.size)
  clear hc
  go_wp2_with fail
  generalize w1.alloc (.cells #[.string ks, .bool gone, .int .i64 k, .int .i64 n, .string ss] 25) = wa at *
  refine (C2.out _ (HV.out.below hbb)).mono ?_
  rintro e w2 ⟨rfl, hc⟩
  have b2 := below_one w2 (.cells #[.string ks, .bool gone, .int .i64 k, .int .i64 n, .string ss] 25)
  have hY := heap_alloc_new w2 (.cells #[.string ks, .bool gone, .int .i64 k, .int .i64 n, .string ss] 25)
  have hX := row_kept (row_kept hX hc) b2
  have hbb := hbb.trans (hc.mono hbb.size)
  have hbb := hbb.trans (b2.mono hbb.size)
  clear hc b2
  obtain ⟨x0, x1, x2, x3, x4⟩ := row5 hX
  obtain ⟨y0, y1, y2, y3, y4⟩ := row5 hY
  go_wp2_with fail
  refine (C3.out _).mono ?_
  rintro e w3 ⟨rfl, hc⟩
  have hbb := hbb.trans (hc.mono hbb.size)
  clear hc x0 x1 x2 x3 x4 y0 y1 y2 y3 y4 hX hY
  go_wp2_with fail
  go_ret
  exact ⟨rfl, hbb⟩

end Go.Proofs.Ytmlndgkpbodnnaa
