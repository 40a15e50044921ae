/-
  Package fresh: contract of Rec.
-/
import Derived.Test.YtmlndgkpbodnnaaFresh
import Derived.Test.YtmlndgkpbodnnaaRecCut
namespace Go.Proofs.Ytmlndgkpbodnnaa
open Go.RowKit Go.Op

theorem ret_frec_at {w w0 : World} {tmps : Array Value} {key : ByteArray} {gone : Bool} {k n : Int} {s : ByteArray} {g : Nat} {fr : Nat × Nat}
    (hp : tmps.getD 2 undef = .pointer (some ⟨g, 0, none⟩)) (hg : w.heap[g]? = some (.cells #[.string key, .bool gone, .int .i64 k, .int .i64 n, .string s] 25 fr)) (hb : Below w0.heap.size w0 w) :
    bodyPost Try.prog Try.f42 (fun e w' => e = .returned (.agg #[.string key, .bool gone, .int .i64 k, .int .i64 n, .string s]) ∧ Below w0.heap.size w0 w') Exit.ret { tmps := tmps, defers := [] } w :=
  bodyPost_ret (results_cell_row (P := Try.prog) (fn := Try.f42) (p := 2) (ty := 25) rfl tmps w g 25 #[.string key, .bool gone, .int .i64 k, .int .i64 n, .string s] fr _ hp hg Try.underlying25 rfl (by kernel_rfl)) rfl ⟨rfl, hb⟩

set_option maxRecDepth 100000 in
theorem frec_c (key : ByteArray) (gone : Bool) (k n : Int) (s : ByteArray) (w : World) (hk : key.size ≤ 1000000) (hs : s.size ≤ 1000000) :
    Calls Try.prog 42 #[recV key gone k n s] w fun e w' => e = .returned (recV key gone k n s) ∧ Below w.heap.size w w' := by
  have C1 := Go.Lib.hid fun W => clone_c key W (by omega)
  have C2 := Go.Lib.hid fun W => clone_c s W (by omega)
  clear hk hs
  unfold recV
  have hbb := below_two w (.cells #[.string key, .bool gone, .int .i64 k, .int .i64 n, .string s] 25) (.cells #[.string ⟨#[]⟩, .bool false, .int .i64 0, .int .i64 0, .string ⟨#[]⟩] 25)
  have hA := two_first w (.cells #[.string key, .bool gone, .int .i64 k, .int .i64 n, .string s] 25) (.cells #[.string ⟨#[]⟩, .bool false, .int .i64 0, .int .i64 0, .string ⟨#[]⟩] 25)
  have hB := heap_alloc2_new w (.cells #[.string key, .bool gone, .int .i64 k, .int .i64 n, .string s] 25) (.cells #[.string ⟨#[]⟩, .bool false, .int .i64 0, .int .i64 0, .string ⟨#[]⟩] 25)
  go_enter Try.func42, Try.ntmps42
  go_wp2_with fail
  refine (C1.out _).mono ?_
  rintro e w1 ⟨rfl, hc⟩
  have hA := row_kept hA hc
  have hB := row_kept hB hc
  have hbb := hbb.trans (hc.mono hbb.size)
  obtain ⟨x0, x1, x2, x3, x4⟩ := row5 hA
  have hf := fun o => frozen_of_row w1 w.heap.size o _ _ hA
  have hi0 := setCell_id (o := 0) (v := .string key) hA rfl
  have hi4 := setCell_id (o := 4) (v := .string s) hA rfl
  clear C1 hc
  go_wp2_with fail
  refine (C2.out _).mono ?_
  rintro e w2 ⟨rfl, hc⟩
  have hA := row_kept hA hc
  have hB := row_kept hB hc
  have hbb := hbb.trans (hc.mono hbb.size)
  clear x0 x1 x2 x3 x4 hf hi0 hi4 C2
  obtain ⟨x0, x1, x2, x3, x4⟩ := row5 hA
  have hf := fun o => frozen_of_row w2 w.heap.size o _ _ hA
  have hi0 := setCell_id (o := 0) (v := .string key) hA rfl
  have hi4 := setCell_id (o := 4) (v := .string s) hA rfl
  have HB := Go.Lib.hid hB
  clear hB
  go_wp2_with (first
    | (with_reducible show wpList _ _ _ (⟨none, Op.store 25 (.tmp 2) (.tmp 13), _, _, _, _⟩ :: _) _ _; go_loud (refine wpList_store_row rfl 25 (.tmp 2) (.tmp 13) rfl (w.heap.size + 1) #[.string key, .bool gone, .int .i64 k, .int .i64 n, .string s] rfl rfl 25 _ HB.out (by kernel_rfl) rfl (rec_cells_one ..) ?_))
    | fail)
  exact ret_frec_at rfl (setRow_heap _ _ _ _ _ (0, 0) HB.out) (setRow_below _ hbb (by omega))

end Go.Proofs.Ytmlndgkpbodnnaa
