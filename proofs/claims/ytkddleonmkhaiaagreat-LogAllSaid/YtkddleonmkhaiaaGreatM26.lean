/-
  Package fresh: contract of Raw: a value with a text of its own.
  Package fresh: contract of Rec.
  Records by the generic laws of slices (XGenS): their layout.
-/
import Derived.Test.YtkddleonmkhaiaaGreatM25
import Derived.Test.YtkddleonmkhaiaaGreatM13
import Derived.Test.YtkddleonmkhaiaaGreatM21
namespace Go.Proofs.YtkddleonmkhaiaaGreat
open Go.RowKit Go.Op

theorem raw3 {w : World} {b : Nat} {a0 a1 a2 : Value} {t : TypeId} {fr : Nat × Nat} (h : w.heap[b]? = some (.cells #[a0, a1, a2] t fr)) : w.cell? ⟨b, 0, none⟩ = some a0 ∧ w.cell? ⟨b, 1, none⟩ = some a1 ∧ w.cell? ⟨b, 2, none⟩ = some a2 := by
  have c := fun j => cell_of_row w b j _ _ _ h
  exact ⟨c 0, c 1, c 2⟩
/-- Storing cells that stand there already leaves the world as it is. -/
theorem setCells_id : ∀ (vs : List Value) {w : World} {b o : Nat} {cs : Array Value} {t : TypeId} {fr : Nat × Nat}, w.heap[b]? = some (.cells cs t fr) → (∀ j v, vs[j]? = some v → cs[o + j]? = some v) → w.setCells b o vs = w
  | [], w, b, o, cs, t, fr, _, _ => rfl
  | v :: r, w, b, o, cs, t, fr, hg, hv => by
    have h0 := setCell_id (o := o) (v := v) hg (hv 0 v rfl)
    show (w.setCell ⟨b, o, none⟩ v).setCells b (o + 1) r = w
    rw [h0]
    exact setCells_id r hg fun j u hj => by have := hv (j + 1) u hj; rwa [show o + (j + 1) = o + 1 + j by omega] at this

theorem ret_fraw_at {w w0 : World} {tmps : Array Value} {k n : Int} {s : ByteArray} {g : Nat} {fr : Nat × Nat}
    (hp : tmps.getD 2 undef = .pointer (some ⟨g, 0, none⟩)) (hg : w.heap[g]? = some (.cells #[.int .i64 k, .int .i64 n, .string s] 31 fr)) (hb : Below w0.heap.size w0 w) :
    bodyPost Tryz.prog Tryz.f51 (fun e w' => e = .returned (.agg #[.int .i64 k, .int .i64 n, .string s]) ∧ Below w0.heap.size w0 w') Exit.ret { tmps := tmps, defers := [] } w :=
  bodyPost_ret (results_cell_row (P := Tryz.prog) (fn := Tryz.f51) (p := 2) (ty := 31) rfl tmps w g 31 #[.int .i64 k, .int .i64 n, .string s] fr _ hp hg Tryz.underlying31 rfl (by kernel_rfl)) rfl ⟨rfl, hb⟩

set_option maxRecDepth 100000 in
theorem fraw_c (k n : Int) (s : ByteArray) (w : World) (hs : s.size ≤ 1000000) :
    Calls Tryz.prog 51 #[.agg #[.int .i64 k, .int .i64 n, .string s]] w fun e w' => e = .returned (.agg #[.int .i64 k, .int .i64 n, .string s]) ∧ Below w.heap.size w w' := by
  have C1 := Go.Lib.hid fun W => clone_c s W (by omega)
  clear hs
  have hbb := below_two w (.cells #[.int .i64 k, .int .i64 n, .string s] 31) (.cells #[.int .i64 0, .int .i64 0, .string ⟨#[]⟩] 31)
  have hA := two_first w (.cells #[.int .i64 k, .int .i64 n, .string s] 31) (.cells #[.int .i64 0, .int .i64 0, .string ⟨#[]⟩] 31)
  have hB := heap_alloc2_new w (.cells #[.int .i64 k, .int .i64 n, .string s] 31) (.cells #[.int .i64 0, .int .i64 0, .string ⟨#[]⟩] 31)
  go_enter Tryz.func51, Tryz.ntmps51
  go_wp2_with fail
  refine (C1.out _).mono ?_
  rintro e w1 ⟨rfl, hc⟩
  have hA := row_kept hA hc
  have hB := row_kept hB hc
  have hbb := hbb.trans (hc.mono hbb.size)
  obtain ⟨x0, x1, x2⟩ := raw3 hA
  have hf := fun o => frozen_of_row w1 w.heap.size o _ _ hA
  have hi2 := setCell_id (o := 2) (v := .string s) hA rfl
  clear C1 hc
  have HB := Go.Lib.hid hB
  clear hB
  go_wp2_with (first
    | (with_reducible show wpList _ _ _ (⟨none, Op.store 31 (.tmp 2) (.tmp 7), _, _, _, _⟩ :: _) _ _; go_loud (refine wpList_store_row rfl 31 (.tmp 2) (.tmp 7) rfl (w.heap.size + 1) #[.int .i64 k, .int .i64 n, .string s] rfl rfl 31 _ HB.out (by kernel_rfl) rfl (raw_cells_one ..) ?_))
    | fail)
  exact ret_fraw_at rfl (setRow_heap _ _ _ _ _ (0, 0) HB.out) (setRow_below _ hbb (by omega))

end Go.Proofs.YtkddleonmkhaiaaGreat

namespace Go.Proofs.YtkddleonmkhaiaaGreat
open Go.RowKit Go.Op

theorem ret_frec_at {w w0 : World} {tmps : Array Value} {key : ByteArray} {gone : Bool} {k n : Int} {s : ByteArray} {g : Nat} {fr : Nat × Nat}
    (hp : tmps.getD 2 undef = .pointer (some ⟨g, 0, none⟩)) (hg : w.heap[g]? = some (.cells #[.string key, .bool gone, .int .i64 k, .int .i64 n, .string s] 33 fr)) (hb : Below w0.heap.size w0 w) :
    bodyPost Tryz.prog Tryz.f31 (fun e w' => e = .returned (.agg #[.string key, .bool gone, .int .i64 k, .int .i64 n, .string s]) ∧ Below w0.heap.size w0 w') Exit.ret { tmps := tmps, defers := [] } w :=
  bodyPost_ret (results_cell_row (P := Tryz.prog) (fn := Tryz.f31) (p := 2) (ty := 33) rfl tmps w g 33 #[.string key, .bool gone, .int .i64 k, .int .i64 n, .string s] fr _ hp hg Tryz.underlying33 rfl (by kernel_rfl)) rfl ⟨rfl, hb⟩

set_option maxRecDepth 100000 in
theorem frec_c (key : ByteArray) (gone : Bool) (k n : Int) (s : ByteArray) (w : World) (hk : key.size ≤ 1000000) (hs : s.size ≤ 1000000) :
    Calls Tryz.prog 31 #[recV key gone k n s] w fun e w' => e = .returned (recV key gone k n s) ∧ Below w.heap.size w w' := by
  have C1 := Go.Lib.hid fun W => clone_c key W (by omega)
  have C2 := Go.Lib.hid fun W => fraw_c k n s W hs
  clear hk hs
  unfold recV
  have hbb := below_two w (.cells #[.string key, .bool gone, .int .i64 k, .int .i64 n, .string s] 33) (.cells #[.string ⟨#[]⟩, .bool false, .int .i64 0, .int .i64 0, .string ⟨#[]⟩] 33)
  have hA := two_first w (.cells #[.string key, .bool gone, .int .i64 k, .int .i64 n, .string s] 33) (.cells #[.string ⟨#[]⟩, .bool false, .int .i64 0, .int .i64 0, .string ⟨#[]⟩] 33)
  have hB := heap_alloc2_new w (.cells #[.string key, .bool gone, .int .i64 k, .int .i64 n, .string s] 33) (.cells #[.string ⟨#[]⟩, .bool false, .int .i64 0, .int .i64 0, .string ⟨#[]⟩] 33)
  go_enter Tryz.func31, Tryz.ntmps31
  go_wp2_with fail
  refine (C1.out _).mono ?_
  rintro e w1 ⟨rfl, hc⟩
  have hA := row_kept hA hc
  have hB := row_kept hB hc
  have hbb := hbb.trans (hc.mono hbb.size)
  obtain ⟨x0, x1, x2, x3, x4⟩ := row5 hA
  have hf := fun o => frozen_of_row w1 w.heap.size o _ _ hA
  have hi0 := setCell_id (o := 0) (v := .string key) hA rfl
  clear C1 hc
  go_wp2_with fail
  refine (C2.out _).mono ?_
  rintro e w2 ⟨rfl, hc⟩
  have hA := row_kept hA hc
  have hB := row_kept hB hc
  have hbb := hbb.trans (hc.mono hbb.size)
  clear x0 x1 x2 x3 x4 hf hi0 C2
  obtain ⟨x0, x1, x2, x3, x4⟩ := row5 hA
  have HI := Go.Lib.hid (setCells_id [.int .i64 k, .int .i64 n, .string s] (o := 2) hA (by intro j v hj; match j, hj with | 0, hj => exact hj | 1, hj => exact hj | 2, hj => exact hj | j + 3, hj => simp at hj))
  have HT := Go.Lib.hid (show w2.there w.heap.size 2 (#[.int .i64 k, .int .i64 n, .string s] : Array Value).size from there_row w2 w.heap.size _ _ hA 2 3 (by simp))
  have HB := Go.Lib.hid hB
  clear hB hA
  go_wp2_with (first
    | (with_reducible show wpList _ _ _ (⟨none, Op.store 31 (.tmp 10) (.tmp 9), _, _, _, _⟩ :: _) _ _; go_loud (refine wpList_store_mid rfl 31 (.tmp 10) (.tmp 9) rfl w.heap.size 2 #[.int .i64 k, .int .i64 n, .string s] rfl rfl HT.out (by kernel_rfl) (raw_cells_one ..) ?_); rw [HI.out])
    | (with_reducible show wpList _ _ _ (⟨none, Op.store 33 (.tmp 2) (.tmp 11), _, _, _, _⟩ :: _) _ _; go_loud (refine wpList_store_row rfl 33 (.tmp 2) (.tmp 11) rfl (w.heap.size + 1) #[.string key, .bool gone, .int .i64 k, .int .i64 n, .string s] rfl rfl 33 _ HB.out (by kernel_rfl) rfl (rec_cells_one ..) ?_))
    | fail)
  exact ret_frec_at rfl (setRow_heap _ _ _ _ _ (0, 0) HB.out) (setRow_below _ hbb (by omega))

end Go.Proofs.YtkddleonmkhaiaaGreat

namespace Go.Proofs.YtkddleonmkhaiaaGreat
open Go.RowKit

def K5 : Lay RecT := ⟨rc5, 5, 33, 22, .agg #[.string ⟨#[]⟩, .bool false, .int .i64 0, .int .i64 0, .string ⟨#[]⟩], 56⟩
theorem K5_ok : K5.Ok Tryz.prog := ⟨by decide, fun _ => rfl, fun x u hu => by
  have hu : u ∈ rc5 x := hu
  simp only [rc5, List.mem_cons, List.not_mem_nil, or_false] at hu
  rcases hu with rfl | rfl | rfl | rfl | rfl <;> rfl, Tryz.underlying22, info5, rfl, by decide⟩
theorem own5 {w : World} {B : Nat} {v : Value} {L : List RecT} : OwnRec w B v L = K5.O w B v L := rfl

end Go.Proofs.YtkddleonmkhaiaaGreat
