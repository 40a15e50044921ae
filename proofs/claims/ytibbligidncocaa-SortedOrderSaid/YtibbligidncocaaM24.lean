/-
  Package record: contract of fresh.
  Package fresh: contract of Raw: a value with a text of its own.
  Package fresh: contract of Pair: a pair with texts of its own.
-/
import Derived.Test.YtibbligidncocaaM23
namespace Go.Proofs.Ytibbligidncocaa
open Go.RowKit Go.Op

/-- Storing what stands there already leaves the world as it is. -/
theorem setCell_id {w : World} {b o : Nat} {cs : Array Value} {t : TypeId} {fr : Nat × Nat} {v : Value} (hg : w.heap[b]? = some (.cells cs t fr)) (hv : cs[o]? = some v) : w.setCell ⟨b, o, none⟩ v = w := by
  obtain ⟨hb, hg⟩ := Array.getElem?_eq_some_iff.1 hg
  obtain ⟨ho, hv⟩ := Array.getElem?_eq_some_iff.1 hv
  have hset : cs.setIfInBounds o v = cs := by
    rw [← hv]
    apply Array.ext
    · simp
    · intro i h1 h2
      rw [Array.getElem_setIfInBounds]
      split
      · rename_i h; subst h; rfl
      · rfl
  have : (w.setCell ⟨b, o, none⟩ v).heap = w.heap := by
    unfold World.setCell
    apply Array.ext
    · simp
    · intro i h1 h2
      simp only [Array.getElem_modify]
      by_cases hi : b = i
      · subst hi
        rw [if_pos rfl, hg]
        simp [hset]
      · rw [if_neg hi]
  have e : w.setCell ⟨b, o, none⟩ v = { w with heap := (w.setCell ⟨b, o, none⟩ v).heap } := rfl
  rw [e, this]

end Go.Proofs.Ytibbligidncocaa

namespace Go.Proofs.Ytibbligidncocaa
open Go.RowKit Go.Op

theorem raw3 {w : World} {b : Nat} {a0 a1 a2 : Value} {t : TypeId} {fr : Nat × Nat} (h : w.heap[b]? = some (.cells #[a0, a1, a2] t fr)) : w.cell? ⟨b, 0, none⟩ = some a0 ∧ w.cell? ⟨b, 1, none⟩ = some a1 ∧ w.cell? ⟨b, 2, none⟩ = some a2 := by
  have c := fun j => cell_of_row w b j _ _ _ h
  exact ⟨c 0, c 1, c 2⟩
/-- Storing cells that stand there already leaves the world as it is. -/
theorem setCells_id : ∀ (vs : List Value) {w : World} {b o : Nat} {cs : Array Value} {t : TypeId} {fr : Nat × Nat}, w.heap[b]? = some (.cells cs t fr) → (∀ j v, vs[j]? = some v → cs[o + j]? = some v) → w.setCells b o vs = w
  | [], w, b, o, cs, t, fr, _, _ => rfl
  | v :: r, w, b, o, cs, t, fr, hg, hv => by
    have h0 := setCell_id (o := o) (v := v) hg (hv 0 v rfl)
    show (w.setCell ⟨b, o, none⟩ v).setCells b (o + 1) r = w
    rw [h0]
    exact setCells_id r hg fun j u hj => by have := hv (j + 1) u hj; rwa [show o + (j + 1) = o + 1 + j by omega] at this

theorem ret_fraw_at {w w0 : World} {tmps : Array Value} {k n : Int} {s : ByteArray} {g : Nat} {fr : Nat × Nat}
    (hp : tmps.getD 2 undef = .pointer (some ⟨g, 0, none⟩)) (hg : w.heap[g]? = some (.cells #[.int .i64 k, .int .i64 n, .string s] 37 fr)) (hb : Below w0.heap.size w0 w) :
    bodyPost Try.prog Try.f50 (fun e w' => e = .returned (.agg #[.int .i64 k, .int .i64 n, .string s]) ∧ Below w0.heap.size w0 w') Exit.ret { tmps := tmps, defers := [] } w :=
  bodyPost_ret (results_cell_row (P := Try.prog) (fn := Try.f50) (p := 2) (ty := 37) rfl tmps w g 37 #[.int .i64 k, .int .i64 n, .string s] fr _ hp hg Try.underlying37 rfl (by kernel_rfl)) rfl ⟨rfl, hb⟩

set_option maxRecDepth 100000 in
theorem fraw_c (k n : Int) (s : ByteArray) (w : World) (hs : s.size ≤ 1000000) :
    Calls Try.prog 50 #[.agg #[.int .i64 k, .int .i64 n, .string s]] w fun e w' => e = .returned (.agg #[.int .i64 k, .int .i64 n, .string s]) ∧ Below w.heap.size w w' := by
  have C1 := Go.Lib.hid fun W => clone_c s W (by omega)
  clear hs
  have hbb := below_two w (.cells #[.int .i64 k, .int .i64 n, .string s] 37) (.cells #[.int .i64 0, .int .i64 0, .string ⟨#[]⟩] 37)
  have hA := two_first w (.cells #[.int .i64 k, .int .i64 n, .string s] 37) (.cells #[.int .i64 0, .int .i64 0, .string ⟨#[]⟩] 37)
  have hB := heap_alloc2_new w (.cells #[.int .i64 k, .int .i64 n, .string s] 37) (.cells #[.int .i64 0, .int .i64 0, .string ⟨#[]⟩] 37)
  go_enter Try.func50, Try.ntmps50
  go_wp2_with fail
  refine (C1.out _).mono ?_
  rintro e w1 ⟨rfl, hc⟩
  have hA := row_kept hA hc
  have hB := row_kept hB hc
  have hbb := hbb.trans (hc.mono hbb.size)
  obtain ⟨x0, x1, x2⟩ := raw3 hA
  have hf := fun o => frozen_of_row w1 w.heap.size o _ _ hA
  have hi2 := setCell_id (o := 2) (v := .string s) hA rfl
  clear C1 hc
  have HB := Go.Lib.hid hB
  clear hB
  go_wp2_with (first
    | (with_reducible show wpList _ _ _ (⟨none, Op.store 37 (.tmp 2) (.tmp 7), _, _, _, _⟩ :: _) _ _; go_loud (refine wpList_store_row rfl 37 (.tmp 2) (.tmp 7) rfl (w.heap.size + 1) #[.int .i64 k, .int .i64 n, .string s] rfl rfl 37 _ HB.out (by kernel_rfl) rfl (raw_cells_one ..) ?_))
    | fail)
  exact ret_fraw_at rfl (setRow_heap _ _ _ _ _ (0, 0) HB.out) (setRow_below _ hbb (by omega))

end Go.Proofs.Ytibbligidncocaa

namespace Go.Proofs.Ytibbligidncocaa
open Go.RowKit Go.Op

theorem pair4 {w : World} {b : Nat} {a0 a1 a2 a3 : Value} {t : TypeId} {fr : Nat × Nat} (h : w.heap[b]? = some (.cells #[a0, a1, a2, a3] t fr)) :
    w.cell? ⟨b, 0, none⟩ = some a0 ∧ w.cell? ⟨b, 1, none⟩ = some a1 ∧ w.cell? ⟨b, 2, none⟩ = some a2 ∧ w.cell? ⟨b, 3, none⟩ = some a3 := by
  have c := fun j => cell_of_row w b j _ _ _ h
  exact ⟨c 0, c 1, c 2, c 3⟩
theorem pair_cells_one (key : ByteArray) (k n : Int) (s : ByteArray) : (#[.string key, .int .i64 k, .int .i64 n, .string s] : Array Value).all (fun x => x.oneCell') = true := by simp [Value.oneCell']
theorem ret_fpair_at {w w0 : World} {tmps : Array Value} {key : ByteArray} {k n : Int} {s : ByteArray} {g : Nat} {fr : Nat × Nat}
    (hp : tmps.getD 2 undef = .pointer (some ⟨g, 0, none⟩)) (hg : w.heap[g]? = some (.cells #[.string key, .int .i64 k, .int .i64 n, .string s] 42 fr)) (hb : Below w0.heap.size w0 w) :
    bodyPost Try.prog Try.f35 (fun e w' => e = .returned (.agg #[.string key, .int .i64 k, .int .i64 n, .string s]) ∧ Below w0.heap.size w0 w') Exit.ret { tmps := tmps, defers := [] } w :=
  bodyPost_ret (results_cell_row (P := Try.prog) (fn := Try.f35) (p := 2) (ty := 42) rfl tmps w g 42 #[.string key, .int .i64 k, .int .i64 n, .string s] fr _ hp hg Try.underlying42 rfl (by kernel_rfl)) rfl ⟨rfl, hb⟩

set_option maxRecDepth 100000 in
theorem fpair_c (key : ByteArray) (k n : Int) (s : ByteArray) (w : World) (hk : key.size ≤ 1000000) (hs : s.size ≤ 1000000) :
    Calls Try.prog 35 #[.agg #[.string key, .int .i64 k, .int .i64 n, .string s]] w fun e w' => e = .returned (.agg #[.string key, .int .i64 k, .int .i64 n, .string s]) ∧ Below w.heap.size w w' := by
  have C1 := Go.Lib.hid fun W => clone_c key W (by omega)
  have C2 := Go.Lib.hid fun W => fraw_c k n s W hs
  clear hk hs
  have hbb := below_two w (.cells #[.string key, .int .i64 k, .int .i64 n, .string s] 42) (.cells #[.string ⟨#[]⟩, .int .i64 0, .int .i64 0, .string ⟨#[]⟩] 42)
  have hA := two_first w (.cells #[.string key, .int .i64 k, .int .i64 n, .string s] 42) (.cells #[.string ⟨#[]⟩, .int .i64 0, .int .i64 0, .string ⟨#[]⟩] 42)
  have hB := heap_alloc2_new w (.cells #[.string key, .int .i64 k, .int .i64 n, .string s] 42) (.cells #[.string ⟨#[]⟩, .int .i64 0, .int .i64 0, .string ⟨#[]⟩] 42)
  go_enter Try.func35, Try.ntmps35
  go_wp2_with fail
  refine (C1.out _).mono ?_
  rintro e w1 ⟨rfl, hc⟩
  have hA := row_kept hA hc
  have hB := row_kept hB hc
  have hbb := hbb.trans (hc.mono hbb.size)
  obtain ⟨x0, x1, x2, x3⟩ := pair4 hA
  have hf := fun o => frozen_of_row w1 w.heap.size o _ _ hA
  have hi0 := setCell_id (o := 0) (v := .string key) hA rfl
  clear C1 hc
  go_wp2_with fail
  refine (C2.out _).mono ?_
  rintro e w2 ⟨rfl, hc⟩
  have hA := row_kept hA hc
  have hB := row_kept hB hc
  have hbb := hbb.trans (hc.mono hbb.size)
  clear x0 x1 x2 x3 hf hi0 C2
  obtain ⟨x0, x1, x2, x3⟩ := pair4 hA
  have HI := Go.Lib.hid (setCells_id [.int .i64 k, .int .i64 n, .string s] (o := 1) hA (by intro j v hj; match j, hj with | 0, hj => exact hj | 1, hj => exact hj | 2, hj => exact hj | j + 3, hj => simp at hj))
  have HT := Go.Lib.hid (show w2.there w.heap.size 1 (#[.int .i64 k, .int .i64 n, .string s] : Array Value).size from there_row w2 w.heap.size _ _ hA 1 3 (by simp))
  have HB := Go.Lib.hid hB
  clear hB hA
  go_wp2_with (first
    | (with_reducible show wpList _ _ _ (⟨none, Op.store 37 (.tmp 10) (.tmp 9), _, _, _, _⟩ :: _) _ _; go_loud (refine wpList_store_mid rfl 37 (.tmp 10) (.tmp 9) rfl w.heap.size 1 #[.int .i64 k, .int .i64 n, .string s] rfl rfl HT.out (by kernel_rfl) (raw_cells_one ..) ?_); rw [HI.out])
    | (with_reducible show wpList _ _ _ (⟨none, Op.store 42 (.tmp 2) (.tmp 11), _, _, _, _⟩ :: _) _ _; go_loud (refine wpList_store_row rfl 42 (.tmp 2) (.tmp 11) rfl (w.heap.size + 1) #[.string key, .int .i64 k, .int .i64 n, .string s] rfl rfl 42 _ HB.out (by kernel_rfl) rfl (pair_cells_one ..) ?_))
    | fail)
  exact ret_fpair_at rfl (setRow_heap _ _ _ _ _ (0, 0) HB.out) (setRow_below _ hbb (by omega))

end Go.Proofs.Ytibbligidncocaa
