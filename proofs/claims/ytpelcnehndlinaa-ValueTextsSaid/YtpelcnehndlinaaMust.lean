/-
  The laws' must: a panic that is recovered.
-/
import Derived.Test.YtpelcnehndlinaaRaw
import Derived.Defers
import Derived.Recover
import Derived.Laws.Pointers
namespace Go.Proofs.Ytpelcnehndlinaa
open Go.RowKit

theorem catch_c (p q : Addr) (x : Int) (y : Bool) (u : TypeId) (pv : Value) (older : List PanicEntry) (w : World) (hc : w.cell? p = some (.int .i64 x)) (hz : w.frozen? p = false)
    (hd : (w.setCell p (.int .i64 0)).cell? q = some (.bool y)) (hy : (w.setCell p (.int .i64 0)).frozen? q = false) :
    CallsD Try.prog 32 #[.pointer (some p), .pointer (some q)] (.panicking ({ v := .iface u pv, recovered := false } :: older)) w fun e u' w' =>
      e = .returned (.tuple #[]) ∧ u' = .panicking ({ v := .iface u pv, recovered := true } :: older) ∧ w' = (w.setCell p (.int .i64 0)).setCell q (.bool false) := by
  refine callsD_of_wpS Try.func32 rfl fun c₀ cs hu => ?_
  apply wpS_seq
  apply wpS_region
  simp [wpOpsS, go_sem, recoverD, hu, Try.ntmps32, Exit.thenS]
  refine wpS_cond (t := true) (by simp [Act.eval, Array.replicate]) ?_
  simp only [if_true]
  apply wpS_region
  simp [wpOpsS, go_sem, hc, hz, hd, hy, bodyPostS, results, Try.results32]

theorem idle_c (p q : Addr) (w : World) :
    CallsD Try.prog 32 #[.pointer (some p), .pointer (some q)] .returning w fun e u' w' => e = .returned (.tuple #[]) ∧ u' = .returning ∧ w' = w := by
  refine callsD_of_wpS Try.func32 rfl fun c₀ cs hu => ?_
  apply wpS_seq
  apply wpS_region
  simp [wpOpsS, go_sem, recoverD, hu, Try.ntmps32, Exit.thenS]
  refine wpS_cond (t := false) (by simp [Act.eval, Array.replicate]) ?_
  simp only [Bool.false_eq_true, if_false]
  refine wpS_of_wp (wp_skip ?_)
  cases c₀
  simp_all [bodyPostS, results, Try.results32]

/-- Two cells of their own behind a box, whatever was made later. -/
theorem two_own (w : World) (x0 : Value) (e1 e2 e3 : TypeId) (w1 : World) (hb : Below (((w.alloc (.cells #[x0] e1)).alloc (.cells #[.int .i64 0] e2)).alloc (.cells #[.bool false] e3)).heap.size (((w.alloc (.cells #[x0] e1)).alloc (.cells #[.int .i64 0] e2)).alloc (.cells #[.bool false] e3)) w1) :
    w1.heap[w.heap.size + 1]? = some (.cells #[.int .i64 0] e2) ∧ w1.heap[w.heap.size + 1 + 1]? = some (.cells #[.bool false] e3) ∧ Below w.heap.size w w1 := by
  have hs : (w.alloc (.cells #[x0] e1)).heap.size = w.heap.size + 1 := Array.size_push ..
  have hs2 : ((w.alloc (.cells #[x0] e1)).alloc (.cells #[.int .i64 0] e2)).heap.size = w.heap.size + 1 + 1 := (Array.size_push ..).trans (congrArg (· + 1) hs)
  have g2 := heap_alloc_new ((w.alloc (.cells #[x0] e1)).alloc (.cells #[.int .i64 0] e2)) (.cells #[.bool false] e3)
  have g1 : (((w.alloc (.cells #[x0] e1)).alloc (.cells #[.int .i64 0] e2)).alloc (.cells #[.bool false] e3)).heap[w.heap.size + 1]? = some (.cells #[.int .i64 0] e2) := by
    have h := heap_alloc_new (w.alloc (.cells #[x0] e1)) (.cells #[.int .i64 0] e2)
    rw [hs] at h
    rw [_root_.Go.heap_alloc_old _ _ (Array.getElem?_eq_some_iff.1 h).1]
    exact h
  rw [hs2] at g2
  refine ⟨(hb.block _ (Array.getElem?_eq_some_iff.1 g1).1).trans g1, (hb.block _ (Array.getElem?_eq_some_iff.1 g2).1).trans g2, ?_⟩
  have b3 : Below w.heap.size w (((w.alloc (.cells #[x0] e1)).alloc (.cells #[.int .i64 0] e2)).alloc (.cells #[.bool false] e3)) := (((Below.refl _ w).alloc (Nat.le_refl _) _).alloc (by rw [hs]; omega) _).alloc (by rw [hs2]; omega) _
  exact b3.trans (hb.mono b3.size)

set_option maxRecDepth 100000 in
theorem must_some (x0 : Value) (n : Int) (w : World) (hC : ∀ W, Calls Try.prog 29 #[.agg #[x0]] W fun e w' => e = .returned (.int .i64 n) ∧ Below W.heap.size W w') :
    Calls Try.prog 14 #[.agg #[x0]] w fun e w' => e = .returned (.tuple #[.int .i64 n, .bool true]) ∧ Below w.heap.size w w' := by
  have hmf : ∀ (fn : Fn) (first cap : Array Value) (w : World), (Instr.makeFunc fn first cap).run Try.prog w = .ok (.func fn first cap) w := fun _ _ _ _ => rfl
  have HC := Go.Lib.hid hC; clear hC
  go_enter_defers Try.func14, Try.ntmps14
  go_wp2_with fail
  refine (HC.out _).mono ?_
  rintro e w1 ⟨rfl, hb1⟩
  obtain ⟨g1, g2, hbb⟩ := two_own _ _ _ _ _ _ hb1
  have c1 := cell_of_row w1 (w.heap.size + 1) 0 _ _ _ g1
  have c2 := cell_of_row w1 (w.heap.size + 1 + 1) 0 _ _ _ g2
  have z1 := frozen_of_row w1 (w.heap.size + 1) 0 _ _ g1
  have z2 := frozen_of_row w1 (w.heap.size + 1 + 1) 0 _ _ g2
  simp only [List.getElem?_toArray, List.getElem?_cons_zero] at c1 c2
  clear hb1 HC g1 g2
  have hbs := hbb.size
  go_wp2_with fail
  have r1 : ((w1.setCell ⟨w.heap.size + 1, 0, none⟩ (.int .i64 n)).setCell ⟨w.heap.size + 1 + 1, 0, none⟩ (.bool true)).cell? ⟨w.heap.size + 1, 0, none⟩ = some (.int .i64 n) := by
    rw [World.cell?_setCell_other _ _ _ _ (by simp)]
    exact World.cell?_setCell_same _ _ _ c1
  have r2 : ((w1.setCell ⟨w.heap.size + 1, 0, none⟩ (.int .i64 n)).setCell ⟨w.heap.size + 1 + 1, 0, none⟩ (.bool true)).cell? ⟨w.heap.size + 1 + 1, 0, none⟩ = some (.bool true) := by
    refine World.cell?_setCell_same' _ _ _ ?_
    rw [World.cell?_setCell_other _ _ _ _ (by simp), c2]
    rfl
  have hbf : Below w.heap.size w ((w1.setCell ⟨w.heap.size + 1, 0, none⟩ (.int .i64 n)).setCell ⟨w.heap.size + 1 + 1, 0, none⟩ (.bool true)) := (hbb.setCell (p := ⟨w.heap.size + 1, 0, none⟩) (by show w.heap.size ≤ w.heap.size + 1; omega) _).setCell (p := ⟨w.heap.size + 1 + 1, 0, none⟩) (by show w.heap.size ≤ w.heap.size + 1 + 1; omega) _
  refine leaves_cons (f := 32) (args := #[.pointer (some ⟨w.heap.size + 1, 0, none⟩), .pointer (some ⟨w.heap.size + 1 + 1, 0, none⟩)]) (by simp) (by simp [go_sem]) ?_
  refine (idle_c ⟨w.heap.size + 1, 0, none⟩ ⟨w.heap.size + 1 + 1, 0, none⟩ _).mono ?_
  rintro e u' w'' ⟨rfl, rfl, rfl⟩
  clear c1 c2 z1 z2 hmf
  simp [Leaves, settle, results, Try.results14, go_sem, r1, r2]
  exact hbf

set_option maxRecDepth 100000 in
theorem must_none (x0 : Value) (w : World) (hC : ∀ W, Calls Try.prog 29 #[.agg #[x0]] W fun e w' => (∃ u pv, e = .panicked [{ v := .iface u pv, recovered := false }]) ∧ Below W.heap.size W w') :
    Calls Try.prog 14 #[.agg #[x0]] w fun e w' => e = .returned (.tuple #[.int .i64 0, .bool false]) ∧ Below w.heap.size w w' := by
  have hmf : ∀ (fn : Fn) (first cap : Array Value) (w : World), (Instr.makeFunc fn first cap).run Try.prog w = .ok (.func fn first cap) w := fun _ _ _ _ => rfl
  have HC := Go.Lib.hid hC; clear hC
  go_enter_defers Try.func14, Try.ntmps14
  go_wp2_with fail
  refine (HC.out _).mono ?_
  rintro e w1 ⟨⟨u, pv, rfl⟩, hb1⟩
  obtain ⟨g1, g2, hbb⟩ := two_own _ _ _ _ _ _ hb1
  have c1 := cell_of_row w1 (w.heap.size + 1) 0 _ _ _ g1
  have c2 := cell_of_row w1 (w.heap.size + 1 + 1) 0 _ _ _ g2
  have z1 := frozen_of_row w1 (w.heap.size + 1) 0 _ _ g1
  have z2 := frozen_of_row w1 (w.heap.size + 1 + 1) 0 _ _ g2
  simp only [List.getElem?_toArray, List.getElem?_cons_zero] at c1 c2
  clear hb1 HC g1 g2
  have hbs := hbb.size
  go_wp2_with fail
  have r1 : ((w1.setCell ⟨w.heap.size + 1, 0, none⟩ (.int .i64 0)).setCell ⟨w.heap.size + 1 + 1, 0, none⟩ (.bool false)).cell? ⟨w.heap.size + 1, 0, none⟩ = some (.int .i64 0) := by
    rw [World.cell?_setCell_other _ _ _ _ (by simp)]
    exact World.cell?_setCell_same _ _ _ c1
  have d2 : (w1.setCell ⟨w.heap.size + 1, 0, none⟩ (.int .i64 0)).cell? ⟨w.heap.size + 1 + 1, 0, none⟩ = some (.bool false) := by
    rw [World.cell?_setCell_other _ _ _ _ (by simp), c2]
  have r2 : ((w1.setCell ⟨w.heap.size + 1, 0, none⟩ (.int .i64 0)).setCell ⟨w.heap.size + 1 + 1, 0, none⟩ (.bool false)).cell? ⟨w.heap.size + 1 + 1, 0, none⟩ = some (.bool false) := World.cell?_setCell_same _ _ _ d2
  have hbf : Below w.heap.size w ((w1.setCell ⟨w.heap.size + 1, 0, none⟩ (.int .i64 0)).setCell ⟨w.heap.size + 1 + 1, 0, none⟩ (.bool false)) := (hbb.setCell (p := ⟨w.heap.size + 1, 0, none⟩) (by show w.heap.size ≤ w.heap.size + 1; omega) _).setCell (p := ⟨w.heap.size + 1 + 1, 0, none⟩) (by show w.heap.size ≤ w.heap.size + 1 + 1; omega) _
  refine leaves_cons (f := 32) (args := #[.pointer (some ⟨w.heap.size + 1, 0, none⟩), .pointer (some ⟨w.heap.size + 1 + 1, 0, none⟩)]) (by simp) (by simp [go_sem]) ?_
  refine (catch_c ⟨w.heap.size + 1, 0, none⟩ ⟨w.heap.size + 1 + 1, 0, none⟩ 0 false u pv [] w1 c1 z1 d2 ?_).mono ?_
  · simpa [go_sem] using z2
  rintro e u' w'' ⟨rfl, rfl, rfl⟩
  clear c1 c2 z1 z2 hmf
  simp [Leaves, settle, results, Try.results14, go_sem, r1, r2]
  exact hbf

end Go.Proofs.Ytpelcnehndlinaa
