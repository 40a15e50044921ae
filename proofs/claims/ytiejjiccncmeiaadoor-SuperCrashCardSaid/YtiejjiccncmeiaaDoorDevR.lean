/-
  The contract of dev's Read.
-/
import Derived.Test.YtiejjiccncmeiaaDoorDevN
import Derived.Test.YtiejjiccncmeiaaDoorBClone
namespace Go.Proofs.YtiejjiccncmeiaaDoor
open Go.RowKit

set_option maxRecDepth 100000 in
theorem dread_nil (i : Int) (w : World) : Calls Tryd.prog 19 #[.pointer none, .int .i64 i] w fun e w' => e = .returned (.tuple #[.slice none 0 0, .int .i64 7]) ∧ w = w' := by
  go_enter Tryd.func19, Tryd.ntmps19
  go_wp2_with fail
  go_ret2
  exact ⟨rfl, rfl⟩
/-- What a sector holds reads as its bytes. -/
theorem rb_sector {w : World} {g n i : Nat} {S : Nat → Sec} (h : SR w g n S) (hi : i < n) : RB w (.slice (some ⟨g, i * 129, none⟩) 64 64) (S i).now := by
  have hl := (h.whole i hi).1
  refine ⟨some ⟨g, i * 129, none⟩, 64, by rw [hl], by omega, by simp [maxLen], (fun h => by cases h), fun _ => ⟨g, i * 129, rfl, fun j hj => (h.sec i hi).now j _ (cells_at _ j hj)⟩⟩

section
variable {w : World} {B d g n : Nat} {S : Nat → Sec} {L : Life}
set_option maxRecDepth 100000
theorem dread_out (h : DV w B d g n S L) (i : Int) (hi : i < 0 ∨ (n : Int) ≤ i) : Calls Tryd.prog 19 #[.pointer (some ⟨d, 0, none⟩), .int .i64 i] w fun e w' => e = .returned (.tuple #[.slice none 0 0, .int .i64 3]) ∧ w = w' := by
  have C := Go.Lib.hid (dhas_c h i)
  rw [show (decide (0 ≤ i) && decide (i < (n : Int))) = false from by rcases hi with hi | hi <;> simp <;> omega] at C
  clear h
  go_enter Tryd.func19, Tryd.ntmps19
  go_wp2_with fail
  refine C.out.mono ?_
  rintro e w1 ⟨rfl, rfl⟩
  go_wp2_with fail
  go_ret2
  exact ⟨rfl, rfl⟩
theorem dread_c (h : DV w B d g n S L) (i : Nat) (hi : i < n) : Calls Tryd.prog 19 #[.pointer (some ⟨d, 0, none⟩), .int .i64 (i : Int)] w fun e w' => ∃ v, e = .returned (.tuple #[v, .int .i64 0]) ∧ Own 5 w' w.heap.size v (S i).now ∧ Below w.heap.size w w' := by
  have C := Go.Lib.hid (dhas_c h i)
  rw [show (decide (0 ≤ (i : Int)) && decide ((i : Int) < (n : Int))) = true from by simp; omega] at C
  have c0 := h.c0
  have hl := (h.row.whole i hi).1
  have CC := Go.Lib.hid (bclone_c _ _ w (rb_sector h.row hi) (by omega))
  have hiI : (i : Int) < (n : Int) := by omega
  clear h hl
  go_enter Tryd.func19, Tryd.ntmps19
  go_wp2_with fail
  refine C.out.mono ?_
  rintro e w1 ⟨rfl, rfl⟩
  go_wp2_with fail
  refine CC.out.mono ?_
  rintro e w1 ⟨v, rfl, ho, hb⟩
  go_wp2_with fail
  go_ret2
  exact ⟨v, rfl, ho, hb⟩
end

end Go.Proofs.YtiejjiccncmeiaaDoor
