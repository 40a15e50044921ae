/-
  The contracts of bits: Bytes; bytes.Clone.
-/
import Derived.Test.YtmphcpggfgehhaaBitF
import Derived.Test.YtmphcpggfgehhaaBitAt
import Derived.Lib.SliceRun
namespace Go.Proofs.Ytmphcpggfgehhaa
open Go.RowKit

theorem own_empty (w : World) (e : TypeId) : Own e (w.alloc (.cells #[] e)) w.heap.size (.slice (some ⟨w.heap.size, 0, none⟩) 0 0) [] :=
  ⟨rfl, .inr ⟨w.heap.size, 0, #[], rfl, Nat.le_refl _, heap_alloc_new w _, Nat.le_refl _, by simp [maxLen], rfl, rfl⟩⟩

set_option maxRecDepth 100000 in
theorem bclone_c (v : Value) (l : List UInt8) (w : World) (h : RB w v l) (hl : l.length ≤ 140737488355328) :
    Calls Try.prog 36 #[v] w fun e w' => ∃ v', e = .returned v' ∧ Own 5 w' w.heap.size v' l ∧ Below w.heap.size w w' := by
  obtain ⟨a, cap, rfl, h1, h2, h3, h4⟩ := id h
  have hq := fun w => Go.Lib.run_eql_slice_nil (P := Try.prog) w 46 5 a l.length cap 0 0 Try.underlying46
  cases a with
  | none =>
    obtain rfl := h3 rfl
    obtain rfl : l = [] := List.eq_nil_of_length_eq_zero (by omega)
    clear h h3 h4 hq
    have hq := fun w => Go.Lib.run_eql_slice_nil (P := Try.prog) w 46 5 none 0 0 0 0 Try.underlying46
    simp only [List.length_nil]
    go_enter Try.func36, Try.ntmps36
    go_wp2_with fail
    go_ret
    exact ⟨_, rfl, Own.nil _ _ _, Below.refl _ _⟩
  | some ad =>
    clear h3 h4 h1 h2
    go_enter Try.func36, Try.ntmps36
    have ho := own_empty w 5
    have hr := h.below ((Below.refl _ w).alloc (Nat.le_refl _) (.cells #[] 5))
    have hsz : w.heap.size ≤ (w.alloc (.cells #[] 5)).heap.size := by simp
    go_wp2_with (first
      | (with_reducible show wpList _ _ _ (⟨some 7, _, _, _, _, _⟩ :: _) _ _; go_must (refine wpList_append_RB rfl (.tmp 5) (.tmp 6) 46 rfl w.heap.size 5 Try.underlying46 info8 (.slice (some ⟨w.heap.size, 0, none⟩) 0 0) (.slice (some ad) l.length cap) [] l rfl rfl ho hr (by simpa using hl) hsz ?_); intro v' w2 ho2 hg2; rw [List.nil_append] at ho2)
      | fail)
    go_ret
    exact ⟨v', rfl, ho2, ((Below.refl _ w).alloc (Nat.le_refl _) _).grown hg2 hsz (fun k hk => by cases hk; exact Nat.le_refl _)⟩

/-- As bytes. -/
theorem bytes_nil (w : World) : Calls Try.prog 22 #[.pointer none] w fun e w' => e = .returned (.slice none 0 0) ∧ w = w' := by
  go_enter Try.func22, Try.ntmps22
  go_wp2_with fail
  go_ret
  exact ⟨rfl, rfl⟩
theorem bytes_c (w : World) (B b : Nat) (v : Value) (p : List UInt8) (n : Nat) (h : BB w B b v p n) (hl : p.length ≤ 140737488355328) :
    Calls Try.prog 22 #[.pointer (some ⟨b, 0, none⟩)] w fun e w' => ∃ v', e = .returned v' ∧ Own 5 w' w.heap.size v' p ∧ Below w.heap.size w w' := by
  have hc0 := h.c0
  have C := Go.Lib.hid (bclone_c v p w h.row.rb hl)
  clear h
  go_enter Try.func22, Try.ntmps22
  go_wp2_with fail
  refine C.out.mono ?_
  rintro e w1 ⟨v', rfl, h1, h2⟩
  go_wp2_with fail
  go_ret
  exact ⟨v', rfl, h1, h2⟩

end Go.Proofs.Ytmphcpggfgehhaa
