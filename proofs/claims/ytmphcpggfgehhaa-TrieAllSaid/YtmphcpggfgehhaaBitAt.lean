/-
  The contract of bits: At.
-/
import Derived.Test.YtmphcpggfgehhaaBitF
namespace Go.Proofs.Ytmphcpggfgehhaa
open Go.RowKit

set_option maxRecDepth 100000 in
theorem at_nil (i : Int) (w : World) : Calls Try.prog 24 #[.pointer none, .int .i64 i] w fun e w' => e = .returned (.bool false) ∧ w = w' := by
  go_enter Try.func24, Try.ntmps24
  go_wp2_with fail
  refine (num_nil _ _ _).mono ?_
  rintro e w1 ⟨rfl, rfl⟩
  go_wp2_with fail
  go_ret
  exact ⟨rfl, rfl⟩
/-- Is bit i set? -/
def atBit (l : List Bool) (i : Int) : Bool := decide (0 ≤ i) && l.getD i.toNat false
set_option maxRecDepth 100000 in
theorem at_c (i : Int) (w : World) (B b : Nat) (v : Value) (l : List Bool) (h : BT w B b v l) (hl : l.length ≤ 562949953421312) :
    Calls Try.prog 24 #[.pointer (some ⟨b, 0, none⟩), .int .i64 i] w fun e w' => e = .returned (.bool (atBit l i)) ∧ Below w.heap.size w w' := by
  by_cases hi : 0 ≤ i ∧ i < l.length
  · obtain ⟨k, rfl⟩ : ∃ k : Nat, i = (k : Int) := ⟨i.toNat, by omega⟩
    have hk : k < l.length := by omega
    have e1 : (l.drop k).take 1 = [l[k]] := by rw [List.drop_eq_getElem_cons hk]; rfl
    have e2 : atBit l (k : Int) = l[k] := by simp [atBit, hk]
    have C := num_c k 1 w B b v l h hl (by omega) (by omega)
    rw [e1] at C
    rw [e2]
    generalize l[k] = t at C
    clear e1 e2 h hi hk
    cases t
    all_goals
      have C := Go.Lib.hid C
      go_enter Try.func24, Try.ntmps24
      go_wp2_with fail
      refine C.out.mono ?_
      rintro e w1 ⟨rfl, h1⟩
      clear C
      go_wp2_with fail
      go_ret
      exact ⟨rfl, h1⟩
  · have e2 : atBit l i = false := by
      unfold atBit
      by_cases h0 : 0 ≤ i
      · rw [List.getD_eq_getElem?_getD, List.getElem?_eq_none (by omega)]; simp
      · simp [h0]
    have C := Go.Lib.hid (num_no i 1 w B b v l h hl (by omega))
    rw [e2]
    clear e2 h hi
    go_enter Try.func24, Try.ntmps24
    go_wp2_with fail
    refine C.out.mono ?_
    rintro e w1 ⟨rfl, rfl⟩
    clear C
    go_wp2_with fail
    go_ret
    exact ⟨rfl, Below.refl _ _⟩

end Go.Proofs.Ytmphcpggfgehhaa
