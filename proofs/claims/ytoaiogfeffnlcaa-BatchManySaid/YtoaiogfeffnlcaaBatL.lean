/-
  What the laws of stage 16 ask beside: records that were cut, contracts with their answers said.
-/
import Derived.Test.YtoaiogfeffnlcaaBegun16
import Derived.Test.YtoaiogfeffnlcaaRecsL
import Derived.Test.YtoaiogfeffnlcaaEqRecs
namespace Go.Proofs.Ytoaiogfeffnlcaa
open Go.RowKit

theorem ok_cutR {x : RecT} (h : RecOk x) : RecOk (cutR x) := by
  obtain ⟨-, h2, h3, -⟩ := h
  refine ⟨?_, h2, h3, ?_⟩
  · show (str _).size ≤ maxLen
    rw [str_size]
    have := List.length_take_le 20 (bl x.1)
    unfold maxLen; omega
  · show (str _).size ≤ maxLen
    rw [str_size]
    have := List.length_take_le 30 (bl x.2.2.2.2)
    unfold maxLen; omega
theorem ok_cut {l : List RecT} (h : ∀ x ∈ l, RecOk x) (n : Nat) : ∀ x ∈ (l.take n).map cutR, RecOk x := by
  intro x hx
  obtain ⟨y, hy, rfl⟩ := List.mem_map.1 hx
  exact ok_cutR (h y (List.mem_of_mem_take hy))
theorem cut_len (l : List RecT) (n : Nat) : ((l.take n).map cutR).length ≤ n := by rw [List.length_map]; exact List.length_take_le _ _
theorem rmayall_ok {v : Value} {l : List RecT} {w : World} (hv : RS w v l) (hok : ∀ x ∈ l, RecOk x) {t : Bool} (ht : mayRow l = t) :
    Calls Try.prog 11 #[v] w fun e w' => e = .returned (.bool t) ∧ Below w.heap.size w w' := by
  subst ht; exact rmayall_c v l w hv hok
theorem rrow_ok {v : Value} {l : List RecT} {w : World} (hv : RS w v l) (hok : ∀ x ∈ l, RecOk x) {b : List UInt8} (hb : rowE l = b) :
    Calls Try.prog 12 #[v] w fun e w' => ∃ v', e = .returned v' ∧ Own 5 w' w.heap.size v' b ∧ Below w.heap.size w w' := by
  subst hb; exact rrow_c v l w hv hok
theorem reqrecs_ok {u v : Value} {l m : List RecT} {w : World} (hu : RS w u l) (hv : RS w v m) {t : Bool} (ht : decide (l = m) = t) :
    Calls Try.prog 14 #[u, v] w fun e w' => e = .returned (.bool t) ∧ Below w.heap.size w w' := by
  subst ht; exact reqrecs_c u v l m w hu hv
/-- Two rows have one text just if they are the same. -/
theorem rows_one {l m : List RecT} (h : mayRow l = true) (hok : ∀ x ∈ l, RecOk x) (g : mayRow m = true) (gok : ∀ x ∈ m, RecOk x) :
    ((str (rowE m)).toList == (str (rowE l)).toList) = decide (l = m) := by
  rw [rowE_of h, rowE_of g]
  by_cases he : l = m
  · subst he; simp
  · rw [decide_eq_false he, beq_eq_false_iff_ne, ne_eq, ByteArray.toList_eq, ByteArray.toList_eq]
    intro e
    have : rowB m = rowB l := by simpa [str] using e
    exact he (rowB_inj h hok g gok this.symm)

end Go.Proofs.Ytoaiogfeffnlcaa
