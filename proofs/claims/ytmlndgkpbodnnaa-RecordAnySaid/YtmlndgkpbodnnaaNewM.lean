/-
  Records: the newest ones, by rising keys (mathematics).
-/
import Derived.Test.YtmlndgkpbodnnaaSetR
namespace Go.Proofs.Ytmlndgkpbodnnaa
open Go.RowKit Go.Op

abbrev newestR (l : List RecT) : List RecT := newestK keyR bytesLess l
theorem newestR_len (l : List RecT) : (newestR l).length ≤ l.length := by
  have : ∀ (l acc : List RecT), (l.foldl (fun a r => setGo keyR bytesLess r a false) acc).length ≤ acc.length + l.length := by
    intro l
    induction l with
    | nil => intro acc; simp
    | cons x t ih =>
      intro acc
      rw [List.foldl_cons]
      refine Nat.le_trans (ih _) ?_
      have := (setR_len x acc false).1
      simp only [List.length_cons]
      omega
  simpa [newestR, newestK] using this l []
theorem newestR_step (l : List RecT) (k : Nat) (h : k < l.length) : setR (newestR (l.take k)) l[k] = newestR (l.take (k + 1)) := by
  rw [List.take_succ_eq_append_getElem h]
  unfold newestR newestK
  rw [List.foldl_append]
  rfl

end Go.Proofs.Ytmlndgkpbodnnaa
