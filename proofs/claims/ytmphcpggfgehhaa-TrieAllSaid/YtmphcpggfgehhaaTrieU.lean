/-
  A whole tree: its places, that it is one.
-/
import Derived.Test.YtmphcpggfgehhaaTrieP
namespace Go.Proofs.Ytmphcpggfgehhaa
open Go.RowKit

theorem rank_place {l : List Nat} (h : RiseK 64 l) (hl : l.length < 18446744073709551615) (i : Nat) (hi : i < l.length) : rankB (treeL 64 l) l[i] 64 0 l.length 0 = some i := by
  have := rank_tree 64 l [] [] 0 i hi h hl
  rw [List.append_nil, List.nil_append, Nat.zero_add] at this
  exact this
theorem check_tree {l : List Nat} (h : RiseK 64 l) (hl : l.length < 18446744073709551615) : checkB (treeL 64 l) l.length = true := by
  have := skip_tree 64 l [] [] h hl
  rw [List.append_nil, List.nil_append] at this
  unfold checkB
  rw [show (0 : Nat) = ([] : List Bool).length from rfl, this]
  simp
def checkO (o : Option Nat) (m : Nat) : Bool := match o with
  | some e => decide (e = m)
  | none => false
theorem checkB_eq {l : List Bool} {n : Nat} {o : Option Nat} (h : o = skipB l 64 0 n) : checkB l n = checkO o l.length := by subst h; rfl
theorem rank_lt0 {b : List Bool} {h n p : Nat} (e : rankB b h 64 0 n 0 = some p) : p < n := by
  have := rank_lt b h 64 0 n 0 p e
  omega

end Go.Proofs.Ytmphcpggfgehhaa
