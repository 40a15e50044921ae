/-
  Records that were cut; the reference's May of one.
-/
import Derived.Test.YtmlndgkpbodnnaaRecCut
import Derived.Test.YtmlndgkpbodnnaaMayT
namespace Go.Proofs.Ytmlndgkpbodnnaa
open Go.RowKit

def cutR (x : RecT) : RecT := (str ((bl x.1).take 20), x.2.1, x.2.2.1, x.2.2.2.1, str ((bl x.2.2.2.2).take 30))

theorem cut_sizes {l : List RecT} {n : Nat} {x : RecT} (h : x ∈ (l.take n).map cutR) : x.1.size ≤ 20 ∧ x.2.2.2.2.size ≤ 30 := by
  obtain ⟨y, -, rfl⟩ := List.mem_map.1 h
  unfold cutR
  simp only []
  rw [str_size, str_size, List.length_take, List.length_take]
  omega
/-- The reference's May of a record as one letter. -/
theorem rmayT_c (kx : ByteArray) (gx : Bool) (ax nx : Int) (sx : ByteArray) (w : World) (h1 : kx.size ≤ 20) (h2 : sx.size ≤ 30) :
    Calls Try.prog 11 #[.agg #[.string kx, .bool gx, .int .i64 ax, .int .i64 nx, .string sx]] w fun e w' => e = .returned (.bool (mayT (kx, gx, ax, nx, sx))) ∧ Below w.heap.size w w' :=
  rmayrec_c kx gx ax nx sx w (by unfold maxLen; omega) (by unfold maxLen; omega)
end Go.Proofs.Ytmlndgkpbodnnaa
