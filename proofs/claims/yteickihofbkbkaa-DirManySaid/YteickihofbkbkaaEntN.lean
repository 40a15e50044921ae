/-
  Mathematics of DirMany: as many entries as one likes, by rising names.
-/
import Derived.Test.YteickihofbkbkaaEntM
namespace Go.Proofs.Yteickihofbkbkaa
open Go.Op

def nmM (i : Nat) : List UInt8 := [102, UInt8.ofNat (48 + i / 10), UInt8.ofNat (48 + i % 10)]
def entN (size : Int) (i : Nat) : EntT := (str (nmM i), size, if size = 0 then 0 else ((i + 1 : Nat) : Int), (size + 63) / 64)
def lM (size : Int) (n : Nat) : List EntT := (List.range n).map (entN size)
theorem lM_len (size : Int) (n : Nat) : (lM size n).length = n := by simp [lM]
theorem lM_succ (size : Int) (n : Nat) : lM size (n + 1) = lM size n ++ [entN size n] := by simp [lM, List.range_succ]
theorem lM_at (size : Int) (n i : Nat) (h : i < (lM size n).length) : (lM size n)[i] = entN size i := by simp [lM]
theorem nm_rise : ∀ i : Fin 39, bytesLess (nmM i.val) (nmM (i.val + 1)) = true := by decide +kernel
theorem entN_may {size : Int} (h0 : 0 ≤ size) (h1 : size ≤ 65536) {i : Nat} (hi : i < 40) : mayE (entN size i) := by
  have hs : (str (nmM i)).size = 3 := str_size _
  unfold mayE entN
  simp only [hs]
  by_cases hz : size = 0
  · subst hz; simp
  · simp only [if_neg hz]
    refine ⟨by omega, by omega, h0, h1, trivial, by omega, by omega, fun h => by omega⟩
theorem lM_may {size : Int} (h0 : 0 ≤ size) (h1 : size ≤ 65536) {n : Nat} (hn : n ≤ 32) : MayL (lM size n) := by
  refine ⟨by rw [lM_len]; exact hn, fun i hi => ⟨hi, ?_, fun hp => ?_⟩⟩
  · rw [lM_at]
    exact entN_may h0 h1 (by rw [lM_len] at hi; omega)
  · rw [lM_at, lM_at]
    rw [lM_len] at hi
    have h := nm_rise ⟨i - 1, by omega⟩
    simp only [show i - 1 + 1 = i by omega] at h
    unfold ltE entN
    simp only [ByteArray.toList_eq]
    simpa [str] using h
theorem lM_find {size : Int} (h0 : 0 ≤ size) (h1 : size ≤ 65536) {n : Nat} (hn : n ≤ 32) {i : Nat} (hi : i < n) : findE (lM size n) (str (nmM i)) = (i : Int) := by
  have hl : i < (lM size n).length := by rw [lM_len]; exact hi
  have := findE_of (lM_may h0 h1 hn) hl
  rw [lM_at] at this
  exact this
theorem lM_none (size : Int) (n : Nat) : findE (lM size n) ⟨#[102]⟩ = -1 := findE_none fun j hj => by
  rw [lM_at]
  intro e
  have h1 : (str (nmM j)).size = 3 := str_size _
  have h2 : (str (nmM j)) = ⟨#[102]⟩ := e
  rw [h2] at h1
  cases h1

end Go.Proofs.Yteickihofbkbkaa
