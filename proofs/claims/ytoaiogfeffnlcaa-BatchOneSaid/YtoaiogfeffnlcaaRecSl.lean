/-
  Slices of records: cut, kept beside a row that is stored.
-/
import Derived.Test.YtoaiogfeffnlcaaRecBox
namespace Go.Proofs.Ytoaiogfeffnlcaa
open Go.RowKit

/-- A piece of what reads as l reads as that piece. -/
theorem RS.cut {w : World} {a : Option Addr} {len cap : Nat} {l : List RecT} (h : RS w (.slice a len cap) l) (i j : Nat) (hij : i ≤ j) (hj : j ≤ l.length) : RS w (sliced a i j cap 5) ((l.take j).drop i) := by
  obtain ⟨a', cap', hv, h1, h2, h3, h4⟩ := h
  cases hv
  have hlen : ((l.take j).drop i).length = j - i := by simp; omega
  unfold sliced
  refine ⟨_, cap - i, by rw [hlen], by rw [hlen]; omega, by omega, ?_, fun hne => ?_⟩
  · intro hn
    by_cases hc : cap = i
    · omega
    · rw [if_neg hc] at hn
      have := h3 (by simpa using hn)
      omega
  · have hji : i < j := by
      rcases Nat.lt_or_ge i j with h | h
      · exact h
      · exact absurd (List.eq_nil_of_length_eq_zero (by rw [hlen]; omega)) hne
    have hl : l ≠ [] := by intro e; subst e; simp at hj; omega
    obtain ⟨b, o, rfl, hc⟩ := h4 hl
    refine ⟨b, o + i * 5, ?_, fun q hq => ?_⟩
    · rw [if_neg (by omega)]
      have hadd : (⟨b, o, none⟩ : Addr).add (i * 5) = ⟨b, o + i * 5, none⟩ := by unfold Addr.add; split <;> simp_all
      simpa using hadd
    · rw [hlen] at hq
      have hc := hc (i + q) (by omega)
      have e : ((l.take j).drop i)[q] = l[i + q] := by simp
      rw [e, show o + i * 5 + q * 5 = o + (i + q) * 5 by omega]
      exact hc
theorem sizeR (W : World) : (sizeOf (Try.prog.elem 22)).run Try.prog W = .ok 5 W := by
  obtain ⟨i, hi, -, hsize, -⟩ := info_parts info5
  have he : Try.prog.elem 22 = 38 := by kernel_rfl
  rw [he]
  simp [sizeOf, typeInfo, hi, hsize]
theorem elemR : Try.prog.underlying 22 = some (.slice (Try.prog.elem 22)) := by
  have he : Try.prog.elem 22 = 38 := by kernel_rfl
  rw [he]; exact Try.underlying22
theorem RS.len {w : World} {a : Option Addr} {len cap : Nat} {l : List RecT} (h : RS w (.slice a len cap) l) : len = l.length ∧ len ≤ cap ∧ cap ≤ maxLen := by
  obtain ⟨a', cap', hv, h1, h2, -⟩ := h
  cases hv
  exact ⟨rfl, h1, h2⟩
/-- 'l[:n]', in whatever world. -/
theorem RS.run_h {w : World} {a : Option Addr} {len cap : Nat} {l : List RecT} (h : RS w (.slice a len cap) l) (n : Nat) (hn : n ≤ l.length) (k : IntKind) :
    ∃ v, (∀ W, RS W (.slice a len cap) l → RS W v (l.take n)) ∧ ∀ W, (Instr.slice 22 (.slice a len cap) none (some (.int k (n : Int))) none).run Try.prog W = .ok v W := by
  obtain ⟨h1, h2, h3⟩ := h.len
  refine ⟨sliced a 0 n cap 5, fun W hW => ?_, fun W => ?_⟩
  · have hc := hW.cut 0 n (by omega) hn
    rw [List.drop_zero] at hc
    exact hc
  · have hr := run_slice_h (P := Try.prog) W 22 a len cap elemR k (n : Int) (by omega) (by omega)
    rw [sizeR] at hr
    simpa [Result.andThen] using hr
/-- 'l[n:]', in whatever world. -/
theorem RS.run_l {w : World} {a : Option Addr} {len cap : Nat} {l : List RecT} (h : RS w (.slice a len cap) l) (n : Nat) (hn : n ≤ l.length) (k : IntKind) :
    ∃ v, (∀ W, RS W (.slice a len cap) l → RS W v (l.drop n)) ∧ ∀ W, (Instr.slice 22 (.slice a len cap) (some (.int k (n : Int))) none none).run Try.prog W = .ok v W := by
  obtain ⟨h1, h2, h3⟩ := h.len
  refine ⟨sliced a n len cap 5, fun W hW => ?_, fun W => ?_⟩
  · have hc := hW.cut n l.length (by omega) (Nat.le_refl _)
    rw [List.take_of_length_le (Nat.le_refl _), ← h1] at hc
    exact hc
  · have hr := run_slice_l (P := Try.prog) W 22 a len cap elemR k (n : Int) (by omega) (by omega)
    rw [sizeR] at hr
    simpa [Result.andThen] using hr

theorem OwnRec.setRow {w : World} {B : Nat} {v : Value} {l : List RecT} (h : OwnRec w B v l) {g : Nat} (hg : g < B) (cs : Array Value) : OwnRec (w.setRow g cs) B v l := by
  refine ⟨h.1, ?_⟩
  rcases h.2 with h' | ⟨q, cap, cur, h1, hB, h2, h3⟩
  · exact .inl h'
  · exact .inr ⟨q, cap, cur, h1, hB, (setRow_other _ _ _ _ (by omega)).trans h2, h3⟩
theorem RS.one' (w : World) (k : ByteArray) (g : Bool) (a b : Int) (s : ByteArray) : RS (w.alloc (.cells #[.string k, .bool g, .int .i64 a, .int .i64 b, .string s] 38)) (.slice (some ⟨w.heap.size, 0, none⟩) 1 1) [(k, g, a, b, s)] := RS.one w (k, g, a, b, s)

end Go.Proofs.Ytoaiogfeffnlcaa
