/-
  What lies apart: rows of other types, a *bits.Bits, slices that came in.
-/
import Derived.Test.YtiakpjkpmepmoaaBitB
import Derived.Test.YtiakpjkpmepmoaaVals
namespace Go.Proofs.Ytiakpjkpmepmoaa
open Go.RowKit

theorem rows_ne {w : World} {B1 B2 : Nat} {e1 e2 : TypeId} {s1 s2 n1 n2 : Nat} {v1 v2 : Value} {xs1 xs2 : List Value} (h1 : w.ownsRow B1 e1 s1 v1 n1 xs1) (h2 : w.ownsRow B2 e2 s2 v2 n2 xs2) (hne : e1 ≠ e2) : v1.ownBlock = none ∨ v1.ownBlock ≠ v2.ownBlock := by
  rcases h1.2 with ⟨rfl, -⟩ | ⟨b, cap, cur, rfl, -, hg, -⟩
  · exact .inl rfl
  · refine .inr fun e => ?_
    rcases h2.2 with ⟨rfl, -⟩ | ⟨b', cap', cur', rfl, -, hg', -⟩
    · cases e
    · simp only [Value.ownBlock, Option.some.injEq] at e
      subst e
      rw [hg] at hg'
      simp only [Option.some.injEq, Obj.cells.injEq] at hg'
      exact absurd hg'.2.1 hne
theorem row_not {e t : TypeId} {w : World} {B b s n : Nat} {v : Value} {xs : List Value} {cs : Array Value} (h : w.ownsRow B e s v n xs) (hb : w.heap[b]? = some (.cells cs t)) (hne : e ≠ t) : v.ownBlock ≠ some b := by
  intro hv
  rcases h.2 with ⟨rfl, -⟩ | ⟨g, cap, cur, rfl, -, hg, -⟩
  · cases hv
  · simp only [Value.ownBlock, Option.some.injEq] at hv
    subst hv
    rw [hb] at hg
    simp only [Option.some.injEq, Obj.cells.injEq] at hg
    exact hne hg.2.1.symm

section
variable {w w' : World} {B B' b n : Nat} {u v : Value} {p : List UInt8} {e : TypeId} {xs : List Value}
/-- A row of another type stays while a *bits.Bits is written to. -/
theorem OwnV.two (h : OwnV e w B v xs) (hb : BB w B' b u p n) (he1 : e ≠ 5) (he2 : e ≠ 44) (hk : Two b u.ownBlock w w') : OwnV e w' B v xs := by
  have h1 := row_not h hb.blk he2
  have h2 := rows_ne h hb.row he1
  refine ⟨h.1, ?_⟩
  rcases h.2 with h' | ⟨g, cap, cur, e1, hB, e2, e3⟩
  · exact .inl h'
  · subst e1
    refine .inr ⟨g, cap, cur, rfl, hB, (hk.block g (Array.getElem?_eq_some_iff.1 e2).1 (fun e' => h1 (by rw [← e']; rfl)) ?_).trans e2, e3⟩
    rcases h2 with h2 | h2
    · cases h2
    · exact h2
/-- A *bits.Bits stays while a row of another type grows. -/
theorem BB.kept (h : BB w B b u p n) (hv : OwnV e w B' v xs) (he1 : e ≠ 5) (he2 : e ≠ 44) (hg : w.grownBy w' v.ownBlock) : BB w' B b u p n := by
  have h1 := row_not hv h.blk he2
  exact ⟨(hg.block b h.lt h1.symm).trans h.blk, h.row.kept hg (rows_ne h.row hv he1.symm), h.low⟩
/-- A row stays while another one of another type grows. -/
theorem OwnV.apart {e2 : TypeId} {v2 : Value} {ys : List Value} (h : OwnV e w B v xs) (h2 : OwnV e2 w B' v2 ys) (hne : e ≠ e2) (hg : w.grownBy w' v2.ownBlock) : OwnV e w' B v xs := OwnV.kept h hg (rows_ne h h2 hne)
end

/-- A slice of whole numbers that came in. -/
theorem rv_of_row {k : IntKind} {w : World} {a : Option Addr} {len cap : Nat} {zs : List Int} (h : (a = none ∧ len = 0 ∧ cap = 0 ∧ zs = []) ∨
    ∃ x, a = some x ∧ len ≤ cap ∧ cap ≤ maxLen ∧ zs.length = cap ∧ (∀ i, i < zs.length → w.cell? (x.add i) = some (.int k (zs.getD i 0))) ∧ ∀ n ∈ zs, (Lit.int k n).wf = true) :
    ∃ Z : List Int, Z.length = len ∧ RV w (.slice a len cap) (Z.map (Value.int k)) ∧ len ≤ 9223372036854775807 ∧ ∀ z ∈ Z, (Lit.int k z).wf = true := by
  rcases h with ⟨rfl, rfl, rfl, rfl⟩ | ⟨x, rfl, hl, hmx, hz, hc, hw⟩
  · exact ⟨[], rfl, ⟨none, 0, rfl, Nat.le_refl _, by simp [maxLen], fun _ => rfl, fun h => absurd rfl h⟩, by omega, by simp⟩
  · have hlen : (zs.take len).length = len := by rw [List.length_take]; omega
    refine ⟨zs.take len, hlen, ⟨some x, cap, by rw [List.length_map, hlen], by rw [List.length_map, hlen]; exact hl, hmx, (fun h => by cases h), fun hne => ?_⟩, by unfold maxLen at hmx; omega, fun z hz => hw z (List.mem_of_mem_take hz)⟩
    have hpos : 0 < len := by
      rcases Nat.eq_zero_or_pos len with h0 | h0
      · subst h0; simp at hne
      · exact h0
    obtain ⟨b, o, spot⟩ := x
    have hspot : spot = none := by simpa [Addr.add] using World.cell?_spot (hc 0 (by omega))
    subst hspot
    refine ⟨b, o, rfl, fun i hi => ?_⟩
    rw [List.length_map, hlen] at hi
    have h1 := hc i (by omega)
    have hadd : (⟨b, o, none⟩ : Addr).add i = ⟨b, o + i, none⟩ := by unfold Addr.add; split <;> simp_all
    rw [hadd] at h1
    rw [h1]
    have hi' : i < zs.length := by omega
    simp [List.getD_eq_getElem?_getD, List.getElem?_eq_getElem hi']

end Go.Proofs.Ytiakpjkpmepmoaa
