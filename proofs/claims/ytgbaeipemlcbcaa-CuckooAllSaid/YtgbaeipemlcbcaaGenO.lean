/-
  A slice of structs of whatever kind as an argument.
-/
import Derived.Test.YtgbaeipemlcbcaaGenS
import Derived.Lib.SmallJoins
import Derived.Deep.Slices
import Derived.Deep.Fields
import Derived.ChangeSame
namespace Go.Proofs.Ytgbaeipemlcbcaa
open Go.RowKit Go.Joins Go.ChangeShapes Go.WideShapes Go.Deep

theorem list_of_lay {α : Type} (n : Nat) (p : Nat → α → Prop) (h : ∀ i, i < n → ∃ x, p i x) : ∃ l : List α, l.length = n ∧ ∀ i (hi : i < l.length), p i l[i] := by
  induction n with
  | zero => exact ⟨[], rfl, fun i hi => absurd hi (by simp)⟩
  | succ n ih =>
    obtain ⟨l, hl, hp⟩ := ih fun i hi => h i (by omega)
    obtain ⟨x, hx⟩ := h n (by omega)
    refine ⟨l ++ [x], by simp [hl], fun i hi => ?_⟩
    by_cases hin : i < l.length
    · rw [List.getElem_append_left hin]; exact hp i hin
    · obtain rfl : i = n := by simp at hi; omega
      rw [List.getElem_append_right (by omega)]
      simpa using hx

set_option maxRecDepth 100000 in
theorem Lay.open_row {α : Type} {K : Lay α} {P : Program} (hK : K.Ok P) (hC : P.cellsOf K.elem = K.size) (ok : α → Prop) {H : Type} {enc : TypeId × Value → H} {W : World} {a : Option Addr} {len cap : Nat} {d : DataW H} {p : List MemPlace}
    (hcell : ∀ (fuel : Nat) (cs : List Value) (x : DataW H × List MemPlace), DataW.trod enc P W 0 (fun _ => true) true fuel K.elem cs = some x → cs.length = K.size → ∃ y, cs = K.enc y ∧ ok y)
    (h : DataW.Trod enc P W 0 (fun _ => true) true K.row (.slice a len cap) d p) : ∃ l, K.R W (.slice a len cap) l ∧ ∀ x ∈ l, ok x := by
  obtain ⟨fuel, hf⟩ := h
  rcases open_slice hK.under hf with ⟨hcs, -⟩ | ⟨x, l, c, m, n, D, Pl, hcs, hb, hl, hm, hmm, -, hi⟩
  · simp [Value.cells] at hcs
    obtain ⟨rfl, rfl, rfl⟩ := hcs
    exact ⟨[], Lay.R.nil _, fun x hx => by cases hx⟩
  · simp [Value.cells] at hcs
    obtain ⟨rfl, rfl, rfl⟩ := hcs
    simp only [if_true] at hmm
    subst hmm
    have key : ∀ i, i < len → ∃ y : α, ok y ∧ ∀ j u, (K.enc y)[j]? = some u → W.cell? ((x.add (i * K.size)).add j) = some u := by
      intro i hil
      obtain ⟨cs', hc, ht⟩ := hi i (by omega)
      rw [hC] at hc
      obtain ⟨-, hcl, hat⟩ := World.cells?_some hc
      obtain ⟨y, rfl, ok'⟩ := hcell _ _ _ ht hcl
      refine ⟨y, ok', fun j u hj => ?_⟩
      have hjl : j < (K.enc y).length := (List.getElem?_eq_some_iff.1 hj).1
      have := hat j (by omega)
      rw [this, ← hj, List.getElem?_eq_getElem hjl]
    obtain ⟨L, hL, hp⟩ := list_of_lay len _ key
    subst hL
    refine ⟨L, ⟨some x, _, rfl, hl, hm, (fun h => by cases h), fun hne => ?_⟩, fun y hy => ?_⟩
    · obtain ⟨b, o, spot⟩ := x
      have hL0 : 0 < L.length := List.length_pos_iff.2 hne
      have h00 : 0 < (K.enc L[0]).length := by rw [hK.len]; exact hK.pos
      have h0 := (hp 0 hL0).2 0 _ (List.getElem?_eq_getElem h00)
      have hspot : spot = none := by simpa [Addr.add] using World.cell?_spot h0
      subst hspot
      refine ⟨b, o, rfl, fun j u hj => ?_⟩
      have hps := hK.pos
      have hjl : j < L.length * K.size := by rw [← hK.flat_len]; exact (List.getElem?_eq_some_iff.1 hj).1
      have h1 : j / K.size < L.length := (Nat.div_lt_iff_lt_mul hps).2 hjl
      have h2 : j % K.size < K.size := Nat.mod_lt _ hps
      have hd : j / K.size * K.size + j % K.size = j := by rw [Nat.mul_comm]; exact Nat.div_add_mod j K.size
      have e := hK.flat_at L (j / K.size) (j % K.size) h1 h2
      rw [hd, hj] at e
      have := (hp (j / K.size) h1).2 (j % K.size) u e.symm
      rw [Addr.add_mid, Addr.add_mid] at this
      rw [show o + j = o + j / K.size * K.size + j % K.size by omega]
      exact this
    · obtain ⟨i, hi', rfl⟩ := List.mem_iff_getElem.1 hy
      exact (hp i hi').1

end Go.Proofs.Ytgbaeipemlcbcaa
