/-
  Slices of hashes.
-/
import Derived.Test.YtmphcpggfgehhaaGenS
namespace Go.Proofs.Ytmphcpggfgehhaa
open Go.RowKit

def KU : Lay Nat := ⟨fun n => [.int .u64 (n : Int)], 1, 23, 22, .int .u64 0, 8⟩
theorem KU_ok : KU.Ok Try.prog := ⟨by decide, fun _ => rfl, fun x u hu => by rw [List.mem_singleton.1 hu]; rfl, Try.underlying22, by kernel_rfl, rfl, by decide⟩
/-- What a law's argument of hashes reads as. -/
theorem ku_of_row {w : World} {a : Option Addr} {len cap : Nat} {zs : List Int} (h : (a = none ∧ len = 0 ∧ cap = 0 ∧ zs = []) ∨
    ∃ x, a = some x ∧ len ≤ cap ∧ cap ≤ maxLen ∧ zs.length = cap ∧ (∀ i, i < zs.length → w.cell? (x.add i) = some (.int .u64 (zs.getD i 0))) ∧ ∀ n ∈ zs, (Lit.int .u64 n).wf = true) :
    ∃ l : List Nat, KU.R w (.slice a len cap) l ∧ ∀ x ∈ l, x < 18446744073709551616 := by
  rcases h with ⟨rfl, rfl, rfl, rfl⟩ | ⟨x, rfl, hl, hm, hz, hc, hw⟩
  · exact ⟨[], Lay.R.nil _, fun x hx => by cases hx⟩
  · have hlen : ((zs.take len).map Int.toNat).length = len := by simp; omega
    have hb : ∀ (i : Nat) (hi : i < zs.length), 0 ≤ zs[i] ∧ zs[i] < 18446744073709551616 := fun i hi => by
      have h := hw zs[i] (List.getElem_mem hi)
      simp [Lit.wf, IntKind.min, IntKind.max, IntKind.signed, IntKind.bits] at h
      omega
    refine ⟨(zs.take len).map Int.toNat, ⟨some x, cap, by rw [hlen], by rw [hlen]; exact hl, hm, (fun h => by cases h), fun hne => ?_⟩, fun y hy => ?_⟩
    · have hpos : 0 < len := by rw [← hlen]; exact List.length_pos_iff.2 hne
      obtain ⟨b, o, spot⟩ := x
      have hspot : spot = none := by simpa [Addr.add] using World.cell?_spot (hc 0 (by omega))
      subst hspot
      refine ⟨b, o, rfl, fun j u hj => ?_⟩
      have hjl : j < len := by
        have := (List.getElem?_eq_some_iff.1 hj).1
        rw [KU_ok.flat_len, hlen] at this
        simpa [KU] using this
      have h1 := hc j (by omega)
      rw [Addr.add_mid] at h1
      have e := KU_ok.flat_at ((zs.take len).map Int.toNat) j 0 (by rw [hlen]; exact hjl) (by decide)
      rw [show j * KU.size + 0 = j from Nat.mul_one j, hj] at e
      have hi' : j < zs.length := by omega
      obtain ⟨b0, b1⟩ := hb j hi'
      rw [h1, e]
      simp only [KU, List.getElem_map, List.getElem_take, List.getElem?_cons_zero, List.getD_eq_getElem?_getD, List.getElem?_eq_getElem hi', Option.getD_some]
      congr 2
      omega
    · obtain ⟨z, hz', rfl⟩ := List.mem_map.1 hy
      obtain ⟨i, hi, rfl⟩ := List.mem_iff_getElem.1 (List.mem_of_mem_take hz')
      have := hb i hi
      omega
theorem KU.at' {w : World} {a : Option Addr} {n cap : Nat} {l : List Nat} (h : KU.R w (.slice a n cap) l) (i : Nat) (hi : i < l.length) : ∃ b o, a = some ⟨b, o, none⟩ ∧ n = l.length ∧ b < w.heap.size ∧ w.cell? ⟨b, o + i, none⟩ = some (.int .u64 (l[i] : Int)) := by
  obtain ⟨b, o, h1, h2, h3, h4⟩ := h.at KU_ok i hi
  exact ⟨b, o, h1, h2, h3, by have := h4 0 _ rfl; simpa [KU] using this⟩
theorem idxU (b o n cap j : Nat) (h : j < n) (W : World) : (Instr.indexAt 22 (.slice (some ⟨b, o, none⟩) n cap) (.int .i64 (j : Int))).run Try.prog W = .ok (.pointer (some ⟨b, o + j, none⟩)) W := by
  have := KU_ok.run_idx b o n cap j h W
  simpa [KU] using this


end Go.Proofs.Ytmphcpggfgehhaa
