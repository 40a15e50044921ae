/-
  Stage 18: keys that are one by their runes: eight find a place.
-/
import Derived.Test.YtkddleonmkhaiaaM31
import Derived.Test.YtkddleonmkhaiaaM33
namespace Go.Proofs.Ytkddleonmkhaiaa
open Go.RowKit

def nm2 (i : Nat) : List UInt8 := [UInt8.ofNat (248 + i % 8), UInt8.ofNat (248 + i / 8)]
theorem nm2_size (i : Nat) : (str (nm2 i)).size = 2 := str_size _
theorem nm2_inj : ∀ j k : Fin 12, nm2 j.val = nm2 k.val → j = k := by decide
/-- The i-th key. -/
def keyS2 (s : ByteArray) (i : Nat) : ByteArray := s ++ str (nm2 i)
theorem keyS2_size (s : ByteArray) (i : Nat) : (keyS2 s i).size = s.size + 2 := by unfold keyS2; rw [ByteArray.size_append, nm2_size]
theorem keyS2_bl (s : ByteArray) (i : Nat) : bl (keyS2 s i) = bl s ++ nm2 i := by
  unfold keyS2 bl str
  rw [ByteArray.data_append, Array.toList_append]
theorem keyS2_inj {s : ByteArray} {i j : Nat} (hi : i < 12) (hj : j < 12) (h : keyS2 s i = keyS2 s j) : i = j := by
  have h1 := congrArg bl h
  rw [keyS2_bl, keyS2_bl] at h1
  have h2 := List.append_cancel_left h1
  simpa using congrArg Fin.val (nm2_inj ⟨i, hi⟩ ⟨j, hj⟩ h2)
theorem never_hi (k : Nat) (h : k < 8) : never (UInt8.ofNat (248 + k)) := .inl (by rw [UInt8.toNat_ofNat']; omega)
theorem keyS2_hash (s : ByteArray) {i : Nat} (hi : i < 12) : hashS (keyS2 s i) = hashS (keyS2 s 0) := by
  unfold hashS
  rw [keyS2_bl, keyS2_bl]
  refine congrArg hashN ?_
  unfold nm2
  have e1 := runes_never (never_hi (i % 8) (by omega)) (never_hi 0 (by omega)) [UInt8.ofNat (248 + i / 8)] _ (bl s) (Nat.le_refl _)
  have e2 := runes_never (never_hi (i / 8) (by omega)) (never_hi 0 (by omega)) [] _ (bl s ++ [UInt8.ofNat (248 + 0)]) (Nat.le_refl _)
  rw [List.append_assoc, List.append_assoc] at e2
  exact e1.trans e2
theorem pair_room : ∀ b c : Fin 8, b ≠ c → 2 ^ b.val + 2 ^ c.val < 256 ∧ bitN (2 ^ b.val + 2 ^ c.val) b.val = 1 ∧ bitN (2 ^ b.val + 2 ^ c.val) c.val = 1 ∧ roomN (2 ^ b.val + 2 ^ c.val) = 8 := by decide +kernel
theorem room_nine (h : Nat) : roomB (List.replicate 9 h) = false := by
  obtain ⟨h1, h2, h3, h4⟩ := pair_room ⟨firstN h, first_lt h⟩ ⟨othN (firstN h) (tagN h), oth_lt (tagN h) (first_lt h)⟩ (fun e => oth_ne (tagN h) (first_lt h) (by simpa using congrArg Fin.val e.symm))
  simp only [] at h1 h2 h3 h4
  refine room_not h1 ?_
  rw [h4]
  have hin : inS (2 ^ firstN h + 2 ^ othN (firstN h) (tagN h)) h = true := by unfold inS; simp [h2, h3]
  unfold cntN
  rw [List.countP_eq_length.2 (fun x hx => by rw [List.eq_of_mem_replicate hx]; exact hin)]
  simp

/-- The log behind m puts. -/
def recS (s : ByteArray) (i : Nat) : RecT := (keyS2 s i, false, 1, (i : Int), ⟨#[]⟩)
def sL (s : ByteArray) (m : Nat) : List RecT := (List.range m).map (recS s)
theorem sL_len (s : ByteArray) (m : Nat) : (sL s m).length = m := by simp [sL]
theorem sL_succ (s : ByteArray) (m : Nat) : sL s (m + 1) = sL s m ++ [recS s m] := by simp [sL, List.range_succ]
theorem sL_keys (s : ByteArray) {m : Nat} (hm : m ≤ 12) : KeysOk (sL s m) := by
  unfold KeysOk sL
  rw [List.map_map]
  refine List.pairwise_map.2 ((List.nodup_range (n := m)).imp_of_mem ?_)
  intro i j hi hj hne e
  refine hne (keyS2_inj (s := s) (by have := List.mem_range.1 hi; omega) (by have := List.mem_range.1 hj; omega) ?_)
  exact keyR_eq.1 e
theorem sL_in (s : ByteArray) {m i : Nat} (hm : m ≤ 12) (hi : i < m) : findK keyR (sL s m) (keyS2 s i).toList = some (recS s i) :=
  (find_iff (sL_keys s hm) _ _).2 ⟨List.mem_map.2 ⟨i, List.mem_range.2 hi, rfl⟩, rfl⟩
theorem sL_out (s : ByteArray) {m i : Nat} (hm : m ≤ i) (hi : i < 12) : findK keyR (sL s m) (keyS2 s i).toList = none := by
  rw [find_none]
  intro x hx e
  obtain ⟨j, hj, rfl⟩ := List.mem_map.1 hx
  have hj := List.mem_range.1 hj
  have := keyS2_inj (s := s) (by omega) hi (keyR_eq.1 e)
  omega
theorem sL_hash (s : ByteArray) {m : Nat} (hm : m ≤ 12) : (sL s m).map hR = List.replicate m (hashS (keyS2 s 0)) := by
  refine List.eq_replicate_iff.2 ⟨by simp [sL_len], fun b hb => ?_⟩
  obtain ⟨x, hx, rfl⟩ := List.mem_map.1 hb
  obtain ⟨j, hj, rfl⟩ := List.mem_map.1 hx
  exact keyS2_hash s (by have := List.mem_range.1 hj; omega)
theorem sL_room (s : ByteArray) {m i : Nat} (hm : m ≤ i) (hi : i < 12) (h8 : m ≤ 8) : roomR (sL s m) (keyS2 s i) = decide (m < 8) := by
  unfold roomR
  rw [sL_out s hm hi, sL_hash s (by omega), keyS2_hash s hi]
  rw [show List.replicate m (hashS (keyS2 s 0)) ++ [hashS (keyS2 s 0)] = List.replicate (m + 1) (hashS (keyS2 s 0)) from List.replicate_succ'.symm]
  by_cases h : m < 8
  · rw [room_small (by simp; omega)]
    simp [h]
  · obtain rfl : m = 8 := by omega
    rw [room_nine]
    rfl
theorem sL_put (s : ByteArray) {m : Nat} (hm : m < 12) : putL (sL s m) (recS s m) = sL s (m + 1) := by
  rw [sL_succ, putL_new]
  exact (find_none _).1 (sL_out s (Nat.le_refl m) hm)
theorem sL_reads (s : ByteArray) {m i : Nat} (hm : m ≤ 12) (hi : i < 12) : readsR (sL s m) (keyS2 s i) = m := by
  unfold readsR
  rw [List.countP_eq_length.2 (fun x hx => ?_), sL_len]
  obtain ⟨j, hj, rfl⟩ := List.mem_map.1 hx
  have e : hR (recS s j) = hashS (keyS2 s 0) := keyS2_hash s (by have := List.mem_range.1 hj; omega)
  rw [e, keyS2_hash s hi]
  exact near_self _

end Go.Proofs.Ytkddleonmkhaiaa
