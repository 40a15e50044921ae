/-
  Mathematics of CuckooFull: how many there may be.
-/
import Derived.Test.YtgbaeipemlcbcaaCucM
namespace Go.Proofs.Ytgbaeipemlcbcaa

def hF (one : Bool) (tag i : Nat) : Nat := tag * 256 + (if one then 0 else i % 8)
def capF (one : Bool) : Nat := if one then 8 else 32
theorem hF_first (one : Bool) (tag i : Nat) : firstN (hF one tag i) = if one then 0 else i % 8 := by unfold firstN hF; split <;> omega
theorem hF_tag (one : Bool) {tag : Nat} (i : Nat) (ht : tag < 32768) : tagN (hF one tag i) = tag := by unfold tagN hF; split <;> omega
theorem othN_mod (b t : Nat) : othN b (t % 7) = othN b t := by unfold othN; rw [Nat.mod_mod]
theorem inS_congr {S a b : Nat} (h1 : firstN a = firstN b) (h2 : tagN a % 7 = tagN b % 7) : inS S a = inS S b := by
  unfold inS
  rw [h1, ← othN_mod _ (tagN a), h2, othN_mod]
theorem room_congr {f g : Nat → Nat} (h1 : ∀ i, firstN (f i) = firstN (g i)) (h2 : ∀ i, tagN (f i) % 7 = tagN (g i) % 7) (n : Nat) : roomB ((List.range n).map f) = roomB ((List.range n).map g) := by
  unfold roomB cntN
  congr 1
  funext S
  rw [List.countP_map, List.countP_map]
  congr 2
  refine List.countP_congr fun i _ => ?_
  simp only [Function.comp]
  rw [inS_congr (h1 i) (h2 i)]
theorem room_prefix {a b : List Nat} (h : roomB (a ++ b) = true) : roomB a = true := by
  unfold roomB cntN at *
  rw [List.all_eq_true] at *
  intro S hS
  have := h S hS
  rw [decide_eq_true_eq, List.countP_append] at *
  omega
theorem room_many {hs : List Nat} (h : 32 < hs.length) : roomB hs = false := by
  unfold roomB
  rw [List.all_eq_false]
  refine ⟨255, by simp, ?_⟩
  rw [decide_eq_true_eq]
  have hb : ∀ b : Fin 8, bitN 255 b.val = 1 := by decide
  have e : cntN 255 hs = hs.length := by
    unfold cntN
    rw [List.countP_eq_length]
    intro x _
    unfold inS
    rw [hb ⟨_, first_lt x⟩, hb ⟨_, oth_lt (tagN x) (first_lt x)⟩]
    rfl
  have e2 : roomN 255 = 32 := by decide
  omega
theorem small_one : ∀ t : Fin 7, roomB ((List.range 8).map (hF true t.val)) = true ∧ roomB ((List.range 9).map (hF true t.val)) = false := by decide +kernel
theorem small_all : ∀ t : Fin 7, roomB ((List.range 32).map (hF false t.val)) = true := by decide +kernel
theorem hF_mod (one : Bool) {tag : Nat} (ht : tag < 32768) (n : Nat) : roomB ((List.range n).map (hF one tag)) = roomB ((List.range n).map (hF one (tag % 7))) :=
  room_congr (fun i => by rw [hF_first, hF_first]) (fun i => by rw [hF_tag one i ht, hF_tag one i (by omega), Nat.mod_mod]) n
theorem full_cap (one : Bool) {tag : Nat} (ht : tag < 32768) : roomB ((List.range (capF one)).map (hF one tag)) = true := by
  rw [hF_mod one ht]
  cases one with
  | true => exact (small_one ⟨tag % 7, Nat.mod_lt _ (by omega)⟩).1
  | false => exact small_all ⟨tag % 7, Nat.mod_lt _ (by omega)⟩
theorem full_yes (one : Bool) {tag : Nat} (ht : tag < 32768) {j : Nat} (hj : j < capF one) : roomB ((List.range j).map (hF one tag) ++ [hF one tag j]) = true := by
  have h := full_cap one ht
  have e : List.range (capF one) = List.range (j + 1) ++ (List.range (capF one - (j + 1))).map (fun k => j + 1 + k) := by
    conv => lhs; rw [show capF one = (j + 1) + (capF one - (j + 1)) by omega, List.range_add]
  rw [e, List.map_append] at h
  have h2 := room_prefix h
  rw [List.range_succ, List.map_append] at h2
  exact h2
theorem full_no (one : Bool) {tag : Nat} (ht : tag < 32768) {j : Nat} (hj : capF one ≤ j) : roomB ((List.range (capF one)).map (hF one tag) ++ [hF one tag j]) = false := by
  cases one with
  | true =>
    have h := (small_one ⟨tag % 7, Nat.mod_lt _ (by omega)⟩).2
    rw [← hF_mod true ht] at h
    have e : hF true tag j = hF true tag 8 := rfl
    rw [e]
    have e2 : (List.range (capF true)).map (hF true tag) ++ [hF true tag 8] = (List.range 9).map (hF true tag) := by
      rw [show (9 : Nat) = capF true + 1 from rfl, List.range_succ, List.map_append]
      rfl
    rw [e2]
    exact h
  | false => exact room_many (by simp [capF])

end Go.Proofs.Ytgbaeipemlcbcaa
