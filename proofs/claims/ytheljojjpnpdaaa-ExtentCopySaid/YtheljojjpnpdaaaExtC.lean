/-
  The contracts of slices.Index and slices.Contains of bools, of extent's run and set.
-/
import Derived.Test.YtheljojjpnpdaaaExtB
import Derived.LoopTactic
import Derived.Deep.DeepCutAuto
namespace Go.Proofs.Ytheljojjpnpdaaa
open Go.RowKit

/-- What Index answers. -/
def idxF (m : Nat) (f : Nat → Bool) (x : Bool) : Int := if firstF m f x < m then (firstF m f x : Int) else -1
theorem idxF_of {m : Nat} {f : Nat → Bool} {x : Bool} {k : Nat} (e : firstF m f x = k) (h : k < m) : idxF m f x = (k : Int) := by unfold idxF; rw [e, if_pos h]
theorem idxF_no {m : Nat} {f : Nat → Bool} {x : Bool} {k : Nat} (e : firstF m f x = k) (h : ¬ k < m) : idxF m f x = -1 := by unfold idxF; rw [e, if_neg h]
section
variable {w : World} {g o m cap : Nat} {f : Nat → Bool}
set_option maxRecDepth 100000 in
theorem index_c (h : ∀ i, i < m → w.cell? ⟨g, o + i, none⟩ = some (.bool (f i))) (hm : m ≤ 1000000) (x : Bool) : Calls Try.prog 24 #[.slice (some ⟨g, o, none⟩) m cap, .bool x] w fun e w' => e = .returned (.int .i64 (idxF m f x)) ∧ w = w' := by
  have H := Go.Lib.hid h; clear h
  go_enter Try.func24, Try.ntmps24
  go_wp2_with fail
  go_loopw [8] (fun c wr => ∃ k : Nat, k ≤ m ∧ c = .int .i64 (k : Int) ∧ Hid (∀ j, j < k → f j ≠ x) ∧ Hid (w = wr)) (fun c _ => m - (intOf c).toNat)
  case atStart => exact ⟨0, by omega, rfl, Go.Lib.hid (fun j hj => by omega), Go.Lib.hid rfl⟩
  case round =>
    obtain ⟨k, hk, rfl, hj, he⟩ := hrel
    by_cases hkm : k < m
    · have hc := H.out k hkm
      rw [he.out] at hc
      have hkI : (k : Int) < (m : Int) := by omega
      have HK := Go.Lib.hid hkm
      obtain ⟨t, ht⟩ : ∃ t, t = f k := ⟨_, rfl⟩
      rw [← ht] at hc
      have HT := Go.Lib.hid ht
      clear ht hkm
      by_cases hx : x = t
      · have hb : (x == t) = true := by simp [hx]
        have e1 : firstF m f x = k := firstF_eq m f x k hk hj.out (fun _ => by rw [← HT.out, hx])
        have HE := Go.Lib.hid e1
        clear e1 hx
        go_wp2_with fail
        go_ret
        exact ⟨by rw [idxF_of HE.out HK.out]; rfl, he.out⟩
      · have hb : (x == t) = false := by simp [hx]
        have hj2 : Hid (∀ j, j < k + 1 → f j ≠ x) := Go.Lib.hid (fun j h1 => by
          rcases Nat.lt_or_ge j k with h2 | h2
          · exact hj.out j h2
          · rw [show j = k from by omega, ← HT.out]; exact fun e => hx e.symm)
        clear hx hj
        go_wp2_with fail
        go_roundw
        case rel => exact ⟨k + 1, by omega, by go_num, hj2, he⟩
        case measure => simp only [intOf]; omega
    · have e1 : firstF m f x = k := firstF_eq m f x k hk hj.out (fun h => by omega)
      have HE := Go.Lib.hid e1
      have HK := Go.Lib.hid hkm
      have hkI : ¬ (k : Int) < (m : Int) := by omega
      clear e1 hj hkm
      go_wp2_with fail
      go_ret
      exact ⟨by rw [idxF_no HE.out HK.out]; rfl, he.out⟩

set_option maxRecDepth 100000 in
theorem contains_c (h : ∀ i, i < m → w.cell? ⟨g, o + i, none⟩ = some (.bool (f i))) (hm : m ≤ 1000000) (x : Bool) : Calls Try.prog 23 #[.slice (some ⟨g, o, none⟩) m cap, .bool x] w fun e w' => e = .returned (.bool (decide (firstF m f x < m))) ∧ w = w' := by
  have C := Go.Lib.hid (index_c (cap := cap) h hm x)
  clear h
  obtain ⟨k, hk⟩ : ∃ k, firstF m f x = k := ⟨_, rfl⟩
  rw [hk]
  by_cases hkm : k < m
  · rw [idxF_of hk hkm] at C
    clear hk
    go_enter Try.func23, Try.ntmps23
    go_wp2_with fail
    refine C.out.mono ?_
    rintro e w1 ⟨rfl, rfl⟩
    go_wp2_with fail
    go_ret
    exact ⟨by simp [hkm], rfl⟩
  · rw [idxF_no hk hkm] at C
    clear hk
    go_enter Try.func23, Try.ntmps23
    go_wp2_with fail
    refine C.out.mono ?_
    rintro e w1 ⟨rfl, rfl⟩
    go_wp2_with fail
    go_ret
    exact ⟨by simp [hkm], rfl⟩

set_option maxRecDepth 100000 in
theorem run_c (h : ∀ i, i < m → w.cell? ⟨g, o + i, none⟩ = some (.bool (f i))) (hm : m ≤ 1000000) : Calls Try.prog 20 #[.slice (some ⟨g, o, none⟩) m cap] w fun e w' => e = .returned (.int .i64 (firstF m f false : Int)) ∧ w = w' := by
  have C := Go.Lib.hid (index_c (cap := cap) h hm false)
  clear h
  have hle := firstF_le m f false
  obtain ⟨k, hk⟩ : ∃ k, firstF m f false = k := ⟨_, rfl⟩
  rw [hk] at hle ⊢
  by_cases hkm : k < m
  · rw [idxF_of hk hkm] at C
    clear hk
    go_enter Try.func20, Try.ntmps20
    go_wp2_with fail
    refine C.out.mono ?_
    rintro e w1 ⟨rfl, rfl⟩
    go_wp2_with fail
    go_ret
    exact ⟨rfl, rfl⟩
  · rw [idxF_no hk hkm] at C
    clear hk
    obtain rfl : k = m := by omega
    clear hkm hle
    go_enter Try.func20, Try.ntmps20
    go_wp2_with fail
    refine C.out.mono ?_
    rintro e w1 ⟨rfl, rfl⟩
    go_wp2_with fail
    go_ret
    exact ⟨rfl, rfl⟩
end

section
variable {w : World} {B g n c o m cap : Nat} {f : Nat → Bool}
set_option maxRecDepth 100000 in
theorem set_c (h : OwnV 4 w B (.slice (some ⟨g, 0, none⟩) n c) (zf n f)) (hm : o + m ≤ n) (hn : n ≤ 1000000) (x : Bool) : Calls Try.prog 18 #[.slice (some ⟨g, o, none⟩) m cap, .bool x] w fun e w' => e = .returned (.tuple #[]) ∧ OwnV 4 w' B (.slice (some ⟨g, 0, none⟩) n c) (zf n (setF f o m x)) ∧ w.grownBy w' (some g) := by
  have H := Go.Lib.hid h; clear h
  have HM := Go.Lib.hid hm
  have hm2 : m ≤ 1000000 := by omega
  clear hm hn
  go_enter Try.func18, Try.ntmps18
  go_wp2_with fail
  go_loopw [7] (fun c' wr => ∃ k : Nat, k ≤ m ∧ c' = .int .i64 (k : Int) ∧ OwnV 4 wr B (.slice (some ⟨g, 0, none⟩) n c) (zf n (setF f o k x)) ∧ w.grownBy wr (some g)) (fun c _ => m - (intOf c).toNat)
  case atStart => exact ⟨0, by omega, rfl, by rw [setF_zero]; exact H.out, World.grownBy.refl _ _⟩
  case round =>
    obtain ⟨k, hk, rfl, hr, hg⟩ := hrel
    by_cases hkm : k < m
    · have hc := hr.fcell (o + k) (by have := HM.out; omega)
      have hf := hr.fz (o + k)
      obtain ⟨t, ht⟩ : ∃ t, t = setF f o k x (o + k) := ⟨_, rfl⟩
      rw [← ht] at hc
      have hs := hr.fset (o + k) x
      rw [setF_snoc] at hs
      have HS := Go.Lib.hid hs
      have HG := Go.Lib.hid hg
      have hkI : (k : Int) < (m : Int) := by omega
      clear ht hs hr hg
      go_wp2_with fail
      go_roundw
      case rel => exact ⟨k + 1, by omega, by go_num, HS.out.1, grow_trans HG.out HS.out.2⟩
      case measure => simp only [intOf]; omega
    · obtain rfl : k = m := by omega
      have HR := Go.Lib.hid hr
      have HG := Go.Lib.hid hg
      clear hr hg
      go_wp2_with fail
      go_end0
      exact ⟨rfl, HR.out, HG.out⟩
/-- Of nothing. -/
theorem set_none {a : Option Addr} (w : World) (x : Bool) : Calls Try.prog 18 #[.slice a 0 cap, .bool x] w fun e w' => e = .returned (.tuple #[]) ∧ w = w' := by
  go_enter Try.func18, Try.ntmps18
  go_wp2_with fail
  go_loopw [7] (fun c' wr => c' = .int .i64 0 ∧ Hid (w = wr)) (fun _ _ => 0)
  case atStart => exact ⟨rfl, Go.Lib.hid rfl⟩
  case round =>
    obtain ⟨rfl, he⟩ := hrel
    go_wp2_with fail
    go_end0
    exact ⟨rfl, he.out⟩
end

end Go.Proofs.Ytheljojjpnpdaaa
