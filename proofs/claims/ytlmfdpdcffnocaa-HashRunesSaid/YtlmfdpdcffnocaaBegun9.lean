/-
  The contract of the laws' begun.
-/
import Derived.Test.YtlmfdpdcffnocaaHash
namespace Go.Proofs.Ytlmfdpdcffnocaa
open Go.RowKit

theorem other_two (f t : Nat) (hf : f < 8) (ht : t < 32768) : ∃ o : Nat, otherI (f : Int) (t : Int) = (o : Int) ∧ o ≤ 7 ∧ o ≠ f ∧ otherI (o : Int) (t : Int) = (f : Int) := by
  have E : ∀ f : Fin 8, ∀ k : Fin 8, 0 < k.val → f.val ^^^ k.val ≤ 7 ∧ f.val ^^^ k.val ≠ f.val ∧ (f.val ^^^ k.val) ^^^ k.val = f.val := by decide +kernel
  obtain ⟨e1, e2, e3⟩ := E ⟨f, hf⟩ ⟨1 + t % 7, by omega⟩ (by show 0 < 1 + t % 7; omega)
  refine ⟨f ^^^ (1 + t % 7), otherI_ok (by omega) (by omega), e1, e2, ?_⟩
  rw [otherI_ok e1 (by omega)]
  exact congrArg _ e3
theorem firstN_lt (h : Nat) : firstN h < 8 := by unfold firstN; omega
theorem tagN_lt (h : Nat) : tagN h < 32768 := by unfold tagN; omega
theorem otherI_wf (b t : Int) : -1 ≤ otherI b t ∧ (b < 0 ∨ 7 < b ∨ t < 0 ∨ 32767 < t ∨ otherI b t ≤ 7) := by
  by_cases h : b < 0 ∨ 7 < b ∨ t < 0 ∨ 32767 < t
  · rw [otherI_bad h]; omega
  · obtain ⟨B, rfl⟩ : ∃ B : Nat, b = (B : Int) := ⟨b.toNat, by omega⟩
    obtain ⟨T, rfl⟩ : ∃ T : Nat, t = (T : Int) := ⟨t.toNat, by omega⟩
    obtain ⟨o, e, h1, -, -⟩ := other_two B T (by omega) (by omega)
    rw [e]; omega
theorem hs_a : hashS ⟨#[]⟩ ≠ hashS ⟨#[97]⟩ := by decide +kernel
theorem hs_f : hashS ⟨#[254]⟩ = hashS ⟨#[255]⟩ := by decide +kernel
theorem hs_1 : firstN 9 = 1 := rfl
theorem hs_5 : tagN 1283 = 5 := rfl
theorem hs_o : otherI 0 0 = 1 := by decide +kernel
theorem hs_p : otherI 8 0 = -1 := by decide +kernel
theorem sz0 : (⟨#[]⟩ : ByteArray).size ≤ 1000000 := by show 0 ≤ _; omega
theorem sz1 (a : UInt8) : (⟨#[a]⟩ : ByteArray).size ≤ 1000000 := by show 1 ≤ _; omega

set_option maxHeartbeats 1000000 in
set_option maxRecDepth 100000 in
theorem begun_c (w : World) : Calls Try.prog 9 #[] w fun e w' => e = .returned (.bool true) ∧ Below w.heap.size w w' := by
  obtain ⟨a, ha⟩ : ∃ a, hashS ⟨#[97]⟩ = a := ⟨_, rfl⟩
  obtain ⟨z, hz⟩ : ∃ z, hashS ⟨#[]⟩ = z := ⟨_, rfl⟩
  obtain ⟨f, hf⟩ : ∃ f, hashS ⟨#[255]⟩ = f := ⟨_, rfl⟩
  have hne : z ≠ a := by rw [← ha, ← hz]; exact hs_a
  have C1 := Go.Lib.hid fun W => hof_k ⟨#[97]⟩ a ha W (sz1 97)
  have C2 := Go.Lib.hid fun W => rhash_k ⟨#[97]⟩ a ha W (sz1 97)
  have C3 := Go.Lib.hid fun W => hof_k ⟨#[]⟩ z hz W sz0
  have C4 := Go.Lib.hid fun W => hof_k ⟨#[254]⟩ f (hs_f.trans hf) W (sz1 254)
  have C5 := Go.Lib.hid fun W => hof_k ⟨#[255]⟩ f hf W (sz1 255)
  have c6 := fun W => hfirst_c 9 W (by omega)
  have c7 := fun W => htag_c 1283 W (by omega)
  have c8 := fun W => hother_c 0 0 W (by omega) (by omega) (by omega) (by omega)
  have c9 := fun W => hother_c 8 0 W (by omega) (by omega) (by omega) (by omega)
  rw [hs_1] at c6
  rw [hs_5] at c7
  rw [hs_o] at c8
  rw [hs_p] at c9
  have C6 := Go.Lib.hid c6
  have C7 := Go.Lib.hid c7
  have C8 := Go.Lib.hid c8
  have C9 := Go.Lib.hid c9
  clear ha hz hf c6 c7 c8 c9
  have hza : Hid (((z : Int) != (a : Int)) = true) := by unfold Hid; simp; omega
  have hbb := Below.refl w.heap.size w
  go_enter Try.func9, Try.ntmps9
  go_wp2_with fail
  refine (C1.out _).mono ?_
  rintro e uC1 ⟨rfl, hc⟩
  have hbb := hbb.trans (hc.mono hbb.size)
  clear hc
  go_wp2_with fail
  refine (C2.out _).mono ?_
  rintro e uC2 ⟨rfl, hc⟩
  have hbb := hbb.trans (hc.mono hbb.size)
  clear hc
  go_wp2_with fail
  refine (C3.out _).mono ?_
  rintro e uC3 ⟨rfl, hc⟩
  have hbb := hbb.trans (hc.mono hbb.size)
  clear hc
  go_wp2_with fail
  refine (C4.out _).mono ?_
  rintro e uC4 ⟨rfl, hc⟩
  have hbb := hbb.trans (hc.mono hbb.size)
  clear hc
  go_wp2_with fail
  refine (C5.out _).mono ?_
  rintro e uC5 ⟨rfl, hc⟩
  have hbb := hbb.trans (hc.mono hbb.size)
  clear hc
  go_wp2_with fail
  refine (C6.out _).mono ?_
  rintro e uC6 ⟨rfl, rfl⟩
  go_wp2_with fail
  refine (C7.out _).mono ?_
  rintro e uC7 ⟨rfl, rfl⟩
  go_wp2_with fail
  refine (C8.out _).mono ?_
  rintro e uC8 ⟨rfl, rfl⟩
  go_wp2_with fail
  refine (C9.out _).mono ?_
  rintro e uC9 ⟨rfl, rfl⟩
  go_wp2_with fail
  go_ret
  exact ⟨ret_of (congrArg Value.bool hza.out), hbb⟩

end Go.Proofs.Ytlmfdpdcffnocaa
