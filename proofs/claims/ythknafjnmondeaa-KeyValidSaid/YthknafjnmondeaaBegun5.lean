/-
  The contract of the laws' begun.
-/
import Derived.Test.YthknafjnmondeaaKey
namespace Go.Proofs.Ythknafjnmondeaa
open Go.RowKit Go.Op

theorem km_k (s : ByteArray) (b : Bool) (h : mayK s = b) (hm : s.size ≤ 1000000) (w : World) : Calls Try.prog 9 #[.string s] w fun e w' => e = .returned (.bool b) ∧ Below w.heap.size w w' := by subst h; exact kmay_c s w hm
theorem kl_k (a c : ByteArray) (b : Bool) (h : bytesLess a.toList c.toList = b) (w : World) : Calls Try.prog 11 #[.string a, .string c] w fun e w' => e = .returned (.bool b) ∧ Below w.heap.size w w' := by subst h; exact kless_c a c w
theorem kc_k (a b : ByteArray) (n : Int) (h : cmpS a b = n) (ha : a.size ≤ 1000000) (hb : b.size ≤ 1000000) (w : World) : Calls Try.prog 12 #[.string a, .string b] w fun e w' => e = .returned (.int .i64 n) ∧ Below w.heap.size w w' := by subst h; exact kcmp_c a b w ha hb
theorem kf_k (s t : ByteArray) (h : str (foldL (bl s)) = t) (hm : s.size ≤ 1000000) (w : World) : Calls Try.prog 14 #[.string s] w fun e w' => e = .returned (.string t) ∧ Below w.heap.size w w' := by subst h; exact kfold_c s w hm

theorem y0 : (⟨#[]⟩ : ByteArray).size ≤ 1000000 := by show 0 ≤ _; omega
theorem y1 (a : UInt8) : (⟨#[a]⟩ : ByteArray).size ≤ 1000000 := by show 1 ≤ _; omega
theorem y2 (a b : UInt8) : (⟨#[a, b]⟩ : ByteArray).size ≤ 1000000 := by show 2 ≤ _; omega
theorem y3 (a b c : UInt8) : (⟨#[a, b, c]⟩ : ByteArray).size ≤ 1000000 := by show 3 ≤ _; omega
theorem y4 (a b c d : UInt8) : (⟨#[a, b, c, d]⟩ : ByteArray).size ≤ 1000000 := by show 4 ≤ _; omega
theorem k1 : mayK ⟨#[97]⟩ = true := by decide +kernel
theorem k2 : mayK ⟨#[]⟩ = false := by decide +kernel
theorem k3 : bytesLess (⟨#[97]⟩ : ByteArray).toList (⟨#[98]⟩ : ByteArray).toList = true := by rw [ByteArray.toList_eq, ByteArray.toList_eq]; decide +kernel
theorem k4 : bytesLess (⟨#[97]⟩ : ByteArray).toList (⟨#[97]⟩ : ByteArray).toList = false := by rw [ByteArray.toList_eq]; decide +kernel
theorem k5 : cmpS ⟨#[97, 195, 169]⟩ ⟨#[97, 122]⟩ = 1 := by decide +kernel
theorem k6 : cmpS ⟨#[254]⟩ ⟨#[255]⟩ = 0 := by decide +kernel
theorem k7 : cmpS ⟨#[97]⟩ ⟨#[97, 98]⟩ = -1 := by decide +kernel
theorem k8 : str (foldL (bl ⟨#[97, 66, 90, 195]⟩)) = ⟨#[97, 98, 122, 195]⟩ := by kernel_rfl

set_option maxHeartbeats 1000000 in
set_option maxRecDepth 100000 in
theorem begun_c (w : World) : Calls Try.prog 7 #[] w fun e w' => e = .returned (.bool true) ∧ Below w.heap.size w w' := by
  have C1 := Go.Lib.hid (km_k ⟨#[97]⟩ _ k1 (y1 97))
  have C2 := Go.Lib.hid (km_k ⟨#[]⟩ _ k2 y0)
  have C3 := Go.Lib.hid (kl_k ⟨#[97]⟩ ⟨#[98]⟩ _ k3)
  have C4 := Go.Lib.hid (kl_k ⟨#[97]⟩ ⟨#[97]⟩ _ k4)
  have C5 := Go.Lib.hid (kc_k ⟨#[97, 195, 169]⟩ ⟨#[97, 122]⟩ _ k5 (y3 97 195 169) (y2 97 122))
  have C6 := Go.Lib.hid (kc_k ⟨#[254]⟩ ⟨#[255]⟩ _ k6 (y1 254) (y1 255))
  have C7 := Go.Lib.hid (kc_k ⟨#[97]⟩ ⟨#[97, 98]⟩ _ k7 (y1 97) (y2 97 98))
  have C8 := Go.Lib.hid (kf_k ⟨#[97, 66, 90, 195]⟩ _ k8 (y4 97 66 90 195))
  have hbb := Below.refl w.heap.size w
  go_enter Try.func7, Try.ntmps7
  go_wp2_with fail
  refine (C1.out _).mono ?_
  rintro e w1 ⟨rfl, hc⟩
  have hbb := hbb.trans (hc.mono hbb.size)
  clear hc C1
  go_wp2_with fail
  refine (C2.out _).mono ?_
  rintro e w2 ⟨rfl, hc⟩
  have hbb := hbb.trans (hc.mono hbb.size)
  clear hc C2
  go_wp2_with fail
  refine (C3.out _).mono ?_
  rintro e w3 ⟨rfl, hc⟩
  have hbb := hbb.trans (hc.mono hbb.size)
  clear hc C3
  go_wp2_with fail
  refine (C4.out _).mono ?_
  rintro e w4 ⟨rfl, hc⟩
  have hbb := hbb.trans (hc.mono hbb.size)
  clear hc C4
  go_wp2_with fail
  refine (C5.out _).mono ?_
  rintro e w5 ⟨rfl, hc⟩
  have hbb := hbb.trans (hc.mono hbb.size)
  clear hc C5
  go_wp2_with fail
  refine (C6.out _).mono ?_
  rintro e w6 ⟨rfl, hc⟩
  have hbb := hbb.trans (hc.mono hbb.size)
  clear hc C6
  go_wp2_with fail
  refine (C7.out _).mono ?_
  rintro e w7 ⟨rfl, hc⟩
  have hbb := hbb.trans (hc.mono hbb.size)
  clear hc C7
  go_wp2_with fail
  refine (C8.out _).mono ?_
  rintro e w8 ⟨rfl, hc⟩
  have hbb := hbb.trans (hc.mono hbb.size)
  clear hc C8
  go_wp2_with fail
  go_ret
  exact ⟨rfl, hbb⟩

end Go.Proofs.Ythknafjnmondeaa
