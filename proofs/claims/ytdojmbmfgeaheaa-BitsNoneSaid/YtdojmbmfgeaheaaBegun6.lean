/-
  The contract of the laws' begun.
-/
import Derived.Test.YtdojmbmfgeaheaaBitG
namespace Go.Proofs.Ytdojmbmfgeaheaa
open Go.RowKit

def L9 : List Bool := [true] ++ numB 5 8
theorem L9_def : [true] ++ numB 5 8 = L9 := rfl
theorem L9_len : L9.length = 9 := by decide +kernel
theorem L9_pack : pack L9 = [130, 128] := by decide +kernel
theorem L9_num : val ((L9.drop 1).take 8) = 5 := by decide +kernel
theorem L9_at0 : atB L9 0 = true := by decide +kernel
theorem L9_at9 : atB L9 9 = false := by decide +kernel
theorem ok_982 : okP [130, 128] 9 := by
  refine ⟨by omega, rfl, fun i h1 h2 => ?_⟩
  have h3 : i < 16 := h2
  have h4 : 9 ≤ i := h1
  have : i = 9 ∨ i = 10 ∨ i = 11 ∨ i = 12 ∨ i = 13 ∨ i = 14 ∨ i = 15 := by omega
  rcases this with rfl | rfl | rfl | rfl | rfl | rfl | rfl <;> decide +kernel
theorem no_255 : ¬ okP [255] 7 := fun h => by
  have := h.2.2 7 (by decide) (by decide)
  revert this
  decide +kernel

/-- A *bits.Bits through a call that is below all. -/
theorem BB.later {w w' : World} {B b : Nat} {v : Value} {p : List UInt8} {n B' : Nat} (h : BB w B b v p n) (hb : Below B' w w') (hB : w.heap.size ≤ B') : BB w' B b v p n := h.below (hb.mono hB)

set_option maxHeartbeats 2000000 in
set_option maxRecDepth 100000 in
theorem begun_c (w : World) : Calls Try.prog 6 #[] w fun e w' => e = .returned (.bool true) ∧ Below w.heap.size w w' := by
  have hn := BT.new w
  have hb0 : Below w.heap.size w (w.alloc (.cells #[.slice none 0 0, .int .i64 0] 35)) := (Below.refl _ _).alloc (Nat.le_refl _) _
  have h8 := Go.Lib.hid L9_len
  have hk := Go.Lib.hid L9_pack
  have hv := Go.Lib.hid L9_num
  have ha0 := Go.Lib.hid L9_at0
  have ha9 := Go.Lib.hid L9_at9
  have Hn := Go.Lib.hid hn
  clear hn
  go_enter Try.func6, Try.ntmps6
  go_wp2_with fail
  refine (put_c true _ _ _ _ _ Hn.out (by decide)).mono ?_
  rintro e w1 ⟨rfl, v1, h1, k1, -⟩
  have hb1 := hb0.trans (k1.below (Nat.le_refl _) (fun k hk => by cases hk) hb0.size)
  have H1 := Go.Lib.hid h1
  clear h1 k1 hb0
  go_wp2_with fail
  refine (putNum_c 5 8 _ _ _ _ _ H1.out (by decide) (by decide)).mono ?_
  rintro e w2 ⟨rfl, v2, h2, k2, -⟩
  have hb2 := hb1.trans (k2.below (Nat.le_refl _) H1.out.rows hb1.size)
  rw [List.nil_append, L9_def] at h2
  have H2 := Go.Lib.hid h2
  clear h2 k2 hb1 H1
  generalize L9 = L at *
  go_wp2_with fail
  refine (num_c 1 8 _ _ _ _ _ H2.out (by rw [h8.out]; decide) (by decide) (by rw [h8.out]; decide)).mono ?_
  rintro e w3 ⟨rfl, k3⟩
  have hb3 := hb2.trans (k3.mono hb2.size)
  have H3 := Go.Lib.hid (H2.out.below k3)
  clear k3 hb2 H2
  rw [hv.out]
  go_wp2_with fail
  refine (num_no 2 8 _ _ _ _ _ H3.out (by rw [h8.out]; decide) (by rw [h8.out]; omega)).mono ?_
  rintro e w4 ⟨rfl, rfl⟩
  go_wp2_with fail
  refine (bytes_c _ _ _ _ _ _ H3.out (by rw [hk.out]; decide)).mono ?_
  rintro e w4 ⟨v4, rfl, o4, k4⟩
  have hb4 := hb3.trans (k4.mono hb3.size)
  have H4 := Go.Lib.hid (H3.out.below k4)
  rw [hk.out] at o4
  have hr4 := o4.rb
  obtain ⟨a4, c4, rfl, hlc4, hcm4, -⟩ := id hr4
  have hr4' := Go.Lib.hid hr4
  clear k4 hb3 H3 o4 hr4 hcm4 hlc4
  go_wp2_with fail
  refine (bof_yes _ 9 _ _ hr4'.out (by decide) ok_982).mono ?_
  rintro e w5 ⟨b5, v5, rfl, h5, k5⟩
  have hb5 := hb4.trans (k5.mono hb4.size)
  have H5 := Go.Lib.hid (H4.out.below k5)
  have hr5 := Go.Lib.hid (hr4'.out.below k5)
  have H5' := Go.Lib.hid h5
  clear h5 k5 hb4 H4 hr4'
  go_wp2_with fail
  have kA : Below w5.heap.size w5 (w5.alloc (.cells #[.int .u8 255] 5)) := (Below.refl _ _).alloc (Nat.le_refl _) _
  have hb6 := hb5.trans (kA.mono hb5.size)
  have H6 := Go.Lib.hid (H5.out.below kA)
  have hr6 := Go.Lib.hid (hr5.out.below kA)
  have H6' := Go.Lib.hid (H5'.out.below kA)
  refine (bof_no _ 7 _ _ (RB.one w5 5 255 255 rfl) (by decide) no_255).mono ?_
  rintro e w6 ⟨rfl, rfl⟩
  clear kA hb5 H5 hr5 H5'
  generalize w5.alloc (.cells #[.int .u8 255] 5) = w6 at *
  generalize w5.heap.size = b6 at *
  have H6l := H6.out
  rw [h8.out] at H6l
  have H6L := Go.Lib.hid H6l; clear H6l
  go_wp2_with fail
  refine (len_c _ _ _ _ _ _ H6L.out).mono ?_
  rintro e w7 ⟨rfl, rfl⟩
  go_wp2_with fail
  refine (at_c 0 _ _ _ _ _ H6.out (by rw [h8.out]; decide)).mono ?_
  rintro e w7 ⟨rfl, k7⟩
  have hb7 := hb6.trans (k7.mono hb6.size)
  have H7 := Go.Lib.hid (H6.out.below k7)
  have hr7 := Go.Lib.hid (hr6.out.below k7)
  have H7' := Go.Lib.hid (H6'.out.below k7)
  clear k7 hb6 H6 hr6 H6' H6L
  rw [ha0.out]
  go_wp2_with fail
  refine (at_c 9 _ _ _ _ _ H7.out (by rw [h8.out]; decide)).mono ?_
  rintro e w8 ⟨rfl, k8⟩
  have hb8 := hb7.trans (k8.mono hb7.size)
  have hr8 := hr7.out.below k8
  have H8' := H7'.out.below k8
  clear k8 hb7 H7 hr7 H7'
  rw [ha9.out]
  obtain ⟨b, o, rfl, c0, -⟩ := hr8.at 0 (by decide)
  obtain ⟨b', o', hbo, c1, -⟩ := hr8.at 1 (by decide)
  cases hbo
  rw [(okP_pack ok_982).1, (okP_pack ok_982).2] at H8'
  have H9 := Go.Lib.hid H8'
  have e0 : ([130, 128] : List UInt8)[0].toNat = 130 := rfl
  have e1 : ([130, 128] : List UInt8)[1].toNat = 128 := rfl
  rw [e0, Nat.add_zero] at c0
  rw [e1] at c1
  clear hr8 H8' e0 e1
  go_wp2_with fail
  refine (len_c _ _ _ _ _ _ H9.out).mono ?_
  rintro e w9 ⟨rfl, rfl⟩
  go_wp2_with fail
  go_ret
  exact ⟨rfl, hb8⟩

end Go.Proofs.Ytdojmbmfgeaheaa
