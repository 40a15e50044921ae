/-
  The contract of the laws' begun.
-/
import Derived.Test.YteickihofbkbkaaEntT
import Derived.Test.YteickihofbkbkaaEntF
namespace Go.Proofs.Yteickihofbkbkaa
open Go.RowKit

theorem may_one {x : EntT} (h : mayE x) : MayL [x] := ⟨by simp, fun i hi => by
  obtain rfl : i = 0 := by simpa using hi
  exact ⟨by simp, h, fun h => absurd h (by omega)⟩⟩
theorem may_nil : MayL [] := ⟨by simp, fun i hi => absurd hi (by simp)⟩
def x14 : EntT := (⟨#[97]⟩, 65, 9, 2)
theorem may_x14 : MayL [x14] := may_one (by decide +kernel)
theorem decB_nil : decB [] = none := by
  have h : numR (([] : List UInt8), false) = (0, [], true) := by unfold numR getB getS; rfl
  unfold decB hdN hdS
  rw [h]
  simp [seqR]
theorem lstB_nil : (lstB []).length = 1 := by
  show (numP 0 ++ []).length = 1
  rw [List.append_nil]
  unfold numP
  rw [Go.Lib.uvarint_small (by decide)]
  rfl
theorem find_a : findE [x14] ⟨#[97]⟩ = 0 := by
  have := findE_of may_x14 (k := 0) (by simp)
  exact this
theorem find_b : findE [x14] ⟨#[98]⟩ = -1 := findE_none fun j hj => by
  obtain rfl : j = 0 := by simpa using hj
  show (⟨#[97]⟩ : ByteArray) ≠ ⟨#[98]⟩
  decide

theorem enc_nil (w : World) : Calls Try.prog 10 #[.slice none 0 0] w fun e w' => ∃ a c, e = .returned (.slice a 1 c) ∧ Below w.heap.size w w' :=
  (encode_c _ [] w (RE.nil w) (mayL_iff.2 may_nil)).mono fun e w' ⟨v, he, ho, hb⟩ => by
    obtain ⟨g, c, rfl, -⟩ := ho.form (by rw [lstB_nil]; omega)
    rw [lstB_nil] at he
    exact ⟨_, _, he, hb⟩

set_option maxHeartbeats 1000000 in
set_option maxRecDepth 100000 in
theorem begun_c (w : World) : Calls Try.prog 7 #[] w fun e w' => e = .returned (.bool true) ∧ Below w.heap.size w w' := by
  have hone := RE.one w ⟨#[97]⟩ 65 9 2
  have hb0 := newB w (entO ⟨#[97]⟩ 65 9 2)
  have HL := Go.Lib.hid hone
  have HB0 := Go.Lib.hid hb0
  have hm : mayL [x14] = true := mayL_iff.2 may_x14
  have C1 := Go.Lib.hid (encode_c _ [x14] _ hone hm)
  have C2 := Go.Lib.hid (fun v W (h : RB W v (lstB [x14])) => decode_c h (decB_put may_x14))
  have C3 := Go.Lib.hid (fun W => decode_no (RB.nil W) decB_nil)
  have C4 := Go.Lib.hid (fun v W (h : RE W v [x14]) => by have := may_c v [x14] W h; rw [hm] at this; exact this)
  have C5 := Go.Lib.hid (fun W => by have := may_c (.slice none 0 0) [] W (RE.nil W); rw [mayL_iff.2 may_nil] at this; exact this)
  have C6 := Go.Lib.hid (fun u v W (hu : RE W u [x14]) (hv : RE W v [x14]) => by have := eq_c u v [x14] [x14] W hu hv; rw [decide_eq_true rfl] at this; exact this)
  have C7 := Go.Lib.hid (fun v W (h : RE W v [x14]) => by have := find_c v [x14] ⟨#[97]⟩ W h; rw [find_a] at this; exact this)
  have C8 := Go.Lib.hid (fun v W (h : RE W v [x14]) => by have := find_c v [x14] ⟨#[98]⟩ W h; rw [find_b] at this; exact this)
  have HL : Hid (RE (w.alloc (entO ⟨#[97]⟩ 65 9 2)) (.slice (some ⟨w.heap.size, 0, none⟩) 1 1) [x14]) := HL
  unfold entO at HL HB0 C1
  clear hone hb0 hm
  generalize [x14] = L at *
  go_enter Try.func7, Try.ntmps7
  go_wp2_with fail
  refine C1.out.mono ?_
  rintro e w1 ⟨v1, rfl, hown1, hc⟩
  have HL1 := Go.Lib.hid (HL.out.below hc)
  have HB1 := Go.Lib.hid (below_to HB0.out (Nat.le_refl _) hc)
  have HR1 := Go.Lib.hid hown1.rb
  clear hown1 hc HL HB0 C1
  go_wp2_with fail
  refine (C2.out _ _ HR1.out).mono ?_
  rintro e w2 ⟨v2, rfl, hown2, hc⟩
  have HL2 := Go.Lib.hid (HL1.out.below hc)
  have HB2 := Go.Lib.hid (below_to HB1.out (Nat.le_refl _) hc)
  have HM2 := Go.Lib.hid hown2.re
  clear hown2 hc HL1 HB1 HR1 C2
  go_wp2_with fail
  refine (C3.out _).mono ?_
  rintro e w3 ⟨rfl, hc⟩
  have HL3 := Go.Lib.hid (HL2.out.below hc)
  have HB3 := Go.Lib.hid (below_to HB2.out (Nat.le_refl _) hc)
  have HM3 := Go.Lib.hid (HM2.out.below hc)
  clear hc HL2 HB2 HM2 C3
  go_wp2_with fail
  refine (C4.out _ _ HL3.out).mono ?_
  rintro e w4 ⟨rfl, hc⟩
  have HL4 := Go.Lib.hid (HL3.out.below hc)
  have HB4 := Go.Lib.hid (below_to HB3.out (Nat.le_refl _) hc)
  have HM4 := Go.Lib.hid (HM3.out.below hc)
  clear hc HL3 HB3 HM3 C4
  go_wp2_with fail
  refine (C5.out _).mono ?_
  rintro e w5 ⟨rfl, hc⟩
  have HL5 := Go.Lib.hid (HL4.out.below hc)
  have HB5 := Go.Lib.hid (below_to HB4.out (Nat.le_refl _) hc)
  have HM5 := Go.Lib.hid (HM4.out.below hc)
  clear hc HL4 HB4 HM4 C5
  go_wp2_with fail
  refine (C6.out _ _ _ HL5.out HM5.out).mono ?_
  rintro e w6 ⟨rfl, hc⟩
  have HL6 := Go.Lib.hid (HL5.out.below hc)
  have HB6 := Go.Lib.hid (below_to HB5.out (Nat.le_refl _) hc)
  clear hc HL5 HB5 HM5 C6
  go_wp2_with fail
  refine (C7.out _ _ HL6.out).mono ?_
  rintro e w7 ⟨rfl, hc⟩
  have HL7 := Go.Lib.hid (HL6.out.below hc)
  have HB7 := Go.Lib.hid (below_to HB6.out (Nat.le_refl _) hc)
  clear hc HL6 HB6 C7
  go_wp2_with fail
  refine (C8.out _ _ HL7.out).mono ?_
  rintro e w8 ⟨rfl, hc⟩
  have HB8 := Go.Lib.hid (below_to HB7.out (Nat.le_refl _) hc)
  clear hc HL7 HB7 C8
  go_wp2_with fail
  refine (enc_nil _).mono ?_
  rintro e w9 ⟨a9, c9, rfl, hc⟩
  have HB9 := Go.Lib.hid (below_to HB8.out (Nat.le_refl _) hc)
  clear hc HB8
  go_wp2_with fail
  go_ret
  exact ⟨rfl, HB9.out⟩

end Go.Proofs.Yteickihofbkbkaa
