/-
  The contract of the laws' begun.
-/
import Derived.Test.YtoaiogfeffnlcaaBatD
import Derived.Test.YtoaiogfeffnlcaaBatE
namespace Go.Proofs.Ytoaiogfeffnlcaa
open Go.RowKit
open Go.Lib (uvarint zigzag)

def b16 : RecT := (⟨#[98]⟩, true, 0, 0, ⟨#[]⟩)
def a16 : RecT := (⟨#[97]⟩, false, 2, 0, ⟨#[120]⟩)
theorem m16 : mayRow [b16, a16] = true := by decide +kernel
theorem m16n : mayRow [] = true := rfl
theorem ok16 : ∀ x ∈ [b16, a16], RecOk x := by
  intro x hx
  simp only [List.mem_cons, List.not_mem_nil, or_false] at hx
  rcases hx with rfl | rfl <;> exact ⟨by decide, by decide, by decide, by decide⟩
theorem okn (l : List RecT) (h : l = []) : ∀ x ∈ l, RecOk x := by subst h; intro x hx; cases hx
theorem rowD_nil : rowD [] = none := by unfold rowD; rw [if_pos (.inl (by decide))]
theorem rowE_of {l : List RecT} (h : mayRow l = true) : rowE l = rowB l := by unfold rowE; rw [h]; rfl
theorem rowE_no {l : List RecT} (h : mayRow l = false) : rowE l = [] := by unfold rowE; rw [h]; rfl
theorem rowE_nil : rowE [] = [0] := by
  rw [rowE_of m16n]
  unfold rowB
  rw [show zigzag ((([] : List RecT).length : Nat) : Int) = 0 by simp [zigzag], Go.Lib.uvarint_small (by omega)]
  rfl
theorem rs2 (w : World) : RS (w.alloc (.cells #[.string ⟨#[98]⟩, .bool true, .int .i64 0, .int .i64 0, .string ⟨#[]⟩, .string ⟨#[97]⟩, .bool false, .int .i64 2, .int .i64 0, .string ⟨#[120]⟩] 38)) (.slice (some ⟨w.heap.size, 0, none⟩) 2 2) [b16, a16] := by
  refine ⟨some ⟨w.heap.size, 0, none⟩, 2, rfl, Nat.le_refl _, by simp [maxLen], (fun h => by cases h), fun _ => ⟨w.heap.size, 0, rfl, fun i hi => ?_⟩⟩
  have c := fun j => cell_of_row _ w.heap.size j _ _ _ (heap_alloc_new w (.cells #[.string ⟨#[98]⟩, .bool true, .int .i64 0, .int .i64 0, .string ⟨#[]⟩, .string ⟨#[97]⟩, .bool false, .int .i64 2, .int .i64 0, .string ⟨#[120]⟩] 38))
  match i, hi with
  | 0, _ => exact ⟨c 0, c 1, c 2, c 3, c 4⟩
  | 1, _ => exact ⟨c 5, c 6, c 7, c 8, c 9⟩
  | i + 2, hi => exact absurd (show i + 2 < 2 from hi) (by omega)
abbrev q16 : Obj := .cells #[.string ⟨#[98]⟩, .bool true, .int .i64 0, .int .i64 0, .string ⟨#[]⟩, .string ⟨#[97]⟩, .bool false, .int .i64 2, .int .i64 0, .string ⟨#[120]⟩] 38

/-- What the laws ask of the two records. -/
theorem bencode_ok {v : Value} {l : List RecT} {w : World} (hv : RS w v l) (hok : ∀ x ∈ l, RecOk x) {b : List UInt8} (hb : rowE l = b) :
    Calls Try.prog 9 #[v] w fun e w' => ∃ v', e = .returned v' ∧ Own 5 w' w.heap.size v' b ∧ Below w.heap.size w w' := by
  subst hb; exact bencode_c v l w hv hok
theorem bmay_ok {v : Value} {l : List RecT} {w : World} (hv : RS w v l) (hok : ∀ x ∈ l, RecOk x) {t : Bool} (ht : mayRow l = t) :
    Calls Try.prog 10 #[v] w fun e w' => e = .returned (.bool t) ∧ Below w.heap.size w w' := by
  subst ht; exact bmay_c v l w hv hok
theorem beq_ok {u v : Value} {l m : List RecT} {w : World} (hu : RS w u l) (hv : RS w v m) {t : Bool} (ht : decide (l = m) = t) :
    Calls Try.prog 13 #[u, v] w fun e w' => e = .returned (.bool t) ∧ Below w.heap.size w w' := by
  subst ht; exact beq_c u v l m w hu hv

set_option maxHeartbeats 1000000 in
set_option maxRecDepth 100000 in
theorem begun_c (w : World) : Calls Try.prog 7 #[] w fun e w' => e = .returned (.bool true) ∧ Below w.heap.size w w' := by
  have HB0 := Go.Lib.hid (below_one w q16)
  have HR0 := Go.Lib.hid (rs2 w)
  generalize hL : [b16, a16] = L at *
  have hm : mayRow L = true := by rw [← hL]; exact m16
  have hok : ∀ x ∈ L, RecOk x := by rw [← hL]; exact ok16
  have he : rowE L = rowB L := rowE_of hm
  have hd : rowD (rowB L) = some L := rowD_put hm hok
  have hn : decide (L = []) = false := by rw [← hL]; exact decide_eq_false (by simp)
  generalize rowB L = P at *
  have HM := Go.Lib.hid hm
  have HOK := Go.Lib.hid hok
  have HE := Go.Lib.hid he
  have HD := Go.Lib.hid hd
  have HN := Go.Lib.hid hn
  clear hL hm hok he hd hn
  go_enter Try.func7, Try.ntmps7
  go_wp2_with fail
  refine (bencode_ok HR0.out HOK.out HE.out).mono ?_
  rintro e w1 ⟨v1, rfl, hown1, hc⟩
  have HRB := Go.Lib.hid hown1.rb
  have HR1 := Go.Lib.hid (HR0.out.below hc)
  have HB1 := Go.Lib.hid (below_to HB0.out (Nat.le_refl _) hc)
  clear hown1 hc HR0 HB0
  go_wp2_with fail
  refine (bdecode_c HRB.out HD.out).mono ?_
  rintro e w2 ⟨v2, rfl, hown2, hc⟩
  have HM2 := Go.Lib.hid hown2.rs
  have HR2 := Go.Lib.hid (HR1.out.below hc)
  have HB2 := Go.Lib.hid (below_to HB1.out (Nat.le_refl _) hc)
  clear hown2 hc HR1 HB1 HRB
  go_wp2_with fail
  refine (bdecode_no (RB.nil _) rowD_nil).mono ?_
  rintro e w3 ⟨rfl, hc⟩
  have HM3 := Go.Lib.hid (HM2.out.below hc)
  have HR3 := Go.Lib.hid (HR2.out.below hc)
  have HB3 := Go.Lib.hid (below_to HB2.out (Nat.le_refl _) hc)
  clear hc HM2 HR2 HB2
  go_wp2_with fail
  refine (bmay_ok HR3.out HOK.out HM.out).mono ?_
  rintro e w4 ⟨rfl, hc⟩
  have HM4 := Go.Lib.hid (HM3.out.below hc)
  have HR4 := Go.Lib.hid (HR3.out.below hc)
  have HB4 := Go.Lib.hid (below_to HB3.out (Nat.le_refl _) hc)
  clear hc HM3 HR3 HB3
  go_wp2_with fail
  refine (bmay_ok (RS.nil _) (okn _ rfl) m16n).mono ?_
  rintro e w5 ⟨rfl, hc⟩
  have HM5 := Go.Lib.hid (HM4.out.below hc)
  have HR5 := Go.Lib.hid (HR4.out.below hc)
  have HB5 := Go.Lib.hid (below_to HB4.out (Nat.le_refl _) hc)
  clear hc HM4 HR4 HB4
  go_wp2_with fail
  refine (beq_ok HR5.out HM5.out (decide_eq_true rfl)).mono ?_
  rintro e w6 ⟨rfl, hc⟩
  have HR6 := Go.Lib.hid (HR5.out.below hc)
  have HB6 := Go.Lib.hid (below_to HB5.out (Nat.le_refl _) hc)
  clear hc HM5 HR5 HB5
  go_wp2_with fail
  refine (beq_ok HR6.out (RS.nil _) HN.out).mono ?_
  rintro e w7 ⟨rfl, hc⟩
  have HB7 := Go.Lib.hid (below_to HB6.out (Nat.le_refl _) hc)
  clear hc HR6 HB6
  go_wp2_with fail
  refine (bencode_ok (RS.nil _) (okn _ rfl) rowE_nil).mono ?_
  rintro e w8 ⟨v8, rfl, hown8, hc⟩
  have HB8 := Go.Lib.hid (below_to HB7.out (Nat.le_refl _) hc)
  obtain ⟨a8, c8, rfl, -⟩ := hown8.rb
  clear hc HB7 hown8
  go_wp2_with fail
  go_ret
  exact ⟨rfl, HB8.out⟩

end Go.Proofs.Ytoaiogfeffnlcaa
