/-
  The laws' Of (bits of a list).
-/
import Derived.Test.YtmphcpggfgehhaaBitF
import Derived.Test.YtmphcpggfgehhaaBools
import Derived.Test.YtmphcpggfgehhaaDraw
import Derived.Deep.DeepCutAuto
namespace Go.Proofs.Ytmphcpggfgehhaa
open Go.RowKit

set_option maxHeartbeats 400000 in
set_option maxRecDepth 100000 in
/-- Bits of a list. -/
theorem bof6_c (v : Value) (l : List Bool) (w : World) (h : RV w v (zb l)) (hl : l.length ≤ 1000000) :
    Calls Try.prog 16 #[v] w fun e w' => ∃ u, e = .returned (.pointer (some ⟨w.heap.size, 0, none⟩)) ∧ BT w' w.heap.size w.heap.size u l ∧ Below w.heap.size w w' := by
  obtain ⟨ad, cap, rfl, -, -⟩ := h.zbForm
  have H := Go.Lib.hid h
  have hn := Go.Lib.hid (BT.new w)
  have hb0 : Below w.heap.size w (w.alloc (.cells #[.slice none 0 0, .int .i64 0] 48)) := (Below.refl _ _).alloc (Nat.le_refl _) _
  clear h
  go_enter Try.func16, Try.ntmps16
  go_wp2_with fail
  go_loopw [4] (fun i wr => ∃ (k : Nat) (u : Value), k ≤ l.length ∧ i = .int .i64 (k : Int) ∧ BT wr w.heap.size w.heap.size u (l.take k) ∧ Below w.heap.size w wr) (fun i _ => l.length - (intOf i).toNat)
  case atStart => exact ⟨0, _, by omega, rfl, hn.out, hb0⟩
  case round =>
    obtain ⟨k, u, hk, rfl, hbt, hb⟩ := hrel
    clear hn hb0
    by_cases hlt : k < l.length
    · obtain ⟨b, o, rfl, hc, hbl⟩ := H.out.zbAt k hlt
      have hd := (hb.cell (p := ⟨b, o + k, none⟩) hbl).trans hc
      have C := bitput_c l[k] wr _ _ _ _ hbt (by rw [List.length_take]; omega)
      rw [← List.take_succ_eq_append_getElem hlt] at C
      generalize l[k] = t at *
      have C := Go.Lib.hid C
      have hrows := Go.Lib.hid hbt.rows
      clear hc hbt
      go_wp2_with fail
      refine C.out.mono ?_
      rintro e w2 ⟨rfl, v2, h2, k2, -⟩
      have hb2 := hb.trans (k2.below (Nat.le_refl _) hrows.out hb.size)
      have H2 := Go.Lib.hid h2
      clear h2 k2 C hd hb hrows
      go_wp2_with fail
      go_roundw
      case rel => exact ⟨k + 1, v2, by omega, by go_num, H2.out, hb2⟩
      case measure => simp only [intOf]; omega
    · obtain rfl : k = l.length := by omega
      rw [List.take_length] at hbt
      have Hbt := Go.Lib.hid hbt
      clear hbt
      go_wp2_with fail
      go_ret
      exact ⟨u, rfl, Hbt.out, hb⟩

end Go.Proofs.Ytmphcpggfgehhaa
