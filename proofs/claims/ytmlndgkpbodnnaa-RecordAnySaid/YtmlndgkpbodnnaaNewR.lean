/-
  Slices of records: contract of the reference's Newest.
-/
import Derived.Test.YtmlndgkpbodnnaaNewM
namespace Go.Proofs.Ytmlndgkpbodnnaa
open Go.RowKit Go.Op

set_option maxHeartbeats 2000000 in
set_option maxRecDepth 100000 in
theorem rnewest_c (v : Value) (l : List RecT) (w : World) (hv : RS w v l) (hl : l.length ≤ 1000) :
    Calls Try.prog 22 #[v] w fun e w' => ∃ v', e = .returned v' ∧ OwnRec w' w.heap.size v' (newestR l) ∧ Below w.heap.size w w' := by
  obtain ⟨a, cap, rfl, hm⟩ := hv.form
  have HR := Go.Lib.hid hv; clear hv
  go_enter Try.func22, Try.ntmps22
  go_wp2_with fail
  go_loopw [3, 4] (fun vb i w2 => ∃ k : Nat, k ≤ l.length ∧ i = .int .i64 (k : Int) ∧ OwnRec w2 w.heap.size vb (newestR (l.take k)) ∧ Below w.heap.size w w2) (fun _ i _ => l.length - (intOf i).toNat)
  case atStart => exact ⟨0, by omega, rfl, by simpa [newestR, newestK] using OwnRec.nil _ _, Below.refl _ _⟩
  case round =>
    obtain ⟨k, hk, rfl, hown, hbc⟩ := hrel
    by_cases hlt : k < l.length
    · obtain ⟨b, o, rfl, -, hbs, c0, c1, c2, c3, c4⟩ := (HR.out.below hbc).at k hlt
      have Hst := newestR_step l k hlt
      have hln : (newestR (l.take k)).length ≤ 1000 := by have := newestR_len (l.take k); rw [List.length_take] at this; omega
      have C1 := Go.Lib.hid fun W (h : RS W u3 (newestR (l.take k))) => rset_c u3 (newestR (l.take k)) l[k].1 l[k].2.1 l[k].2.2.1 l[k].2.2.2.1 l[k].2.2.2.2 W h hln
      generalize hn : newestR (l.take k) = m at *
      generalize hx : l[k] = x at *
      obtain ⟨kx, gx, ax, nx, sx⟩ := x
      simp only [] at c0 c1 c2 c3 c4 C1
      rw [Hst] at C1
      unfold recV at C1
      generalize hn2 : newestR (l.take (k + 1)) = m2 at *
      have Hn2 := Go.Lib.hid hn2; clear hn2 hn Hst hx hln
      have hix := run_idx5 b o l.length cap k hlt
      go_wp2_with fail
      refine (C1.out _ hown.rs).mono ?_
      rintro e w2 ⟨v2, rfl, hown2, hc⟩
      have hbc2 := hbc.trans (hc.mono hbc.size)
      have hown3 := hown2.mono hbc.size
      clear hc hown hown2 c0 c1 c2 c3 c4 C1
      rw [← Hn2.out] at hown3
      go_wp2_with fail
      exact ⟨⟨k + 1, by omega, by go_num, hown3, hbc2⟩, by simp only [intOf]; omega⟩
    · obtain rfl : k = l.length := by omega
      rw [List.take_of_length_le (Nat.le_refl _)] at hown
      go_wp2_with fail
      go_ret
      exact ⟨_, rfl, hown, hbc⟩

end Go.Proofs.Ytmlndgkpbodnnaa
