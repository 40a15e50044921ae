/-
  The contract of runes.Count.
-/
import Derived.Test.YtlmfdpdcffnocaaIter
namespace Go.Proofs.Ytlmfdpdcffnocaa
open Go.RowKit

set_option maxRecDepth 100000 in
theorem count_c (s : ByteArray) (w : World) (hm : s.size ≤ 140737488355328) :
    Calls Try.prog 21 #[.string s] w fun e w' => e = .returned (.int .i64 ((toks (bl s)).length : Int)) ∧ Below w.heap.size w w' := by
  have hl1 := toks_length (bl s)
  rw [← bl_size] at hl1
  obtain ⟨T, hT⟩ : ∃ T, T = (toks (bl s)).length := ⟨_, rfl⟩
  rw [← hT] at hl1 ⊢
  have HT := Go.Lib.hid hT; clear hT
  go_enter Try.func21, Try.ntmps21
  go_wp2
  go_loopw [3] (fun u wr => ∃ n : Nat, n ≤ T ∧ u = .int .i64 (n : Int) ∧ wr.heap[w.heap.size]? = some (.stringIter s (posOf (bl s) n)) ∧ Below w.heap.size w wr) (fun u _ => T - (intOf u).toNat)
  case atStart => exact ⟨0, by omega, rfl, World.iter_heap w s 0, (Below.refl _ w).alloc (Nat.le_refl _) _⟩
  case round =>
    obtain ⟨n, hn, rfl, hit, hbw⟩ := hrel
    by_cases hlt : n < T
    · obtain ⟨p1, p2, p3, p4⟩ := next_some s n (by rw [← HT.out]; exact hlt)
      have hnx : ∀ ty, (Instr.next (.pointer (some ⟨w.heap.size, 0, none⟩)) true ty).run Try.prog wr = _ := fun ty => Go.Lib.run_next_any_at wr w.heap.size s _ ty hit p1
      have hit2 := Go.Lib.iterAt_heap wr w.heap.size s _ (posOf (bl s) (n + 1)) hit
      have hbw2 := below_iter hbw (Nat.le_refl _) s (posOf (bl s) (n + 1))
      rw [p3] at hnx
      rw [p2] at hnx
      clear p1 p2 p3 p4
      go_wp2
      go_roundw
      case rel => exact ⟨n + 1, by omega, by go_num, hit2, hbw2⟩
      case measure => simp [intOf]; omega
    · have hend : ¬ posOf (bl s) n < s.size := by
        rw [posOf_all (bl s) n (by rw [← HT.out]; omega), bl_size]
        exact Nat.lt_irrefl _
      have hnx : ∀ ty, (Instr.next (.pointer (some ⟨w.heap.size, 0, none⟩)) true ty).run Try.prog wr = _ := fun ty => Go.Lib.run_next_end_at wr w.heap.size s _ ty hit hend
      obtain rfl : n = T := by omega
      clear hend
      go_wp2
      go_ret
      exact ⟨rfl, hbw⟩

end Go.Proofs.Ytlmfdpdcffnocaa
