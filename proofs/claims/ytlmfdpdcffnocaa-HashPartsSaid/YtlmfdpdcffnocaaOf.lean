/-
  The contract of runes.Of.
-/
import Derived.Test.YtlmfdpdcffnocaaCount
import Derived.Test.YtlmfdpdcffnocaaInfo
namespace Go.Proofs.Ytlmfdpdcffnocaa
open Go.RowKit

set_option maxRecDepth 100000 in
theorem of_c (s : ByteArray) (w : World) (hm : s.size ≤ 1000000000) :
    Calls Try.prog 19 #[.string s] w fun e w' => ∃ v, e = .returned v ∧ OwnV 21 w' w.heap.size v (zi .i32 (runesOf (toks (bl s)))) ∧ Below w.heap.size w w' := by
  have hl1 := toks_length (bl s)
  rw [← bl_size] at hl1
  have C := Go.Lib.hid (count_c s w (by omega))
  obtain ⟨T, hT⟩ : ∃ T, T = (toks (bl s)).length := ⟨_, rfl⟩
  rw [← hT] at hl1 C
  have HT := Go.Lib.hid hT; clear hT
  go_enter Try.func19, Try.ntmps19
  go_wp2_with (first
    | (refine C.out.mono ?_; rintro e w1 ⟨rfl, hb1⟩)
    | (with_reducible show wpList _ _ _ (⟨some 8, _, _, _, _, _⟩ :: _) _ _; go_loud (refine wpList_make_none rfl (.const (.int .i64 0)) (.tmp 7) 37 rfl 21 Try.underlying37 (.int .i32 0) 4 info32 .i64 .i64 _ T rfl rfl rfl (by omega) (by omega) ?_); intro v2 w2 hown2 hg2; have hb2 := hb1.grown hg2 hb1.size (by simp))
    | fail)
  go_loopw [3] (fun u wr => ∃ (n : Nat) (v : Value), v = u ∧ n ≤ T ∧ OwnV 21 wr w.heap.size v (zi .i32 ((runesOf (toks (bl s))).take n)) ∧ wr.heap[w2.heap.size]? = some (.stringIter s (posOf (bl s) n)) ∧ Below w.heap.size w wr) (fun _ wr => s.size - wr.iterPos w2.heap.size)
  case atStart => exact ⟨0, _, rfl, by omega, (hown2.mono hb1.size).alloc _, World.iter_heap w2 s 0, hb2.alloc hb2.size _⟩
  case round =>
    obtain ⟨n, v, rfl, hn, hown, hit, hbw⟩ := hrel
    by_cases hlt : n < T
    · have hT' : n < (toks (bl s)).length := by rw [← HT.out]; exact hlt
      obtain ⟨p1, p2, p3, p4⟩ := next_some s n hT'
      have hnx : ∀ ty, (Instr.next (.pointer (some ⟨w2.heap.size, 0, none⟩)) true ty).run Try.prog wr = _ := fun ty => Go.Lib.run_next_any_at wr w2.heap.size s _ ty hit p1
      rw [p3] at hnx
      rw [p2] at hnx
      rw [← p4] at hnx
      have hit2 := Go.Lib.iterAt_heap wr w2.heap.size s _ (posOf (bl s) (n + 1)) hit
      have hbw2 := below_iter hbw hb2.size s (posOf (bl s) (n + 1))
      have hown2 := hown.other (w' := wr.iterAt w2.heap.size s (posOf (bl s) (n + 1))) w2.heap.size _ hit (fun _ _ _ h => by cases h) (fun j hj => Go.Lib.iterAt_other wr w2.heap.size j s _ hj)
      have hmore := Go.Lib.hid (zi_more .i32 (toks (bl s)) n hT')
      have hmeas : Hid (s.size - posOf (bl s) (n + 1) < s.size - wr.iterPos w2.heap.size) := by
        have := posOf_lt_succ (bl s) n hT'
        simp only [Hid, World.iterPos, hit]
        omega
      have hnl : ((runesOf (toks (bl s))).take n).length = n := by rw [List.length_take, runesOf_length]; omega
      have Hnl := Go.Lib.hid hnl; clear hnl
      clear p1 p2 p3 p4 hit hbw hown
      generalize (toks (bl s))[n].1 = r at hnx hmore
      generalize wr.iterAt w2.heap.size s (posOf (bl s) (n + 1)) = wi at hnx hit2 hbw2 hown2
      have hown3 := hown2.alloc (.cells #[.int .i32 (r : Int)] 21)
      have hrv := RV.one wi 21 (.int .i32 (r : Int))
      have hbw3 := hbw2.alloc hbw2.size (.cells #[.int .i32 (r : Int)] 21)
      have hit3 := iter_alloc hit2 (.cells #[.int .i32 (r : Int)] 21)
      have hone : ∀ u ∈ [Value.int .i32 (r : Int)], u.oneCell' = true := by intro u hu; obtain rfl := List.mem_singleton.1 hu; rfl
      have hln1 : ((zi .i32 ((runesOf (toks (bl s))).take n)).length + [Value.int .i32 (r : Int)].length) * 4 ≤ 140737488355328 := by rw [zi_length, Hnl.out]; simp only [List.length_cons, List.length_nil]; omega
      have hln2 : (zi .i32 ((runesOf (toks (bl s))).take n)).length + [Value.int .i32 (r : Int)].length ≤ 140737488355328 := by omega
      go_wp2_with (first
        | (with_reducible show wpList _ _ _ (⟨some 17, _, _, _, _, _⟩ :: _) _ _; refine wpList_append_RV rfl (.tmp 14) (.tmp 16) 37 rfl w.heap.size 21 Try.underlying37 (.int .i32 0) 4 rfl info32 v (.slice (some ⟨wi.heap.size, 0, none⟩) 1 1) (zi .i32 ((runesOf (toks (bl s))).take n)) [.int .i32 (r : Int)] rfl rfl hown3 hrv hone hln1 hln2 hbw3.size ?_; intro v4 w4 hown4 hg4; have hb4 := hbw3.grown hg4 hbw3.size hown2.row; have hit4 := iter_kept hit3 hown3 hg4)
        | fail)
      go_roundw
      case rel => exact ⟨n + 1, _, rfl, by omega, by rw [← hmore.out]; exact hown4, hit4, hb4⟩
      case measure => simp only [World.iterPos, hit4]; exact hmeas.out
    · have hend : ¬ posOf (bl s) n < s.size := by
        rw [posOf_all (bl s) n (by rw [← HT.out]; omega), bl_size]
        exact Nat.lt_irrefl _
      have hnx : ∀ ty, (Instr.next (.pointer (some ⟨w2.heap.size, 0, none⟩)) true ty).run Try.prog wr = _ := fun ty => Go.Lib.run_next_end_at wr w2.heap.size s _ ty hit hend
      clear hend
      rw [List.take_of_length_le (by rw [runesOf_length, ← HT.out]; omega)] at hown
      go_wp2
      go_ret
      exact ⟨_, rfl, hown, hbw⟩

end Go.Proofs.Ytlmfdpdcffnocaa
