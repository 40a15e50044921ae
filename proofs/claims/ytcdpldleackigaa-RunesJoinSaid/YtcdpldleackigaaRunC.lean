/-
  The contracts of the calls of package runes, of the reference's, and of the laws' Cut.
-/
import Derived.Test.YtcdpldleackigaaRunE
import Derived.Test.YtcdpldleackigaaClone
import Derived.Test.YtcdpldleackigaaVals
import Derived.LoopTactic
import Derived.Lib.OthersKept
namespace Go.Proofs.Ytcdpldleackigaa
open Go.RowKit

/-- An iterator of its own, of which nothing lies below. -/
theorem below_iter {w wr : World} {k : Nat} (h : Below w.heap.size w wr) (hk : w.heap.size ≤ k) (s : ByteArray) (pos : Nat) : Below w.heap.size w (wr.iterAt k s pos) :=
  h.trans ⟨rfl, rfl, rfl, by simp [World.iterAt], fun j hj => Go.Lib.iterAt_other wr k j s pos (by omega)⟩

/-- What 'next' hands over at the n-th rune. -/
theorem next_some (s : ByteArray) (n : Nat) (h : n < (toks (bl s)).length) : posOf (bl s) n < s.size ∧ (Utf8.decode s (posOf (bl s) n)).1 = dr ((bl s).drop (posOf (bl s) n)) ∧ posOf (bl s) n + (Utf8.decode s (posOf (bl s) n)).2 = posOf (bl s) (n + 1) ∧ (toks (bl s))[n].1 = dr ((bl s).drop (posOf (bl s) n)) := by
  have hne := drop_ne (bl s) n h
  have hg := get_toks (bl s) n h
  have hs := posOf_succ (bl s) n h
  rw [dec_shift]
  refine ⟨?_, rfl, hs.symm, by rw [hg]⟩
  rw [bl_size]
  exact Nat.lt_of_not_le fun hh => hne (List.drop_eq_nil_of_le hh)

theorem posOf_lt {l : List UInt8} {n : Nat} : (n < (toks l).length) ↔ posOf l n < l.length := by
  constructor
  · intro h
    have := drop_ne l n h
    exact Nat.lt_of_not_le fun hh => this (List.drop_eq_nil_of_le hh)
  · intro h
    rcases Nat.lt_or_ge n (toks l).length with h' | h'
    · exact h'
    · rw [posOf_all l n h'] at h
      omega

set_option maxRecDepth 100000 in
theorem count_c (s : ByteArray) (w : World) (hm : s.size ≤ 140737488355328) :
    Calls Try.prog 13 #[.string s] w fun e w' => e = .returned (.int .i64 ((toks (bl s)).length : Int)) ∧ Below w.heap.size w w' := by
  have hl1 := toks_length (bl s)
  rw [← bl_size] at hl1
  obtain ⟨T, hT⟩ : ∃ T, T = (toks (bl s)).length := ⟨_, rfl⟩
  rw [← hT] at hl1 ⊢
  have HT := Go.Lib.hid hT; clear hT
  go_enter Try.func13, Try.ntmps13
  go_wp2
  go_loopw [3] (fun u wr => ∃ n : Nat, n ≤ T ∧ u = .int .i64 (n : Int) ∧ wr.heap[w.heap.size]? = some (.stringIter s (posOf (bl s) n)) ∧ Below w.heap.size w wr) (fun u _ => T - (intOf u).toNat)
  case atStart => exact ⟨0, by omega, rfl, World.iter_heap w s 0, (Below.refl _ w).alloc (Nat.le_refl _) _⟩
  case round =>
    obtain ⟨n, hn, rfl, hit, hbw⟩ := hrel
    by_cases hlt : n < T
    · obtain ⟨p1, p2, p3, p4⟩ := next_some s n (by rw [← HT.out]; exact hlt)
      have hnx : ∀ ty, (Instr.next (.pointer (some ⟨w.heap.size, 0, none⟩)) true ty).run Try.prog wr = _ := fun ty => Go.Lib.run_next_any_at wr w.heap.size s _ ty hit p1
      have hit2 := Go.Lib.iterAt_heap wr w.heap.size s _ (posOf (bl s) (n + 1)) hit
      have hbw2 := below_iter hbw (Nat.le_refl _) s (posOf (bl s) (n + 1))
      rw [p3] at hnx
      rw [p2] at hnx
      clear p1 p2 p3 p4
      go_wp2
      go_roundw
      case rel => exact ⟨n + 1, by omega, by go_num, hit2, hbw2⟩
      case measure => simp [intOf]; omega
    · have hend : ¬ posOf (bl s) n < s.size := by
        rw [posOf_all (bl s) n (by rw [← HT.out]; omega), bl_size]
        exact Nat.lt_irrefl _
      have hnx : ∀ ty, (Instr.next (.pointer (some ⟨w.heap.size, 0, none⟩)) true ty).run Try.prog wr = _ := fun ty => Go.Lib.run_next_end_at wr w.heap.size s _ ty hit hend
      obtain rfl : n = T := by omega
      clear hend
      go_wp2
      go_ret
      exact ⟨rfl, hbw⟩

theorem info32 : (Try.prog.info? 21).map (fun i => (i.zero, i.size, i.bytes)) = some (some (.int .i32 0), 1, 4) := by kernel_rfl
theorem info64 : (Try.prog.info? 3).map (fun i => (i.zero, i.size, i.bytes)) = some (some (.int .i64 0), 1, 8) := by kernel_rfl

/-- An iterator stands while another block grows. -/
theorem iter_kept {w w' : World} {k : Nat} {s : ByteArray} {pos : Nat} {v : Value} {xs : List Value} {e : TypeId} {B : Nat} (hit : w.heap[k]? = some (.stringIter s pos)) (hown : OwnV e w B v xs) (hg : w.grownBy w' v.ownBlock) : w'.heap[k]? = some (.stringIter s pos) := by
  have hlt := (Array.getElem?_eq_some_iff.1 hit).1
  refine (hg.block k hlt ?_).trans hit
  rcases hown.2 with ⟨rfl, -⟩ | ⟨g, cap, cur, rfl, hB, h2, h3⟩
  · simp [Value.ownBlock]
  · intro e'
    simp only [Value.ownBlock, Option.some.injEq] at e'
    subst e'
    rw [h2] at hit
    cases hit

theorem iter_alloc {w : World} {k : Nat} {s : ByteArray} {pos : Nat} (hit : w.heap[k]? = some (.stringIter s pos)) (o : Obj) : (w.alloc o).heap[k]? = some (.stringIter s pos) := by
  have hlt := (Array.getElem?_eq_some_iff.1 hit).1
  show (w.heap.push o)[k]? = _
  rw [Array.getElem?_push_lt hlt]
  rw [Array.getElem?_eq_getElem hlt] at hit
  exact hit

theorem posOf_lt_succ (l : List UInt8) (n : Nat) (h : n < (toks l).length) : posOf l n < posOf l (n + 1) := by
  have := dw_le _ (drop_ne l n h)
  rw [posOf_succ l n h]
  omega

theorem zi_more (k : IntKind) (ts : List (Nat × List UInt8)) (n : Nat) (h : n < ts.length) : zi k ((runesOf ts).take n) ++ [.int k (ts[n].1 : Int)] = zi k ((runesOf ts).take (n + 1)) := by
  have h' : n < (runesOf ts).length := by simp [runesOf]; exact h
  rw [List.take_succ_eq_append_getElem h', zi_append]
  simp [zi, runesOf]

theorem runesOf_length (ts : List (Nat × List UInt8)) : (runesOf ts).length = ts.length := by simp [runesOf]

set_option maxRecDepth 100000 in
theorem of_c (s : ByteArray) (w : World) (hm : s.size ≤ 1000000000) :
    Calls Try.prog 12 #[.string s] w fun e w' => ∃ v, e = .returned v ∧ OwnV 21 w' w.heap.size v (zi .i32 (runesOf (toks (bl s)))) ∧ Below w.heap.size w w' := by
  have hl1 := toks_length (bl s)
  rw [← bl_size] at hl1
  have C := Go.Lib.hid (count_c s w (by omega))
  obtain ⟨T, hT⟩ : ∃ T, T = (toks (bl s)).length := ⟨_, rfl⟩
  rw [← hT] at hl1 C
  have HT := Go.Lib.hid hT; clear hT
  go_enter Try.func12, Try.ntmps12
  go_wp2_with (first
    | (refine C.out.mono ?_; rintro e w1 ⟨rfl, hb1⟩)
    | (with_reducible show wpList _ _ _ (⟨some 8, _, _, _, _, _⟩ :: _) _ _; go_loud (refine wpList_make_none rfl (.const (.int .i64 0)) (.tmp 7) 24 rfl 21 Try.underlying24 (.int .i32 0) 4 info32 .i64 .i64 _ T rfl rfl rfl (by omega) (by omega) ?_); intro v2 w2 hown2 hg2; have hb2 := hb1.grown hg2 hb1.size (by simp))
    | fail)
  go_loopw [3] (fun u wr => ∃ (n : Nat) (v : Value), v = u ∧ n ≤ T ∧ OwnV 21 wr w.heap.size v (zi .i32 ((runesOf (toks (bl s))).take n)) ∧ wr.heap[w2.heap.size]? = some (.stringIter s (posOf (bl s) n)) ∧ Below w.heap.size w wr) (fun _ wr => s.size - wr.iterPos w2.heap.size)
  case atStart => exact ⟨0, _, rfl, by omega, (hown2.mono hb1.size).alloc _, World.iter_heap w2 s 0, hb2.alloc hb2.size _⟩
  case round =>
    obtain ⟨n, v, rfl, hn, hown, hit, hbw⟩ := hrel
    by_cases hlt : n < T
    · have hT' : n < (toks (bl s)).length := by rw [← HT.out]; exact hlt
      obtain ⟨p1, p2, p3, p4⟩ := next_some s n hT'
      have hnx : ∀ ty, (Instr.next (.pointer (some ⟨w2.heap.size, 0, none⟩)) true ty).run Try.prog wr = _ := fun ty => Go.Lib.run_next_any_at wr w2.heap.size s _ ty hit p1
      rw [p3] at hnx
      rw [p2] at hnx
      rw [← p4] at hnx
      have hit2 := Go.Lib.iterAt_heap wr w2.heap.size s _ (posOf (bl s) (n + 1)) hit
      have hbw2 := below_iter hbw hb2.size s (posOf (bl s) (n + 1))
      have hown2 := hown.other (w' := wr.iterAt w2.heap.size s (posOf (bl s) (n + 1))) w2.heap.size _ hit (fun _ _ _ h => by cases h) (fun j hj => Go.Lib.iterAt_other wr w2.heap.size j s _ hj)
      have hmore := Go.Lib.hid (zi_more .i32 (toks (bl s)) n hT')
      have hmeas : Hid (s.size - posOf (bl s) (n + 1) < s.size - wr.iterPos w2.heap.size) := by
        have := posOf_lt_succ (bl s) n hT'
        simp only [Hid, World.iterPos, hit]
        omega
      have hnl : ((runesOf (toks (bl s))).take n).length = n := by rw [List.length_take, runesOf_length]; omega
      have Hnl := Go.Lib.hid hnl; clear hnl
      clear p1 p2 p3 p4 hit hbw hown
      generalize (toks (bl s))[n].1 = r at hnx hmore
      generalize wr.iterAt w2.heap.size s (posOf (bl s) (n + 1)) = wi at hnx hit2 hbw2 hown2
      have hown3 := hown2.alloc (.cells #[.int .i32 (r : Int)] 21)
      have hrv := RV.one wi 21 (.int .i32 (r : Int))
      have hbw3 := hbw2.alloc hbw2.size (.cells #[.int .i32 (r : Int)] 21)
      have hit3 := iter_alloc hit2 (.cells #[.int .i32 (r : Int)] 21)
      have hone : ∀ u ∈ [Value.int .i32 (r : Int)], u.oneCell' = true := by intro u hu; obtain rfl := List.mem_singleton.1 hu; rfl
      have hln1 : ((zi .i32 ((runesOf (toks (bl s))).take n)).length + [Value.int .i32 (r : Int)].length) * 4 ≤ 140737488355328 := by rw [zi_length, Hnl.out]; simp only [List.length_cons, List.length_nil]; omega
      have hln2 : (zi .i32 ((runesOf (toks (bl s))).take n)).length + [Value.int .i32 (r : Int)].length ≤ 140737488355328 := by omega
      go_wp2_with (first
        | (with_reducible show wpList _ _ _ (⟨some 17, _, _, _, _, _⟩ :: _) _ _; refine wpList_append_RV rfl (.tmp 14) (.tmp 16) 24 rfl w.heap.size 21 Try.underlying24 (.int .i32 0) 4 rfl info32 v (.slice (some ⟨wi.heap.size, 0, none⟩) 1 1) (zi .i32 ((runesOf (toks (bl s))).take n)) [.int .i32 (r : Int)] rfl rfl hown3 hrv hone hln1 hln2 hbw3.size ?_; intro v4 w4 hown4 hg4; have hb4 := hbw3.grown hg4 hbw3.size hown2.row; have hit4 := iter_kept hit3 hown3 hg4)
        | fail)
      go_roundw
      case rel => exact ⟨n + 1, _, rfl, by omega, by rw [← hmore.out]; exact hown4, hit4, hb4⟩
      case measure => simp only [World.iterPos, hit4]; exact hmeas.out
    · have hend : ¬ posOf (bl s) n < s.size := by
        rw [posOf_all (bl s) n (by rw [← HT.out]; omega), bl_size]
        exact Nat.lt_irrefl _
      have hnx : ∀ ty, (Instr.next (.pointer (some ⟨w2.heap.size, 0, none⟩)) true ty).run Try.prog wr = _ := fun ty => Go.Lib.run_next_end_at wr w2.heap.size s _ ty hit hend
      clear hend
      rw [List.take_of_length_le (by rw [runesOf_length, ← HT.out]; omega)] at hown
      go_wp2
      go_ret
      exact ⟨_, rfl, hown, hbw⟩

end Go.Proofs.Ytcdpldleackigaa
