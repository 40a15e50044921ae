/-
  The contracts of Valid, At, Cut of package runes, of the reference's Runes and Valid, and of the laws' Cut.
-/
import Derived.Test.YtcdpldleackigaaRunC
namespace Go.Proofs.Ytcdpldleackigaa
open Go.RowKit

theorem drop_bl (s : ByteArray) (p : Nat) : bl (s.extract p s.size) = (bl s).drop p := by
  unfold bl
  rw [Go.Lib.extract_data]
  exact List.take_of_length_le (by rw [List.length_drop, ← Go.Lib.size_eq]; omega)

theorem take_bl (s : ByteArray) (p : Nat) : s.extract 0 p = str ((bl s).take p) := by
  apply ByteArray.ext; apply Array.toList_inj.1
  rw [Go.Lib.extract_data]
  simp [str, bl]

theorem well_take (l : List UInt8) (n : Nat) (h : n < (toks l).length) : wellB ((toks l).take (n + 1)) = (wellB ((toks l).take n) && okB (l.drop (posOf l n))) := by
  rw [List.take_succ_eq_append_getElem h, get_toks l n h, ← ok_head (drop_ne l n h)]
  unfold wellB
  rw [List.all_append]
  simp only [List.all_cons, List.all_nil, Bool.and_true]

theorem well_false (l : List UInt8) (n : Nat) (h : n < (toks l).length) (ho : okB (l.drop (posOf l n)) = false) : wellB (toks l) = false := by
  cases hw : wellB (toks l) with
  | false => rfl
  | true =>
    have := well_take l n h
    rw [ho, Bool.and_false] at this
    have h2 : wellB ((toks l).take (n + 1)) = true := by
      unfold wellB at hw ⊢
      rw [List.all_eq_true] at hw ⊢
      exact fun t ht => hw t (List.mem_of_mem_take ht)
    rw [this] at h2
    cases h2

set_option maxRecDepth 100000 in
theorem valid_c (s : ByteArray) (w : World) (hm : s.size ≤ 1000000000) :
    Calls Try.prog 14 #[.string s] w fun e w' => e = .returned (.bool (wellB (toks (bl s)))) ∧ Below w.heap.size w w' := by
  have hl1 := toks_length (bl s)
  rw [← bl_size] at hl1
  obtain ⟨T, hT⟩ : ∃ T, T = (toks (bl s)).length := ⟨_, rfl⟩
  rw [← hT] at hl1
  have HT := Go.Lib.hid hT; clear hT
  go_enter Try.func14, Try.ntmps14
  go_wp2
  go_loopw [2] (fun _ wr => ∃ n : Nat, n ≤ T ∧ Hid (wellB ((toks (bl s)).take n) = true) ∧ wr.heap[w.heap.size]? = some (.stringIter s (posOf (bl s) n)) ∧ Below w.heap.size w wr) (fun _ wr => s.size - wr.iterPos w.heap.size)
  case atStart => exact ⟨0, by omega, rfl, World.iter_heap w s 0, (Below.refl _ w).alloc (Nat.le_refl _) _⟩
  case round =>
    obtain ⟨n, hn, hwell, hit, hbw⟩ := hrel
    by_cases hlt : n < T
    · have hT' : n < (toks (bl s)).length := by rw [← HT.out]; exact hlt
      obtain ⟨p1, p2, p3, p4⟩ := next_some s n hT'
      have hnx : ∀ ty, (Instr.next (.pointer (some ⟨w.heap.size, 0, none⟩)) true ty).run Try.prog wr = _ := fun ty => Go.Lib.run_next_any_at wr w.heap.size s _ ty hit p1
      rw [p3] at hnx
      rw [p2] at hnx
      have hit2 := Go.Lib.iterAt_heap wr w.heap.size s _ (posOf (bl s) (n + 1)) hit
      have hbw2 := below_iter hbw (Nat.le_refl _) s (posOf (bl s) (n + 1))
      have hwt := well_take (bl s) n hT'
      rw [hwell.out, Bool.true_and] at hwt
      have hmeas : Hid (s.size - posOf (bl s) (n + 1) < s.size - wr.iterPos w.heap.size) := by
        have := posOf_lt_succ (bl s) n hT'
        simp only [Hid, World.iterPos, hit]
        omega
      have hne := drop_ne (bl s) n hT'
      have hwf := well_false (bl s) n hT'
      have HP := fun W => prefix_c (s.extract (posOf (bl s) n) s.size) ⟨#[239, 191, 189]⟩ W (by simp [maxLen]; omega)
      rw [drop_bl] at HP
      have hle : posOf (bl s) n ≤ s.size := by omega
      clear p1 p2 p3 p4 hit hbw hwell
      have hof := okB_false (l := (bl s).drop (posOf (bl s) n))
      have hod : okB ((bl s).drop (posOf (bl s) n)) = (enc (dr ((bl s).drop (posOf (bl s) n)))).isPrefixOf ((bl s).drop (posOf (bl s) n)) := rfl
      generalize hL : (bl s).drop (posOf (bl s) n) = L at *
      generalize posOf (bl s) n = p at *
      have HP' := Go.Lib.hid HP; clear HP
      have Hwt := Go.Lib.hid hwt; clear hwt
      have Hwf := Go.Lib.hid hwf; clear hwf
      have Hod := Go.Lib.hid hod; clear hod
      have Hof := Go.Lib.hid hof; clear hof
      clear hL
      generalize wr.iterAt w.heap.size s (posOf (bl s) (n + 1)) = wi at hnx hit2 hbw2
      by_cases hr : dr L = 65533
      · rw [hr] at hnx
        have hpre : Hid ((bl ⟨#[239, 191, 189]⟩).isPrefixOf L = okB L) := by
          unfold Hid
          rw [Hod.out, hr, enc_bad]
          rfl
        cases ho : okB L with
        | true =>
          rw [ho] at hpre
          go_wp2_with (refine (HP'.out _).mono ?_; rintro e w1 ⟨rfl, rfl⟩; rw [hpre.out])
          go_roundw
          case rel => exact ⟨n + 1, by omega, Hwt.out.trans ho, hit2, hbw2⟩
          case measure => simp only [World.iterPos, hit2]; exact hmeas.out
        | false =>
          rw [ho] at hpre
          go_wp2_with (refine (HP'.out _).mono ?_; rintro e w1 ⟨rfl, rfl⟩; rw [hpre.out])
          go_ret
          exact ⟨ret_of (congrArg Value.bool (Hwf.out ho).symm), hbw2⟩
      · have ho : okB L = true := by
          cases ho : okB L with
          | true => rfl
          | false => exact absurd (Hof.out ho hne).1 hr
        have hr2 : ((dr L : Int) == 65533) = false := by
          rw [beq_eq_false_iff_ne]; omega
        generalize dr L = r at hnx hr2
        clear hr
        go_wp2
        go_roundw
        case rel => exact ⟨n + 1, by omega, Hwt.out.trans ho, hit2, hbw2⟩
        case measure => simp only [World.iterPos, hit2]; exact hmeas.out
    · have hend : ¬ posOf (bl s) n < s.size := by
        rw [posOf_all (bl s) n (by rw [← HT.out]; omega), bl_size]
        exact Nat.lt_irrefl _
      have hnx : ∀ ty, (Instr.next (.pointer (some ⟨w.heap.size, 0, none⟩)) true ty).run Try.prog wr = _ := fun ty => Go.Lib.run_next_end_at wr w.heap.size s _ ty hit hend
      have hall : Hid (wellB (toks (bl s)) = true) := by
        have := hwell.out
        rwa [List.take_of_length_le (by rw [← HT.out]; omega)] at this
      clear hend
      go_wp2
      go_ret
      exact ⟨ret_of (congrArg Value.bool hall.out.symm), hbw⟩

/-- What At answers. -/
def atv (l : List UInt8) (n : Int) : Value := if 0 ≤ n ∧ n.toNat < (toks l).length then dv (dr (l.drop (posOf l n.toNat))) (posOf l n.toNat) true else dv 0 0 false

theorem atv_some (l : List UInt8) (n : Nat) (h : n < (toks l).length) : atv l n = dv (dr (l.drop (posOf l n))) (posOf l n) true := by
  unfold atv
  rw [if_pos ⟨by omega, by simpa using h⟩]
  rfl
theorem atv_none (l : List UInt8) (n : Int) (h : n < 0 ∨ ((toks l).length : Int) ≤ n) : atv l n = dv 0 0 false := by
  unfold atv
  rw [if_neg (by omega)]

set_option maxRecDepth 100000 in
theorem at_c (s : ByteArray) (m : Int) (w : World) (hm : s.size ≤ 1000000000) :
    Calls Try.prog 16 #[.string s, .int .i64 m] w fun e w' => e = .returned (atv (bl s) m) ∧ Below w.heap.size w w' := by
  have hl1 := toks_length (bl s)
  rw [← bl_size] at hl1
  obtain ⟨T, hT⟩ : ∃ T, T = (toks (bl s)).length := ⟨_, rfl⟩
  rw [← hT] at hl1
  have HT := Go.Lib.hid hT; clear hT
  go_enter Try.func16, Try.ntmps16
  go_wp2
  go_loopw [7] (fun u wr => ∃ n : Nat, n ≤ T ∧ u = .int .i64 (n : Int) ∧ Hid (m < 0 ∨ (n : Int) ≤ m) ∧ wr.heap[w.heap.size]? = some (.stringIter s (posOf (bl s) n)) ∧ Below w.heap.size w wr) (fun u _ => T - (intOf u).toNat)
  case atStart => exact ⟨0, by omega, rfl, (by unfold Hid; omega), World.iter_heap w s 0, (Below.refl _ w).alloc (Nat.le_refl _) _⟩
  case round =>
    obtain ⟨n, hn, rfl, hmn, hit, hbw⟩ := hrel
    by_cases hlt : n < T
    · have hT' : n < (toks (bl s)).length := by rw [← HT.out]; exact hlt
      obtain ⟨p1, p2, p3, p4⟩ := next_some s n hT'
      have hnx : ∀ ty, (Instr.next (.pointer (some ⟨w.heap.size, 0, none⟩)) true ty).run Try.prog wr = _ := fun ty => Go.Lib.run_next_any_at wr w.heap.size s _ ty hit p1
      rw [p3] at hnx
      rw [p2] at hnx
      have hit2 := Go.Lib.iterAt_heap wr w.heap.size s _ (posOf (bl s) (n + 1)) hit
      have hbw2 := below_iter hbw (Nat.le_refl _) s (posOf (bl s) (n + 1))
      clear p1 p2 p3 p4 hit hbw
      have hav := Go.Lib.hid (atv_some (bl s) n hT')
      generalize wr.iterAt w.heap.size s (posOf (bl s) (n + 1)) = wi at hnx hit2 hbw2
      generalize dr ((bl s).drop (posOf (bl s) n)) = r at hnx hav
      generalize posOf (bl s) n = p at hnx hav
      by_cases he : (n : Int) = m
      · subst he
        have he2 : ((n : Int) == (n : Int)) = true := beq_self_eq_true _
        go_wp2
        go_ret3
        exact ⟨ret_of hav.out.symm, hbw2⟩
      · have he2 : ((n : Int) == m) = false := by rw [beq_eq_false_iff_ne]; exact he
        have hmn2 : Hid (m < 0 ∨ ((n + 1 : Nat) : Int) ≤ m) := by
          have := hmn.out
          unfold Hid
          omega
        clear he
        go_wp2
        go_roundw
        case rel => exact ⟨n + 1, by omega, by go_num, hmn2, hit2, hbw2⟩
        case measure => simp [intOf]; omega
    · have hend : ¬ posOf (bl s) n < s.size := by
        rw [posOf_all (bl s) n (by rw [← HT.out]; omega), bl_size]
        exact Nat.lt_irrefl _
      have hnx : ∀ ty, (Instr.next (.pointer (some ⟨w.heap.size, 0, none⟩)) true ty).run Try.prog wr = _ := fun ty => Go.Lib.run_next_end_at wr w.heap.size s _ ty hit hend
      have hav := Go.Lib.hid (atv_none (bl s) m (by rw [← HT.out]; have := hmn.out; omega))
      clear hend
      go_wp2
      go_ret3
      exact ⟨ret_of hav.out.symm, hbw⟩

/-- What Cut leaves. -/
def cutl (l : List UInt8) (n : Int) : List UInt8 := if n < 0 then [] else l.take (posOf l n.toNat)

theorem cut_eq (s : ByteArray) (n : Nat) : s.extract 0 (posOf (bl s) n) = str (cutl (bl s) n) := by
  rw [take_bl]
  unfold cutl
  rw [if_neg (by omega)]
  rfl
theorem cut_all (s : ByteArray) (n : Int) (hn : ((toks (bl s)).length : Int) ≤ n) : s = str (cutl (bl s) n) := by
  unfold cutl
  rw [if_neg (by omega), posOf_all (bl s) n.toNat (by omega), List.take_length, str_bl]

set_option maxRecDepth 100000 in
theorem rcut_c (s : ByteArray) (n : Int) (w : World) (hm : s.size ≤ 1000000000) :
    Calls Try.prog 17 #[.string s, .int .i64 n] w fun e w' => e = .returned (.string (str (cutl (bl s) n))) ∧ Below w.heap.size w w' := by
  have C := Go.Lib.hid (at_c s n w hm)
  have HK := Go.Lib.hid fun (t : ByteArray) (W : World) (ht : t.size ≤ 140737488355328) => clone_c t W ht
  rcases Int.lt_or_le n 0 with h0 | h0
  · have hc : Hid (str (cutl (bl s) n) = ⟨#[]⟩) := by
      unfold Hid cutl
      rw [if_pos h0]
      rfl
    go_enter Try.func17, Try.ntmps17
    go_wp2
    go_ret
    exact ⟨ret_of (congrArg Value.string hc.out.symm), Below.refl _ _⟩
  · rcases Int.lt_or_le n ((toks (bl s)).length : Int) with h1 | h1
    · obtain ⟨k, rfl⟩ : ∃ k : Nat, n = (k : Int) := ⟨n.toNat, by omega⟩
      have hk : k < (toks (bl s)).length := by omega
      have hc := Go.Lib.hid (cut_eq s k)
      have hp := posOf_le (bl s) k
      rw [← bl_size] at hp
      have C2 := C.out
      rw [atv_some _ _ hk] at C2
      unfold dv at C2
      have C2 := Go.Lib.hid C2
      clear C
      generalize posOf (bl s) k = p at hc hp C2
      generalize dr ((bl s).drop p) = r at C2
      clear h1 hk
      go_enter Try.func17, Try.ntmps17
      go_wp2_with (first
        | (refine C2.out.mono ?_; rintro e w1 ⟨rfl, hb1⟩)
        | (refine (HK.out _ _ (by rw [ByteArray.size_extract]; omega)).mono ?_; rintro e w2 ⟨rfl, hb2⟩))
      go_ret
      exact ⟨ret_of (congrArg Value.string hc.out), hb1.trans (hb2.mono hb1.size)⟩
    · have hc := Go.Lib.hid (cut_all s n h1)
      have C2 := C.out
      rw [atv_none _ _ (.inr h1)] at C2
      unfold dv at C2
      have C2 := Go.Lib.hid C2
      clear C h1
      go_enter Try.func17, Try.ntmps17
      go_wp2_with (first
        | (refine C2.out.mono ?_; rintro e w1 ⟨rfl, hb1⟩)
        | (refine (HK.out _ _ (by omega)).mono ?_; rintro e w2 ⟨rfl, hb2⟩))
      go_ret
      exact ⟨ret_of (congrArg Value.string hc.out), hb1.trans (hb2.mono hb1.size)⟩

set_option maxRecDepth 100000 in
/-- The laws' 'Cut(s, n)'. -/
theorem lcut_c (s : ByteArray) (n : Nat) (w : World) (h0 : s.size ≤ maxLen) (hn : n ≤ 1000) :
    Calls Try.prog 10 #[.string s, .int .i64 n] w fun e w' => e = .returned (.string (str ((bl s).take n))) ∧ w = w' := by
  have hs := h0
  unfold maxLen at hs
  by_cases h : n < s.size
  · have H1 := Go.Lib.hid (take_bl s n)
    go_enter Try.func10, Try.ntmps10
    go_wp2
    go_ret
    exact ⟨ret_of (congrArg Value.string H1.out), rfl⟩
  · have e1 : s = str ((bl s).take n) := by
      rw [List.take_of_length_le (by rw [← bl_size]; omega), str_bl]
    have H1 := Go.Lib.hid e1; clear e1
    go_enter Try.func10, Try.ntmps10
    go_wp2
    go_ret
    exact ⟨ret_of (congrArg Value.string H1.out), rfl⟩

end Go.Proofs.Ytcdpldleackigaa
