/-
  The contract of strings.HasPrefix.
  The contract of runes.Valid.
  Package value: contract of textMay.
-/
import Derived.Test.YtkddleonmkhaiaaGreatM02
import Derived.Test.YtkddleonmkhaiaaGreatM03
namespace Go.Proofs.YtkddleonmkhaiaaGreat
open Go.RowKit

/-- Does t begin with p? -/
theorem prefix_eq (s t : ByteArray) : ((s.extract 0 t.size).toList == t.toList) = (bl t).isPrefixOf (bl s) := by
  rw [Bool.eq_iff_iff, beq_iff_eq, List.isPrefixOf_iff_prefix, List.prefix_iff_eq_take, ByteArray.toList_eq, ByteArray.toList_eq, Go.Lib.extract_data]
  unfold bl
  rw [← Go.Lib.size_eq]
  simp
  exact eq_comm

set_option maxRecDepth 100000 in
theorem lprefix_c (s t : ByteArray) (w : World) (_hm : s.size ≤ maxLen) :
    Calls Tryz.prog 110 #[.string s, .string t] w fun e w' => e = .returned (.bool ((bl t).isPrefixOf (bl s))) ∧ w = w' := by
  have hm := _hm
  unfold maxLen at hm
  by_cases h : t.size ≤ s.size
  · have hp := Go.Lib.hid (prefix_eq s t)
    go_enter Tryz.func110, Tryz.ntmps110
    go_wp2
    go_ret
    exact ⟨ret_of (congrArg Value.bool hp.out), rfl⟩
  · have hp : (bl t).isPrefixOf (bl s) = false := by
      cases hx : (bl t).isPrefixOf (bl s) with
      | false => rfl
      | true =>
        rw [List.isPrefixOf_iff_prefix] at hx
        have := hx.length_le
        rw [← bl_size, ← bl_size] at this
        exact absurd this h
    have hp := Go.Lib.hid hp
    go_enter Tryz.func110, Tryz.ntmps110
    go_wp2
    go_ret
    exact ⟨ret_of (congrArg Value.bool hp.out.symm), rfl⟩

theorem prefix_c (s t : ByteArray) (w : World) (hm : s.size ≤ maxLen) :
    Calls Tryz.prog 104 #[.string s, .string t] w fun e w' => e = .returned (.bool ((bl t).isPrefixOf (bl s))) ∧ w = w' := by
  have C := Go.Lib.hid (lprefix_c s t w hm)
  go_enter Tryz.func104, Tryz.ntmps104
  go_wp2_with (refine C.out.mono ?_; rintro e w1 ⟨rfl, rfl⟩)
  go_ret
  exact ⟨rfl, rfl⟩

end Go.Proofs.YtkddleonmkhaiaaGreat

namespace Go.Proofs.YtkddleonmkhaiaaGreat
open Go.RowKit

set_option maxRecDepth 100000 in
theorem valid_c (s : ByteArray) (w : World) (hm : s.size ≤ 1000000000) :
    Calls Tryz.prog 88 #[.string s] w fun e w' => e = .returned (.bool (wellB (toks (bl s)))) ∧ Below w.heap.size w w' := by
  have hl1 := toks_length (bl s)
  rw [← bl_size] at hl1
  obtain ⟨T, hT⟩ : ∃ T, T = (toks (bl s)).length := ⟨_, rfl⟩
  rw [← hT] at hl1
  have HT := Go.Lib.hid hT; clear hT
  go_enter Tryz.func88, Tryz.ntmps88
  go_wp2
  go_loopw [2] (fun _ wr => ∃ n : Nat, n ≤ T ∧ Hid (wellB ((toks (bl s)).take n) = true) ∧ wr.heap[w.heap.size]? = some (.stringIter s (posOf (bl s) n)) ∧ Below w.heap.size w wr) (fun _ wr => s.size - wr.iterPos w.heap.size)
  case atStart => exact ⟨0, by omega, rfl, World.iter_heap w s 0, (Below.refl _ w).alloc (Nat.le_refl _) _⟩
  case round =>
    obtain ⟨n, hn, hwell, hit, hbw⟩ := hrel
    by_cases hlt : n < T
    · have hT' : n < (toks (bl s)).length := by rw [← HT.out]; exact hlt
      obtain ⟨p1, p2, p3, p4⟩ := next_some s n hT'
      have hnx : ∀ ty, (Instr.next (.pointer (some ⟨w.heap.size, 0, none⟩)) true ty).run Tryz.prog wr = _ := fun ty => Go.Lib.run_next_any_at wr w.heap.size s _ ty hit p1
      rw [p3] at hnx
      rw [p2] at hnx
      have hit2 := Go.Lib.iterAt_heap wr w.heap.size s _ (posOf (bl s) (n + 1)) hit
      have hbw2 := below_iter hbw (Nat.le_refl _) s (posOf (bl s) (n + 1))
      have hwt := well_take (bl s) n hT'
      rw [hwell.out, Bool.true_and] at hwt
      have hmeas : Hid (s.size - posOf (bl s) (n + 1) < s.size - wr.iterPos w.heap.size) := by
        have := posOf_lt_succ (bl s) n hT'
        simp only [Hid, World.iterPos, hit]
        omega
      have hne := drop_ne (bl s) n hT'
      have hwf := well_false (bl s) n hT'
      have HP := fun W => prefix_c (s.extract (posOf (bl s) n) s.size) ⟨#[239, 191, 189]⟩ W (by simp [maxLen]; omega)
      rw [drop_bl] at HP
      have hle : posOf (bl s) n ≤ s.size := by omega
      clear p1 p2 p3 p4 hit hbw hwell
      have hof := okB_false (l := (bl s).drop (posOf (bl s) n))
      have hod : okB ((bl s).drop (posOf (bl s) n)) = (enc (dr ((bl s).drop (posOf (bl s) n)))).isPrefixOf ((bl s).drop (posOf (bl s) n)) := rfl
      generalize hL : (bl s).drop (posOf (bl s) n) = L at *
      generalize posOf (bl s) n = p at *
      have HP' := Go.Lib.hid HP; clear HP
      have Hwt := Go.Lib.hid hwt; clear hwt
      have Hwf := Go.Lib.hid hwf; clear hwf
      have Hod := Go.Lib.hid hod; clear hod
      have Hof := Go.Lib.hid hof; clear hof
      clear hL
      generalize wr.iterAt w.heap.size s (posOf (bl s) (n + 1)) = wi at hnx hit2 hbw2
      by_cases hr : dr L = 65533
      · rw [hr] at hnx
        have hpre : Hid ((bl ⟨#[239, 191, 189]⟩).isPrefixOf L = okB L) := by
          unfold Hid
          rw [Hod.out, hr, enc_bad]
          rfl
        cases ho : okB L with
        | true =>
          rw [ho] at hpre
          go_wp2_with (refine (HP'.out _).mono ?_; rintro e w1 ⟨rfl, rfl⟩; rw [hpre.out])
          go_roundw
          case rel => exact ⟨n + 1, by omega, Hwt.out.trans ho, hit2, hbw2⟩
          case measure => simp only [World.iterPos, hit2]; exact hmeas.out
        | false =>
          rw [ho] at hpre
          go_wp2_with (refine (HP'.out _).mono ?_; rintro e w1 ⟨rfl, rfl⟩; rw [hpre.out])
          go_ret
          exact ⟨ret_of (congrArg Value.bool (Hwf.out ho).symm), hbw2⟩
      · have ho : okB L = true := by
          cases ho : okB L with
          | true => rfl
          | false => exact absurd (Hof.out ho hne).1 hr
        have hr2 : ((dr L : Int) == 65533) = false := by
          rw [beq_eq_false_iff_ne]; omega
        generalize dr L = r at hnx hr2
        clear hr
        go_wp2
        go_roundw
        case rel => exact ⟨n + 1, by omega, Hwt.out.trans ho, hit2, hbw2⟩
        case measure => simp only [World.iterPos, hit2]; exact hmeas.out
    · have hend : ¬ posOf (bl s) n < s.size := by
        rw [posOf_all (bl s) n (by rw [← HT.out]; omega), bl_size]
        exact Nat.lt_irrefl _
      have hnx : ∀ ty, (Instr.next (.pointer (some ⟨w.heap.size, 0, none⟩)) true ty).run Tryz.prog wr = _ := fun ty => Go.Lib.run_next_end_at wr w.heap.size s _ ty hit hend
      have hall : Hid (wellB (toks (bl s)) = true) := by
        have := hwell.out
        rwa [List.take_of_length_le (by rw [← HT.out]; omega)] at this
      clear hend
      go_wp2
      go_ret
      exact ⟨ret_of (congrArg Value.bool hall.out.symm), hbw⟩

end Go.Proofs.YtkddleonmkhaiaaGreat

namespace Go.Proofs.YtkddleonmkhaiaaGreat
open Go.RowKit

set_option maxRecDepth 100000 in
theorem textMay_c (s : ByteArray) (w : World) : Calls Tryz.prog 74 #[.string s] w fun e w' => e = .returned (.bool (decide (s.size ≤ 24) && wellB (toks (bl s)))) ∧ Below w.heap.size w w' := by
  by_cases h : s.size ≤ 24
  · have C := Go.Lib.hid fun W => valid_c s W (by omega)
    go_enter Tryz.func74, Tryz.ntmps74
    go_wp2_with fail
    refine (C.out _).mono ?_
    rintro e w1 ⟨rfl, hb1⟩
    go_wp2_with fail
    go_ret
    exact ⟨ret_of (congrArg Value.bool (by simp [h])), hb1⟩
  · go_enter Tryz.func74, Tryz.ntmps74
    go_wp2_with fail
    go_ret
    exact ⟨ret_of (congrArg Value.bool (by simp)), Below.refl _ _⟩

end Go.Proofs.YtkddleonmkhaiaaGreat
