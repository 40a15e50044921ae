/-
  Slices of records: contract of the reference's Set.
  Records: the newest ones, by rising keys (mathematics).
  First, Tag, Other: of the reference, of package hash.
  Mathematics of stage 17 (of no code): who lies where. A hash's two buckets, told as a pair; slots that hold just what is there; who has room.
  What elements of []rune and []int are.
  The contract of the reference's Runes.
  The reference's Hash, First, Tag, Other.
  The contract of runes.Count.
-/
import Derived.Test.YtggokffdgjedgaaGreatM03
import Derived.Deep.QuietTactic
import Derived.BigQuiet
import Derived.Deep.DeepCutAuto
import Derived.LoopTactic
import Derived.Test.YtggokffdgjedgaaGreatM01
import Derived.Laws.BitsAllLaws
import Derived.Test.YtggokffdgjedgaaGreatM02
namespace Go.Proofs.YtggokffdgjedgaaGreat
open Go.RowKit Go.Op

def keyR (x : RecT) : List UInt8 := x.1.toList
abbrev setR (l : List RecT) (r : RecT) : List RecT := setGo keyR bytesLess r l false

theorem setGo_step (r : RecT) (l : List RecT) (k : Nat) (h : k < l.length) (d : Bool) (acc : List RecT) (p q d' : Bool) (hp : (!d && !(bytesLess (keyR l[k]) (keyR r))) = p) (hq : decide (keyR l[k] = keyR r) = q) (hd : (d || p) = d') (he : acc ++ setGo keyR bytesLess r (l.drop k) d = setR l r) :
    acc ++ (if p then [r] else []) ++ (if q then [] else [l[k]]) ++ setGo keyR bytesLess r (l.drop (k + 1)) d' = setR l r := by
  rw [← he, List.drop_eq_getElem_cons h, setGo, hp, hd]
  subst hq
  simp [List.append_assoc]

/-- The box of the record, in whatever world came later. -/
theorem box_later {w w' : World} {key : ByteArray} {gone : Bool} {k n : Int} {s : ByteArray} (hb : Below (w.alloc (recO key gone k n s)).heap.size (w.alloc (recO key gone k n s)) w') :
    w'.cell? ⟨w.heap.size, 0, none⟩ = some (.string key) ∧ w'.cell? ⟨w.heap.size, 1, none⟩ = some (.bool gone) ∧ w'.cell? ⟨w.heap.size, 2, none⟩ = some (.int .i64 k) ∧ w'.cell? ⟨w.heap.size, 3, none⟩ = some (.int .i64 n) ∧ w'.cell? ⟨w.heap.size, 4, none⟩ = some (.string s) := (rec_box key gone k n s hb).2
theorem setR_len (r : RecT) : ∀ (l : List RecT) (d : Bool), (setGo keyR bytesLess r l d).length ≤ l.length + 1 ∧ (d = true → (setGo keyR bytesLess r l d).length ≤ l.length) := by
  intro l
  induction l with
  | nil => intro d; cases d <;> simp [setGo]
  | cons x t ih =>
    intro d
    rw [setGo]
    simp only [List.length_append, List.length_cons]
    cases d with
    | true =>
      have := (ih true).2 rfl
      simp only [Bool.not_true, Bool.false_and, Bool.false_eq_true, if_false, Bool.true_or, List.length_nil]
      split <;> simp <;> omega
    | false =>
      cases hb : bytesLess (keyR x) (keyR r) with
      | true =>
        have := (ih false).1
        simp only [Bool.not_true, Bool.and_false, Bool.false_eq_true, if_false, Bool.or_false, List.length_nil]
        split <;> simp <;> omega
      | false =>
        have := (ih true).2 rfl
        simp only [Bool.not_false, Bool.and_true, if_true, Bool.or_true, List.length_cons, List.length_nil]
        split <;> simp <;> omega
/-- Nothing is longer than what it becomes. -/
theorem acc_len {acc m l : List RecT} {r : RecT} (h : acc ++ m = setR l r) (hl : l.length ≤ 1000) : acc.length ≤ 1001 := by
  have h1 := (setR_len r l false).1
  unfold setR at h
  rw [← h, List.length_append] at h1
  omega

set_option maxHeartbeats 8000000 in
set_option maxRecDepth 100000 in
theorem rset_c (v : Value) (l : List RecT) (key : ByteArray) (gone : Bool) (rk rn : Int) (rs : ByteArray) (w : World) (hv : RS w v l) (hl : l.length ≤ 1000) :
    Calls Tryz.prog 13 #[v, recV key gone rk rn rs] w fun e w' => ∃ v', e = .returned v' ∧ OwnRec w' w.heap.size v' (setR l (key, gone, rk, rn, rs)) ∧ Below w.heap.size w w' := by
  obtain ⟨a, cap, rfl, hm⟩ := hv.form
  unfold recV
  have HW := Go.Lib.hid fun o => hv.below (below_one w o)
  have hB0 := below_one w (recO key gone rk rn rs)
  have HB0 := Go.Lib.hid hB0
  clear hv
  go_enter Tryz.func13, Tryz.ntmps13
  go_wp2_with fail
  have hid := Below.refl (w.alloc (recO key gone rk rn rs)).heap.size (w.alloc (recO key gone rk rn rs))
  go_loopw [5, 6, 7] (fun vb dv i w2 => ∃ (k : Nat) (d : Bool) (acc : List RecT), k ≤ l.length ∧ i = .int .i64 (k : Int) ∧ dv = .bool d ∧ OwnRec w2 (w.alloc (recO key gone rk rn rs)).heap.size vb acc ∧ acc ++ setGo keyR bytesLess (key, gone, rk, rn, rs) (l.drop k) d = setR l (key, gone, rk, rn, rs) ∧ Below (w.alloc (recO key gone rk rn rs)).heap.size (w.alloc (recO key gone rk rn rs)) w2) (fun _ _ i _ => l.length - (intOf i).toNat)
  case atStart => exact ⟨0, false, [], by omega, rfl, rfl, OwnRec.nil _ _, by simp, hid⟩
  case round =>
    obtain ⟨k, d, acc, hk, rfl, rfl, hown, hacc, hbc⟩ := hrel
    have Hacc := Go.Lib.hid hacc; clear hacc
    by_cases hlt : k < l.length
    · obtain ⟨b, o, rfl, -, hbs, c0, c1, c2, c3, c4⟩ := ((HW.out _).below hbc).at k hlt
      obtain ⟨r0, r1, r2, r3, r4⟩ := box_later hbc
      have Hst := Go.Lib.hid fun p q d' hp hq hd => setGo_step (key, gone, rk, rn, rs) l k hlt d acc p q d' hp hq hd Hacc.out
      have Hal := Go.Lib.hid (acc_len Hacc.out hl)
      have Hix := Go.Lib.hid (run_idx5 b o l.length cap k hlt)
      have HC := Go.Lib.hid (fun W (h : Below (w.alloc (recO key gone rk rn rs)).heap.size (w.alloc (recO key gone rk rn rs)) W) => ((HW.out _).below h).at k hlt)
      generalize hx : l[k] = x at *
      obtain ⟨kx, gx, ax, nx, sx⟩ := x
      simp only [keyR] at c0 c1 c2 c3 c4 Hst HC
      clear hx
      have hix := fun W => Hix.out W
      have hlti : (k : Int) < (l.length : Int) := by omega
      cases d with
      | true =>
        by_cases heq : kx.toList = key.toList
        · have hqb : (kx.toList == key.toList) = true := by simpa using heq
          have hacc := Hst.out false true true rfl (decide_eq_true heq) rfl
          simp only [if_true, if_false, Bool.false_eq_true, List.append_nil] at hacc
          have Hac2 := Go.Lib.hid hacc; clear hacc heq Hst Hacc
          go_upto_region 6 with (fail)
          go_quiet (fail)
          have hbq := below_drewN hbc nq
          have hownq := hown.below (below_drewN (Below.refl _ wr) nq)
          clear hbc hown c0 c1 c2 c3 c4 r0 r1 r2 r3 r4 hbs
          generalize wr.drewN nq = wq at *
          obtain ⟨b9, o9, e9, -, hbs, c0, c1, c2, c3, c4⟩ := HC.out _ hbq
          cases e9
          obtain ⟨r0, r1, r2, r3, r4⟩ := box_later hbq
          go_upto_region 9 with (fail)
          go_quiet (fail)
          have hbr := below_drewN hbq nq
          have hownr := hownq.below (below_drewN (Below.refl _ wq) nq)
          clear hownq hbq c0 c1 c2 c3 c4 r0 r1 r2 r3 r4 hbs
          generalize wq.drewN nq = wz at *
          obtain ⟨b9, o9, e9, -, hbs, c0, c1, c2, c3, c4⟩ := HC.out _ hbr
          cases e9
          obtain ⟨r0, r1, r2, r3, r4⟩ := box_later hbr
          go_wp2_with fail
          exact ⟨⟨k + 1, true, _, by omega, by go_num, rfl, hownr, Hac2.out, hbr⟩, by simp only [intOf]; omega⟩
        · have hqb : (kx.toList == key.toList) = false := by simpa using heq
          have hacc := Hst.out false false true rfl (decide_eq_false heq) rfl
          simp only [if_false, Bool.false_eq_true, List.append_nil] at hacc
          have Hac2 := Go.Lib.hid hacc; clear hacc heq Hst Hacc
          go_upto_region 6 with (fail)
          go_quiet (fail)
          have hbq := below_drewN hbc nq
          have hownq := hown.below (below_drewN (Below.refl _ wr) nq)
          clear hbc hown c0 c1 c2 c3 c4 r0 r1 r2 r3 r4 hbs
          generalize wr.drewN nq = wq at *
          obtain ⟨b9, o9, e9, -, hbs, c0, c1, c2, c3, c4⟩ := HC.out _ hbq
          cases e9
          obtain ⟨r0, r1, r2, r3, r4⟩ := box_later hbq
          go_upto_region 9 with (fail)
          go_quiet (fail)
          have hbr := below_drewN hbq nq
          have hownr := hownq.below (below_drewN (Below.refl _ wq) nq)
          clear hownq hbq c0 c1 c2 c3 c4 r0 r1 r2 r3 r4 hbs
          generalize wq.drewN nq = wz at *
          obtain ⟨b9, o9, e9, -, hbs, c0, c1, c2, c3, c4⟩ := HC.out _ hbr
          cases e9
          obtain ⟨r0, r1, r2, r3, r4⟩ := box_later hbr
          have ha2 := OwnRec.below hownr (below_one wz (.cells #[.string kx, .bool gx, .int .i64 ax, .int .i64 nx, .string sx] 33))
          have hone2 := RS.one wz (kx, gx, ax, nx, sx)
          simp only [] at hone2
          have hbx2 := hbr.trans ((below_one wz (.cells #[.string kx, .bool gx, .int .i64 ax, .int .i64 nx, .string sx] 33)).mono hbr.size)
          have hbz2 := hbx2.size
          skip
          go_wp2_with (first
            | (with_reducible show wpList _ _ _ (⟨some 44, _, _, _, _, _⟩ :: _) _ _; go_loud (refine wpList_append_recs rfl (.tmp 38) (.tmp 43) rfl (w.alloc (recO key gone rk rn rs)).heap.size u5 (.slice (some ⟨(wz).heap.size, 0, none⟩) 1 1) acc [(kx, gx, ax, nx, sx)] rfl rfl ha2 hone2 (by have := Hal.out; simp <;> omega) hbz2 ?_); intro v6 w2 hown2 hg2; have hbc2 := hbx2.grown hg2 hbz2 ha2.row)
            | fail)
          exact ⟨⟨k + 1, true, _, by omega, by go_num, rfl, hown2, Hac2.out, hbc2⟩, by simp only [intOf]; omega⟩
      | false =>
        cases hb : bytesLess kx.toList key.toList with
        | true =>
          by_cases heq : kx.toList = key.toList
          · exact absurd hb (by rw [heq]; simp [less_irr])
          · have hqb : (kx.toList == key.toList) = false := by simpa using heq
            have hacc := Hst.out false false false (by rw [hb]; rfl) (decide_eq_false heq) rfl
            simp only [if_false, Bool.false_eq_true, List.append_nil] at hacc
            have Hac2 := Go.Lib.hid hacc; clear hacc heq Hst Hacc
            go_upto_region 6 with (fail)
            go_quiet (fail)
            have hbq := below_drewN hbc nq
            have hownq := hown.below (below_drewN (Below.refl _ wr) nq)
            clear hbc hown c0 c1 c2 c3 c4 r0 r1 r2 r3 r4 hbs
            generalize wr.drewN nq = wq at *
            obtain ⟨b9, o9, e9, -, hbs, c0, c1, c2, c3, c4⟩ := HC.out _ hbq
            cases e9
            obtain ⟨r0, r1, r2, r3, r4⟩ := box_later hbq
            go_upto_region 9 with (fail)
            go_quiet (fail)
            have hbr := below_drewN hbq nq
            have hownr := hownq.below (below_drewN (Below.refl _ wq) nq)
            clear hownq hbq c0 c1 c2 c3 c4 r0 r1 r2 r3 r4 hbs
            generalize wq.drewN nq = wz at *
            obtain ⟨b9, o9, e9, -, hbs, c0, c1, c2, c3, c4⟩ := HC.out _ hbr
            cases e9
            obtain ⟨r0, r1, r2, r3, r4⟩ := box_later hbr
            have ha2 := OwnRec.below hownr (below_one wz (.cells #[.string kx, .bool gx, .int .i64 ax, .int .i64 nx, .string sx] 33))
            have hone2 := RS.one wz (kx, gx, ax, nx, sx)
            simp only [] at hone2
            have hbx2 := hbr.trans ((below_one wz (.cells #[.string kx, .bool gx, .int .i64 ax, .int .i64 nx, .string sx] 33)).mono hbr.size)
            have hbz2 := hbx2.size
            skip
            go_wp2_with (first
              | (with_reducible show wpList _ _ _ (⟨some 44, _, _, _, _, _⟩ :: _) _ _; go_loud (refine wpList_append_recs rfl (.tmp 38) (.tmp 43) rfl (w.alloc (recO key gone rk rn rs)).heap.size u5 (.slice (some ⟨(wz).heap.size, 0, none⟩) 1 1) acc [(kx, gx, ax, nx, sx)] rfl rfl ha2 hone2 (by have := Hal.out; simp <;> omega) hbz2 ?_); intro v6 w2 hown2 hg2; have hbc2 := hbx2.grown hg2 hbz2 ha2.row)
              | fail)
            exact ⟨⟨k + 1, false, _, by omega, by go_num, rfl, hown2, Hac2.out, hbc2⟩, by simp only [intOf]; omega⟩
        | false =>
          by_cases heq : kx.toList = key.toList
          · have hqb : (kx.toList == key.toList) = true := by simpa using heq
            have hacc := Hst.out true true true (by rw [hb]; rfl) (decide_eq_true heq) rfl
            simp only [if_true, List.append_nil] at hacc
            have Hac2 := Go.Lib.hid hacc; clear hacc heq Hst Hacc
            go_upto_region 6 with (fail)
            go_quiet (fail)
            have hbq := below_drewN hbc nq
            have hownq := hown.below (below_drewN (Below.refl _ wr) nq)
            clear hbc hown c0 c1 c2 c3 c4 r0 r1 r2 r3 r4 hbs
            generalize wr.drewN nq = wq at *
            obtain ⟨b9, o9, e9, -, hbs, c0, c1, c2, c3, c4⟩ := HC.out _ hbq
            cases e9
            obtain ⟨r0, r1, r2, r3, r4⟩ := box_later hbq
            have ha1 := OwnRec.below hownq (below_one wq (.cells #[.string key, .bool gone, .int .i64 rk, .int .i64 rn, .string rs] 33))
            have hone1 := RS.one wq (key, gone, rk, rn, rs)
            simp only [] at hone1
            have hbx1 := hbq.trans ((below_one wq (.cells #[.string key, .bool gone, .int .i64 rk, .int .i64 rn, .string rs] 33)).mono hbq.size)
            have hbz1 := hbx1.size
            go_upto_region 9 with (first
              | (with_reducible show wpList _ _ _ (⟨some 29, _, _, _, _, _⟩ :: _) _ _; go_loud (refine wpList_append_recs rfl (.tmp 26) (.tmp 28) rfl (w.alloc (recO key gone rk rn rs)).heap.size u5 (.slice (some ⟨(wq).heap.size, 0, none⟩) 1 1) acc [(key, gone, rk, rn, rs)] rfl rfl ha1 hone1 (by have := Hal.out; simp <;> omega) hbz1 ?_); intro v5 w1 hown1 hg1; have hbc1 := hbx1.grown hg1 hbz1 ha1.row)
              | fail)
            clear c0 c1 c2 c3 c4 r0 r1 r2 r3 r4 hbs ha1 hone1 hbx1 hbz1 hg1 hownq hbq
            obtain ⟨b9, o9, e9, -, hbs, c0, c1, c2, c3, c4⟩ := HC.out _ hbc1
            cases e9
            obtain ⟨r0, r1, r2, r3, r4⟩ := box_later hbc1
            go_quiet (fail)
            have hbr := below_drewN hbc1 nq
            have hownr := hown1.below (below_drewN (Below.refl _ w1) nq)
            clear hown1 hbc1 c0 c1 c2 c3 c4 r0 r1 r2 r3 r4 hbs
            generalize w1.drewN nq = wz at *
            obtain ⟨b9, o9, e9, -, hbs, c0, c1, c2, c3, c4⟩ := HC.out _ hbr
            cases e9
            obtain ⟨r0, r1, r2, r3, r4⟩ := box_later hbr
            go_wp2_with fail
            exact ⟨⟨k + 1, true, _, by omega, by go_num, rfl, hownr, Hac2.out, hbr⟩, by simp only [intOf]; omega⟩
          · have hqb : (kx.toList == key.toList) = false := by simpa using heq
            have hacc := Hst.out true false true (by rw [hb]; rfl) (decide_eq_false heq) rfl
            simp only [if_true, if_false, Bool.false_eq_true] at hacc
            have Hac2 := Go.Lib.hid hacc; clear hacc heq Hst Hacc
            go_upto_region 6 with (fail)
            go_quiet (fail)
            have hbq := below_drewN hbc nq
            have hownq := hown.below (below_drewN (Below.refl _ wr) nq)
            clear hbc hown c0 c1 c2 c3 c4 r0 r1 r2 r3 r4 hbs
            generalize wr.drewN nq = wq at *
            obtain ⟨b9, o9, e9, -, hbs, c0, c1, c2, c3, c4⟩ := HC.out _ hbq
            cases e9
            obtain ⟨r0, r1, r2, r3, r4⟩ := box_later hbq
            have ha1 := OwnRec.below hownq (below_one wq (.cells #[.string key, .bool gone, .int .i64 rk, .int .i64 rn, .string rs] 33))
            have hone1 := RS.one wq (key, gone, rk, rn, rs)
            simp only [] at hone1
            have hbx1 := hbq.trans ((below_one wq (.cells #[.string key, .bool gone, .int .i64 rk, .int .i64 rn, .string rs] 33)).mono hbq.size)
            have hbz1 := hbx1.size
            go_upto_region 9 with (first
              | (with_reducible show wpList _ _ _ (⟨some 29, _, _, _, _, _⟩ :: _) _ _; go_loud (refine wpList_append_recs rfl (.tmp 26) (.tmp 28) rfl (w.alloc (recO key gone rk rn rs)).heap.size u5 (.slice (some ⟨(wq).heap.size, 0, none⟩) 1 1) acc [(key, gone, rk, rn, rs)] rfl rfl ha1 hone1 (by have := Hal.out; simp <;> omega) hbz1 ?_); intro v5 w1 hown1 hg1; have hbc1 := hbx1.grown hg1 hbz1 ha1.row)
              | fail)
            clear c0 c1 c2 c3 c4 r0 r1 r2 r3 r4 hbs ha1 hone1 hbx1 hbz1 hg1 hownq hbq
            obtain ⟨b9, o9, e9, -, hbs, c0, c1, c2, c3, c4⟩ := HC.out _ hbc1
            cases e9
            obtain ⟨r0, r1, r2, r3, r4⟩ := box_later hbc1
            go_quiet (fail)
            have hbr := below_drewN hbc1 nq
            have hownr := hown1.below (below_drewN (Below.refl _ w1) nq)
            clear hown1 hbc1 c0 c1 c2 c3 c4 r0 r1 r2 r3 r4 hbs
            generalize w1.drewN nq = wz at *
            obtain ⟨b9, o9, e9, -, hbs, c0, c1, c2, c3, c4⟩ := HC.out _ hbr
            cases e9
            obtain ⟨r0, r1, r2, r3, r4⟩ := box_later hbr
            have ha2 := OwnRec.below hownr (below_one wz (.cells #[.string kx, .bool gx, .int .i64 ax, .int .i64 nx, .string sx] 33))
            have hone2 := RS.one wz (kx, gx, ax, nx, sx)
            simp only [] at hone2
            have hbx2 := hbr.trans ((below_one wz (.cells #[.string kx, .bool gx, .int .i64 ax, .int .i64 nx, .string sx] 33)).mono hbr.size)
            have hbz2 := hbx2.size
            skip
            go_wp2_with (first
              | (with_reducible show wpList _ _ _ (⟨some 44, _, _, _, _, _⟩ :: _) _ _; go_loud (refine wpList_append_recs rfl (.tmp 38) (.tmp 43) rfl (w.alloc (recO key gone rk rn rs)).heap.size v5 (.slice (some ⟨(wz).heap.size, 0, none⟩) 1 1) (acc ++ [(key, gone, rk, rn, rs)]) [(kx, gx, ax, nx, sx)] rfl rfl ha2 hone2 (by have := Hal.out; simp <;> omega) hbz2 ?_); intro v6 w2 hown2 hg2; have hbc2 := hbx2.grown hg2 hbz2 ha2.row)
              | fail)
            exact ⟨⟨k + 1, true, _, by omega, by go_num, rfl, hown2, Hac2.out, hbc2⟩, by simp only [intOf]; omega⟩
    · obtain rfl : k = l.length := by omega
      have hacc := Hacc.out
      rw [List.drop_of_length_le (Nat.le_refl _)] at hacc
      obtain ⟨r0, r1, r2, r3, r4⟩ := box_later hbc
      cases d with
      | true =>
        simp only [setGo, if_true, List.append_nil] at hacc
        have hacc2 := Go.Lib.hid hacc; clear hacc Hacc
        go_wp2_with fail
        go_ret
        refine ⟨_, rfl, ?_, ?_⟩
        · rw [← hacc2.out]
          exact hown.mono (HB0.out.size)
        · exact HB0.out.trans (hbc.mono HB0.out.size)
      | false =>
        simp only [setGo, Bool.false_eq_true, if_false] at hacc
        have hacc2 := Go.Lib.hid hacc; clear hacc Hacc
        have Hal := Go.Lib.hid (show acc.length ≤ 1001 from acc_len hacc2.out hl)
        have hbs := hbc.size
        have ha1 := OwnRec.below hown (below_one wr (.cells #[.string key, .bool gone, .int .i64 rk, .int .i64 rn, .string rs] 33))
        have hone1 := RS.one wr (key, gone, rk, rn, rs)
        simp only [] at hone1
        have hbx1 := hbc.trans ((below_one wr (.cells #[.string key, .bool gone, .int .i64 rk, .int .i64 rn, .string rs] 33)).mono hbc.size)
        have hbz1 := hbx1.size
        go_wp2_with (first
          | (with_reducible show wpList _ _ _ (⟨some 50, _, _, _, _, _⟩ :: _) _ _; go_loud (refine wpList_append_recs rfl (.tmp 47) (.tmp 49) rfl (w.alloc (recO key gone rk rn rs)).heap.size u5 (.slice (some ⟨(wr).heap.size, 0, none⟩) 1 1) acc [(key, gone, rk, rn, rs)] rfl rfl ha1 hone1 (by have := Hal.out; simp <;> omega) hbz1 ?_); intro v5 w1 hown1 hg1; have hbc1 := hbx1.grown hg1 hbz1 ha1.row)
          | fail)
        go_ret
        refine ⟨_, rfl, ?_, ?_⟩
        · rw [← hacc2.out]
          exact hown1.mono (HB0.out.size)
        · exact HB0.out.trans (hbc1.mono HB0.out.size)

end Go.Proofs.YtggokffdgjedgaaGreat

namespace Go.Proofs.YtggokffdgjedgaaGreat
open Go.RowKit Go.Op

abbrev newestR (l : List RecT) : List RecT := newestK keyR bytesLess l
theorem newestR_len (l : List RecT) : (newestR l).length ≤ l.length := by
  have : ∀ (l acc : List RecT), (l.foldl (fun a r => setGo keyR bytesLess r a false) acc).length ≤ acc.length + l.length := by
    intro l
    induction l with
    | nil => intro acc; simp
    | cons x t ih =>
      intro acc
      rw [List.foldl_cons]
      refine Nat.le_trans (ih _) ?_
      have := (setR_len x acc false).1
      simp only [List.length_cons]
      omega
  simpa [newestR, newestK] using this l []
theorem newestR_step (l : List RecT) (k : Nat) (h : k < l.length) : setR (newestR (l.take k)) l[k] = newestR (l.take (k + 1)) := by
  rw [List.take_succ_eq_append_getElem h]
  unfold newestR newestK
  rw [List.foldl_append]
  rfl

end Go.Proofs.YtggokffdgjedgaaGreat

namespace Go.Proofs.YtggokffdgjedgaaGreat
open Go.RowKit

def firstN (h : Nat) : Nat := h % 8
def tagN (h : Nat) : Nat := h / 256 % 32768
def otherI (b tag : Int) : Int := if b < 0 ∨ 7 < b ∨ tag < 0 ∨ 32767 < tag then -1 else ((b.toNat ^^^ (1 + tag.toNat % 7) : Nat) : Int)

set_option maxRecDepth 100000 in
theorem rfirst_c (h : Nat) (w : World) (hh : h < 18446744073709551616) : Calls Tryz.prog 45 #[.int .u64 (h : Int)] w fun e w' => e = .returned (.int .i64 (firstN h : Int)) ∧ w = w' := by
  have e1 : (firstN h : Int) = (h : Int) % 8 := by unfold firstN; omega
  rw [e1]
  have hh' := Go.Lib.hid hh
  clear hh e1
  go_enter Tryz.func45, Tryz.ntmps45
  go_wp2_with fail
  go_ret
  exact ⟨rfl, rfl⟩
set_option maxRecDepth 100000 in
theorem rtag_c (h : Nat) (w : World) (hh : h < 18446744073709551616) : Calls Tryz.prog 47 #[.int .u64 (h : Int)] w fun e w' => e = .returned (.int .i64 (tagN h : Int)) ∧ w = w' := by
  have e1 : (tagN h : Int) = (h : Int) / 256 % 32768 := by unfold tagN; omega
  rw [e1]
  have hh' := Go.Lib.hid hh
  clear hh e1
  go_enter Tryz.func47, Tryz.ntmps47
  go_wp2_with fail
  go_ret
  have := hh'.out
  refine ⟨ret_int ?_, rfl⟩
  rw [IntKind.wrap_u64, Int.tmod_eq_emod_of_nonneg (by omega)]
  unfold wrap64
  omega
theorem otherI_bad {b t : Int} (h : b < 0 ∨ 7 < b ∨ t < 0 ∨ 32767 < t) : otherI b t = -1 := by unfold otherI; rw [if_pos h]
theorem otherI_ok {b t : Nat} (hb : b ≤ 7) (ht : t ≤ 32767) : otherI (b : Int) (t : Int) = ((b ^^^ (1 + t % 7) : Nat) : Int) := by
  unfold otherI
  rw [if_neg (by omega), Int.toNat_natCast, Int.toNat_natCast]
theorem i64_xor_small (a b : Nat) (ha : a < 128) (hb : b < 128) : bits .xor .i64 (a : Int) (b : Int) = ((a ^^^ b : Nat) : Int) := by
  have hx : a ^^^ b < 2 ^ 7 := Nat.xor_lt_two_pow (by omega) (by omega)
  show IntKind.i64.wrap ((BitVec.ofInt 64 (a : Int) ^^^ BitVec.ofInt 64 (b : Int)).toNat : Int) = _
  have e (a : Nat) (h : a < 128) : (BitVec.ofInt 64 (a : Int)).toNat = a := by
    rw [BitVec.ofInt_natCast, BitVec.toNat_ofNat]; exact Nat.mod_eq_of_lt (by omega)
  rw [BitVec.toNat_xor, e a ha, e b hb, IntKind.wrap_i64]
  omega
set_option maxRecDepth 100000 in
theorem rother_c (b t : Int) (w : World) : Calls Tryz.prog 46 #[.int .i64 b, .int .i64 t] w fun e w' => e = .returned (.int .i64 (otherI b t)) ∧ w = w' := by
  by_cases h1 : b < 0
  · have E := Go.Lib.hid (otherI_bad (b := b) (t := t) (.inl h1))
    go_enter Tryz.func46, Tryz.ntmps46
    go_wp2_with fail
    go_ret
    exact ⟨by rw [E.out]; rfl, rfl⟩
  by_cases h2 : 7 < b
  · have E := Go.Lib.hid (otherI_bad (b := b) (t := t) (.inr (.inl h2)))
    go_enter Tryz.func46, Tryz.ntmps46
    go_wp2_with fail
    go_ret
    exact ⟨by rw [E.out]; rfl, rfl⟩
  by_cases h3 : t < 0
  · have E := Go.Lib.hid (otherI_bad (b := b) (t := t) (.inr (.inr (.inl h3))))
    go_enter Tryz.func46, Tryz.ntmps46
    go_wp2_with fail
    go_ret
    exact ⟨by rw [E.out]; rfl, rfl⟩
  by_cases h4 : 32767 < t
  · have E := Go.Lib.hid (otherI_bad (b := b) (t := t) (.inr (.inr (.inr h4))))
    go_enter Tryz.func46, Tryz.ntmps46
    go_wp2_with fail
    go_ret
    exact ⟨by rw [E.out]; rfl, rfl⟩
  obtain ⟨B, rfl⟩ : ∃ B : Nat, b = (B : Int) := ⟨b.toNat, by omega⟩
  obtain ⟨T, rfl⟩ : ∃ T : Nat, t = (T : Int) := ⟨t.toNat, by omega⟩
  have E := Go.Lib.hid (otherI_ok (b := B) (t := T) (by omega) (by omega))
  have X := i64_xor_small B (1 + T % 7) (by omega) (by omega)
  rw [show ((1 + T % 7 : Nat) : Int) = 1 + (T : Int) % 7 from by omega] at X
  have X := Go.Lib.hid X
  go_enter Tryz.func46, Tryz.ntmps46
  go_wp2_with fail
  go_ret
  exact ⟨by rw [E.out]; rfl, rfl⟩

set_option maxRecDepth 100000 in
theorem hfirst_c (h : Nat) (w : World) (hh : h < 18446744073709551616) : Calls Tryz.prog 66 #[.int .u64 (h : Int)] w fun e w' => e = .returned (.int .i64 (firstN h : Int)) ∧ w = w' := by
  have e1 : (firstN h : Int) = (h : Int) % 8 := by unfold firstN; omega
  rw [e1]
  have hh' := Go.Lib.hid hh
  clear hh e1
  go_enter Tryz.func66, Tryz.ntmps66
  go_wp2_with fail
  go_ret
  exact ⟨rfl, rfl⟩
set_option maxRecDepth 100000 in
theorem htag_c (h : Nat) (w : World) (hh : h < 18446744073709551616) : Calls Tryz.prog 54 #[.int .u64 (h : Int)] w fun e w' => e = .returned (.int .i64 (tagN h : Int)) ∧ w = w' := by
  have e1 : (tagN h : Int) = (h : Int) / 256 % 32768 := by unfold tagN; omega
  rw [e1]
  have hh' := Go.Lib.hid hh
  clear hh e1
  go_enter Tryz.func54, Tryz.ntmps54
  go_wp2_with fail
  go_ret
  exact ⟨rfl, rfl⟩
set_option maxRecDepth 100000 in
theorem hother_c (b t : Int) (w : World) (b0 : -9223372036854775808 ≤ b) (b1 : b ≤ 9223372036854775807) (t0 : -9223372036854775808 ≤ t) (t1 : t ≤ 9223372036854775807) : Calls Tryz.prog 65 #[.int .i64 b, .int .i64 t] w fun e w' => e = .returned (.int .i64 (otherI b t)) ∧ w = w' := by
  by_cases h1 : b < 0
  · have E := Go.Lib.hid (otherI_bad (b := b) (t := t) (.inl h1))
    go_enter Tryz.func65, Tryz.ntmps65
    go_wp2_with fail
    go_ret
    exact ⟨by rw [E.out]; rfl, rfl⟩
  by_cases h2 : 8 ≤ b
  · have E := Go.Lib.hid (otherI_bad (b := b) (t := t) (.inr (.inl (by omega))))
    go_enter Tryz.func65, Tryz.ntmps65
    go_wp2_with fail
    go_ret
    exact ⟨by rw [E.out]; rfl, rfl⟩
  by_cases h3 : t < 0
  · have E := Go.Lib.hid (otherI_bad (b := b) (t := t) (.inr (.inr (.inl h3))))
    go_enter Tryz.func65, Tryz.ntmps65
    go_wp2_with fail
    go_ret
    exact ⟨by rw [E.out]; rfl, rfl⟩
  by_cases h4 : 32768 ≤ t
  · have E := Go.Lib.hid (otherI_bad (b := b) (t := t) (.inr (.inr (.inr (by omega)))))
    go_enter Tryz.func65, Tryz.ntmps65
    go_wp2_with fail
    go_ret
    exact ⟨by rw [E.out]; rfl, rfl⟩
  obtain ⟨B, rfl⟩ : ∃ B : Nat, b = (B : Int) := ⟨b.toNat, by omega⟩
  obtain ⟨T, rfl⟩ : ∃ T : Nat, t = (T : Int) := ⟨t.toNat, by omega⟩
  have E := Go.Lib.hid (otherI_ok (b := B) (t := T) (by omega) (by omega))
  have X := i64_xor_small B (1 + T % 7) (by omega) (by omega)
  rw [show ((1 + T % 7 : Nat) : Int) = 1 + (T : Int) % 7 from by omega] at X
  have X := Go.Lib.hid X
  go_enter Tryz.func65, Tryz.ntmps65
  go_wp2_with fail
  go_ret
  exact ⟨by rw [E.out]; rfl, rfl⟩

end Go.Proofs.YtggokffdgjedgaaGreat

namespace Go.Proofs.YtggokffdgjedgaaGreat

/-! ### Two buckets. -/
def othN (b t : Nat) : Nat := b ^^^ (1 + t % 7)
theorem xor_facts : ∀ b c : Fin 8, ∀ m : Fin 7, (b.val ^^^ (1 + m.val) < 8 ∧ (b.val ^^^ (1 + m.val)) ^^^ (1 + m.val) = b.val ∧ b.val ^^^ (1 + m.val) ≠ b.val ∧
    (min b.val (b.val ^^^ (1 + m.val)) = min c.val (c.val ^^^ (1 + m.val)) ↔ (b.val = c.val ∨ b.val = c.val ^^^ (1 + m.val)))) := by decide +kernel
theorem oth_all {b c : Nat} (t : Nat) (hb : b < 8) (hc : c < 8) : othN b t < 8 ∧ othN (othN b t) t = b ∧ othN b t ≠ b ∧ (min b (othN b t) = min c (othN c t) ↔ (b = c ∨ b = othN c t)) :=
  xor_facts ⟨b, hb⟩ ⟨c, hc⟩ ⟨t % 7, Nat.mod_lt _ (by omega)⟩
theorem oth_lt {b : Nat} (t : Nat) (hb : b < 8) : othN b t < 8 := (oth_all t hb hb).1
theorem oth_oth {b : Nat} (t : Nat) (hb : b < 8) : othN (othN b t) t = b := (oth_all t hb hb).2.1
theorem oth_ne {b : Nat} (t : Nat) (hb : b < 8) : othN b t ≠ b := (oth_all t hb hb).2.2.1
theorem first_lt (h : Nat) : firstN h < 8 := by unfold firstN; omega
theorem tag_lt (h : Nat) : tagN h < 32768 := by unfold tagN; omega
theorem otherI_nat {b t : Nat} (hb : b < 8) (ht : t < 32768) : otherI (b : Int) (t : Int) = (othN b t : Int) := otherI_ok (by omega) (by omega)

/-- The pair that bucket b and its other one are, with the tag. -/
def keyN (b t : Nat) : Nat × Nat := (min b (othN b t), t)
theorem keyN_iff {b c t u : Nat} (hb : b < 8) (hc : c < 8) : keyN b t = keyN c u ↔ t = u ∧ (b = c ∨ b = othN c u) := by
  unfold keyN
  rw [Prod.mk.injEq]
  constructor
  · rintro ⟨h1, h2⟩
    subst h2
    exact ⟨rfl, (oth_all t hb hc).2.2.2.1 h1⟩
  · rintro ⟨h1, h2⟩
    subst h1
    exact ⟨(oth_all t hb hc).2.2.2.2 h2, rfl⟩
theorem keyN_oth {b : Nat} (t : Nat) (hb : b < 8) : keyN (othN b t) t = keyN b t := (keyN_iff (oth_lt t hb) hb).2 ⟨rfl, .inr rfl⟩
/-- An entry: its hash, its number. -/
abbrev EnT := Nat × Int
def keyH (h : Nat) : Nat × Nat := keyN (firstN h) (tagN h)
def keyE (e : EnT) : (Nat × Nat) × Int := (keyH e.1, e.2)
def nearN (a b : Nat) : Bool := tagN a == tagN b && (firstN a == firstN b || firstN a == othN (firstN b) (tagN b))
theorem near_iff (a b : Nat) : nearN a b = true ↔ keyH a = keyH b := by
  unfold nearN keyH
  rw [keyN_iff (first_lt a) (first_lt b)]
  simp

/-! ### Slots: eight buckets of four; slot 4 * b + s. -/
abbrev SlT := Nat → Option (Nat × Int)
/-- Bucket, tag, number. -/
def slL (T : SlT) : List (Nat × Nat × Int) := (List.range 32).filterMap fun q => (T q).map fun x => (q / 4, x.1, x.2)
def keyS (x : Nat × Nat × Int) : (Nat × Nat) × Int := (keyN x.1 x.2.1, x.2.2)
/-- The slots hold just those that are there. -/
def Fits (T : SlT) (es : List EnT) : Prop := ((slL T).map keyS).Perm (es.map keyE)
def TOk (T : SlT) : Prop := ∀ q x, T q = some x → q < 32 ∧ x.1 < 32768
theorem slL_bucket {T : SlT} {x : Nat × Nat × Int} (h : x ∈ slL T) : x.1 < 8 := by
  obtain ⟨q, hq, hx⟩ := List.mem_filterMap.1 h
  rw [Option.map_eq_some_iff] at hx
  obtain ⟨y, -, rfl⟩ := hx
  have := List.mem_range.1 hq
  show q / 4 < 8
  omega
theorem slL_none {T : SlT} (h : ∀ q, q < 32 → T q = none) : slL T = [] := by
  unfold slL
  rw [List.filterMap_eq_nil_iff]
  intro q hq
  rw [h q (List.mem_range.1 hq)]
  rfl
theorem Fits.empty {T : SlT} (h : ∀ q, q < 32 → T q = none) : Fits T [] := by unfold Fits; rw [slL_none h]; exact List.Perm.refl _
theorem Fits.length {T : SlT} {es : List EnT} (h : Fits T es) : (slL T).length = es.length := by
  have := List.Perm.length_eq h
  simpa using this
theorem Fits.perm {T : SlT} {es fs : List EnT} (h : Fits T es) (g : (es.map keyE).Perm (fs.map keyE)) : Fits T fs := List.Perm.trans h g

/-- A slot is written. -/
def layT (T : SlT) (q : Nat) (x : Option (Nat × Int)) : SlT := fun k => if k = q then x else T k
theorem fm_congr {α β : Type} {f g : α → Option β} : ∀ {l : List α}, (∀ x ∈ l, f x = g x) → l.filterMap f = l.filterMap g
  | [], _ => rfl
  | x :: l, h => by
    rw [List.filterMap_cons, List.filterMap_cons, h x (List.mem_cons_self ..), fm_congr (l := l) fun y hy => h y (List.mem_cons_of_mem _ hy)]
theorem range_split {q : Nat} (h : q < 32) : List.range 32 = List.range q ++ q :: (List.range (31 - q)).map (fun k => q + 1 + k) := by
  apply List.ext_getElem
  · simp; omega
  · intro i h1 h2
    rw [List.getElem_range]
    by_cases hi : i < q
    · rw [List.getElem_append_left (by simpa using hi), List.getElem_range]
    · by_cases hq : i = q
      · subst hq; simp
      · rw [List.getElem_append_right (by simp; omega)]
        simp only [List.length_range]
        rw [List.getElem_cons, dif_neg (by omega), List.getElem_map, List.getElem_range]
        omega
theorem slL_split (T : SlT) {q : Nat} (h : q < 32) : ∃ a b, (∀ x, slL (layT T q x) = a ++ ((x.map fun y => (q / 4, y.1, y.2)).toList ++ b)) ∧ slL T = a ++ (((T q).map fun y => (q / 4, y.1, y.2)).toList ++ b) := by
  refine ⟨(List.range q).filterMap fun k => (T k).map fun x => (k / 4, x.1, x.2), ((List.range (31 - q)).map (fun k => q + 1 + k)).filterMap fun k => (T k).map fun x => (k / 4, x.1, x.2), fun x => ?_, ?_⟩
  · unfold slL
    rw [range_split h, List.filterMap_append]
    congr 1
    · exact fm_congr fun k hk => by
        have := List.mem_range.1 hk
        unfold layT
        rw [if_neg (by omega)]
    · have e : ((List.range (31 - q)).map (fun k => q + 1 + k)).filterMap (fun k => (layT T q x k).map fun x => (k / 4, x.1, x.2)) = ((List.range (31 - q)).map (fun k => q + 1 + k)).filterMap fun k => (T k).map fun x => (k / 4, x.1, x.2) := fm_congr fun k hk => by
        obtain ⟨j, -, rfl⟩ := List.mem_map.1 hk
        unfold layT
        rw [if_neg (by omega)]
      rw [List.filterMap_cons, e]
      unfold layT
      rw [if_pos rfl]
      cases x <;> rfl
  · unfold slL
    rw [range_split h, List.filterMap_append]
    congr 1
    rw [List.filterMap_cons]
    cases T q <;> rfl
/-- An empty slot is filled with an entry of the pair. -/
theorem Fits.fill {T : SlT} {es : List EnT} (h : Fits T es) {q : Nat} (hq : q < 32) (he : T q = none) (e : EnT) (hk : keyN (q / 4) (tagN e.1) = keyH e.1) : Fits (layT T q (some (tagN e.1, e.2))) (es ++ [e]) := by
  obtain ⟨a, b, h1, h2⟩ := slL_split T hq
  unfold Fits at *
  rw [h1]
  rw [h2, he] at h
  simp only [Option.map_none, Option.toList_none, List.nil_append, List.map_append] at h
  simp only [Option.map_some, Option.toList_some, List.map_append, List.map_cons, List.map_nil, List.singleton_append]
  have e1 : keyS (q / 4, tagN e.1, e.2) = keyE e := by unfold keyS keyE; simp only []; rw [hk]
  rw [e1]
  exact (List.perm_middle.trans (List.Perm.cons _ h)).trans (List.perm_append_singleton _ _).symm
/-- An entry moves to an empty slot of its pair. -/
theorem Fits.move {T : SlT} {es : List EnT} (h : Fits T es) {p q : Nat} (hp : p < 32) (hq : q < 32) {x : Nat × Int} (hx : T p = some x) (he : T q = none) (hk : keyN (q / 4) x.1 = keyN (p / 4) x.1) : Fits (layT (layT T q (some x)) p none) es := by
  have hpq : p ≠ q := by intro e; subst e; rw [hx] at he; cases he
  obtain ⟨a, b, h1, h2⟩ := slL_split T hq
  obtain ⟨c, d, h3, h4⟩ := slL_split (layT T q (some x)) hp
  have e1 : layT T q (some x) p = some x := by unfold layT; rw [if_neg hpq]; exact hx
  unfold Fits at *
  have hP : ((slL (layT T q (some x))).map keyS).Perm (keyS (q / 4, x.1, x.2) :: (slL T).map keyS) := by
    rw [h1, h2, he]
    simp only [Option.map_some, Option.map_none, Option.toList_some, Option.toList_none, List.nil_append, List.map_append, List.map_cons, List.singleton_append]
    exact List.perm_middle
  have hQ : (keyS (p / 4, x.1, x.2) :: (slL (layT (layT T q (some x)) p none)).map keyS).Perm ((slL (layT T q (some x))).map keyS) := by
    rw [h3, h4, e1]
    simp only [Option.map_some, Option.map_none, Option.toList_some, Option.toList_none, List.nil_append, List.map_append, List.map_cons, List.singleton_append]
    exact List.perm_middle.symm
  have e2 : keyS (q / 4, x.1, x.2) = keyS (p / 4, x.1, x.2) := by unfold keyS; simp only []; rw [hk]
  rw [e2] at hP
  exact ((List.Perm.cons_inv (hQ.trans hP))).trans h
theorem erase_perm {α : Type} : ∀ (l : List α) (k : Nat) (h : k < l.length), l.Perm (l[k] :: l.eraseIdx k)
  | x :: l, 0, _ => List.Perm.refl _
  | x :: l, k + 1, h => ((erase_perm l k (by simpa using h)).cons x).trans (List.Perm.swap _ _ _)
/-- A slot's number turns. -/
theorem Fits.turn {T : SlT} {es : List EnT} (h : Fits T es) {q : Nat} (hq : q < 32) {x : Nat × Int} (hx : T q = some x) {k : Nat} (hk : k < es.length) (he : keyE es[k] = keyS (q / 4, x.1, x.2)) (i : Int) : Fits (layT T q (some (x.1, i))) (es.set k (es[k].1, i)) := by
  obtain ⟨a, b, h1, h2⟩ := slL_split T hq
  unfold Fits at *
  rw [h1]
  rw [h2, hx] at h
  simp only [Option.map_some, Option.toList_some, List.map_append, List.map_cons, List.singleton_append] at h ⊢
  have e1 : es.Perm (es[k] :: es.eraseIdx k) := erase_perm es k hk
  have e2 : (es.set k (es[k].1, i)).Perm ((es[k].1, i) :: es.eraseIdx k) := by
    have hk2 : k < (es.set k (es[k].1, i)).length := by rw [List.length_set]; exact hk
    have := erase_perm _ k hk2
    rw [List.getElem_set_self, List.eraseIdx_set_eq] at this
    exact this
  have h3 := (List.perm_middle.symm.trans h).trans (e1.map keyE)
  rw [List.map_cons, ← he] at h3
  have h4 := List.Perm.cons_inv h3
  refine (List.perm_middle.trans ?_).trans (e2.map keyE).symm
  rw [List.map_cons]
  have e3 : keyS (q / 4, x.1, i) = keyE (es[k].1, i) := by
    unfold keyS keyE at *
    simp only [Prod.mk.injEq] at he ⊢
    exact ⟨he.1.symm, trivial⟩
  rw [e3]
  exact List.Perm.cons _ h4

/-! ### Who has room. -/
def bitN (S b : Nat) : Nat := S / 2 ^ b % 2
def roomN (S : Nat) : Nat := ((List.range 8).map fun b => 4 * bitN S b).sum
def inS (S h : Nat) : Bool := bitN S (firstN h) == 1 && bitN S (othN (firstN h) (tagN h)) == 1
def cntN (S : Nat) (hs : List Nat) : Nat := hs.countP (inS S)
def roomB (hs : List Nat) : Bool := (List.range 256).all fun S => decide (cntN S hs ≤ roomN S)
theorem room_slots : ∀ S : Fin 256, (List.range 32).countP (fun q => bitN S.val (q / 4) == 1) = roomN S.val := by decide +kernel
/-- Are both buckets of a pair in the set? -/
def inK (S : Nat) (k : (Nat × Nat) × Int) : Bool := bitN S k.1.1 == 1 && bitN S (othN k.1.1 k.1.2) == 1
theorem inK_of (S b t : Nat) (i : Int) (hb : b < 8) : inK S (keyN b t, i) = (bitN S b == 1 && bitN S (othN b t) == 1) := by
  unfold inK keyN
  simp only []
  rcases Nat.le_total b (othN b t) with h | h
  · rw [Nat.min_eq_left h]
  · rw [Nat.min_eq_right h, oth_oth t hb, Bool.and_comm]
theorem inK_e (S : Nat) (e : EnT) : inK S (keyE e) = inS S e.1 := inK_of S _ _ _ (first_lt e.1)
theorem cnt_keys (S : Nat) (es : List EnT) : cntN S (es.map Prod.fst) = (es.map keyE).countP (inK S) := by
  unfold cntN
  rw [List.countP_map, List.countP_map]
  exact List.countP_congr fun e _ => by simp only [Function.comp]; rw [inK_e]
theorem cnt_slots {T : SlT} {es : List EnT} (h : Fits T es) (S : Nat) : cntN S (es.map Prod.fst) = (slL T).countP fun x => bitN S x.1 == 1 && bitN S (othN x.1 x.2.1) == 1 := by
  rw [cnt_keys, ← List.Perm.countP_eq _ h, List.countP_map]
  exact List.countP_congr fun x hx => by simp only [Function.comp]; unfold keyS; rw [inK_of _ _ _ _ (slL_bucket hx)]
theorem slL_count (T : SlT) (p : Nat × Nat × Int → Bool) : (slL T).countP p = (List.range 32).countP fun q => match T q with | some x => p (q / 4, x.1, x.2) | none => false := by
  unfold slL
  induction List.range 32 with
  | nil => rfl
  | cons q l ih =>
    rw [List.filterMap_cons]
    cases hT : T q with
    | none => simp only [Option.map_none]; rw [ih, List.countP_cons_of_neg (by rw [hT]; simp)]
    | some x =>
      simp only [Option.map_some]
      rw [List.countP_cons, List.countP_cons, ih, hT]
/-- Those that lie have room. -/
theorem room_of_fits {T : SlT} {es : List EnT} (h : Fits T es) : roomB (es.map Prod.fst) = true := by
  unfold roomB
  rw [List.all_eq_true]
  intro S hS
  rw [decide_eq_true_eq, cnt_slots h, slL_count, ← room_slots ⟨S, List.mem_range.1 hS⟩]
  refine List.countP_mono_left fun q _ hq => ?_
  cases hT : T q with
  | none => rw [hT] at hq; cases hq
  | some x => rw [hT] at hq; simp only [Bool.and_eq_true] at hq; exact hq.1
/-- A set of buckets that are full, whose entries all have both of theirs in it: one more has no room. -/
theorem no_room {T : SlT} {es : List EnT} (h : Fits T es) {S h' : Nat} (hS : S < 256) (hh : inS S h' = true)
    (hfull : ∀ q, q < 32 → bitN S (q / 4) = 1 → ∃ x, T q = some x ∧ bitN S (othN (q / 4) x.1) = 1) : roomB (es.map Prod.fst ++ [h']) = false := by
  have hc : cntN S (es.map Prod.fst ++ [h']) = cntN S (es.map Prod.fst) + 1 := by
    unfold cntN
    rw [List.countP_append, List.countP_cons_of_pos hh]
    rfl
  have hle : roomN S ≤ cntN S (es.map Prod.fst) := by
    rw [cnt_slots h, slL_count, ← room_slots ⟨S, hS⟩]
    refine List.countP_mono_left fun q hq hb => ?_
    have hb1 : bitN S (q / 4) = 1 := by simpa using hb
    obtain ⟨x, hx, hx1⟩ := hfull q (List.mem_range.1 hq) hb1
    rw [hx]
    simp [hb1, hx1]
  unfold roomB
  rw [List.all_eq_false]
  refine ⟨S, List.mem_range.2 hS, ?_⟩
  rw [decide_eq_true_eq, hc]
  omega
theorem room_le {hs : List Nat} {h : Nat} (g : roomB (hs ++ [h]) = true) : roomB hs = true := by
  unfold roomB at *
  rw [List.all_eq_true] at *
  intro S hS
  have := g S hS
  rw [decide_eq_true_eq] at *
  unfold cntN at *
  rw [List.countP_append] at this
  omega
theorem room_perm {hs gs : List Nat} (h : hs.Perm gs) : roomB hs = roomB gs := by
  unfold roomB cntN
  congr 1
  funext S
  rw [h.countP_eq]
theorem room_nil : roomB [] = true := by
  unfold roomB
  rw [List.all_eq_true]
  intro S _
  simp [cntN]

end Go.Proofs.YtggokffdgjedgaaGreat

namespace Go.Proofs.YtggokffdgjedgaaGreat
open Go.RowKit

theorem info32 : (Tryz.prog.info? 21).map (fun i => (i.zero, i.size, i.bytes)) = some (some (.int .i32 0), 1, 4) := by kernel_rfl

theorem info64 : (Tryz.prog.info? 3).map (fun i => (i.zero, i.size, i.bytes)) = some (some (.int .i64 0), 1, 8) := by kernel_rfl

end Go.Proofs.YtggokffdgjedgaaGreat

namespace Go.Proofs.YtggokffdgjedgaaGreat
open Go.RowKit

/-- Where each begins. -/
def posl (l : List UInt8) : List Nat := (List.range (toks l).length).map (posOf l)

theorem posl_length (l : List UInt8) : (posl l).length = (toks l).length := by simp [posl]

theorem posl_at (l : List UInt8) (i : Nat) (h : i < (posl l).length) : (posl l)[i] = posOf l i := by simp [posl]

theorem posl_more (l : List UInt8) (n : Nat) (h : n < (toks l).length) : zi .i64 ((posl l).take n) ++ [.int .i64 (posOf l n : Int)] = zi .i64 ((posl l).take (n + 1)) := by
  have h' : n < (posl l).length := by rw [posl_length]; exact h
  rw [List.take_succ_eq_append_getElem h', zi_append, posl_at]
  rfl

set_option maxHeartbeats 1000000 in
set_option maxRecDepth 100000 in
theorem rrunes_c (s : ByteArray) (w : World) (hm : s.size ≤ 1000000000) :
    Calls Tryz.prog 44 #[.string s] w fun e w' => ∃ v1 v2, e = .returned (.tuple #[v1, v2]) ∧ OwnV 21 w' w.heap.size v1 (zi .i32 (runesOf (toks (bl s)))) ∧ OwnV 3 w' w.heap.size v2 (zi .i64 (posl (bl s))) ∧ Below w.heap.size w w' := by
  have hl1 := toks_length (bl s)
  rw [← bl_size] at hl1
  obtain ⟨T, hT⟩ : ∃ T, T = (toks (bl s)).length := ⟨_, rfl⟩
  rw [← hT] at hl1
  have HT := Go.Lib.hid hT; clear hT
  go_enter Tryz.func44, Tryz.ntmps44
  go_wp2
  go_loopw [4, 5, 6] (fun u1 u2 u wr => ∃ (n p : Nat) (v1 v2 : Value), v1 = u1 ∧ v2 = u2 ∧ n ≤ T ∧ u = .int .i64 (p : Int) ∧ p ≤ s.size ∧ Hid (p = posOf (bl s) n) ∧ OwnV 21 wr w.heap.size v1 (zi .i32 ((runesOf (toks (bl s))).take n)) ∧ OwnV 3 wr w.heap.size v2 (zi .i64 ((posl (bl s)).take n)) ∧ Below w.heap.size w wr) (fun _ _ u _ => s.size - (intOf u).toNat)
  case atStart => exact ⟨0, 0, _, _, rfl, rfl, by omega, rfl, by omega, rfl, OwnV.nil _ _ _, OwnV.nil _ _ _, Below.refl _ _⟩
  case round =>
    obtain ⟨n, p, v1, v2, rfl, rfl, hn, rfl, hps, hp, hown1, hown2, hbw⟩ := hrel
    by_cases hlt : n < T
    · have hT' : n < (toks (bl s)).length := by rw [← HT.out]; exact hlt
      have hne := drop_ne (bl s) n hT'
      rw [← hp.out] at hne
      have hplt : p < s.size := by
        rw [bl_size]
        exact Nat.lt_of_not_le fun hh => hne (List.drop_eq_nil_of_le hh)
      have hsz : (s.extract p s.size).size ≤ maxLen := by rw [ByteArray.size_extract]; unfold maxLen; omega
      have C := fun W => decode_c (s.extract p s.size) W (by rw [drop_bl]; exact hne) hsz
      rw [drop_bl] at C
      have hsucc := posOf_succ (bl s) n hT'
      have hm1 := Go.Lib.hid (zi_more .i32 (toks (bl s)) n hT')
      have hm2 := Go.Lib.hid (posl_more (bl s) n hT')
      have hg := congrArg Prod.fst (get_toks (bl s) n hT')
      have hple := posOf_le (bl s) (n + 1)
      rw [← bl_size] at hple
      rw [← hp.out] at hsucc hg hm2
      have hdw := (dw_le _ hne).1
      rw [hsucc] at hple
      have hn1 : (zi .i32 ((runesOf (toks (bl s))).take n)).length = n := by rw [zi_length, List.length_take, runesOf_length]; omega
      have hn2 : (zi .i64 ((posl (bl s)).take n)).length = n := by rw [zi_length, List.length_take, posl_length]; omega
      simp only at hg
      rw [hg] at hm1
      clear hsz hne hg
      unfold dv at C
      generalize (bl s).drop p = L at *
      have Hsucc := Go.Lib.hid hsucc; clear hsucc
      have HC := Go.Lib.hid C; clear C
      generalize dr L = r at *
      generalize dw L = d at *
      generalize okB L = ok at *
      have Hn1 := Go.Lib.hid hn1; clear hn1
      have Hn2 := Go.Lib.hid hn2; clear hn2
      generalize zi .i32 ((runesOf (toks (bl s))).take n) = z1 at *
      generalize zi .i64 ((posl (bl s)).take n) = z2 at *
      go_wp2_with (first
        | (refine (HC.out _).mono ?_; rintro e w1 ⟨rfl, rfl⟩)
        | (with_reducible show wpList _ _ _ (⟨some 25, _, _, _, _, _⟩ :: _) _ _; go_loud (refine wpList_append_RV rfl (.tmp 22) (.tmp 24) 83 rfl w.heap.size 21 Tryz.underlying83 (.int .i32 0) 4 rfl info32 v1 (.slice (some ⟨wr.heap.size, 0, none⟩) 1 1) z1 [.int .i32 (r : Int)] rfl rfl (hown1.alloc _) (RV.one _ _ _) (one_one _ _) (by rw [Hn1.out]; simp only [List.length_cons, List.length_nil]; omega) (by rw [Hn1.out]; simp only [List.length_cons, List.length_nil]; omega) (hbw.alloc hbw.size _).size ?_); intro v3 w3 hown3 hg3; have hb3 := (hbw.alloc hbw.size _).grown hg3 (hbw.alloc hbw.size _).size hown1.row; have hown2' := (hown2.alloc _).kept hg3 (own_apart (by decide) hown1 hown2))
        | (with_reducible show wpList _ _ _ (⟨some 29, _, _, _, _, _⟩ :: _) _ _; go_loud (refine wpList_append_RV rfl (.tmp 26) (.tmp 28) 63 rfl w.heap.size 3 Tryz.underlying63 (.int .i64 0) 8 rfl info64 v2 (.slice (some ⟨w3.heap.size, 0, none⟩) 1 1) z2 [.int .i64 (p : Int)] rfl rfl (hown2'.alloc _) (RV.one _ _ _) (one_one _ _) (by rw [Hn2.out]; simp only [List.length_cons, List.length_nil]; omega) (by rw [Hn2.out]; simp only [List.length_cons, List.length_nil]; omega) (hb3.alloc hb3.size _).size ?_); intro v5 w5 hown5 hg5; have hb5 := (hb3.alloc hb3.size _).grown hg5 (hb3.alloc hb3.size _).size hown2'.row; have hown3' := (hown3.alloc _).kept hg5 (own_apart (by decide) hown2' hown3))
        | fail)
      go_roundw
      case rel => exact ⟨n + 1, p + d, _, _, rfl, rfl, by omega, by go_num, by omega, Hsucc.out.symm, by rw [← hm1.out]; exact hown3', by rw [← hm2.out]; exact hown5, hb5⟩
      case measure => simp [intOf]; omega
    · have hpe : p = s.size := by
        rw [hp.out, posOf_all (bl s) n (by rw [← HT.out]; omega), bl_size]
      rw [List.take_of_length_le (by rw [runesOf_length, ← HT.out]; omega)] at hown1
      rw [List.take_of_length_le (by rw [posl_length, ← HT.out]; omega)] at hown2
      clear hp
      subst hpe
      go_wp2
      go_ret2
      exact ⟨_, _, rfl, hown1, hown2, hbw⟩

end Go.Proofs.YtggokffdgjedgaaGreat

namespace Go.Proofs.YtggokffdgjedgaaGreat
open Go.RowKit

def two64 : Nat := 18446744073709551616
def seedN : Nat := 14695981039346656037
def primeN : Nat := 1099511628211
def goldN : Nat := 11400714819323198485
theorem two64_eq : two64 = 2 ^ 64 := by unfold two64; omega
theorem seed_lt : seedN < two64 := by unfold seedN two64; omega
theorem seed_eq : (14695981039346656037 : Int) = (seedN : Int) := by unfold seedN; omega
theorem prime_eq : primeN = 1099511628211 := rfl
theorem gold_eq : goldN = 11400714819323198485 := rfl
theorem two64_lit : two64 = 18446744073709551616 := rfl
attribute [irreducible] seedN primeN goldN two64
/-- One rune more. -/
def mixR (h r : Nat) : Nat := (h ^^^ r) * primeN % two64
/-- The runes' hash before the last turn. -/
def foldH (rs : List Nat) : Nat := rs.foldl mixR seedN
def turnA (h : Nat) : Nat := h ^^^ (h / 4294967296)
def turnB (h : Nat) : Nat := turnA h * goldN % two64
def turnC (h : Nat) : Nat := turnB h ^^^ (turnB h / 536870912)
def hashN (rs : List Nat) : Nat := turnC (foldH rs)

theorem two64_pos : 0 < two64 := by rw [two64_eq]; exact Nat.pow_pos (by omega)
theorem mixR_lt (h r : Nat) : mixR h r < two64 := by unfold mixR; exact Nat.mod_lt _ two64_pos
theorem foldH_lt (rs : List Nat) : foldH rs < two64 := by
  unfold foldH
  have : ∀ (l : List Nat) (h : Nat), h < two64 → l.foldl mixR h < two64 := by
    intro l
    induction l with
    | nil => intro h hh; exact hh
    | cons r l ih => intro h _; exact ih _ (mixR_lt h r)
  exact this rs _ seed_lt
theorem foldH_snoc (rs : List Nat) (r : Nat) : foldH (rs ++ [r]) = mixR (foldH rs) r := by
  unfold foldH
  rw [List.foldl_append, List.foldl_cons, List.foldl_nil]
theorem xor_lt64 {a b : Nat} (ha : a < two64) (hb : b < two64) : a ^^^ b < two64 := by
  rw [two64_eq] at *
  exact Nat.xor_lt_two_pow ha hb
theorem turnA_lt {h : Nat} (hh : h < two64) : turnA h < two64 := by unfold turnA; exact xor_lt64 hh (Nat.lt_of_le_of_lt (Nat.div_le_self _ _) hh)
theorem turnB_lt (h : Nat) : turnB h < two64 := by unfold turnB; exact Nat.mod_lt _ two64_pos
theorem turnC_lt (h : Nat) : turnC h < two64 := by unfold turnC; exact xor_lt64 (turnB_lt h) (Nat.lt_of_le_of_lt (Nat.div_le_self _ _) (turnB_lt h))
theorem hashN_lt (rs : List Nat) : hashN rs < two64 := turnC_lt _

theorem fold_nil : (14695981039346656037 : Int) = (foldH [] : Int) := seed_eq

theorem mix_step (h r : Nat) (hh : h < two64) (hr : r < 1114112) : IntKind.u64.wrap (bits .xor .u64 (h : Int) (IntKind.u64.wrap (r : Int)) * 1099511628211) = (mixR h r : Int) := by
  rw [two64_lit] at hh
  have e1 : IntKind.u64.wrap (r : Int) = (r : Int) := by rw [IntKind.wrap_u64]; omega
  rw [e1, u64_xor_nat h r hh (by omega), IntKind.wrap_u64]
  unfold mixR
  rw [prime_eq, two64_lit]
  generalize h ^^^ r = q
  omega
theorem turn_a (h : Nat) (hh : h < two64) : bits .xor .u64 (h : Int) ((h : Int) / 4294967296) = (turnA h : Int) := by
  rw [two64_lit] at hh
  have e : (h : Int) / 4294967296 = ((h / 4294967296 : Nat) : Int) := by omega
  rw [e, u64_xor_nat h (h / 4294967296) hh (by omega)]
  rfl
theorem turn_b (h : Nat) : IntKind.u64.wrap ((turnA h : Int) * 11400714819323198485) = (turnB h : Int) := by
  rw [IntKind.wrap_u64]
  unfold turnB
  rw [gold_eq, two64_lit]
  generalize turnA h = q
  omega
theorem turn_c (h : Nat) : bits .xor .u64 (turnB h : Int) ((turnB h : Int) / 536870912) = (turnC h : Int) := by
  have hh := turnB_lt h
  unfold turnC
  generalize turnB h = q at *
  rw [two64_lit] at hh
  have e : (q : Int) / 536870912 = ((q / 536870912 : Nat) : Int) := by omega
  rw [e, u64_xor_nat q (q / 536870912) hh (by omega)]
theorem rune_lt (l : List UInt8) : ∀ r ∈ runesOf (toks l), r < 1114112 := by
  intro r hr
  obtain ⟨t, ht, rfl⟩ := List.mem_map.1 hr
  have := (valid_iff t.1).1 (toks_good l t ht).1
  omega

set_option maxHeartbeats 1000000 in
set_option maxRecDepth 100000 in
theorem rhash_c (s : ByteArray) (w : World) (hm : s.size ≤ 1000000) :
    Calls Tryz.prog 27 #[.string s] w fun e w' => e = .returned (.int .u64 (hashN (runesOf (toks (bl s))) : Int)) ∧ Below w.heap.size w w' := by
  have C := rrunes_c s w (by omega)
  have hlen : (runesOf (toks (bl s))).length ≤ 1000000 := by rw [runesOf_length]; have := toks_length (bl s); rw [← bl_size] at this; omega
  have hrl := rune_lt (bl s)
  generalize runesOf (toks (bl s)) = rs at *
  have C := Go.Lib.hid C
  have hlen := Go.Lib.hid hlen
  have hrl := Go.Lib.hid hrl
  have hf := Go.Lib.hid fold_nil
  go_enter Tryz.func27, Tryz.ntmps27
  go_wp2_with fail
  refine C.out.mono ?_
  rintro e w1 ⟨v1, v2, rfl, h1, -, hb⟩
  obtain ⟨a, c, rfl, -⟩ := h1.rv.form
  have e0 : (zi .i32 rs).length = rs.length := zi_length ..
  rw [e0] at h1 ⊢
  have HR := Go.Lib.hid h1.rv
  clear h1 e0 C
  go_wp2_with fail
  go_loop [3, 6] (fun hv iv => ∃ k : Nat, k ≤ rs.length ∧ iv = .int .i64 (k : Int) ∧ hv = .int .u64 (foldH (rs.take k) : Int)) (fun _ iv => rs.length - (intOf iv).toNat)
  case atStart => exact ⟨0, by omega, rfl, by rw [hf.out]; rfl⟩
  case round =>
    obtain ⟨k, hk, rfl, rfl⟩ := hrel
    by_cases hlt : k < rs.length
    · obtain ⟨b, o, rfl, hc, -⟩ := HR.out.at k (by rw [zi_length]; exact hlt)
      rw [zi_at _ _ _ hlt] at hc
      have hs := foldH_snoc (rs.take k) rs[k]
      rw [← List.take_succ_eq_append_getElem hlt] at hs
      have Hs := Go.Lib.hid hs
      have Hlt := Go.Lib.hid (foldH_lt (rs.take k))
      clear hs
      generalize foldH (rs.take k) = h at *
      have Hr := Go.Lib.hid (hrl.out rs[k] (List.getElem_mem hlt))
      generalize rs[k] = r at *
      have hk6 : k ≤ 1000000 := by have := hlen.out; omega
      have Hst := Go.Lib.hid (mix_step h r Hlt.out Hr.out)
      go_wp2_with fail
      go_round
      case rel => exact ⟨k + 1, by omega, by go_num, by rw [Hst.out, Hs.out]⟩
      case measure => simp only [intOf]; omega
    · obtain rfl : k = rs.length := by omega
      rw [List.take_length]
      have Ha := Go.Lib.hid (turn_a (foldH rs) (foldH_lt rs))
      have Hb := Go.Lib.hid (turn_b (foldH rs))
      have Hc := Go.Lib.hid (turn_c (foldH rs))
      have Hh := Go.Lib.hid (show hashN rs = turnC (foldH rs) from rfl)
      generalize foldH rs = h at *
      go_wp2_with fail
      go_ret
      refine ⟨ret_int (a := bits .xor .u64 (IntKind.u64.wrap (bits .xor .u64 (h : Int) ((h : Int) / 4294967296) * 11400714819323198485)) (IntKind.u64.wrap (bits .xor .u64 (h : Int) ((h : Int) / 4294967296) * 11400714819323198485) / 536870912)) ?_, hb⟩
      rw [Ha.out, Hb.out, Hc.out, Hh.out]

end Go.Proofs.YtggokffdgjedgaaGreat

namespace Go.Proofs.YtggokffdgjedgaaGreat
open Go.RowKit

set_option maxRecDepth 100000 in
theorem count_c (s : ByteArray) (w : World) (hm : s.size ≤ 140737488355328) :
    Calls Tryz.prog 67 #[.string s] w fun e w' => e = .returned (.int .i64 ((toks (bl s)).length : Int)) ∧ Below w.heap.size w w' := by
  have hl1 := toks_length (bl s)
  rw [← bl_size] at hl1
  obtain ⟨T, hT⟩ : ∃ T, T = (toks (bl s)).length := ⟨_, rfl⟩
  rw [← hT] at hl1 ⊢
  have HT := Go.Lib.hid hT; clear hT
  go_enter Tryz.func67, Tryz.ntmps67
  go_wp2
  go_loopw [3] (fun u wr => ∃ n : Nat, n ≤ T ∧ u = .int .i64 (n : Int) ∧ wr.heap[w.heap.size]? = some (.stringIter s (posOf (bl s) n)) ∧ Below w.heap.size w wr) (fun u _ => T - (intOf u).toNat)
  case atStart => exact ⟨0, by omega, rfl, World.iter_heap w s 0, (Below.refl _ w).alloc (Nat.le_refl _) _⟩
  case round =>
    obtain ⟨n, hn, rfl, hit, hbw⟩ := hrel
    by_cases hlt : n < T
    · obtain ⟨p1, p2, p3, p4⟩ := next_some s n (by rw [← HT.out]; exact hlt)
      have hnx : ∀ ty, (Instr.next (.pointer (some ⟨w.heap.size, 0, none⟩)) true ty).run Tryz.prog wr = _ := fun ty => Go.Lib.run_next_any_at wr w.heap.size s _ ty hit p1
      have hit2 := Go.Lib.iterAt_heap wr w.heap.size s _ (posOf (bl s) (n + 1)) hit
      have hbw2 := below_iter hbw (Nat.le_refl _) s (posOf (bl s) (n + 1))
      rw [p3] at hnx
      rw [p2] at hnx
      clear p1 p2 p3 p4
      go_wp2
      go_roundw
      case rel => exact ⟨n + 1, by omega, by go_num, hit2, hbw2⟩
      case measure => simp [intOf]; omega
    · have hend : ¬ posOf (bl s) n < s.size := by
        rw [posOf_all (bl s) n (by rw [← HT.out]; omega), bl_size]
        exact Nat.lt_irrefl _
      have hnx : ∀ ty, (Instr.next (.pointer (some ⟨w.heap.size, 0, none⟩)) true ty).run Tryz.prog wr = _ := fun ty => Go.Lib.run_next_end_at wr w.heap.size s _ ty hit hend
      obtain rfl : n = T := by omega
      clear hend
      go_wp2
      go_ret
      exact ⟨rfl, hbw⟩

end Go.Proofs.YtggokffdgjedgaaGreat
