/-
  Slices of records: contract of the reference's Set.
  Records: the newest ones, by rising keys (mathematics).
  First, Tag, Other: of the reference, of package hash.
-/
import Derived.Test.YtkddleonmkhaiaaGreatM08
import Derived.Deep.QuietTactic
import Derived.BigQuiet
import Derived.Deep.DeepCutAuto
import Derived.LoopTactic
import Derived.Test.YtkddleonmkhaiaaGreatM01
import Derived.Laws.BitsAllLaws
namespace Go.Proofs.YtkddleonmkhaiaaGreat
open Go.RowKit Go.Op

def keyR (x : RecT) : List UInt8 := x.1.toList
abbrev setR (l : List RecT) (r : RecT) : List RecT := setGo keyR bytesLess r l false

theorem setGo_step (r : RecT) (l : List RecT) (k : Nat) (h : k < l.length) (d : Bool) (acc : List RecT) (p q d' : Bool) (hp : (!d && !(bytesLess (keyR l[k]) (keyR r))) = p) (hq : decide (keyR l[k] = keyR r) = q) (hd : (d || p) = d') (he : acc ++ setGo keyR bytesLess r (l.drop k) d = setR l r) :
    acc ++ (if p then [r] else []) ++ (if q then [] else [l[k]]) ++ setGo keyR bytesLess r (l.drop (k + 1)) d' = setR l r := by
  rw [← he, List.drop_eq_getElem_cons h, setGo, hp, hd]
  subst hq
  simp [List.append_assoc]

/-- The box of the record, in whatever world came later. -/
theorem box_later {w w' : World} {key : ByteArray} {gone : Bool} {k n : Int} {s : ByteArray} (hb : Below (w.alloc (recO key gone k n s)).heap.size (w.alloc (recO key gone k n s)) w') :
    w'.cell? ⟨w.heap.size, 0, none⟩ = some (.string key) ∧ w'.cell? ⟨w.heap.size, 1, none⟩ = some (.bool gone) ∧ w'.cell? ⟨w.heap.size, 2, none⟩ = some (.int .i64 k) ∧ w'.cell? ⟨w.heap.size, 3, none⟩ = some (.int .i64 n) ∧ w'.cell? ⟨w.heap.size, 4, none⟩ = some (.string s) := (rec_box key gone k n s hb).2
theorem setR_len (r : RecT) : ∀ (l : List RecT) (d : Bool), (setGo keyR bytesLess r l d).length ≤ l.length + 1 ∧ (d = true → (setGo keyR bytesLess r l d).length ≤ l.length) := by
  intro l
  induction l with
  | nil => intro d; cases d <;> simp [setGo]
  | cons x t ih =>
    intro d
    rw [setGo]
    simp only [List.length_append, List.length_cons]
    cases d with
    | true =>
      have := (ih true).2 rfl
      simp only [Bool.not_true, Bool.false_and, Bool.false_eq_true, if_false, Bool.true_or, List.length_nil]
      split <;> simp <;> omega
    | false =>
      cases hb : bytesLess (keyR x) (keyR r) with
      | true =>
        have := (ih false).1
        simp only [Bool.not_true, Bool.and_false, Bool.false_eq_true, if_false, Bool.or_false, List.length_nil]
        split <;> simp <;> omega
      | false =>
        have := (ih true).2 rfl
        simp only [Bool.not_false, Bool.and_true, if_true, Bool.or_true, List.length_cons, List.length_nil]
        split <;> simp <;> omega
/-- Nothing is longer than what it becomes. -/
theorem acc_len {acc m l : List RecT} {r : RecT} (h : acc ++ m = setR l r) (hl : l.length ≤ 1000) : acc.length ≤ 1001 := by
  have h1 := (setR_len r l false).1
  unfold setR at h
  rw [← h, List.length_append] at h1
  omega

set_option maxHeartbeats 8000000 in
set_option maxRecDepth 100000 in
theorem rset_c (v : Value) (l : List RecT) (key : ByteArray) (gone : Bool) (rk rn : Int) (rs : ByteArray) (w : World) (hv : RS w v l) (hl : l.length ≤ 1000) :
    Calls Tryz.prog 13 #[v, recV key gone rk rn rs] w fun e w' => ∃ v', e = .returned v' ∧ OwnRec w' w.heap.size v' (setR l (key, gone, rk, rn, rs)) ∧ Below w.heap.size w w' := by
  obtain ⟨a, cap, rfl, hm⟩ := hv.form
  unfold recV
  have HW := Go.Lib.hid fun o => hv.below (below_one w o)
  have hB0 := below_one w (recO key gone rk rn rs)
  have HB0 := Go.Lib.hid hB0
  clear hv
  go_enter Tryz.func13, Tryz.ntmps13
  go_wp2_with fail
  have hid := Below.refl (w.alloc (recO key gone rk rn rs)).heap.size (w.alloc (recO key gone rk rn rs))
  go_loopw [5, 6, 7] (fun vb dv i w2 => ∃ (k : Nat) (d : Bool) (acc : List RecT), k ≤ l.length ∧ i = .int .i64 (k : Int) ∧ dv = .bool d ∧ OwnRec w2 (w.alloc (recO key gone rk rn rs)).heap.size vb acc ∧ acc ++ setGo keyR bytesLess (key, gone, rk, rn, rs) (l.drop k) d = setR l (key, gone, rk, rn, rs) ∧ Below (w.alloc (recO key gone rk rn rs)).heap.size (w.alloc (recO key gone rk rn rs)) w2) (fun _ _ i _ => l.length - (intOf i).toNat)
  case atStart => exact ⟨0, false, [], by omega, rfl, rfl, OwnRec.nil _ _, by simp, hid⟩
  case round =>
    obtain ⟨k, d, acc, hk, rfl, rfl, hown, hacc, hbc⟩ := hrel
    have Hacc := Go.Lib.hid hacc; clear hacc
    by_cases hlt : k < l.length
    · obtain ⟨b, o, rfl, -, hbs, c0, c1, c2, c3, c4⟩ := ((HW.out _).below hbc).at k hlt
      obtain ⟨r0, r1, r2, r3, r4⟩ := box_later hbc
      have Hst := Go.Lib.hid fun p q d' hp hq hd => setGo_step (key, gone, rk, rn, rs) l k hlt d acc p q d' hp hq hd Hacc.out
      have Hal := Go.Lib.hid (acc_len Hacc.out hl)
      have Hix := Go.Lib.hid (run_idx5 b o l.length cap k hlt)
      have HC := Go.Lib.hid (fun W (h : Below (w.alloc (recO key gone rk rn rs)).heap.size (w.alloc (recO key gone rk rn rs)) W) => ((HW.out _).below h).at k hlt)
      generalize hx : l[k] = x at *
      obtain ⟨kx, gx, ax, nx, sx⟩ := x
      simp only [keyR] at c0 c1 c2 c3 c4 Hst HC
      clear hx
      have hix := fun W => Hix.out W
      have hlti : (k : Int) < (l.length : Int) := by omega
      cases d with
      | true =>
        by_cases heq : kx.toList = key.toList
        · have hqb : (kx.toList == key.toList) = true := by simpa using heq
          have hacc := Hst.out false true true rfl (decide_eq_true heq) rfl
          simp only [if_true, if_false, Bool.false_eq_true, List.append_nil] at hacc
          have Hac2 := Go.Lib.hid hacc; clear hacc heq Hst Hacc
          go_upto_region 6 with (fail)
          go_quiet (fail)
          have hbq := below_drewN hbc nq
          have hownq := hown.below (below_drewN (Below.refl _ wr) nq)
          clear hbc hown c0 c1 c2 c3 c4 r0 r1 r2 r3 r4 hbs
          generalize wr.drewN nq = wq at *
          obtain ⟨b9, o9, e9, -, hbs, c0, c1, c2, c3, c4⟩ := HC.out _ hbq
          cases e9
          obtain ⟨r0, r1, r2, r3, r4⟩ := box_later hbq
          go_upto_region 9 with (fail)
          go_quiet (fail)
          have hbr := below_drewN hbq nq
          have hownr := hownq.below (below_drewN (Below.refl _ wq) nq)
          clear hownq hbq c0 c1 c2 c3 c4 r0 r1 r2 r3 r4 hbs
          generalize wq.drewN nq = wz at *
          obtain ⟨b9, o9, e9, -, hbs, c0, c1, c2, c3, c4⟩ := HC.out _ hbr
          cases e9
          obtain ⟨r0, r1, r2, r3, r4⟩ := box_later hbr
          go_wp2_with fail
          exact ⟨⟨k + 1, true, _, by omega, by go_num, rfl, hownr, Hac2.out, hbr⟩, by simp only [intOf]; omega⟩
        · have hqb : (kx.toList == key.toList) = false := by simpa using heq
          have hacc := Hst.out false false true rfl (decide_eq_false heq) rfl
          simp only [if_false, Bool.false_eq_true, List.append_nil] at hacc
          have Hac2 := Go.Lib.hid hacc; clear hacc heq Hst Hacc
          go_upto_region 6 with (fail)
          go_quiet (fail)
          have hbq := below_drewN hbc nq
          have hownq := hown.below (below_drewN (Below.refl _ wr) nq)
          clear hbc hown c0 c1 c2 c3 c4 r0 r1 r2 r3 r4 hbs
          generalize wr.drewN nq = wq at *
          obtain ⟨b9, o9, e9, -, hbs, c0, c1, c2, c3, c4⟩ := HC.out _ hbq
          cases e9
          obtain ⟨r0, r1, r2, r3, r4⟩ := box_later hbq
          go_upto_region 9 with (fail)
          go_quiet (fail)
          have hbr := below_drewN hbq nq
          have hownr := hownq.below (below_drewN (Below.refl _ wq) nq)
          clear hownq hbq c0 c1 c2 c3 c4 r0 r1 r2 r3 r4 hbs
          generalize wq.drewN nq = wz at *
          obtain ⟨b9, o9, e9, -, hbs, c0, c1, c2, c3, c4⟩ := HC.out _ hbr
          cases e9
          obtain ⟨r0, r1, r2, r3, r4⟩ := box_later hbr
          have ha2 := OwnRec.below hownr (below_one wz (.cells #[.string kx, .bool gx, .int .i64 ax, .int .i64 nx, .string sx] 33))
          have hone2 := RS.one wz (kx, gx, ax, nx, sx)
          simp only [] at hone2
          have hbx2 := hbr.trans ((below_one wz (.cells #[.string kx, .bool gx, .int .i64 ax, .int .i64 nx, .string sx] 33)).mono hbr.size)
          have hbz2 := hbx2.size
          skip
          go_wp2_with (first
            | (with_reducible show wpList _ _ _ (⟨some 44, _, _, _, _, _⟩ :: _) _ _; go_loud (refine wpList_append_recs rfl (.tmp 38) (.tmp 43) rfl (w.alloc (recO key gone rk rn rs)).heap.size u5 (.slice (some ⟨(wz).heap.size, 0, none⟩) 1 1) acc [(kx, gx, ax, nx, sx)] rfl rfl ha2 hone2 (by have := Hal.out; simp <;> omega) hbz2 ?_); intro v6 w2 hown2 hg2; have hbc2 := hbx2.grown hg2 hbz2 ha2.row)
            | fail)
          exact ⟨⟨k + 1, true, _, by omega, by go_num, rfl, hown2, Hac2.out, hbc2⟩, by simp only [intOf]; omega⟩
      | false =>
        cases hb : bytesLess kx.toList key.toList with
        | true =>
          by_cases heq : kx.toList = key.toList
          · exact absurd hb (by rw [heq]; simp [less_irr])
          · have hqb : (kx.toList == key.toList) = false := by simpa using heq
            have hacc := Hst.out false false false (by rw [hb]; rfl) (decide_eq_false heq) rfl
            simp only [if_false, Bool.false_eq_true, List.append_nil] at hacc
            have Hac2 := Go.Lib.hid hacc; clear hacc heq Hst Hacc
            go_upto_region 6 with (fail)
            go_quiet (fail)
            have hbq := below_drewN hbc nq
            have hownq := hown.below (below_drewN (Below.refl _ wr) nq)
            clear hbc hown c0 c1 c2 c3 c4 r0 r1 r2 r3 r4 hbs
            generalize wr.drewN nq = wq at *
            obtain ⟨b9, o9, e9, -, hbs, c0, c1, c2, c3, c4⟩ := HC.out _ hbq
            cases e9
            obtain ⟨r0, r1, r2, r3, r4⟩ := box_later hbq
            go_upto_region 9 with (fail)
            go_quiet (fail)
            have hbr := below_drewN hbq nq
            have hownr := hownq.below (below_drewN (Below.refl _ wq) nq)
            clear hownq hbq c0 c1 c2 c3 c4 r0 r1 r2 r3 r4 hbs
            generalize wq.drewN nq = wz at *
            obtain ⟨b9, o9, e9, -, hbs, c0, c1, c2, c3, c4⟩ := HC.out _ hbr
            cases e9
            obtain ⟨r0, r1, r2, r3, r4⟩ := box_later hbr
            have ha2 := OwnRec.below hownr (below_one wz (.cells #[.string kx, .bool gx, .int .i64 ax, .int .i64 nx, .string sx] 33))
            have hone2 := RS.one wz (kx, gx, ax, nx, sx)
            simp only [] at hone2
            have hbx2 := hbr.trans ((below_one wz (.cells #[.string kx, .bool gx, .int .i64 ax, .int .i64 nx, .string sx] 33)).mono hbr.size)
            have hbz2 := hbx2.size
            skip
            go_wp2_with (first
              | (with_reducible show wpList _ _ _ (⟨some 44, _, _, _, _, _⟩ :: _) _ _; go_loud (refine wpList_append_recs rfl (.tmp 38) (.tmp 43) rfl (w.alloc (recO key gone rk rn rs)).heap.size u5 (.slice (some ⟨(wz).heap.size, 0, none⟩) 1 1) acc [(kx, gx, ax, nx, sx)] rfl rfl ha2 hone2 (by have := Hal.out; simp <;> omega) hbz2 ?_); intro v6 w2 hown2 hg2; have hbc2 := hbx2.grown hg2 hbz2 ha2.row)
              | fail)
            exact ⟨⟨k + 1, false, _, by omega, by go_num, rfl, hown2, Hac2.out, hbc2⟩, by simp only [intOf]; omega⟩
        | false =>
          by_cases heq : kx.toList = key.toList
          · have hqb : (kx.toList == key.toList) = true := by simpa using heq
            have hacc := Hst.out true true true (by rw [hb]; rfl) (decide_eq_true heq) rfl
            simp only [if_true, List.append_nil] at hacc
            have Hac2 := Go.Lib.hid hacc; clear hacc heq Hst Hacc
            go_upto_region 6 with (fail)
            go_quiet (fail)
            have hbq := below_drewN hbc nq
            have hownq := hown.below (below_drewN (Below.refl _ wr) nq)
            clear hbc hown c0 c1 c2 c3 c4 r0 r1 r2 r3 r4 hbs
            generalize wr.drewN nq = wq at *
            obtain ⟨b9, o9, e9, -, hbs, c0, c1, c2, c3, c4⟩ := HC.out _ hbq
            cases e9
            obtain ⟨r0, r1, r2, r3, r4⟩ := box_later hbq
            have ha1 := OwnRec.below hownq (below_one wq (.cells #[.string key, .bool gone, .int .i64 rk, .int .i64 rn, .string rs] 33))
            have hone1 := RS.one wq (key, gone, rk, rn, rs)
            simp only [] at hone1
            have hbx1 := hbq.trans ((below_one wq (.cells #[.string key, .bool gone, .int .i64 rk, .int .i64 rn, .string rs] 33)).mono hbq.size)
            have hbz1 := hbx1.size
            go_upto_region 9 with (first
              | (with_reducible show wpList _ _ _ (⟨some 29, _, _, _, _, _⟩ :: _) _ _; go_loud (refine wpList_append_recs rfl (.tmp 26) (.tmp 28) rfl (w.alloc (recO key gone rk rn rs)).heap.size u5 (.slice (some ⟨(wq).heap.size, 0, none⟩) 1 1) acc [(key, gone, rk, rn, rs)] rfl rfl ha1 hone1 (by have := Hal.out; simp <;> omega) hbz1 ?_); intro v5 w1 hown1 hg1; have hbc1 := hbx1.grown hg1 hbz1 ha1.row)
              | fail)
            clear c0 c1 c2 c3 c4 r0 r1 r2 r3 r4 hbs ha1 hone1 hbx1 hbz1 hg1 hownq hbq
            obtain ⟨b9, o9, e9, -, hbs, c0, c1, c2, c3, c4⟩ := HC.out _ hbc1
            cases e9
            obtain ⟨r0, r1, r2, r3, r4⟩ := box_later hbc1
            go_quiet (fail)
            have hbr := below_drewN hbc1 nq
            have hownr := hown1.below (below_drewN (Below.refl _ w1) nq)
            clear hown1 hbc1 c0 c1 c2 c3 c4 r0 r1 r2 r3 r4 hbs
            generalize w1.drewN nq = wz at *
            obtain ⟨b9, o9, e9, -, hbs, c0, c1, c2, c3, c4⟩ := HC.out _ hbr
            cases e9
            obtain ⟨r0, r1, r2, r3, r4⟩ := box_later hbr
            go_wp2_with fail
            exact ⟨⟨k + 1, true, _, by omega, by go_num, rfl, hownr, Hac2.out, hbr⟩, by simp only [intOf]; omega⟩
          · have hqb : (kx.toList == key.toList) = false := by simpa using heq
            have hacc := Hst.out true false true (by rw [hb]; rfl) (decide_eq_false heq) rfl
            simp only [if_true, if_false, Bool.false_eq_true] at hacc
            have Hac2 := Go.Lib.hid hacc; clear hacc heq Hst Hacc
            go_upto_region 6 with (fail)
            go_quiet (fail)
            have hbq := below_drewN hbc nq
            have hownq := hown.below (below_drewN (Below.refl _ wr) nq)
            clear hbc hown c0 c1 c2 c3 c4 r0 r1 r2 r3 r4 hbs
            generalize wr.drewN nq = wq at *
            obtain ⟨b9, o9, e9, -, hbs, c0, c1, c2, c3, c4⟩ := HC.out _ hbq
            cases e9
            obtain ⟨r0, r1, r2, r3, r4⟩ := box_later hbq
            have ha1 := OwnRec.below hownq (below_one wq (.cells #[.string key, .bool gone, .int .i64 rk, .int .i64 rn, .string rs] 33))
            have hone1 := RS.one wq (key, gone, rk, rn, rs)
            simp only [] at hone1
            have hbx1 := hbq.trans ((below_one wq (.cells #[.string key, .bool gone, .int .i64 rk, .int .i64 rn, .string rs] 33)).mono hbq.size)
            have hbz1 := hbx1.size
            go_upto_region 9 with (first
              | (with_reducible show wpList _ _ _ (⟨some 29, _, _, _, _, _⟩ :: _) _ _; go_loud (refine wpList_append_recs rfl (.tmp 26) (.tmp 28) rfl (w.alloc (recO key gone rk rn rs)).heap.size u5 (.slice (some ⟨(wq).heap.size, 0, none⟩) 1 1) acc [(key, gone, rk, rn, rs)] rfl rfl ha1 hone1 (by have := Hal.out; simp <;> omega) hbz1 ?_); intro v5 w1 hown1 hg1; have hbc1 := hbx1.grown hg1 hbz1 ha1.row)
              | fail)
            clear c0 c1 c2 c3 c4 r0 r1 r2 r3 r4 hbs ha1 hone1 hbx1 hbz1 hg1 hownq hbq
            obtain ⟨b9, o9, e9, -, hbs, c0, c1, c2, c3, c4⟩ := HC.out _ hbc1
            cases e9
            obtain ⟨r0, r1, r2, r3, r4⟩ := box_later hbc1
            go_quiet (fail)
            have hbr := below_drewN hbc1 nq
            have hownr := hown1.below (below_drewN (Below.refl _ w1) nq)
            clear hown1 hbc1 c0 c1 c2 c3 c4 r0 r1 r2 r3 r4 hbs
            generalize w1.drewN nq = wz at *
            obtain ⟨b9, o9, e9, -, hbs, c0, c1, c2, c3, c4⟩ := HC.out _ hbr
            cases e9
            obtain ⟨r0, r1, r2, r3, r4⟩ := box_later hbr
            have ha2 := OwnRec.below hownr (below_one wz (.cells #[.string kx, .bool gx, .int .i64 ax, .int .i64 nx, .string sx] 33))
            have hone2 := RS.one wz (kx, gx, ax, nx, sx)
            simp only [] at hone2
            have hbx2 := hbr.trans ((below_one wz (.cells #[.string kx, .bool gx, .int .i64 ax, .int .i64 nx, .string sx] 33)).mono hbr.size)
            have hbz2 := hbx2.size
            skip
            go_wp2_with (first
              | (with_reducible show wpList _ _ _ (⟨some 44, _, _, _, _, _⟩ :: _) _ _; go_loud (refine wpList_append_recs rfl (.tmp 38) (.tmp 43) rfl (w.alloc (recO key gone rk rn rs)).heap.size v5 (.slice (some ⟨(wz).heap.size, 0, none⟩) 1 1) (acc ++ [(key, gone, rk, rn, rs)]) [(kx, gx, ax, nx, sx)] rfl rfl ha2 hone2 (by have := Hal.out; simp <;> omega) hbz2 ?_); intro v6 w2 hown2 hg2; have hbc2 := hbx2.grown hg2 hbz2 ha2.row)
              | fail)
            exact ⟨⟨k + 1, true, _, by omega, by go_num, rfl, hown2, Hac2.out, hbc2⟩, by simp only [intOf]; omega⟩
    · obtain rfl : k = l.length := by omega
      have hacc := Hacc.out
      rw [List.drop_of_length_le (Nat.le_refl _)] at hacc
      obtain ⟨r0, r1, r2, r3, r4⟩ := box_later hbc
      cases d with
      | true =>
        simp only [setGo, if_true, List.append_nil] at hacc
        have hacc2 := Go.Lib.hid hacc; clear hacc Hacc
        go_wp2_with fail
        go_ret
        refine ⟨_, rfl, ?_, ?_⟩
        · rw [← hacc2.out]
          exact hown.mono (HB0.out.size)
        · exact HB0.out.trans (hbc.mono HB0.out.size)
      | false =>
        simp only [setGo, Bool.false_eq_true, if_false] at hacc
        have hacc2 := Go.Lib.hid hacc; clear hacc Hacc
        have Hal := Go.Lib.hid (show acc.length ≤ 1001 from acc_len hacc2.out hl)
        have hbs := hbc.size
        have ha1 := OwnRec.below hown (below_one wr (.cells #[.string key, .bool gone, .int .i64 rk, .int .i64 rn, .string rs] 33))
        have hone1 := RS.one wr (key, gone, rk, rn, rs)
        simp only [] at hone1
        have hbx1 := hbc.trans ((below_one wr (.cells #[.string key, .bool gone, .int .i64 rk, .int .i64 rn, .string rs] 33)).mono hbc.size)
        have hbz1 := hbx1.size
        go_wp2_with (first
          | (with_reducible show wpList _ _ _ (⟨some 50, _, _, _, _, _⟩ :: _) _ _; go_loud (refine wpList_append_recs rfl (.tmp 47) (.tmp 49) rfl (w.alloc (recO key gone rk rn rs)).heap.size u5 (.slice (some ⟨(wr).heap.size, 0, none⟩) 1 1) acc [(key, gone, rk, rn, rs)] rfl rfl ha1 hone1 (by have := Hal.out; simp <;> omega) hbz1 ?_); intro v5 w1 hown1 hg1; have hbc1 := hbx1.grown hg1 hbz1 ha1.row)
          | fail)
        go_ret
        refine ⟨_, rfl, ?_, ?_⟩
        · rw [← hacc2.out]
          exact hown1.mono (HB0.out.size)
        · exact HB0.out.trans (hbc1.mono HB0.out.size)

end Go.Proofs.YtkddleonmkhaiaaGreat

namespace Go.Proofs.YtkddleonmkhaiaaGreat
open Go.RowKit Go.Op

abbrev newestR (l : List RecT) : List RecT := newestK keyR bytesLess l
theorem newestR_len (l : List RecT) : (newestR l).length ≤ l.length := by
  have : ∀ (l acc : List RecT), (l.foldl (fun a r => setGo keyR bytesLess r a false) acc).length ≤ acc.length + l.length := by
    intro l
    induction l with
    | nil => intro acc; simp
    | cons x t ih =>
      intro acc
      rw [List.foldl_cons]
      refine Nat.le_trans (ih _) ?_
      have := (setR_len x acc false).1
      simp only [List.length_cons]
      omega
  simpa [newestR, newestK] using this l []
theorem newestR_step (l : List RecT) (k : Nat) (h : k < l.length) : setR (newestR (l.take k)) l[k] = newestR (l.take (k + 1)) := by
  rw [List.take_succ_eq_append_getElem h]
  unfold newestR newestK
  rw [List.foldl_append]
  rfl

end Go.Proofs.YtkddleonmkhaiaaGreat

namespace Go.Proofs.YtkddleonmkhaiaaGreat
open Go.RowKit

def firstN (h : Nat) : Nat := h % 8
def tagN (h : Nat) : Nat := h / 256 % 32768
def otherI (b tag : Int) : Int := if b < 0 ∨ 7 < b ∨ tag < 0 ∨ 32767 < tag then -1 else ((b.toNat ^^^ (1 + tag.toNat % 7) : Nat) : Int)

set_option maxRecDepth 100000 in
theorem rfirst_c (h : Nat) (w : World) (hh : h < 18446744073709551616) : Calls Tryz.prog 45 #[.int .u64 (h : Int)] w fun e w' => e = .returned (.int .i64 (firstN h : Int)) ∧ w = w' := by
  have e1 : (firstN h : Int) = (h : Int) % 8 := by unfold firstN; omega
  rw [e1]
  have hh' := Go.Lib.hid hh
  clear hh e1
  go_enter Tryz.func45, Tryz.ntmps45
  go_wp2_with fail
  go_ret
  exact ⟨rfl, rfl⟩
set_option maxRecDepth 100000 in
theorem rtag_c (h : Nat) (w : World) (hh : h < 18446744073709551616) : Calls Tryz.prog 47 #[.int .u64 (h : Int)] w fun e w' => e = .returned (.int .i64 (tagN h : Int)) ∧ w = w' := by
  have e1 : (tagN h : Int) = (h : Int) / 256 % 32768 := by unfold tagN; omega
  rw [e1]
  have hh' := Go.Lib.hid hh
  clear hh e1
  go_enter Tryz.func47, Tryz.ntmps47
  go_wp2_with fail
  go_ret
  have := hh'.out
  refine ⟨ret_int ?_, rfl⟩
  rw [IntKind.wrap_u64, Int.tmod_eq_emod_of_nonneg (by omega)]
  unfold wrap64
  omega
theorem otherI_bad {b t : Int} (h : b < 0 ∨ 7 < b ∨ t < 0 ∨ 32767 < t) : otherI b t = -1 := by unfold otherI; rw [if_pos h]
theorem otherI_ok {b t : Nat} (hb : b ≤ 7) (ht : t ≤ 32767) : otherI (b : Int) (t : Int) = ((b ^^^ (1 + t % 7) : Nat) : Int) := by
  unfold otherI
  rw [if_neg (by omega), Int.toNat_natCast, Int.toNat_natCast]
theorem i64_xor_small (a b : Nat) (ha : a < 128) (hb : b < 128) : bits .xor .i64 (a : Int) (b : Int) = ((a ^^^ b : Nat) : Int) := by
  have hx : a ^^^ b < 2 ^ 7 := Nat.xor_lt_two_pow (by omega) (by omega)
  show IntKind.i64.wrap ((BitVec.ofInt 64 (a : Int) ^^^ BitVec.ofInt 64 (b : Int)).toNat : Int) = _
  have e (a : Nat) (h : a < 128) : (BitVec.ofInt 64 (a : Int)).toNat = a := by
    rw [BitVec.ofInt_natCast, BitVec.toNat_ofNat]; exact Nat.mod_eq_of_lt (by omega)
  rw [BitVec.toNat_xor, e a ha, e b hb, IntKind.wrap_i64]
  omega
set_option maxRecDepth 100000 in
theorem rother_c (b t : Int) (w : World) : Calls Tryz.prog 46 #[.int .i64 b, .int .i64 t] w fun e w' => e = .returned (.int .i64 (otherI b t)) ∧ w = w' := by
  by_cases h1 : b < 0
  · have E := Go.Lib.hid (otherI_bad (b := b) (t := t) (.inl h1))
    go_enter Tryz.func46, Tryz.ntmps46
    go_wp2_with fail
    go_ret
    exact ⟨by rw [E.out]; rfl, rfl⟩
  by_cases h2 : 7 < b
  · have E := Go.Lib.hid (otherI_bad (b := b) (t := t) (.inr (.inl h2)))
    go_enter Tryz.func46, Tryz.ntmps46
    go_wp2_with fail
    go_ret
    exact ⟨by rw [E.out]; rfl, rfl⟩
  by_cases h3 : t < 0
  · have E := Go.Lib.hid (otherI_bad (b := b) (t := t) (.inr (.inr (.inl h3))))
    go_enter Tryz.func46, Tryz.ntmps46
    go_wp2_with fail
    go_ret
    exact ⟨by rw [E.out]; rfl, rfl⟩
  by_cases h4 : 32767 < t
  · have E := Go.Lib.hid (otherI_bad (b := b) (t := t) (.inr (.inr (.inr h4))))
    go_enter Tryz.func46, Tryz.ntmps46
    go_wp2_with fail
    go_ret
    exact ⟨by rw [E.out]; rfl, rfl⟩
  obtain ⟨B, rfl⟩ : ∃ B : Nat, b = (B : Int) := ⟨b.toNat, by omega⟩
  obtain ⟨T, rfl⟩ : ∃ T : Nat, t = (T : Int) := ⟨t.toNat, by omega⟩
  have E := Go.Lib.hid (otherI_ok (b := B) (t := T) (by omega) (by omega))
  have X := i64_xor_small B (1 + T % 7) (by omega) (by omega)
  rw [show ((1 + T % 7 : Nat) : Int) = 1 + (T : Int) % 7 from by omega] at X
  have X := Go.Lib.hid X
  go_enter Tryz.func46, Tryz.ntmps46
  go_wp2_with fail
  go_ret
  exact ⟨by rw [E.out]; rfl, rfl⟩

set_option maxRecDepth 100000 in
theorem hfirst_c (h : Nat) (w : World) (hh : h < 18446744073709551616) : Calls Tryz.prog 67 #[.int .u64 (h : Int)] w fun e w' => e = .returned (.int .i64 (firstN h : Int)) ∧ w = w' := by
  have e1 : (firstN h : Int) = (h : Int) % 8 := by unfold firstN; omega
  rw [e1]
  have hh' := Go.Lib.hid hh
  clear hh e1
  go_enter Tryz.func67, Tryz.ntmps67
  go_wp2_with fail
  go_ret
  exact ⟨rfl, rfl⟩
set_option maxRecDepth 100000 in
theorem htag_c (h : Nat) (w : World) (hh : h < 18446744073709551616) : Calls Tryz.prog 55 #[.int .u64 (h : Int)] w fun e w' => e = .returned (.int .i64 (tagN h : Int)) ∧ w = w' := by
  have e1 : (tagN h : Int) = (h : Int) / 256 % 32768 := by unfold tagN; omega
  rw [e1]
  have hh' := Go.Lib.hid hh
  clear hh e1
  go_enter Tryz.func55, Tryz.ntmps55
  go_wp2_with fail
  go_ret
  exact ⟨rfl, rfl⟩
set_option maxRecDepth 100000 in
theorem hother_c (b t : Int) (w : World) (b0 : -9223372036854775808 ≤ b) (b1 : b ≤ 9223372036854775807) (t0 : -9223372036854775808 ≤ t) (t1 : t ≤ 9223372036854775807) : Calls Tryz.prog 66 #[.int .i64 b, .int .i64 t] w fun e w' => e = .returned (.int .i64 (otherI b t)) ∧ w = w' := by
  by_cases h1 : b < 0
  · have E := Go.Lib.hid (otherI_bad (b := b) (t := t) (.inl h1))
    go_enter Tryz.func66, Tryz.ntmps66
    go_wp2_with fail
    go_ret
    exact ⟨by rw [E.out]; rfl, rfl⟩
  by_cases h2 : 8 ≤ b
  · have E := Go.Lib.hid (otherI_bad (b := b) (t := t) (.inr (.inl (by omega))))
    go_enter Tryz.func66, Tryz.ntmps66
    go_wp2_with fail
    go_ret
    exact ⟨by rw [E.out]; rfl, rfl⟩
  by_cases h3 : t < 0
  · have E := Go.Lib.hid (otherI_bad (b := b) (t := t) (.inr (.inr (.inl h3))))
    go_enter Tryz.func66, Tryz.ntmps66
    go_wp2_with fail
    go_ret
    exact ⟨by rw [E.out]; rfl, rfl⟩
  by_cases h4 : 32768 ≤ t
  · have E := Go.Lib.hid (otherI_bad (b := b) (t := t) (.inr (.inr (.inr (by omega)))))
    go_enter Tryz.func66, Tryz.ntmps66
    go_wp2_with fail
    go_ret
    exact ⟨by rw [E.out]; rfl, rfl⟩
  obtain ⟨B, rfl⟩ : ∃ B : Nat, b = (B : Int) := ⟨b.toNat, by omega⟩
  obtain ⟨T, rfl⟩ : ∃ T : Nat, t = (T : Int) := ⟨t.toNat, by omega⟩
  have E := Go.Lib.hid (otherI_ok (b := B) (t := T) (by omega) (by omega))
  have X := i64_xor_small B (1 + T % 7) (by omega) (by omega)
  rw [show ((1 + T % 7 : Nat) : Int) = 1 + (T : Int) % 7 from by omega] at X
  have X := Go.Lib.hid X
  go_enter Tryz.func66, Tryz.ntmps66
  go_wp2_with fail
  go_ret
  exact ⟨by rw [E.out]; rfl, rfl⟩

end Go.Proofs.YtkddleonmkhaiaaGreat
