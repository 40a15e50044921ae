/-
  Package batch: contracts of May, Encode; of the reference's MayAll, Row.
-/
import Derived.Test.YtoaiogfeffnlcaaBatM
import Derived.Test.YtoaiogfeffnlcaaPPut
import Derived.Test.YtoaiogfeffnlcaaRecBox
import Derived.LoopTactic
namespace Go.Proofs.Ytoaiogfeffnlcaa
open Go.RowKit
open Go.Lib (uvarint zigzag)

theorem below_to {B : Nat} {w w1 w2 : World} (h : Below B w w1) (hB : B ≤ w.heap.size) (h2 : Below w1.heap.size w1 w2) : Below B w w2 := h.trans (h2.mono (Nat.le_trans hB h.size))
theorem take_all {l : List RecT} {k : Nat} (hk : k < l.length) (h : (l.take k).all mayT = true) (hm : mayT l[k] = true) : (l.take (k + 1)).all mayT = true := by
  rw [List.take_succ_eq_append_getElem hk, List.all_append, h]
  simpa using hm
theorem not_all {l : List RecT} {k : Nat} (hk : k < l.length) (hm : mayT l[k] = false) : mayRow l = false := by
  unfold mayRow
  rw [Bool.and_eq_false_iff]
  right
  rw [Bool.eq_false_iff]
  intro h
  have := List.all_eq_true.1 h _ (List.getElem_mem hk)
  rw [hm] at this
  cases this

set_option maxHeartbeats 1000000 in
set_option maxRecDepth 100000 in
theorem bmay_c (v : Value) (l : List RecT) (w : World) (hv : RS w v l) (hok : ∀ x ∈ l, RecOk x) :
    Calls Try.prog 10 #[v] w fun e w' => e = .returned (.bool (mayRow l)) ∧ Below w.heap.size w w' := by
  obtain ⟨a, cap, rfl, hm⟩ := hv.form
  have HV := Go.Lib.hid hv
  have HOK := Go.Lib.hid hok
  clear hok hv
  by_cases h : 1000 < l.length
  · have K := Go.Lib.hid (show mayRow l = false by unfold mayRow; rw [decide_eq_false (by omega)]; rfl)
    have hI : (1000 : Int) < (l.length : Int) := by omega
    clear h
    go_enter Try.func10, Try.ntmps10
    go_wp2_with fail
    go_ret
    exact ⟨ret_of (congrArg Value.bool K.out.symm), Below.refl _ _⟩
  · have hI : ¬ (1000 : Int) < (l.length : Int) := by omega
    have HL := Go.Lib.hid h
    clear h
    go_enter Try.func10, Try.ntmps10
    go_wp2_with fail
    go_loopw [10] (fun i wr => ∃ k : Nat, k ≤ l.length ∧ i = .int .i64 (k : Int) ∧ Hid ((l.take k).all mayT = true) ∧ Below w.heap.size w wr) (fun i _ => l.length - (intOf i).toNat)
    case atStart => exact ⟨0, by omega, rfl, Go.Lib.hid (by simp), Below.refl _ _⟩
    case round =>
      obtain ⟨k, hk, rfl, hall, hbc⟩ := hrel
      by_cases hlt : k < l.length
      · obtain ⟨b, o, rfl, -, hbs, c0, c1, c2, c3, c4⟩ := (HV.out.below hbc).at k hlt
        have ok := HOK.out l[k] (List.getElem_mem hlt)
        have Hyes := Go.Lib.hid (fun (h : mayT l[k] = true) => take_all hlt hall.out h)
        have Hnot := Go.Lib.hid (fun (h : mayT l[k] = false) => not_all hlt h)
        have hix := run_idx5 b o l.length cap k hlt
        have HBC := Go.Lib.hid hbc
        generalize l[k] = x at *
        obtain ⟨kx, gx, ax, nx, sx⟩ := x
        simp only [] at c0 c1 c2 c3 c4
        have C1 := fun W => pmay_c kx gx ax nx sx W ok.1 ok.2.2.2
        have hb1 := below_one wr (.cells #[.string kx, .bool gx, .int .i64 ax, .int .i64 nx, .string sx] 38)
        have HB1 := Go.Lib.hid (below_to hbc (Nat.le_refl _) hb1)
        have Hlt := Go.Lib.hid hlt
        unfold recV at C1
        cases hp : mayRec kx gx ax nx sx with
        | true =>
          rw [hp] at C1
          have CM := Go.Lib.hid C1
          have HY := Go.Lib.hid (Hyes.out hp)
          clear C1 hp Hyes Hnot hall ok hbc hb1 hlt HBC
          go_wp2_with fail
          refine (CM.out _).mono ?_
          rintro e w2 ⟨rfl, hb2⟩
          go_wp2_with fail
          go_roundw
          case rel => exact ⟨k + 1, by have := Hlt.out; omega, by go_num, HY, below_to HB1.out (Nat.le_refl _) hb2⟩
          case measure => simp only [intOf]; have := Hlt.out; omega
        | false =>
          rw [hp] at C1
          have CM := Go.Lib.hid C1
          have HN := Go.Lib.hid (Hnot.out hp)
          clear C1 hp Hyes Hnot hall ok hbc hb1 hlt HBC
          go_wp2_with fail
          refine (CM.out _).mono ?_
          rintro e w2 ⟨rfl, hb2⟩
          go_wp2_with fail
          go_ret
          exact ⟨ret_of (congrArg Value.bool HN.out.symm), below_to HB1.out (Nat.le_refl _) hb2⟩
      · obtain rfl : k = l.length := by omega
        have K := Go.Lib.hid (show mayRow l = true by
          have := hall.out
          rw [List.take_length] at this
          unfold mayRow
          rw [this, decide_eq_true (by have := HL.out; omega)]
          rfl)
        clear hall hlt
        go_wp2_with fail
        go_ret
        exact ⟨ret_of (congrArg Value.bool K.out.symm), hbc⟩

set_option maxHeartbeats 1000000 in
set_option maxRecDepth 100000 in
theorem rmayall_c (v : Value) (l : List RecT) (w : World) (hv : RS w v l) (hok : ∀ x ∈ l, RecOk x) :
    Calls Try.prog 11 #[v] w fun e w' => e = .returned (.bool (mayRow l)) ∧ Below w.heap.size w w' := by
  obtain ⟨a, cap, rfl, hm⟩ := hv.form
  have HV := Go.Lib.hid hv
  have HOK := Go.Lib.hid hok
  clear hok hv
  go_enter Try.func11, Try.ntmps11
  go_wp2_with fail
  go_loopw [3] (fun i wr => ∃ k : Nat, k ≤ l.length ∧ i = .int .i64 (k : Int) ∧ Hid ((l.take k).all mayT = true) ∧ Below w.heap.size w wr) (fun i _ => l.length - (intOf i).toNat)
  case atStart => exact ⟨0, by omega, rfl, Go.Lib.hid (by simp), Below.refl _ _⟩
  case round =>
    obtain ⟨k, hk, rfl, hall, hbc⟩ := hrel
    by_cases hlt : k < l.length
    · obtain ⟨b, o, rfl, -, hbs, c0, c1, c2, c3, c4⟩ := (HV.out.below hbc).at k hlt
      have ok := HOK.out l[k] (List.getElem_mem hlt)
      have Hyes := Go.Lib.hid (fun (h : mayT l[k] = true) => take_all hlt hall.out h)
      have Hnot := Go.Lib.hid (fun (h : mayT l[k] = false) => not_all hlt h)
      have hix := run_idx5 b o l.length cap k hlt
      have HBC := Go.Lib.hid hbc
      generalize l[k] = x at *
      obtain ⟨kx, gx, ax, nx, sx⟩ := x
      simp only [] at c0 c1 c2 c3 c4
      have C1 := fun W => rmayrec_c kx gx ax nx sx W ok.1 ok.2.2.2
      have Hlt := Go.Lib.hid hlt
      unfold recV at C1
      cases hp : mayRec kx gx ax nx sx with
      | true =>
        rw [hp] at C1
        have CM := Go.Lib.hid C1
        have HY := Go.Lib.hid (Hyes.out hp)
        clear C1 hp Hyes Hnot hall ok hbc hlt
        go_wp2_with fail
        refine (CM.out _).mono ?_
        rintro e w2 ⟨rfl, hb2⟩
        go_wp2_with fail
        go_roundw
        case rel => exact ⟨k + 1, by have := Hlt.out; omega, by go_num, HY, below_to HBC.out (Nat.le_refl _) hb2⟩
        case measure => simp only [intOf]; have := Hlt.out; omega
      | false =>
        rw [hp] at C1
        have CM := Go.Lib.hid C1
        have HN := Go.Lib.hid (Hnot.out hp)
        clear C1 hp Hyes Hnot hall ok hbc hlt
        go_wp2_with fail
        refine (CM.out _).mono ?_
        rintro e w2 ⟨rfl, hb2⟩
        go_wp2_with fail
        go_ret
        exact ⟨ret_of (congrArg Value.bool HN.out.symm), below_to HBC.out (Nat.le_refl _) hb2⟩
    · obtain rfl : k = l.length := by omega
      by_cases hL : l.length ≤ 1000
      · have K := Go.Lib.hid (show mayRow l = true by
          have := hall.out
          rw [List.take_length] at this
          unfold mayRow
          rw [this, decide_eq_true hL]
          rfl)
        have hI : (l.length : Int) ≤ 1000 := by omega
        clear hall hlt
        go_wp2_with fail
        go_ret
        exact ⟨ret_of (congrArg Value.bool K.out.symm), hbc⟩
      · have K := Go.Lib.hid (show mayRow l = false by
          unfold mayRow
          rw [decide_eq_false hL]
          rfl)
        have hI : ¬ (l.length : Int) ≤ 1000 := by omega
        clear hall hlt
        go_wp2_with fail
        go_ret
        exact ⟨ret_of (congrArg Value.bool K.out.symm), hbc⟩

theorem rowC_room {l : List RecT} (h : mayRow l = true) (hok : ∀ x ∈ l, RecOk x) (k : Nat) : (uvarint (zigzag (l.length : Int)) ++ rowC (l.take k)).length ≤ 200010 := by
  obtain ⟨h1, h2⟩ := mayRow_iff.1 h
  have e1 := (headL l.length (by omega)).1
  have e2 := rowC_len (l.take k) (fun x hx => h2 x (List.mem_of_mem_take hx)) (fun x hx => hok x (List.mem_of_mem_take hx))
  have e3 : (l.take k).length ≤ 1000 := by rw [List.length_take]; omega
  rw [List.length_append]
  omega

set_option maxHeartbeats 1000000 in
set_option maxRecDepth 100000 in
theorem bencode_c (v : Value) (l : List RecT) (w : World) (hv : RS w v l) (hok : ∀ x ∈ l, RecOk x) :
    Calls Try.prog 9 #[v] w fun e w' => ∃ v', e = .returned v' ∧ Own 5 w' w.heap.size v' (rowE l) ∧ Below w.heap.size w w' := by
  have C := bmay_c v l w hv hok
  obtain ⟨a, cap, rfl, hlen⟩ := hv.form
  cases hm : mayRow l with
  | false =>
    have K := Go.Lib.hid (show rowE l = [] by unfold rowE; rw [hm]; rfl)
    rw [hm] at C
    have C := Go.Lib.hid C
    clear hm hok hv
    go_enter Try.func9, Try.ntmps9
    go_wp2_with fail
    refine C.out.mono ?_
    rintro e w1 ⟨rfl, hb⟩
    have HB := Go.Lib.hid hb; clear hb
    go_wp2_with fail
    go_ret
    exact ⟨_, rfl, by rw [K.out]; exact Own.nil _ _ _, HB.out⟩
  | true =>
    have K := Go.Lib.hid (show rowE l = uvarint (zigzag (l.length : Int)) ++ rowC l by unfold rowE; rw [hm]; rfl)
    rw [hm] at C
    have C := Go.Lib.hid C
    have HM := Go.Lib.hid hm
    have HOK := Go.Lib.hid hok
    have HV := Go.Lib.hid hv
    have hl1 := (mayRow_iff.1 hm).1
    clear hm hok hv
    go_enter Try.func9, Try.ntmps9
    go_wp2_with fail
    refine C.out.mono ?_
    rintro e w1 ⟨rfl, hb⟩
    have HB := Go.Lib.hid hb; clear hb C
    go_wp2_with fail
    refine (put_c (.slice none 0 0) [] (l.length : Int) w1 (RB.nil _) (by omega) (by omega) (by simp)).mono ?_
    rintro e w2 ⟨v2, rfl, hown2, hb2⟩
    have HB2 := Go.Lib.hid (below_to HB.out (Nat.le_refl _) hb2)
    have HO := Go.Lib.hid (hown2.mono HB.out.size)
    clear hown2 hb2 HB
    go_wp2_with fail
    go_loopw [3, 14] (fun bv i wr => ∃ (k : Nat) (u : Value), u = bv ∧ k ≤ l.length ∧ i = .int .i64 (k : Int) ∧ Own 5 wr w.heap.size u (uvarint (zigzag (l.length : Int)) ++ rowC (l.take k)) ∧ Below w.heap.size w wr) (fun _ i _ => l.length - (intOf i).toNat)
    case atStart => exact ⟨0, _, rfl, by omega, rfl, by simpa [rowC] using HO.out, HB2.out⟩
    case round =>
      obtain ⟨k, u, rfl, hk, rfl, hown, hbc⟩ := hrel
      by_cases hlt : k < l.length
      · obtain ⟨b, o, rfl, -, hbs, c0, c1, c2, c3, c4⟩ := (HV.out.below hbc).at k hlt
        have hP := rowC_room HM.out HOK.out k
        have hsn : uvarint (zigzag (l.length : Int)) ++ rowC (l.take k) ++ recT l[k] = uvarint (zigzag (l.length : Int)) ++ rowC (l.take (k + 1)) := by rw [List.take_succ_eq_append_getElem hlt, rowC_snoc, List.append_assoc]
        have hmt := (mayRow_iff.1 HM.out).2 l[k] (List.getElem_mem hlt)
        have ok := HOK.out l[k] (List.getElem_mem hlt)
        have hix := run_idx5 b o l.length cap k hlt
        have hln := (recT_len hmt ok).2
        generalize l[k] = x at *
        obtain ⟨kx, gx, ax, nx, sx⟩ := x
        obtain ⟨n0, n1⟩ := recOk_n ok
        simp only [] at c0 c1 c2 c3 c4 n0 n1
        have C1 := fun W => pput_c (.slice none 0 0) [] (bl kx) gx ax nx (bl sx) W (RB.nil _) (by rw [str_bl, str_bl]; exact hmt) n0 n1 (by simp)
        unfold recV at C1
        simp only [str_bl, List.nil_append] at C1
        unfold recT at hln hsn
        simp only [] at hln hsn
        generalize recB (bl kx) gx ax nx (bl sx) = R at *
        generalize uvarint (zigzag (l.length : Int)) ++ rowC (l.take k) = P at *
        have CP := Go.Lib.hid C1
        have Hsn := Go.Lib.hid hsn
        have Hlt := Go.Lib.hid hlt
        have hb1 := below_one wr (.cells #[.string kx, .bool gx, .int .i64 ax, .int .i64 nx, .string sx] 38)
        have HB1 := Go.Lib.hid (below_to hbc (Nat.le_refl _) hb1)
        have HO1 := Go.Lib.hid (hown.below hb1)
        have HP := Go.Lib.hid (And.intro hP hln)
        clear C1 hsn hlt ok hmt hP hln n0 n1 hbc hown hb1
        go_wp2_with fail
        refine (CP.out _).mono ?_
        rintro e w3 ⟨v3, rfl, hown3, hb3⟩
        have HB3 := Go.Lib.hid (below_to HB1.out (Nat.le_refl _) hb3)
        have HO3 := Go.Lib.hid (HO1.out.below hb3)
        have HR3 := Go.Lib.hid hown3.rb
        clear hown3 hb3 c0 c1 c2 c3 c4 HB1 HO1 CP hix
        go_wp2_with (first
          | (with_reducible show wpList _ _ _ (⟨some 21, _, _, _, _, _⟩ :: _) _ _; go_loud (refine wpList_append_RB rfl (.tmp 18) (.tmp 20) 25 rfl w.heap.size 5 Try.underlying25 info8 u v3 P R rfl rfl HO3.out HR3.out (by have := HP.out; omega) HB3.out.size ?_); intro v4 w4 hown4 hg4)
          | fail)
        rw [Hsn.out] at hown4
        have HB4 := Go.Lib.hid (HB3.out.grown hg4 HB3.out.size HO3.out.row)
        have HO4 := Go.Lib.hid hown4
        clear hown4 hg4 HB3 HO3 HR3
        go_roundw
        case rel => exact ⟨k + 1, _, rfl, by have := Hlt.out; omega, by go_num, HO4.out, HB4.out⟩
        case measure => simp only [intOf]; have := Hlt.out; omega
      · obtain rfl : k = l.length := by omega
        rw [List.take_length, ← K.out] at hown
        clear hlt
        go_wp2_with fail
        go_ret
        exact ⟨_, rfl, hown, hbc⟩

set_option maxHeartbeats 1000000 in
set_option maxRecDepth 100000 in
theorem rrow_c (v : Value) (l : List RecT) (w : World) (hv : RS w v l) (hok : ∀ x ∈ l, RecOk x) :
    Calls Try.prog 12 #[v] w fun e w' => ∃ v', e = .returned v' ∧ Own 5 w' w.heap.size v' (rowE l) ∧ Below w.heap.size w w' := by
  have C := rmayall_c v l w hv hok
  obtain ⟨a, cap, rfl, hlen⟩ := hv.form
  cases hm : mayRow l with
  | false =>
    have K := Go.Lib.hid (show rowE l = [] by unfold rowE; rw [hm]; rfl)
    rw [hm] at C
    have C := Go.Lib.hid C
    clear hm hok hv
    go_enter Try.func12, Try.ntmps12
    go_wp2_with fail
    refine C.out.mono ?_
    rintro e w1 ⟨rfl, hb⟩
    have HB := Go.Lib.hid hb; clear hb
    go_wp2_with fail
    go_ret
    exact ⟨_, rfl, by rw [K.out]; exact Own.nil _ _ _, HB.out⟩
  | true =>
    have K := Go.Lib.hid (show rowE l = uvarint (zigzag (l.length : Int)) ++ rowC l by unfold rowE; rw [hm]; rfl)
    rw [hm] at C
    have C := Go.Lib.hid C
    have HM := Go.Lib.hid hm
    have HOK := Go.Lib.hid hok
    have HV := Go.Lib.hid hv
    have hl1 := (mayRow_iff.1 hm).1
    clear hm hok hv
    go_enter Try.func12, Try.ntmps12
    go_wp2_with fail
    refine C.out.mono ?_
    rintro e w1 ⟨rfl, hb⟩
    have HB := Go.Lib.hid hb; clear hb C
    go_wp2_with fail
    refine (rput_c (l.length : Int) w1 (by omega) (by omega)).mono ?_
    rintro e w2 ⟨v2, rfl, hown2, hb2⟩
    have HB2 := Go.Lib.hid (below_to HB.out (Nat.le_refl _) hb2)
    have HO := Go.Lib.hid (hown2.mono HB.out.size)
    clear hown2 hb2 HB
    go_wp2_with fail
    go_loopw [3, 4] (fun bv i wr => ∃ (k : Nat) (u : Value), u = bv ∧ k ≤ l.length ∧ i = .int .i64 (k : Int) ∧ Own 5 wr w.heap.size u (uvarint (zigzag (l.length : Int)) ++ rowC (l.take k)) ∧ Below w.heap.size w wr) (fun _ i _ => l.length - (intOf i).toNat)
    case atStart => exact ⟨0, _, rfl, by omega, rfl, by simpa [rowC] using HO.out, HB2.out⟩
    case round =>
      obtain ⟨k, u, rfl, hk, rfl, hown, hbc⟩ := hrel
      by_cases hlt : k < l.length
      · obtain ⟨b, o, rfl, -, hbs, c0, c1, c2, c3, c4⟩ := (HV.out.below hbc).at k hlt
        have hP := rowC_room HM.out HOK.out k
        have hsn : uvarint (zigzag (l.length : Int)) ++ rowC (l.take k) ++ recT l[k] = uvarint (zigzag (l.length : Int)) ++ rowC (l.take (k + 1)) := by rw [List.take_succ_eq_append_getElem hlt, rowC_snoc, List.append_assoc]
        have hmt := (mayRow_iff.1 HM.out).2 l[k] (List.getElem_mem hlt)
        have ok := HOK.out l[k] (List.getElem_mem hlt)
        have hix := run_idx5 b o l.length cap k hlt
        have hln := (recT_len hmt ok).2
        have hsh := mayT_short hmt
        generalize l[k] = x at *
        obtain ⟨kx, gx, ax, nx, sx⟩ := x
        obtain ⟨n0, n1⟩ := recOk_n ok
        obtain ⟨k0, k1⟩ := recOk_k ok
        simp only [] at c0 c1 c2 c3 c4 n0 n1 k0 k1 hsh
        have C1 := fun W => rbytes_c (bl kx) gx ax nx (bl sx) W (by rw [← bl_size]; omega) k0 k1 n0 n1 (by rw [← bl_size]; omega)
        unfold recV at C1
        simp only [str_bl] at C1
        unfold recT at hln hsn
        simp only [] at hln hsn
        generalize recB (bl kx) gx ax nx (bl sx) = R at *
        generalize uvarint (zigzag (l.length : Int)) ++ rowC (l.take k) = P at *
        have CP := Go.Lib.hid C1
        have Hsn := Go.Lib.hid hsn
        have Hlt := Go.Lib.hid hlt
        have HB1 := Go.Lib.hid hbc
        have HO1 := Go.Lib.hid hown
        have HP := Go.Lib.hid (And.intro hP hln)
        clear C1 hsn hlt ok hmt hP hln n0 n1 k0 k1 hsh hbc hown
        go_wp2_with fail
        refine (CP.out _).mono ?_
        rintro e w3 ⟨v3, rfl, hown3, hb3⟩
        have HB3 := Go.Lib.hid (below_to HB1.out (Nat.le_refl _) hb3)
        have HO3 := Go.Lib.hid (HO1.out.below hb3)
        have HR3 := Go.Lib.hid hown3.rb
        clear hown3 hb3 c0 c1 c2 c3 c4 HB1 HO1 CP hix
        go_wp2_with (first
          | (with_reducible show wpList _ _ _ (⟨some 23, _, _, _, _, _⟩ :: _) _ _; go_loud (refine wpList_append_RB rfl (.tmp 17) (.tmp 22) 25 rfl w.heap.size 5 Try.underlying25 info8 u v3 P R rfl rfl HO3.out HR3.out (by have := HP.out; omega) HB3.out.size ?_); intro v4 w4 hown4 hg4)
          | fail)
        rw [Hsn.out] at hown4
        have HB4 := Go.Lib.hid (HB3.out.grown hg4 HB3.out.size HO3.out.row)
        have HO4 := Go.Lib.hid hown4
        clear hown4 hg4 HB3 HO3 HR3
        go_roundw
        case rel => exact ⟨k + 1, _, rfl, by have := Hlt.out; omega, by go_num, HO4.out, HB4.out⟩
        case measure => simp only [intOf]; have := Hlt.out; omega
      · obtain rfl : k = l.length := by omega
        rw [List.take_length, ← K.out] at hown
        clear hlt
        go_wp2_with fail
        go_ret
        exact ⟨_, rfl, hown, hbc⟩

end Go.Proofs.Ytoaiogfeffnlcaa
