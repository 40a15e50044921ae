/-
  Package record: contract of Put.
  Package batch: contracts of May, Encode; of the reference's MayAll, Row.
  A slice of records that the call makes at its whole length; a record that is stored into it.
-/
import Derived.Test.YtibbligidncocaaM23
import Derived.Test.YtibbligidncocaaM19
import Derived.Test.YtibbligidncocaaM37
import Derived.Test.YtibbligidncocaaM20
import Derived.Test.YtibbligidncocaaM17
import Derived.LoopTactic
import Derived.Deep.MidRow
namespace Go.Proofs.Ytibbligidncocaa
open Go.RowKit
open Go.Lib (uvarint zigzag)

set_option maxRecDepth 100000 in
theorem pput_c (v : Value) (l key : List UInt8) (gone : Bool) (k n : Int) (s : List UInt8) (w : World) (hv : RB w v l) (hm : mayRec (str key) gone k n (str s) = true) (h0 : -9223372036854775808 ≤ n) (h1 : n ≤ 9223372036854775807) (hl : l.length ≤ 50000) :
    Calls Try.prog 65 #[v, recV (str key) gone k n (str s)] w fun e w' => ∃ v', e = .returned v' ∧ Own 5 w' w.heap.size v' (l ++ recB key gone k n s) ∧ Below w.heap.size w w' := by
  have hm' := hm
  unfold mayRec at hm'
  rw [Bool.and_eq_true] at hm'
  obtain ⟨hk, hr⟩ := hm'
  have hks : key.length ≤ 16 := by
    unfold mayK at hk
    rw [Bool.and_eq_true, decide_eq_true_eq, decide_eq_true_eq, str_size] at hk
    exact hk.2
  have hss : (str s).size ≤ maxLen := by
    unfold maxLen
    cases gone with
    | true =>
      rw [if_pos rfl, Bool.and_eq_true] at hr
      have h2 := hr.2
      rw [str_size]
      have h3 : s = [] := by simpa [str, ByteArray.toList_eq] using h2
      rw [h3]
      decide
    | false =>
      rw [if_neg (by decide)] at hr
      rw [str_size]
      rcases mayR_cases hr with ⟨-, h3⟩ | ⟨-, -, h3⟩
      · rw [h3]; decide
      · have := h3; omega
  have c0 := fun W => pmay_c (str key) gone k n (str s) W (by rw [str_size]; unfold maxLen; omega) hss
  rw [hm] at c0
  have c1 := fun W (h : RB W v l) => putText_c v l (str key) W h (by rw [str_size]; omega)
  rw [show (str key).data.toList = key from by simp [str]] at c1
  have hpl : (putT key).length ≤ 30 := by
    have hz := Go.Lib.uvarint_length64 (Go.Lib.zigzag_lt (x := (key.length : Int)) (by omega) (by omega))
    unfold putT
    rw [List.length_append]
    omega
  have C1 := Go.Lib.hid c1
  clear c1
  unfold recV at c0 ⊢
  have C0 := Go.Lib.hid c0
  clear c0
  have hb1 := below_one w (.cells #[.string (str key), .bool gone, .int .i64 k, .int .i64 n, .string (str s)] 39)
  have hA := heap_alloc_new w (.cells #[.string (str key), .bool gone, .int .i64 k, .int .i64 n, .string (str s)] 39)
  have hR0 := hv.below hb1
  cases gone with
  | true =>
    have c2 := fun v' W (h : RB W v' (l ++ putT key)) => put_c v' (l ++ putT key) 0 W h (by omega) (by omega) (by rw [List.length_append]; omega)
    have he : Hid (l ++ putT key ++ uvarint (zigzag 0) = l ++ recB key true k n s) := by unfold Hid recB; rw [if_pos rfl, List.append_assoc]
    rw [he.out] at c2
    have C2 := Go.Lib.hid c2
    clear c2 he hl hpl hks hss hr hk hm h0 h1
    generalize putT key = pk at *
    generalize l ++ recB key true k n s = L at *
    go_enter Try.func65, Try.ntmps65
    go_wp2_with fail
    refine (C0.out _).mono ?_
    rintro e w1 ⟨rfl, hb2⟩
    have hbb := hb1.trans (hb2.mono hb1.size)
    have hA := row_kept hA hb2
    have hR1 := hR0.below hb2
    obtain ⟨x0, x1, x2, x3, x4⟩ := row5 hA
    clear hb1 hb2 hR0 C0
    go_wp2_with fail
    refine (C1.out _ hR1).mono ?_
    rintro e w2 ⟨v2, rfl, hown2, hb2⟩
    have hbb2 := hbb.trans (hb2.mono hbb.size)
    have hA := row_kept hA hb2
    have hR2 := hown2.rb
    clear x0 x1 x2 x3 x4 hb2 hown2 hbb hR1 C1
    obtain ⟨x0, x1, x2, x3, x4⟩ := row5 hA
    go_wp2_with fail
    refine (C2.out _ _ hR2).mono ?_
    rintro e w3 ⟨v3, rfl, hown3, hb3⟩
    have hbb3 := hbb2.trans (hb3.mono hbb2.size)
    have hown3' := hown3.mono hbb2.size
    clear hown3 hb3 hR2 C2 x0 x1 x2 x3 x4
    go_wp2_with fail
    go_ret
    exact ⟨_, rfl, hown3', hbb3⟩
  | false =>
    rw [if_neg (by decide)] at hr
    have c2 := fun v' W (h : RB W v' (l ++ putT key)) => vput_c v' (l ++ putT key) k n s W h hr h0 h1 (by rw [List.length_append]; omega)
    have he : Hid (l ++ putT key ++ putV k n s = l ++ recB key false k n s) := by unfold Hid recB; rw [if_neg (by decide), List.append_assoc]
    rw [he.out] at c2
    unfold rawV at c2
    have C2 := Go.Lib.hid c2
    clear c2 he hl hpl hks hss hr hk hm h0 h1
    generalize putT key = pk at *
    generalize l ++ recB key false k n s = L at *
    go_enter Try.func65, Try.ntmps65
    go_wp2_with fail
    refine (C0.out _).mono ?_
    rintro e w1 ⟨rfl, hb2⟩
    have hbb := hb1.trans (hb2.mono hb1.size)
    have hA := row_kept hA hb2
    have hR1 := hR0.below hb2
    obtain ⟨x0, x1, x2, x3, x4⟩ := row5 hA
    clear hb1 hb2 hR0 C0
    go_wp2_with fail
    refine (C1.out _ hR1).mono ?_
    rintro e w2 ⟨v2, rfl, hown2, hb2⟩
    have hbb2 := hbb.trans (hb2.mono hbb.size)
    have hA := row_kept hA hb2
    have hR2 := hown2.rb
    clear x0 x1 x2 x3 x4 hb2 hown2 hbb hR1 C1
    obtain ⟨x0, x1, x2, x3, x4⟩ := row5 hA
    go_wp2_with fail
    refine (C2.out _ _ hR2).mono ?_
    rintro e w3 ⟨v3, rfl, hown3, hb3⟩
    have hbb3 := hbb2.trans (hb3.mono hbb2.size)
    have hown3' := hown3.mono hbb2.size
    clear hown3 hb3 hR2 C2 x0 x1 x2 x3 x4
    go_wp2_with fail
    go_ret
    exact ⟨_, rfl, hown3', hbb3⟩

end Go.Proofs.Ytibbligidncocaa

namespace Go.Proofs.Ytibbligidncocaa
open Go.RowKit
open Go.Lib (uvarint zigzag)

theorem below_to {B : Nat} {w w1 w2 : World} (h : Below B w w1) (hB : B ≤ w.heap.size) (h2 : Below w1.heap.size w1 w2) : Below B w w2 := h.trans (h2.mono (Nat.le_trans hB h.size))
theorem take_all {l : List RecT} {k : Nat} (hk : k < l.length) (h : (l.take k).all mayT = true) (hm : mayT l[k] = true) : (l.take (k + 1)).all mayT = true := by
  rw [List.take_succ_eq_append_getElem hk, List.all_append, h]
  simpa using hm
theorem not_all {l : List RecT} {k : Nat} (hk : k < l.length) (hm : mayT l[k] = false) : mayRow l = false := by
  unfold mayRow
  rw [Bool.and_eq_false_iff]
  right
  rw [Bool.eq_false_iff]
  intro h
  have := List.all_eq_true.1 h _ (List.getElem_mem hk)
  rw [hm] at this
  cases this

set_option maxHeartbeats 1000000 in
set_option maxRecDepth 100000 in
theorem bmay_c (v : Value) (l : List RecT) (w : World) (hv : RS w v l) (hok : ∀ x ∈ l, RecOk x) :
    Calls Try.prog 63 #[v] w fun e w' => e = .returned (.bool (mayRow l)) ∧ Below w.heap.size w w' := by
  obtain ⟨a, cap, rfl, hm⟩ := hv.form
  have HV := Go.Lib.hid hv
  have HOK := Go.Lib.hid hok
  clear hok hv
  by_cases h : 1000 < l.length
  · have K := Go.Lib.hid (show mayRow l = false by unfold mayRow; rw [decide_eq_false (by omega)]; rfl)
    have hI : (1000 : Int) < (l.length : Int) := by omega
    clear h
    go_enter Try.func63, Try.ntmps63
    go_wp2_with fail
    go_ret
    exact ⟨ret_of (congrArg Value.bool K.out.symm), Below.refl _ _⟩
  · have hI : ¬ (1000 : Int) < (l.length : Int) := by omega
    have HL := Go.Lib.hid h
    clear h
    go_enter Try.func63, Try.ntmps63
    go_wp2_with fail
    go_loopw [10] (fun i wr => ∃ k : Nat, k ≤ l.length ∧ i = .int .i64 (k : Int) ∧ Hid ((l.take k).all mayT = true) ∧ Below w.heap.size w wr) (fun i _ => l.length - (intOf i).toNat)
    case atStart => exact ⟨0, by omega, rfl, Go.Lib.hid (by simp), Below.refl _ _⟩
    case round =>
      obtain ⟨k, hk, rfl, hall, hbc⟩ := hrel
      by_cases hlt : k < l.length
      · obtain ⟨b, o, rfl, -, hbs, c0, c1, c2, c3, c4⟩ := (HV.out.below hbc).at k hlt
        have ok := HOK.out l[k] (List.getElem_mem hlt)
        have Hyes := Go.Lib.hid (fun (h : mayT l[k] = true) => take_all hlt hall.out h)
        have Hnot := Go.Lib.hid (fun (h : mayT l[k] = false) => not_all hlt h)
        have hix := run_idx5 b o l.length cap k hlt
        have HBC := Go.Lib.hid hbc
        generalize l[k] = x at *
        obtain ⟨kx, gx, ax, nx, sx⟩ := x
        simp only [] at c0 c1 c2 c3 c4
        have C1 := fun W => pmay_c kx gx ax nx sx W ok.1 ok.2.2.2
        have hb1 := below_one wr (.cells #[.string kx, .bool gx, .int .i64 ax, .int .i64 nx, .string sx] 39)
        have HB1 := Go.Lib.hid (below_to hbc (Nat.le_refl _) hb1)
        have Hlt := Go.Lib.hid hlt
        unfold recV at C1
        cases hp : mayRec kx gx ax nx sx with
        | true =>
          rw [hp] at C1
          have CM := Go.Lib.hid C1
          have HY := Go.Lib.hid (Hyes.out hp)
          clear C1 hp Hyes Hnot hall ok hbc hb1 hlt HBC
          go_wp2_with fail
          refine (CM.out _).mono ?_
          rintro e w2 ⟨rfl, hb2⟩
          go_wp2_with fail
          go_roundw
          case rel => exact ⟨k + 1, by have := Hlt.out; omega, by go_num, HY, below_to HB1.out (Nat.le_refl _) hb2⟩
          case measure => simp only [intOf]; have := Hlt.out; omega
        | false =>
          rw [hp] at C1
          have CM := Go.Lib.hid C1
          have HN := Go.Lib.hid (Hnot.out hp)
          clear C1 hp Hyes Hnot hall ok hbc hb1 hlt HBC
          go_wp2_with fail
          refine (CM.out _).mono ?_
          rintro e w2 ⟨rfl, hb2⟩
          go_wp2_with fail
          go_ret
          exact ⟨ret_of (congrArg Value.bool HN.out.symm), below_to HB1.out (Nat.le_refl _) hb2⟩
      · obtain rfl : k = l.length := by omega
        have K := Go.Lib.hid (show mayRow l = true by
          have := hall.out
          rw [List.take_length] at this
          unfold mayRow
          rw [this, decide_eq_true (by have := HL.out; omega)]
          rfl)
        clear hall hlt
        go_wp2_with fail
        go_ret
        exact ⟨ret_of (congrArg Value.bool K.out.symm), hbc⟩

theorem rowC_room {l : List RecT} (h : mayRow l = true) (hok : ∀ x ∈ l, RecOk x) (k : Nat) : (uvarint (zigzag (l.length : Int)) ++ rowC (l.take k)).length ≤ 200010 := by
  obtain ⟨h1, h2⟩ := mayRow_iff.1 h
  have e1 := (headL l.length (by omega)).1
  have e2 := rowC_len (l.take k) (fun x hx => h2 x (List.mem_of_mem_take hx)) (fun x hx => hok x (List.mem_of_mem_take hx))
  have e3 : (l.take k).length ≤ 1000 := by rw [List.length_take]; omega
  rw [List.length_append]
  omega

set_option maxHeartbeats 1000000 in
set_option maxRecDepth 100000 in
theorem bencode_c (v : Value) (l : List RecT) (w : World) (hv : RS w v l) (hok : ∀ x ∈ l, RecOk x) :
    Calls Try.prog 43 #[v] w fun e w' => ∃ v', e = .returned v' ∧ Own 5 w' w.heap.size v' (rowE l) ∧ Below w.heap.size w w' := by
  have C := bmay_c v l w hv hok
  obtain ⟨a, cap, rfl, hlen⟩ := hv.form
  cases hm : mayRow l with
  | false =>
    have K := Go.Lib.hid (show rowE l = [] by unfold rowE; rw [hm]; rfl)
    rw [hm] at C
    have C := Go.Lib.hid C
    clear hm hok hv
    go_enter Try.func43, Try.ntmps43
    go_wp2_with fail
    refine C.out.mono ?_
    rintro e w1 ⟨rfl, hb⟩
    have HB := Go.Lib.hid hb; clear hb
    go_wp2_with fail
    go_ret
    exact ⟨_, rfl, by rw [K.out]; exact Own.nil _ _ _, HB.out⟩
  | true =>
    have K := Go.Lib.hid (show rowE l = uvarint (zigzag (l.length : Int)) ++ rowC l by unfold rowE; rw [hm]; rfl)
    rw [hm] at C
    have C := Go.Lib.hid C
    have HM := Go.Lib.hid hm
    have HOK := Go.Lib.hid hok
    have HV := Go.Lib.hid hv
    have hl1 := (mayRow_iff.1 hm).1
    clear hm hok hv
    go_enter Try.func43, Try.ntmps43
    go_wp2_with fail
    refine C.out.mono ?_
    rintro e w1 ⟨rfl, hb⟩
    have HB := Go.Lib.hid hb; clear hb C
    go_wp2_with fail
    refine (put_c (.slice none 0 0) [] (l.length : Int) w1 (RB.nil _) (by omega) (by omega) (by simp)).mono ?_
    rintro e w2 ⟨v2, rfl, hown2, hb2⟩
    have HB2 := Go.Lib.hid (below_to HB.out (Nat.le_refl _) hb2)
    have HO := Go.Lib.hid (hown2.mono HB.out.size)
    clear hown2 hb2 HB
    go_wp2_with fail
    go_loopw [3, 14] (fun bv i wr => ∃ (k : Nat) (u : Value), u = bv ∧ k ≤ l.length ∧ i = .int .i64 (k : Int) ∧ Own 5 wr w.heap.size u (uvarint (zigzag (l.length : Int)) ++ rowC (l.take k)) ∧ Below w.heap.size w wr) (fun _ i _ => l.length - (intOf i).toNat)
    case atStart => exact ⟨0, _, rfl, by omega, rfl, by simpa [rowC] using HO.out, HB2.out⟩
    case round =>
      obtain ⟨k, u, rfl, hk, rfl, hown, hbc⟩ := hrel
      by_cases hlt : k < l.length
      · obtain ⟨b, o, rfl, -, hbs, c0, c1, c2, c3, c4⟩ := (HV.out.below hbc).at k hlt
        have hP := rowC_room HM.out HOK.out k
        have hsn : uvarint (zigzag (l.length : Int)) ++ rowC (l.take k) ++ recT l[k] = uvarint (zigzag (l.length : Int)) ++ rowC (l.take (k + 1)) := by rw [List.take_succ_eq_append_getElem hlt, rowC_snoc, List.append_assoc]
        have hmt := (mayRow_iff.1 HM.out).2 l[k] (List.getElem_mem hlt)
        have ok := HOK.out l[k] (List.getElem_mem hlt)
        have hix := run_idx5 b o l.length cap k hlt
        have hln := (recT_len hmt ok).2
        generalize l[k] = x at *
        obtain ⟨kx, gx, ax, nx, sx⟩ := x
        obtain ⟨n0, n1⟩ := recOk_n ok
        simp only [] at c0 c1 c2 c3 c4 n0 n1
        have C1 := fun W => pput_c (.slice none 0 0) [] (bl kx) gx ax nx (bl sx) W (RB.nil _) (by rw [str_bl, str_bl]; exact hmt) n0 n1 (by simp)
        unfold recV at C1
        simp only [str_bl, List.nil_append] at C1
        unfold recT at hln hsn
        simp only [] at hln hsn
        generalize recB (bl kx) gx ax nx (bl sx) = R at *
        generalize uvarint (zigzag (l.length : Int)) ++ rowC (l.take k) = P at *
        have CP := Go.Lib.hid C1
        have Hsn := Go.Lib.hid hsn
        have Hlt := Go.Lib.hid hlt
        have hb1 := below_one wr (.cells #[.string kx, .bool gx, .int .i64 ax, .int .i64 nx, .string sx] 39)
        have HB1 := Go.Lib.hid (below_to hbc (Nat.le_refl _) hb1)
        have HO1 := Go.Lib.hid (hown.below hb1)
        have HP := Go.Lib.hid (And.intro hP hln)
        clear C1 hsn hlt ok hmt hP hln n0 n1 hbc hown hb1
        go_wp2_with fail
        refine (CP.out _).mono ?_
        rintro e w3 ⟨v3, rfl, hown3, hb3⟩
        have HB3 := Go.Lib.hid (below_to HB1.out (Nat.le_refl _) hb3)
        have HO3 := Go.Lib.hid (HO1.out.below hb3)
        have HR3 := Go.Lib.hid hown3.rb
        clear hown3 hb3 c0 c1 c2 c3 c4 HB1 HO1 CP hix
        go_wp2_with (first
          | (with_reducible show wpList _ _ _ (⟨some 21, _, _, _, _, _⟩ :: _) _ _; go_loud (refine wpList_append_RB rfl (.tmp 18) (.tmp 20) 33 rfl w.heap.size 5 Try.underlying33 info8 u v3 P R rfl rfl HO3.out HR3.out (by have := HP.out; omega) HB3.out.size ?_); intro v4 w4 hown4 hg4)
          | fail)
        rw [Hsn.out] at hown4
        have HB4 := Go.Lib.hid (HB3.out.grown hg4 HB3.out.size HO3.out.row)
        have HO4 := Go.Lib.hid hown4
        clear hown4 hg4 HB3 HO3 HR3
        go_roundw
        case rel => exact ⟨k + 1, _, rfl, by have := Hlt.out; omega, by go_num, HO4.out, HB4.out⟩
        case measure => simp only [intOf]; have := Hlt.out; omega
      · obtain rfl : k = l.length := by omega
        rw [List.take_length, ← K.out] at hown
        clear hlt
        go_wp2_with fail
        go_ret
        exact ⟨_, rfl, hown, hbc⟩

end Go.Proofs.Ytibbligidncocaa

namespace Go.Proofs.Ytibbligidncocaa
open Go.RowKit

theorem flat5_len (l : List RecT) : (flat5 l).length = l.length * 5 := by
  induction l with
  | nil => rfl
  | cons x l ih =>
    show (rc5 x ++ flat5 l).length = _
    rw [List.length_append, ih, List.length_cons]
    simp [rc5]
    omega
theorem flat5_set (x : RecT) : ∀ (l : List RecT) (i : Nat), i < l.length →
    flat5 (l.set i x) = (((((flat5 l).set (i * 5) (.string x.1)).set (i * 5 + 1) (.bool x.2.1)).set (i * 5 + 1 + 1) (.int .i64 x.2.2.1)).set (i * 5 + 1 + 1 + 1) (.int .i64 x.2.2.2.1)).set (i * 5 + 1 + 1 + 1 + 1) (.string x.2.2.2.2)
  | [], i, h => absurd h (by simp)
  | y :: t, 0, h => rfl
  | y :: t, i + 1, h => by
    have ih := flat5_set x t i (by simpa using h)
    show rc5 y ++ flat5 (t.set i x) = _
    rw [ih]
    show _ = (((((rc5 y ++ flat5 t).set ((i + 1) * 5) _).set ((i + 1) * 5 + 1) _).set ((i + 1) * 5 + 1 + 1) _).set ((i + 1) * 5 + 1 + 1 + 1) _).set ((i + 1) * 5 + 1 + 1 + 1 + 1) _
    rw [show (i + 1) * 5 = i * 5 + 5 by omega]
    have e (l : List Value) (k : Nat) (v : Value) : (rc5 y ++ l).set (k + 5) v = rc5 y ++ l.set k v := by
      rw [List.set_append_right _ _ (by simp [rc5])]
      simp [rc5]
    rw [e, show i * 5 + 5 + 1 = (i * 5 + 1) + 5 by omega, e, show i * 5 + 1 + 5 + 1 = (i * 5 + 1 + 1) + 5 by omega, e, show i * 5 + 1 + 1 + 5 + 1 = (i * 5 + 1 + 1 + 1) + 5 by omega, e, show i * 5 + 1 + 1 + 1 + 5 + 1 = (i * 5 + 1 + 1 + 1 + 1) + 5 by omega, e]

theorem OwnRec.there {w : World} {B g n cap : Nat} {l : List RecT} (h : OwnRec w B (.slice (some ⟨g, 0, none⟩) n cap) l) (i : Nat) (hi : i < l.length) : w.there g (i * 5) 5 := by
  have hn : n = l.length := by
    rcases h.2 with ⟨h', _⟩ | ⟨g', cap', cur, h', _⟩
    · simp at h'
    · simp at h'; exact h'.2.1
  subst hn
  intro j hj
  refine ⟨?_, World.ownsRow.frozenAt h _⟩
  rw [World.ownsRow.cellAt h (i * 5 + j) (by omega), flat5_at l i j hi hj]
  match j, hj with
  | 0, _ => rfl
  | 1, _ => rfl
  | 2, _ => rfl
  | 3, _ => rfl
  | 4, _ => rfl
  | j + 5, hj => omega
theorem grown_two {w w1 w2 : World} {r : Option Nat} (h : w.grownBy w1 r) (g : w1.grownBy w2 r) : w.grownBy w2 r := h.trans g
/-- A record is stored. -/
theorem OwnRec.store {w : World} {B g n cap : Nat} {l : List RecT} (h : OwnRec w B (.slice (some ⟨g, 0, none⟩) n cap) l) (i : Nat) (hi : i < l.length) (x : RecT) :
    OwnRec (w.setCells g (i * 5) (rc5 x)) B (.slice (some ⟨g, 0, none⟩) n cap) (l.set i x) ∧ w.grownBy (w.setCells g (i * 5) (rc5 x)) (some g) := by
  have hn : n = l.length := by
    rcases h.2 with ⟨h', _⟩ | ⟨g', cap', cur, h', _⟩
    · simp at h'
    · simp at h'; exact h'.2.1
  subst hn
  obtain ⟨h1, g1⟩ := World.ownsRow.stored h (i * 5) (.string x.1)
  obtain ⟨h2, g2⟩ := World.ownsRow.stored h1 (i * 5 + 1) (.bool x.2.1)
  obtain ⟨h3, g3⟩ := World.ownsRow.stored h2 (i * 5 + 1 + 1) (.int .i64 x.2.2.1)
  obtain ⟨h4, g4⟩ := World.ownsRow.stored h3 (i * 5 + 1 + 1 + 1) (.int .i64 x.2.2.2.1)
  obtain ⟨h5, g5⟩ := World.ownsRow.stored h4 (i * 5 + 1 + 1 + 1 + 1) (.string x.2.2.2.2)
  rw [← flat5_set x l i hi] at h5
  refine ⟨?_, (((g1.trans g2).trans g3).trans g4).trans g5⟩
  unfold OwnRec
  rw [List.length_set]
  exact h5

def zR : RecT := (⟨#[]⟩, false, 0, 0, ⟨#[]⟩)
def zC : Array Value := #[.string ⟨#[]⟩, .bool false, .int .i64 0, .int .i64 0, .string ⟨#[]⟩]
theorem made5 (n : Nat) : (madeCells zC (n * 5)).toList = flat5 (List.replicate n zR) := by
  apply List.ext_getElem?
  intro q
  by_cases hq : q < n * 5
  · have h1 : q / 5 < n := by omega
    have h2 : q / 5 < (List.replicate n zR).length := by rw [List.length_replicate]; exact h1
    have e := flat5_at (List.replicate n zR) (q / 5) (q % 5) h2 (by omega)
    rw [show q / 5 * 5 + q % 5 = q by omega, List.getElem_replicate] at e
    rw [e, ← Array.getElem?_toList.symm]
    unfold madeCells
    rw [Array.getElem?_map, Array.getElem?_range, if_pos hq]
    have h5 : q % 5 < 5 := by omega
    show some zC[q % 5]! = _
    generalize q % 5 = r at h5
    match r, h5 with
    | 0, _ => rfl
    | 1, _ => rfl
    | 2, _ => rfl
    | 3, _ => rfl
    | 4, _ => rfl
    | r + 5, h5 => omega
  · rw [List.getElem?_eq_none (by rw [Array.length_toList, size_madeCells]; omega), List.getElem?_eq_none (by rw [flat5_len, List.length_replicate]; omega)]

/-- 'make([]api.Rec, n)'. -/
theorem wpList_make_all {ops : Array Oper} {rest : List Oper} {o : Oper} {a : Act} {w : World} {Q : Exit → Act → World → Prop} (hgd : o.guard = none) (lo co : Operand)
    (hop : o.op = Op.makeSlice 22 lo co) (kl kc : IntKind) (L C : Int) (n : Nat) (hl : a.eval lo = .int kl L) (hc : a.eval co = .int kc C) (hL : L = (n : Int)) (hC : C = (n : Int)) (hcm : n ≤ 100000)
    (h : ∀ g w', OwnRec w' w.heap.size (.slice (some ⟨g, 0, none⟩) n n) (List.replicate n zR) → w.grownBy w' none → wpList Try.prog ops Q rest (a.put o.dst (.slice (some ⟨g, 0, none⟩) n n)) w') : wpList Try.prog ops Q (o :: rest) a w := by
  obtain ⟨i, hi, hz, hsize, hby⟩ := info_parts info5
  subst hL hC
  have hr := run_make (P := Try.prog) w 22 39 i _ Try.underlying22 hi hz kl kc n n (by omega) (by omega) (by rw [hby]; omega) (by omega)
  simp only [Int.toNat_natCast, hsize] at hr
  refine wpList_gives hgd (.slice (some ⟨w.heap.size, 0, none⟩) n n) (w.alloc (.cells (madeCells zC (n * 5)) 39)) (by simp [execOp, hop, hl, hc, hr, Result.andThen]; rfl) (h _ _ ?_ (World.grownBy_alloc w _ none))
  refine ⟨by rw [flat5_len], .inr ⟨w.heap.size, n, _, by rw [List.length_replicate], Nat.le_refl _, heap_alloc_new w _, by rw [List.length_replicate]; exact Nat.le_refl _, by unfold maxLen; omega, by simp [size_madeCells], ?_⟩⟩
  rw [made5, List.length_replicate, List.take_of_length_le (by rw [flat5_len, List.length_replicate]; exact Nat.le_refl _)]

theorem sizeRec : (Try.prog.info? 39).map (·.size) = some 5 := by kernel_rfl
/-- 'l[i] = x'. -/
theorem wpList_store_rec {ops : Array Oper} {rest : List Oper} {o : Oper} {a : Act} {w : World} {Q : Exit → Act → World → Prop} (hgd : o.guard = none) (hd : o.dst = none) (x y : Operand) (ho : o.op = .store 39 x y)
    (g i : Nat) (r : RecT) (hx : a.eval x = .pointer (some ⟨g, i * 5, none⟩)) (hy : a.eval y = .agg #[.string r.1, .bool r.2.1, .int .i64 r.2.2.1, .int .i64 r.2.2.2.1, .string r.2.2.2.2]) (ht : w.there g (i * 5) 5)
    (h : wpList Try.prog ops Q rest a (w.setCells g (i * 5) (rc5 r))) : wpList Try.prog ops Q (o :: rest) a w := by
  refine wpList_store_mid hgd 39 x y ho g (i * 5) #[.string r.1, .bool r.2.1, .int .i64 r.2.2.1, .int .i64 r.2.2.2.1, .string r.2.2.2.2] hx hy ht sizeRec (by simp [Value.oneCell']) ?_
  rw [hd]
  exact h

end Go.Proofs.Ytibbligidncocaa
