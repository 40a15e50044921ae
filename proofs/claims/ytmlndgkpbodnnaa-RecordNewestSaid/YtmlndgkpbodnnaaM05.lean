/-
  Records: contract of the reference's Bytes.
  Package value: contracts of Put, of what may be.
  Package record: contract of Put.
  Records as bytes: what stands at the beginning of bytes.
  A region whose order is open, whose operations read and make memory but change none that stands: one condition for each slot that it writes, kept whatever comes up between; each operation is shown once, not once for each order.
  A region whose order is open at its beginning alone: the first n operations come in some order and change nothing that stands (see XDraw); behind them the others come one by one: what is left is their list.
  Records: contract of the laws' Cut.
  Records: contract of the reference's Read.
-/
import Derived.Test.YtmlndgkpbodnnaaM03
import Derived.Test.YtmlndgkpbodnnaaM04
import Derived.Test.YtmlndgkpbodnnaaM01
import Derived.Orders
import Derived.Deep.MidRow
import Derived.Deep.DeepCutAuto
namespace Go.Proofs.Ytmlndgkpbodnnaa
open Go.RowKit
open Go.Lib (uvarint zigzag)

set_option maxRecDepth 100000 in
theorem rbytes_c (key : List UInt8) (gone : Bool) (k n : Int) (s : List UInt8) (w : World) (hk : key.length ≤ 60000) (k0 : -9223372036854775808 ≤ k) (k1 : k ≤ 9223372036854775807) (h0 : -9223372036854775808 ≤ n) (h1 : n ≤ 9223372036854775807) (hs : s.length ≤ 60000) :
    Calls Try.prog 16 #[recV (str key) gone k n (str s)] w fun e w' => ∃ v, e = .returned v ∧ Own 5 w' w.heap.size v (recB key gone k n s) ∧ Below w.heap.size w w' := by
  unfold recV
  have C1 := Go.Lib.hid fun W => rputText_c (str key) W (by rw [str_size]; omega)
  have e1 : putT (str key).data.toList = putT key := by simp [str]
  have e2 : (putT key).length ≤ 60010 := by
    rw [putT, List.length_append]
    have := Go.Lib.uvarint_length64 (Go.Lib.zigzag_lt (x := (key.length : Int)) (by omega) (by omega))
    omega
  have C1 := C1.out
  rw [e1] at C1
  have C1' := Go.Lib.hid C1
  have hbA := below_one w (.cells #[.string (str key), .bool gone, .int .i64 k, .int .i64 n, .string (str s)] 25)
  clear C1 e1 hk
  cases gone with
  | true =>
    have C2 := Go.Lib.hid fun W => rput_c 0 W (by omega) (by omega)
    have e3 : (uvarint (zigzag 0)).length ≤ 10 := Go.Lib.uvarint_length64 (Go.Lib.zigzag_lt (by omega) (by omega))
    have he : Hid (recB key true k n s = putT key ++ uvarint (zigzag 0)) := rfl
    clear k0 k1 h0 h1 hs
    generalize uvarint (zigzag 0) = un at *
    generalize putT key = uk at *
    go_enter Try.func16, Try.ntmps16
    go_wp2_with fail
    refine (C1'.out _).mono ?_
    rintro e w1 ⟨v1, rfl, hown1, hb1⟩
    obtain ⟨hh, x0, x1, x2, x3, x4⟩ := rec_box _ _ _ _ _ hb1
    have hbb1 := hbA.trans (hb1.mono hbA.size)
    have hown1' := hown1.mono hbA.size
    clear hown1 hb1 hbA hh
    go_wp2_with fail
    refine (C2.out _).mono ?_
    rintro e w2 ⟨v2, rfl, hown2, hb2⟩
    have hbb2 := hbb1.trans (hb2.mono hbb1.size)
    have hownA := hown1'.below hb2
    have hrb2 := hown2.rb
    clear hown1' hown2 hb2 hbb1 x0 x1 x2 x3 x4
    go_wp2_with (first
      | (with_reducible show wpList _ _ _ (⟨some 11, _, _, _, _, _⟩ :: _) _ _; go_loud (refine wpList_append_RB rfl (.tmp 9) (.tmp 10) 26 rfl w.heap.size 5 Try.underlying26 info8 v1 v2 uk un rfl rfl hownA hrb2 (by omega) hbb2.size ?_); intro v3 w3 hown3 hg3; have hbb3 := hbb2.grown hg3 hbb2.size hownA.row)
      | fail)
    go_ret
    exact ⟨_, rfl, by rw [he.out]; exact hown3, hbb3⟩
  | false =>
    have C2 := Go.Lib.hid fun W => rputVal_c k n s W k0 k1 h0 h1 hs
    have e3 : (putV k n s).length ≤ 60050 := by
      have a1 := Go.Lib.uvarint_length64 (Go.Lib.zigzag_lt k0 k1)
      have a2 := Go.Lib.uvarint_length64 (Go.Lib.zigzag_lt h0 h1)
      have a3 := Go.Lib.uvarint_length64 (Go.Lib.zigzag_lt (x := (s.length : Int)) (by omega) (by omega))
      unfold putV putT
      split <;> simp only [List.length_append] <;> omega
    have he : Hid (recB key false k n s = putT key ++ putV k n s) := rfl
    clear k0 k1 h0 h1 hs
    generalize putV k n s = un at *
    generalize putT key = uk at *
    unfold rawV at C2
    go_enter Try.func16, Try.ntmps16
    go_wp2_with fail
    refine (C1'.out _).mono ?_
    rintro e w1 ⟨v1, rfl, hown1, hb1⟩
    obtain ⟨hh, x0, x1, x2, x3, x4⟩ := rec_box _ _ _ _ _ hb1
    have hbb1 := hbA.trans (hb1.mono hbA.size)
    have hown1' := hown1.mono hbA.size
    clear hown1 hb1 hbA
    unfold recO at hh
    go_wp2_with fail
    refine (C2.out _).mono ?_
    rintro e w2 ⟨v2, rfl, hown2, hb2⟩
    have hbb2 := hbb1.trans (hb2.mono hbb1.size)
    have hownA := hown1'.below hb2
    have hrb2 := hown2.rb
    clear hown1' hown2 hb2 hbb1 x0 x1 x2 x3 x4 hh
    go_wp2_with (first
      | (with_reducible show wpList _ _ _ (⟨some 16, _, _, _, _, _⟩ :: _) _ _; go_loud (refine wpList_append_RB rfl (.tmp 12) (.tmp 15) 26 rfl w.heap.size 5 Try.underlying26 info8 v1 v2 uk un rfl rfl hownA hrb2 (by omega) hbb2.size ?_); intro v3 w3 hown3 hg3; have hbb3 := hbb2.grown hg3 hbb2.size hownA.row)
      | fail)
    go_ret
    exact ⟨_, rfl, by rw [he.out]; exact hown3, hbb3⟩

end Go.Proofs.Ytmlndgkpbodnnaa

namespace Go.Proofs.Ytmlndgkpbodnnaa
open Go.RowKit
open Go.Lib (uvarint zigzag)

set_option maxRecDepth 100000 in
theorem vput_c (v : Value) (l : List UInt8) (k n : Int) (s : List UInt8) (w : World) (hv : RB w v l) (hm : mayR k n (str s) = true) (h0 : -9223372036854775808 ≤ n) (h1 : n ≤ 9223372036854775807) (hl : l.length ≤ 100000) :
    Calls Try.prog 33 #[v, rawV k n (str s)] w fun e w' => ∃ v', e = .returned v' ∧ Own 5 w' w.heap.size v' (l ++ putV k n s) ∧ Below w.heap.size w w' := by
  have C0 := Go.Lib.hid fun W => vof_c k n (str s) W
  rcases mayR_cases hm with ⟨rfl, rfl⟩ | ⟨rfl, rfl, hs⟩
  · have e0 := of_num hm
    have C0 := C0.out
    rw [e0] at C0
    simp only [VI.val, VI.v] at C0
    have C0' := Go.Lib.hid C0
    clear C0 hm e0
    have C1 := Go.Lib.hid fun W (h : RB W v l) => put_c v l 1 W h (by omega) (by omega) (by omega)
    have hz := Go.Lib.uvarint_length64 (Go.Lib.zigzag_lt (x := 1) (by omega) (by omega))
    have C2 := Go.Lib.hid fun v' W (h : RB W v' (l ++ uvarint (zigzag 1))) => put_c v' (l ++ uvarint (zigzag 1)) n W h h0 h1 (by rw [List.length_append]; omega)
    have he : Hid (l ++ uvarint (zigzag 1) ++ uvarint (zigzag n) = l ++ putV 1 n []) := by unfold Hid putV; rw [if_pos rfl, List.append_assoc]
    clear hz h0 h1 hl
    generalize uvarint (zigzag 1) = uk at *
    generalize uvarint (zigzag n) = un at *
    unfold rawV at C0' ⊢
    have hR0 := Go.Lib.hid (hv.below (below_one w (.cells #[.int .i64 1, .int .i64 n, .string (str [])] 23)))
    clear hv
    go_enter Try.func33, Try.ntmps33
    go_wp2_with fail
    refine (C0'.out _).mono ?_
    rintro e w1 ⟨rfl, hb1⟩
    obtain ⟨x0, x1, x2⟩ := box_cells _ _ _ _ _ _ hb1
    have hbb1 := (below_one w _).trans (hb1.mono (below_one w _).size)
    have hR1 := Go.Lib.hid ((hR0.out.below hb1).below (below_one w1 (.cells #[.iface 80 (.int .i64 n)] 68)))
    have Hbo := Go.Lib.hid (hbb1.trans ((below_one w1 (.cells #[.iface 80 (.int .i64 n)] 68)).mono hbb1.size))
    have xx := fun (c : Option Value) (p : Addr) (h : w1.cell? p = c) (o : Obj) (hp : p.block < w1.heap.size) => ((below_one w1 o).cell hp).trans h
    have hlt : w.heap.size < w1.heap.size := by
      have h1 := hb1.size
      have h2 := (Array.getElem?_eq_some_iff.1 (heap_alloc_new w (.cells #[.int .i64 1, .int .i64 n, .string (str [])] 23))).1
      omega
    have y0 := fun o => xx _ _ x0 o hlt
    have y1 := fun o => xx _ _ x1 o hlt
    have y2 := fun o => xx _ _ x2 o hlt
    clear xx hb1 hbb1 hR0 C0' x0 x1 x2
    go_wp2_with fail
    refine (C1.out _ hR1.out).mono ?_
    rintro e w2 ⟨v2, rfl, hown2, hb2⟩
    have hlt2 := Nat.lt_of_lt_of_le hlt ((below_one w1 (.cells #[.iface 80 (.int .i64 n)] 68)).size)
    have z0 := (hb2.cell hlt2).trans (y0 _)
    have z1 := (hb2.cell hlt2).trans (y1 _)
    have hbb2 := Hbo.out.trans (hb2.mono Hbo.out.size)
    have hR2 := hown2.rb
    clear y0 y1 y2 hR1 Hbo hlt hlt2 C1 hb2 hown2
    go_wp2_with fail
    refine (C2.out _ _ hR2).mono ?_
    rintro e w3 ⟨v3, rfl, hown3, hb3⟩
    have hbb3 := hbb2.trans (hb3.mono hbb2.size)
    have hown3' := hown3.mono hbb2.size
    rw [he.out] at hown3'
    clear hown3 hb3 z0 z1 hR2
    go_wp2_with fail
    go_ret
    exact ⟨_, rfl, hown3', hbb3⟩
  · have e0 := of_text hm
    have C0 := C0.out
    rw [e0] at C0
    simp only [VI.val, VI.v] at C0
    have C0' := Go.Lib.hid C0
    clear C0 hm e0
    have C1 := Go.Lib.hid fun W (h : RB W v l) => put_c v l 2 W h (by omega) (by omega) (by omega)
    have hz := Go.Lib.uvarint_length64 (Go.Lib.zigzag_lt (x := 2) (by omega) (by omega))
    have C2 := fun v' W (h : RB W v' (l ++ uvarint (zigzag 2))) => putText_c v' (l ++ uvarint (zigzag 2)) (str s) W h (by rw [List.length_append, str_size]; omega)
    have he : Hid (l ++ uvarint (zigzag 2) ++ putT s = l ++ putV 2 0 s) := by unfold Hid putV; rw [if_neg (by omega), List.append_assoc]
    rw [show (str s).data.toList = s from by simp [str]] at C2
    have C2 := Go.Lib.hid C2
    clear hz h0 h1 hl
    generalize uvarint (zigzag 2) = uk at *
    generalize putT s = un at *
    unfold rawV at C0' ⊢
    have hR0 := Go.Lib.hid (hv.below (below_one w (.cells #[.int .i64 2, .int .i64 0, .string (str s)] 23)))
    clear hv
    go_enter Try.func33, Try.ntmps33
    go_wp2_with fail
    refine (C0'.out _).mono ?_
    rintro e w1 ⟨rfl, hb1⟩
    obtain ⟨x0, x1, x2⟩ := box_cells _ _ _ _ _ _ hb1
    have hbb1 := (below_one w _).trans (hb1.mono (below_one w _).size)
    have hR1 := Go.Lib.hid ((hR0.out.below hb1).below (below_one w1 (.cells #[.iface 81 (.string (str s))] 68)))
    have Hbo := Go.Lib.hid (hbb1.trans ((below_one w1 (.cells #[.iface 81 (.string (str s))] 68)).mono hbb1.size))
    have xx := fun (c : Option Value) (p : Addr) (h : w1.cell? p = c) (o : Obj) (hp : p.block < w1.heap.size) => ((below_one w1 o).cell hp).trans h
    have hlt : w.heap.size < w1.heap.size := by
      have h1 := hb1.size
      have h2 := (Array.getElem?_eq_some_iff.1 (heap_alloc_new w (.cells #[.int .i64 2, .int .i64 0, .string (str s)] 23))).1
      omega
    have y0 := fun o => xx _ _ x0 o hlt
    have y1 := fun o => xx _ _ x1 o hlt
    have y2 := fun o => xx _ _ x2 o hlt
    clear xx hb1 hbb1 hR0 C0' x0 x1 x2
    go_wp2_with fail
    refine (C1.out _ hR1.out).mono ?_
    rintro e w2 ⟨v2, rfl, hown2, hb2⟩
    have hlt2 := Nat.lt_of_lt_of_le hlt ((below_one w1 (.cells #[.iface 81 (.string (str s))] 68)).size)
    have z0 := (hb2.cell hlt2).trans (y0 _)
    have z1 := (hb2.cell hlt2).trans (y2 _)
    have hbb2 := Hbo.out.trans (hb2.mono Hbo.out.size)
    have hR2 := hown2.rb
    clear y0 y1 y2 hR1 Hbo hlt hlt2 C1 hb2 hown2
    go_wp2_with fail
    refine (C2.out _ _ hR2).mono ?_
    rintro e w3 ⟨v3, rfl, hown3, hb3⟩
    have hbb3 := hbb2.trans (hb3.mono hbb2.size)
    have hown3' := hown3.mono hbb2.size
    rw [he.out] at hown3'
    clear hown3 hb3 z0 z1 hR2
    go_wp2_with fail
    go_ret
    exact ⟨_, rfl, hown3', hbb3⟩

end Go.Proofs.Ytmlndgkpbodnnaa

namespace Go.Proofs.Ytmlndgkpbodnnaa
open Go.RowKit
open Go.Lib (uvarint zigzag)

set_option maxRecDepth 100000 in
theorem pput_c (v : Value) (l key : List UInt8) (gone : Bool) (k n : Int) (s : List UInt8) (w : World) (hv : RB w v l) (hm : mayRec (str key) gone k n (str s) = true) (h0 : -9223372036854775808 ≤ n) (h1 : n ≤ 9223372036854775807) (hl : l.length ≤ 50000) :
    Calls Try.prog 15 #[v, recV (str key) gone k n (str s)] w fun e w' => ∃ v', e = .returned v' ∧ Own 5 w' w.heap.size v' (l ++ recB key gone k n s) ∧ Below w.heap.size w w' := by
  have hm' := hm
  unfold mayRec at hm'
  rw [Bool.and_eq_true] at hm'
  obtain ⟨hk, hr⟩ := hm'
  have hks : key.length ≤ 16 := by
    unfold mayK at hk
    rw [Bool.and_eq_true, decide_eq_true_eq, decide_eq_true_eq, str_size] at hk
    exact hk.2
  have hss : (str s).size ≤ maxLen := by
    unfold maxLen
    cases gone with
    | true =>
      rw [if_pos rfl, Bool.and_eq_true] at hr
      have h2 := hr.2
      rw [str_size]
      have h3 : s = [] := by simpa [str, ByteArray.toList_eq] using h2
      rw [h3]
      decide
    | false =>
      rw [if_neg (by decide)] at hr
      rw [str_size]
      rcases mayR_cases hr with ⟨-, h3⟩ | ⟨-, -, h3⟩
      · rw [h3]; decide
      · have := h3; omega
  have c0 := fun W => pmay_c (str key) gone k n (str s) W (by rw [str_size]; unfold maxLen; omega) hss
  rw [hm] at c0
  have c1 := fun W (h : RB W v l) => putText_c v l (str key) W h (by rw [str_size]; omega)
  rw [show (str key).data.toList = key from by simp [str]] at c1
  have hpl : (putT key).length ≤ 30 := by
    have hz := Go.Lib.uvarint_length64 (Go.Lib.zigzag_lt (x := (key.length : Int)) (by omega) (by omega))
    unfold putT
    rw [List.length_append]
    omega
  have C1 := Go.Lib.hid c1
  clear c1
  unfold recV at c0 ⊢
  have C0 := Go.Lib.hid c0
  clear c0
  have hb1 := below_one w (.cells #[.string (str key), .bool gone, .int .i64 k, .int .i64 n, .string (str s)] 25)
  have hA := heap_alloc_new w (.cells #[.string (str key), .bool gone, .int .i64 k, .int .i64 n, .string (str s)] 25)
  have hR0 := hv.below hb1
  cases gone with
  | true =>
    have c2 := fun v' W (h : RB W v' (l ++ putT key)) => put_c v' (l ++ putT key) 0 W h (by omega) (by omega) (by rw [List.length_append]; omega)
    have he : Hid (l ++ putT key ++ uvarint (zigzag 0) = l ++ recB key true k n s) := by unfold Hid recB; rw [if_pos rfl, List.append_assoc]
    rw [he.out] at c2
    have C2 := Go.Lib.hid c2
    clear c2 he hl hpl hks hss hr hk hm h0 h1
    generalize putT key = pk at *
    generalize l ++ recB key true k n s = L at *
    go_enter Try.func15, Try.ntmps15
    go_wp2_with fail
    refine (C0.out _).mono ?_
    rintro e w1 ⟨rfl, hb2⟩
    have hbb := hb1.trans (hb2.mono hb1.size)
    have hA := row_kept hA hb2
    have hR1 := hR0.below hb2
    obtain ⟨x0, x1, x2, x3, x4⟩ := row5 hA
    clear hb1 hb2 hR0 C0
    go_wp2_with fail
    refine (C1.out _ hR1).mono ?_
    rintro e w2 ⟨v2, rfl, hown2, hb2⟩
    have hbb2 := hbb.trans (hb2.mono hbb.size)
    have hA := row_kept hA hb2
    have hR2 := hown2.rb
    clear x0 x1 x2 x3 x4 hb2 hown2 hbb hR1 C1
    obtain ⟨x0, x1, x2, x3, x4⟩ := row5 hA
    go_wp2_with fail
    refine (C2.out _ _ hR2).mono ?_
    rintro e w3 ⟨v3, rfl, hown3, hb3⟩
    have hbb3 := hbb2.trans (hb3.mono hbb2.size)
    have hown3' := hown3.mono hbb2.size
    clear hown3 hb3 hR2 C2 x0 x1 x2 x3 x4
    go_wp2_with fail
    go_ret
    exact ⟨_, rfl, hown3', hbb3⟩
  | false =>
    rw [if_neg (by decide)] at hr
    have c2 := fun v' W (h : RB W v' (l ++ putT key)) => vput_c v' (l ++ putT key) k n s W h hr h0 h1 (by rw [List.length_append]; omega)
    have he : Hid (l ++ putT key ++ putV k n s = l ++ recB key false k n s) := by unfold Hid recB; rw [if_neg (by decide), List.append_assoc]
    rw [he.out] at c2
    unfold rawV at c2
    have C2 := Go.Lib.hid c2
    clear c2 he hl hpl hks hss hr hk hm h0 h1
    generalize putT key = pk at *
    generalize l ++ recB key false k n s = L at *
    go_enter Try.func15, Try.ntmps15
    go_wp2_with fail
    refine (C0.out _).mono ?_
    rintro e w1 ⟨rfl, hb2⟩
    have hbb := hb1.trans (hb2.mono hb1.size)
    have hA := row_kept hA hb2
    have hR1 := hR0.below hb2
    obtain ⟨x0, x1, x2, x3, x4⟩ := row5 hA
    clear hb1 hb2 hR0 C0
    go_wp2_with fail
    refine (C1.out _ hR1).mono ?_
    rintro e w2 ⟨v2, rfl, hown2, hb2⟩
    have hbb2 := hbb.trans (hb2.mono hbb.size)
    have hA := row_kept hA hb2
    have hR2 := hown2.rb
    clear x0 x1 x2 x3 x4 hb2 hown2 hbb hR1 C1
    obtain ⟨x0, x1, x2, x3, x4⟩ := row5 hA
    go_wp2_with fail
    refine (C2.out _ _ hR2).mono ?_
    rintro e w3 ⟨v3, rfl, hown3, hb3⟩
    have hbb3 := hbb2.trans (hb3.mono hbb2.size)
    have hown3' := hown3.mono hbb2.size
    clear hown3 hb3 hR2 C2 x0 x1 x2 x3 x4
    go_wp2_with fail
    go_ret
    exact ⟨_, rfl, hown3', hbb3⟩

end Go.Proofs.Ytmlndgkpbodnnaa

namespace Go.Proofs.Ytmlndgkpbodnnaa
open Go.RowKit
open Go.Lib (uvarint zigzag)

/-- Key, Gone, Kind, N, S; how many bytes; the error. -/
abbrev RdT := (List UInt8 × Bool × Int × Int × List UInt8) × Nat × Int
def rdErr (e : Int) : RdT := (([], false, 0, 0, []), 0, e)
def readB (l : List UInt8) : RdT :=
  if (textB l).2.2 ≠ 0 then rdErr (textB l).2.2
  else if mayK (str (textB l).1) = false then rdErr 1
  else if (getB (l.drop (textB l).2.1)).2.2 ≠ 0 then rdErr (getB (l.drop (textB l).2.1)).2.2
  else if (getB (l.drop (textB l).2.1)).1 = 0 then (((textB l).1, true, 0, 0, []), (textB l).2.1 + (getB (l.drop (textB l).2.1)).2.1, 0)
  else if (valB (l.drop (textB l).2.1)).2.2 ≠ 0 then rdErr (valB (l.drop (textB l).2.1)).2.2
  else (((textB l).1, false, (valB (l.drop (textB l).2.1)).1), (textB l).2.1 + (valB (l.drop (textB l).2.1)).2.1, 0)

section
variable {l key : List UInt8} {p m q : Nat} {x e e2 e3 : Int} {v : Int × Int × List UInt8}
theorem readB_e1 (h : textB l = (key, p, e)) (he : e ≠ 0) : readB l = rdErr e := by
  unfold readB; rw [h]; simp [he]
theorem readB_e2 (h : textB l = (key, p, 0)) (hk : mayK (str key) = false) : readB l = rdErr 1 := by
  unfold readB; rw [h]; simp [hk]
theorem readB_e3 (h : textB l = (key, p, 0)) (hk : mayK (str key) = true) (g : getB (l.drop p) = (x, m, e2)) (he : e2 ≠ 0) : readB l = rdErr e2 := by
  unfold readB; rw [h]; simp only []; rw [g]; simp [hk, he]
theorem readB_gone (h : textB l = (key, p, 0)) (hk : mayK (str key) = true) (g : getB (l.drop p) = (0, m, 0)) : readB l = ((key, true, 0, 0, []), p + m, 0) := by
  unfold readB; rw [h]; simp only []; rw [g]; simp [hk]
theorem readB_e4 (h : textB l = (key, p, 0)) (hk : mayK (str key) = true) (g : getB (l.drop p) = (x, m, 0)) (hx : x ≠ 0) (u : valB (l.drop p) = (v, q, e3)) (he : e3 ≠ 0) : readB l = rdErr e3 := by
  unfold readB; rw [h]; simp only []; rw [g, u]; simp [hk, hx, he]
theorem readB_ok (h : textB l = (key, p, 0)) (hk : mayK (str key) = true) (g : getB (l.drop p) = (x, m, 0)) (hx : x ≠ 0) (u : valB (l.drop p) = (v, q, 0)) : readB l = ((key, false, v), p + q, 0) := by
  unfold readB; rw [h]; simp only []; rw [g, u]; simp [hk, hx]
end

theorem textB_fits (l : List UInt8) : (textB l).2.1 ≤ l.length ∧ (textB l).2.1 ≤ 70000 ∧ (textB l).1.length ≤ 65536 ∧ ((textB l).2.2 = 0 ∨ (textB l).2.2 = 1 ∨ (textB l).2.2 = 2) := by
  have hf := getB_fits l
  unfold textB
  split
  · exact ⟨by simp, by simp, by simp, hf.2.2.2.1⟩
  · split
    · simp
    · split
      · simp
      · rename_i c1 c2 c3
        simp only [not_or, Int.not_lt, Nat.not_lt] at c2 c3
        obtain ⟨c4, c5⟩ := c2
        have c6 : (getB l).1.toNat ≤ 65536 := by omega
        refine ⟨?_, ?_, ?_, .inl rfl⟩
        · show (getB l).2.1 + (getB l).1.toNat ≤ l.length; exact c3
        · show (getB l).2.1 + (getB l).1.toNat ≤ 70000; omega
        · show ((l.drop _).take _).length ≤ 65536; rw [List.length_take]; omega
theorem valB_fits (l : List UInt8) : (valB l).2.1 ≤ l.length ∧ (valB l).2.1 ≤ 70010 ∧ ((valB l).2.2 = 0 ∨ (valB l).2.2 = 1 ∨ (valB l).2.2 = 2) ∧ (valB l).1.2.2.length ≤ 65536 := by
  have hf := getB_fits l
  have hf2 := getB_fits (l.drop (getB l).2.1)
  have ht2 := textB_fits (l.drop (getB l).2.1)
  rw [List.length_drop] at hf2 ht2
  unfold valB
  split
  · split
    · split
      · simp; omega
      · simp; omega
    · split
      · split
        · split
          · simp; omega
          · simp
        · simp; omega
      · simp
  · simp; omega

theorem mayRec_key {key : ByteArray} {gone : Bool} {k n : Int} {s : ByteArray} (h : mayRec key gone k n s = true) : mayK key = true ∧ key.size ≤ 16 := by
  unfold mayRec at h
  rw [Bool.and_eq_true] at h
  have h1 := h.1
  unfold mayK at h1
  rw [Bool.and_eq_true, decide_eq_true_eq, decide_eq_true_eq] at h1
  exact ⟨h.1, h1.2⟩
theorem mayRec_gone {key : ByteArray} {k n : Int} {s : List UInt8} (h : mayRec key true k n (str s) = true) : k = 0 ∧ n = 0 ∧ s = [] := by
  unfold mayRec at h
  rw [Bool.and_eq_true] at h
  have h1 := h.2
  simp only [if_true] at h1
  rw [Bool.and_eq_true, Bool.and_eq_true, beq_iff_eq, beq_iff_eq, ByteArray.toList_eq, List.isEmpty_iff] at h1
  exact ⟨h1.1.1, h1.1.2, by simpa [str] using h1.2⟩
theorem mayRec_val {key : ByteArray} {k n : Int} {s : ByteArray} (h : mayRec key false k n s = true) : mayR k n s = true := by
  unfold mayRec at h
  rw [Bool.and_eq_true] at h
  simpa using h.2

/-- What was written is told again. -/
theorem readB_put (key : List UInt8) (gone : Bool) (k n : Int) (s r : List UInt8) (h : mayRec (str key) gone k n (str s) = true) (h0 : -9223372036854775808 ≤ n) (h1 : n ≤ 9223372036854775807) : readB (recB key gone k n s ++ r) = ((key, gone, k, n, s), (recB key gone k n s).length, 0) := by
  obtain ⟨hk, hk16⟩ := mayRec_key h
  rw [str_size] at hk16
  cases gone with
  | true =>
    obtain ⟨rfl, rfl, rfl⟩ := mayRec_gone h
    have e1 : recB key true 0 0 [] = putT key ++ uvarint (zigzag 0) := rfl
    have t1 := textB_put key (uvarint (zigzag 0) ++ r) (by omega)
    have g1 := getB_put 0 (by omega) (by omega) r
    rw [e1, List.append_assoc, readB_gone t1 hk (m := (uvarint (zigzag 0)).length) (by rw [List.drop_left]; exact g1), List.length_append]
  | false =>
    have hv := mayRec_val h
    have e1 : recB key false k n s = putT key ++ putV k n s := rfl
    have t1 := textB_put key (putV k n s ++ r) (by omega)
    have v1 := valB_put k n s r hv h0 h1
    have hkk : k = 1 ∨ k = 2 := by
      rcases mayR_cases hv with ⟨h, -⟩ | ⟨h, -⟩
      · exact .inl h
      · exact .inr h
    obtain ⟨rest, hr⟩ : ∃ rest, putV k n s ++ r = uvarint (zigzag k) ++ rest := ⟨_, by unfold putV; rw [List.append_assoc]⟩
    have g1 := getB_put k (by omega) (by omega) rest
    rw [← hr] at g1
    rw [e1, List.append_assoc, readB_ok t1 hk (by rw [List.drop_left]; exact g1) (by omega) (by rw [List.drop_left]; exact v1), List.length_append]

theorem recB_inj {key1 : List UInt8} {gone1 : Bool} {k1 n1 : Int} {s1 key2 : List UInt8} {gone2 : Bool} {k2 n2 : Int} {s2 : List UInt8} (h : mayRec (str key1) gone1 k1 n1 (str s1) = true) (h0 : -9223372036854775808 ≤ n1) (h1 : n1 ≤ 9223372036854775807)
    (g : mayRec (str key2) gone2 k2 n2 (str s2) = true) (g0 : -9223372036854775808 ≤ n2) (g1 : n2 ≤ 9223372036854775807) (he : recB key1 gone1 k1 n1 s1 = recB key2 gone2 k2 n2 s2) : (key1, gone1, k1, n1, s1) = (key2, gone2, k2, n2, s2) := by
  have a := readB_put key1 gone1 k1 n1 s1 [] h h0 h1
  have b := readB_put key2 gone2 k2 n2 s2 [] g g0 g1
  rw [he, b] at a
  exact (Prod.mk.inj a).1.symm
theorem putV_len {k n : Int} {s : List UInt8} (h : mayR k n (str s) = true) (h0 : -9223372036854775808 ≤ n) (h1 : n ≤ 9223372036854775807) : 2 ≤ (putV k n s).length ∧ (putV k n s).length ≤ 100 := by
  rcases mayR_cases h with ⟨rfl, rfl⟩ | ⟨rfl, rfl, hs⟩
  · have e1 := Go.Lib.uvarint_length64 (Go.Lib.zigzag_lt (x := 1) (by omega) (by omega))
    have e2 := Go.Lib.uvarint_length64 (Go.Lib.zigzag_lt h0 h1)
    have p1 := Go.Lib.uvarint_pos (zigzag 1)
    have p2 := Go.Lib.uvarint_pos (zigzag n)
    unfold putV
    rw [if_pos rfl, List.length_append]
    omega
  · have e1 := Go.Lib.uvarint_length64 (Go.Lib.zigzag_lt (x := 2) (by omega) (by omega))
    have e2 := Go.Lib.uvarint_length64 (Go.Lib.zigzag_lt (x := (s.length : Int)) (by omega) (by omega))
    have p1 := Go.Lib.uvarint_pos (zigzag 2)
    have p2 := Go.Lib.uvarint_pos (zigzag s.length)
    unfold putV putT
    rw [if_neg (by omega), List.length_append, List.length_append]
    omega
theorem recB_len {key : List UInt8} {gone : Bool} {k n : Int} {s : List UInt8} (h : mayRec (str key) gone k n (str s) = true) (h0 : -9223372036854775808 ≤ n) (h1 : n ≤ 9223372036854775807) : 2 ≤ (recB key gone k n s).length ∧ (recB key gone k n s).length ≤ 200 := by
  obtain ⟨hk, hk16⟩ := mayRec_key h
  rw [str_size] at hk16
  have e2 := Go.Lib.uvarint_length64 (Go.Lib.zigzag_lt (x := (key.length : Int)) (by omega) (by omega))
  have p2 := Go.Lib.uvarint_pos (zigzag key.length)
  unfold recB putT
  rw [List.length_append, List.length_append]
  cases gone with
  | true =>
    have e3 := Go.Lib.uvarint_length64 (Go.Lib.zigzag_lt (x := 0) (by omega) (by omega))
    have p3 := Go.Lib.uvarint_pos (zigzag 0)
    simp only [if_true]
    omega
  | false =>
    have := putV_len (mayRec_val h) h0 h1
    simp only [Bool.false_eq_true, if_false]
    omega
theorem gone_less {key : List UInt8} {k n : Int} {s : List UInt8} (h : mayRec (str key) false k n (str s) = true) (h0 : -9223372036854775808 ≤ n) (h1 : n ≤ 9223372036854775807) : (recB key true 0 0 []).length < (recB key false k n s).length := by
  have hv := putV_len (mayRec_val h) h0 h1
  have e3 := Go.Lib.uvarint_length 0 (zigzag 0) (by simp [zigzag])
  unfold recB
  rw [List.length_append, List.length_append]
  simp only [if_true, Bool.false_eq_true, if_false]
  omega

end Go.Proofs.Ytmlndgkpbodnnaa

namespace Go.Proofs.Ytmlndgkpbodnnaa
open Go.RowKit

/-- Has slot t been written ahead of operation o, by one that o waits for? -/
def fedB (ops : Array Oper) (o : Oper) (t : Nat) : Bool :=
  o.after.any fun e => Region.binds .any e && (match ops[e.on]? with | some p => p.dst == some t | none => false)
/-- Does whoever writes t wait for operation i? -/
def lateB (ops : Array Oper) (i t : Nat) : Bool :=
  (List.range ops.size).all fun j => match ops[j]? with
    | some p => p.dst != some t || (p.after.any fun e => Region.binds .any e && e.on == i)
    | none => true
/-- Each slot that an operation looks at is written ahead of it, or behind it. -/
def tidyB (ops : Array Oper) : Bool :=
  (List.range ops.size).all fun i => match ops[i]? with
    | some o => (o.looksAt ops).all fun t => fedB ops o t || lateB ops i t
    | none => true

/-- Each operation waits for earlier ones alone. -/
def lowB (ops : Array Oper) : Bool :=
  (List.range ops.size).all fun i => match ops[i]? with
    | some o => o.after.all fun e => !Region.binds .any e || decide (e.on < i)
    | none => true

theorem countP_lt {p q : Nat → Bool} {i : Nat} : ∀ {l : List Nat}, (∀ j ∈ l, q j = true → p j = true) → i ∈ l → p i = true → q i = false → l.countP q < l.countP p
  | [], _, hi, _, _ => by cases hi
  | x :: l, hpq, hi, hp, hq => by
    have hle : l.countP q ≤ l.countP p := List.countP_mono_left fun j hj => hpq j (List.mem_cons_of_mem _ hj)
    rcases List.mem_cons.1 hi with rfl | hi'
    · rw [List.countP_cons_of_pos hp, List.countP_cons_of_neg (by simp [hq])]
      omega
    · have ih := countP_lt (fun j hj => hpq j (List.mem_cons_of_mem _ hj)) hi' hp hq
      rw [List.countP_cons, List.countP_cons]
      have hx := hpq x (by simp)
      cases hqx : q x with
      | false => simp only [Bool.false_eq_true, if_false]; omega
      | true => simp only [hx hqx, if_true]; omega

theorem listed_all {ops : Array Oper} (hlow : lowB ops = true) {listed : Array Bool} (hs : listed.size = ops.size) (hr : Region.ready .any ops listed = []) :
    ∀ (i : Nat) (o : Oper), ops[i]? = some o → listed.getD i false = true := by
  intro i
  induction i using Nat.strongRecOn with
  | ind i ih =>
    intro o ho
    have hi : i < ops.size := (Array.getElem?_eq_some_iff.1 ho).1
    have hil : i < listed.size := by rw [hs]; exact hi
    cases hl : listed.getD i false with
    | true => rfl
    | false =>
      have hmem : i ∈ Region.ready .any ops listed := by
        rw [mem_ready]
        refine ⟨by simp [hil] at hl ⊢; exact hl, o, ho, fun e he hb => ?_⟩
        unfold lowB at hlow
        rw [List.all_eq_true] at hlow
        have h1 := hlow i (by rw [List.mem_range]; exact hi)
        rw [ho] at h1
        simp only [Array.all_eq_true] at h1
        obtain ⟨k, hk, rfl⟩ := Array.mem_iff_getElem.1 he
        have h2 := h1 k hk
        rw [hb] at h2
        have hlt : (o.after[k]).on < i := by simpa using h2
        have hlt' : (o.after[k]).on < ops.size := by omega
        exact ih _ hlt ops[(o.after[k]).on] (by simp [hlt'])
      rw [hr] at hmem
      cases hmem

section
variable {P : Program} {ops : Array Oper} {Q : Exit → Act → World → Prop}

/-- What is kept while the region goes on. -/
structure Held (ops : Array Oper) (V : Nat → World → Value → Prop) (a0 : Act) (w0 : World) (listed : Array Bool) (a : Act) (w : World) : Prop where
  size : listed.size = ops.size
  below : Below w0.heap.size w0 w
  defers : a.defers = a0.defers
  len : a.tmps.size = a0.tmps.size
  old : ∀ t : Nat, (∀ (i : Nat) (o : Oper), ops[i]? = some o → o.dst = some t → listed.getD i false = false) → a.tmps[t]? = a0.tmps[t]?
  new : ∀ (i : Nat) (o : Oper) (t : Nat), ops[i]? = some o → o.dst = some t → listed.getD i false = true → ∃ v, a.tmps[t]? = some v ∧ V t w v
  shut : ∀ (i : Nat) (o : Oper), ops[i]? = some o → listed.getD i false = true → ∀ e ∈ o.after, Region.binds .any e = true → listed.getD e.on false = true

/-- What operation o may take as given: the slots that it looks at. -/
def Given (ops : Array Oper) (V : Nat → World → Value → Prop) (a0 : Act) (o : Oper) (a : Act) (w : World) : Prop :=
  ∀ t ∈ o.looksAt ops, (fedB ops o t = true → ∃ v, a.tmps[t]? = some v ∧ V t w v) ∧ (fedB ops o t = false → a.tmps[t]? = a0.tmps[t]?)

theorem getD_false_of {l : Array Bool} {i : Nat} (h : i < l.size) (h1 : l.getD i true = false) : l.getD i false = false := by
  simp [h] at h1 ⊢; exact h1

theorem wp_region_kept {id : Nat} {a0 : Act} {w0 : World} (hm : P.follows .mixedOrders = true) (V : Nat → World → Value → Prop)
    (hV : ∀ t w w' v, V t w v → Below w.heap.size w w' → V t w' v) (htidy : tidyB ops = true) (hdst : ∀ (i : Nat) (o : Oper), ops[i]? = some o → ∃ t : Nat, o.dst = some t ∧ t < a0.tmps.size)
    (hstep : ∀ (i : Nat) (o : Oper), ops[i]? = some o → ∀ (a : Act) (w : World), Below w0.heap.size w0 w → a.tmps.size = a0.tmps.size → Given ops V a0 o a w →
      wpOp P ops Q i (fun a' w' => ∃ v, a' = a.put o.dst v ∧ Below w.heap.size w w' ∧ ∀ t, o.dst = some t → V t w' v) a w)
    (hend : ∀ (a : Act) (w : World), Below w0.heap.size w0 w → a.defers = a0.defers → a.tmps.size = a0.tmps.size → (∀ t : Nat, (∀ (i : Nat) (o : Oper), ops[i]? = some o → o.dst ≠ some t) → a.tmps[t]? = a0.tmps[t]?) →
      (∀ (i : Nat) (o : Oper) (t : Nat), ops[i]? = some o → o.dst = some t → ∃ v, a.tmps[t]? = some v ∧ V t w v) → Q .normal a w)
    (hlow : lowB ops = true) :
    (Code.region id ops true).wp P Q a0 w0 := by
  refine wp_region_any hm ?_
  have hfin : ∀ (listed : Array Bool) (a : Act) (w : World), Held ops V a0 w0 listed a w → Region.ready .any ops listed = [] → Q .normal a w := fun listed a w h hr =>
    hend a w h.below h.defers h.len (fun t ht => h.old t fun i o hi hd => absurd hd (ht i o hi)) fun i o t hi hd => h.new i o t hi hd (listed_all hlow h.size hr i o hi)
  have key : ∀ (fuel : Nat) (listed : Array Bool) (a : Act) (w : World), Held ops V a0 w0 listed a w →
      (List.range ops.size).countP (fun j => !listed.getD j true) ≤ fuel → wpAny P .any ops Q fuel listed a w := by
    intro fuel
    induction fuel with
    | zero =>
      intro listed a w h hcount
      have hr : Region.ready .any ops listed = [] := by
        cases hrr : Region.ready .any ops listed with
        | nil => rfl
        | cons x xs =>
          have hx : x ∈ Region.ready .any ops listed := by rw [hrr]; simp
          obtain ⟨hun, o, ho, -⟩ := mem_ready.1 hx
          have : 0 < (List.range ops.size).countP (fun j => !listed.getD j true) := List.countP_pos_iff.2 ⟨x, by rw [List.mem_range]; exact (Array.getElem?_eq_some_iff.1 ho).1, by rw [hun]; rfl⟩
          omega
      exact ⟨hr, hfin _ _ _ h hr⟩
    | succ fuel ih =>
      intro listed a w h hcount
      refine ⟨fun hr => hfin _ _ _ h hr, fun i hi => ?_⟩
      obtain ⟨hun, o, ho, hall⟩ := mem_ready.1 hi
      have hil : i < listed.size := by
        rw [h.size]
        exact (Array.getElem?_eq_some_iff.1 ho).1
      have hunf := getD_false_of hil hun
      have hgiven : Given ops V a0 o a w := by
        intro t ht
        refine ⟨fun hf => ?_, fun hf => ?_⟩
        · unfold fedB at hf
          rw [Array.any_eq_true] at hf
          obtain ⟨k, hk, hke⟩ := hf
          simp only [Bool.and_eq_true] at hke
          obtain ⟨hb, hw⟩ := hke
          have hl := hall o.after[k] (Array.getElem_mem hk) hb
          cases hp : ops[(o.after[k]).on]? with
          | none => rw [hp] at hw; cases hw
          | some p =>
            rw [hp] at hw
            exact h.new _ p t hp (by simpa using hw) hl
        · refine h.old t fun j p hj hd => ?_
          have hti := htidy
          unfold tidyB at hti
          rw [List.all_eq_true] at hti
          have h1 := hti i (by rw [List.mem_range]; exact (Array.getElem?_eq_some_iff.1 ho).1)
          rw [ho] at h1
          simp only [List.all_eq_true] at h1
          have h2 := h1 t ht
          rw [hf, Bool.false_or] at h2
          unfold lateB at h2
          rw [List.all_eq_true] at h2
          have h3 := h2 j (by rw [List.mem_range]; exact (Array.getElem?_eq_some_iff.1 hj).1)
          rw [hj] at h3
          simp only [hd, bne_self_eq_false, Bool.false_or, Array.any_eq_true, Bool.and_eq_true] at h3
          obtain ⟨k, hk, hb, hon⟩ := h3
          cases hlj : listed.getD j false with
          | false => rfl
          | true =>
            have := h.shut j p hj hlj p.after[k] (Array.getElem_mem hk) hb
            rw [show (p.after[k]).on = i from by simpa using hon, hunf] at this
            cases this
      refine wpOp_mono ?_ (hstep i o ho a w h.below h.len hgiven)
      rintro a' w' ⟨v, rfl, hb, hv⟩
      obtain ⟨d, hd, hdl⟩ := hdst i o ho
      have hset : ∀ j, (listed.setIfInBounds i true).getD j false = if j = i then true else listed.getD j false := by
        intro j
        by_cases hji : j = i
        · subst hji; simp [hil]
        · simp [hji, Array.getElem?_setIfInBounds_ne (Ne.symm hji), Array.getD_eq_getD_getElem?]
      refine ih _ _ _ ⟨by simpa using h.size, h.below.trans (hb.mono h.below.size), ?_, ?_, ?_, ?_, ?_⟩ ?_
      · rw [hd]; exact h.defers
      · rw [hd]; simp [Act.put, h.len]
      · intro t ht
        have hdt : d ≠ t := by
          intro e
          subst e
          have := ht i o ho hd
          rw [hset, if_pos rfl] at this
          cases this
        rw [hd]
        simp only [Act.put]
        rw [Array.getElem?_setIfInBounds_ne hdt]
        refine h.old t fun j p hj hdj => ?_
        have := ht j p hj hdj
        rw [hset] at this
        split at this
        · cases this
        · exact this
      · intro j p t hj hdj hlj
        rw [hd]
        simp only [Act.put]
        by_cases hdt : d = t
        · subst hdt
          have : d < a.tmps.size := by rw [h.len]; exact hdl
          exact ⟨v, by simp [this], hv d hd⟩
        · rw [Array.getElem?_setIfInBounds_ne hdt]
          rw [hset] at hlj
          split at hlj
          · rename_i hji
            subst hji
            rw [ho] at hj
            cases hj
            rw [hd] at hdj
            exact absurd (Option.some.inj hdj) hdt
          · obtain ⟨u, hu, hVu⟩ := h.new j p t hj hdj hlj
            exact ⟨u, hu, hV _ _ _ _ hVu hb⟩
      · intro j p hj hlj e he hbe
        rw [hset] at hlj ⊢
        split
        · rfl
        · split at hlj
          · rename_i hji
            subst hji
            rw [ho] at hj
            cases hj
            exact hall e he hbe
          · exact h.shut j p hj hlj e he hbe
      · have : (List.range ops.size).countP (fun j => !(listed.setIfInBounds i true).getD j true) < (List.range ops.size).countP (fun j => !listed.getD j true) := by
          refine countP_lt (i := i) (fun j hj hq => ?_) (by rw [List.mem_range, ← h.size]; exact hil) (by rw [hun]; rfl) (by simp [hil])
          by_cases hji : j = i
          · subst hji; rw [hun]; rfl
          · simp only [Array.getD_eq_getD_getElem?] at hq ⊢
            rwa [Array.getElem?_setIfInBounds_ne (Ne.symm hji)] at hq
        omega
  refine key ops.size _ _ _ ⟨by simp, ⟨rfl, rfl, rfl, Nat.le_refl _, fun _ _ => rfl⟩, rfl, rfl, fun _ _ => rfl, fun i o t hi _ hl => ?_, fun i o hi hl => ?_⟩ ?_
  · rw [Array.getD_eq_getD_getElem?, Array.getElem?_replicate] at hl
    split at hl <;> cases hl
  · rw [Array.getD_eq_getD_getElem?, Array.getElem?_replicate] at hl
    split at hl <;> cases hl
  · exact Nat.le_trans List.countP_le_length (by simp)

/-- The frame behind the region. -/
def putAll (a0 : Act) (f : Nat → Value) (l : List Nat) : Act := l.foldl (fun b t => b.put (some t) (f t)) a0

theorem putAll_tmps (f : Nat → Value) : ∀ (l : List Nat) (a0 : Act) (t : Nat), (putAll a0 f l).tmps[t]? = if t ∈ l ∧ t < a0.tmps.size then some (f t) else a0.tmps[t]?
  | [], a0, t => by simp [putAll]
  | x :: l, a0, t => by
    have ih := putAll_tmps f l (a0.put (some x) (f x)) t
    unfold putAll at ih ⊢
    rw [List.foldl_cons, ih]
    simp only [Act.put, Array.size_setIfInBounds, List.mem_cons]
    by_cases hxt : x = t
    · subst hxt
      by_cases hs : x < a0.tmps.size
      · by_cases hm : x ∈ l <;> simp [hm, hs]
      · simp [hs]
    · rw [Array.getElem?_setIfInBounds_ne hxt]
      simp [Ne.symm hxt]

theorem putAll_size (f : Nat → Value) : ∀ (l : List Nat) (a0 : Act), (putAll a0 f l).tmps.size = a0.tmps.size ∧ (putAll a0 f l).defers = a0.defers
  | [], a0 => ⟨rfl, rfl⟩
  | x :: l, a0 => by
    have ih := putAll_size f l (a0.put (some x) (f x))
    unfold putAll at ih ⊢
    rw [List.foldl_cons]
    exact ⟨ih.1.trans (by simp [Act.put]), ih.2.trans rfl⟩

/-- The slots that the region writes. -/
def dsts (ops : Array Oper) : List Nat := ops.toList.filterMap (·.dst)

theorem wp_region_each {id : Nat} {a0 : Act} {w0 : World} (hm : P.follows .mixedOrders = true) (V : Nat → World → Value → Prop)
    (hV : ∀ t w w' v, V t w v → Below w.heap.size w w' → V t w' v) (htidy : tidyB ops = true) (hlow : lowB ops = true) (hdst : (ops.toList.all fun o => match o.dst with | some t => decide (t < a0.tmps.size) | none => false) = true)
    (l : List Nat) (hl : dsts ops = l)
    (hstep : ∀ (i : Nat) (o : Oper), ops[i]? = some o → ∀ (a : Act) (w : World), Below w0.heap.size w0 w → a.tmps.size = a0.tmps.size → Given ops V a0 o a w →
      wpOp P ops Q i (fun a' w' => ∃ v, a' = a.put o.dst v ∧ Below w.heap.size w w' ∧ ∀ t, o.dst = some t → V t w' v) a w)
    (hend : ∀ (f : Nat → Value) (w : World), Below w0.heap.size w0 w → (∀ t, t ∈ l → V t w (f t)) → Q .normal (putAll a0 f l) w) :
    (Code.region id ops true).wp P Q a0 w0 := by
  have hd : ∀ (i : Nat) (o : Oper), ops[i]? = some o → ∃ t : Nat, o.dst = some t ∧ t < a0.tmps.size := by
    intro i o ho
    rw [List.all_eq_true] at hdst
    have h1 := hdst o (by obtain ⟨h, rfl⟩ := Array.getElem?_eq_some_iff.1 ho; simp)
    cases hod : o.dst with
    | none => rw [hod] at h1; cases h1
    | some t => rw [hod] at h1; exact ⟨t, rfl, of_decide_eq_true h1⟩
  have hmem : ∀ t, t ∈ l ↔ ∃ (i : Nat) (o : Oper), ops[i]? = some o ∧ o.dst = some t := by
    intro t
    rw [← hl, dsts, List.mem_filterMap]
    constructor
    · rintro ⟨o, ho, hot⟩
      obtain ⟨i, hi, rfl⟩ := List.mem_iff_getElem.1 ho
      have hi' : i < ops.size := by simpa using hi
      exact ⟨i, ops[i], by simp [hi'], by simpa using hot⟩
    · rintro ⟨i, o, ho, hot⟩
      obtain ⟨h, rfl⟩ := Array.getElem?_eq_some_iff.1 ho
      exact ⟨ops[i], by simp, hot⟩
  refine wp_region_kept hm V hV htidy hd hstep ?_ hlow
  intro a w hb hdef hlen hold hnew
  have hf : ∀ t, t ∈ l → ∃ v, a.tmps[t]? = some v ∧ V t w v := fun t ht => by
    obtain ⟨i, o, ho, hot⟩ := (hmem t).1 ht
    exact hnew i o t ho hot
  have ha : a = putAll a0 (fun t => a.tmps.getD t undef) l := by
    obtain ⟨tm, df⟩ := a
    obtain ⟨h1, h2⟩ := putAll_size (fun t => tm.getD t undef) l a0
    have h3 : tm = (putAll a0 (fun t => tm.getD t undef) l).tmps := by
      apply Array.ext_getElem?
      intro t
      rw [putAll_tmps]
      by_cases ht : t ∈ l
      · obtain ⟨v, hv, -⟩ := hf t ht
        simp only [] at hv
        have hts : t < a0.tmps.size := by rw [← hlen]; exact (Array.getElem?_eq_some_iff.1 hv).1
        rw [if_pos ⟨ht, hts⟩, Array.getD_eq_getD_getElem?, hv]
        rfl
      · rw [if_neg (fun h => ht h.1)]
        exact hold t fun i o ho hot => ht ((hmem t).2 ⟨i, o, ho, hot⟩)
    have h4 : df = (putAll a0 (fun t => tm.getD t undef) l).defers := by rw [h2]; exact hdef
    calc (⟨tm, df⟩ : Act) = ⟨(putAll a0 (fun t => tm.getD t undef) l).tmps, (putAll a0 (fun t => tm.getD t undef) l).defers⟩ := by rw [← h3, ← h4]
      _ = _ := rfl
  rw [ha]
  refine hend _ w hb fun t ht => ?_
  obtain ⟨v, hv, hVv⟩ := hf t ht
  rw [Array.getD_eq_getD_getElem?, hv]
  exact hVv

theorem st_yield {K : Act → World → Prop} {i : Nat} {o : Oper} {a : Act} {w : World} (ho : ops[i]? = some o) (hw : Region.wanted o (yielded ops a.tmps) = true) (v : Value) (w' : World)
    (hrun : (execOp a.eval o).run P w = .ok (.value v) w') (h : K (a.put o.dst v) w') : wpOp P ops Q i K a w := by
  unfold wpOp
  rw [ho]
  simp only [hw, if_true]
  refine .inl ?_
  unfold Oper.wp
  rw [hrun, Oper.upon_value]
  exact h

theorem st_enter {K : Act → World → Prop} {i : Nat} {o : Oper} {a : Act} {w w1 : World} (ho : ops[i]? = some o) (hw : Region.wanted o (yielded ops a.tmps) = true) (f : FuncId) (args : Array Value)
    (hrun : (execOp a.eval o).run P w = .ok (.enter f args) w1) (h : Calls P f args w1 fun e w' => ∃ v, e = .returned v ∧ K (a.put o.dst v) w') : wpOp P ops Q i K a w := by
  unfold wpOp
  rw [ho]
  simp only [hw, if_true]
  refine .inl ?_
  unfold Oper.wp
  rw [hrun, Oper.upon_enter]
  refine h.mono ?_
  rintro e w' ⟨v, rfl, hk⟩
  exact hk

theorem st_skip {K : Act → World → Prop} {i : Nat} {o : Oper} {a : Act} {w : World} (ho : ops[i]? = some o) (hw : Region.wanted o (yielded ops a.tmps) = false) (h : K (a.put o.dst undef) w) : wpOp P ops Q i K a w := by
  unfold wpOp
  rw [ho]
  simp only [hw, Bool.false_eq_true, if_false]
  exact h

theorem given_fed {V : Nat → World → Value → Prop} {a0 : Act} {o : Oper} {a : Act} {w : World} (hg : Given ops V a0 o a w) (t : Nat) (h : ((o.looksAt ops).contains t && fedB ops o t) = true) : ∃ v, a.tmps[t]? = some v ∧ V t w v := by
  rw [Bool.and_eq_true, List.contains_iff_mem] at h
  exact (hg t h.1).1 h.2
theorem given_old {V : Nat → World → Value → Prop} {a0 : Act} {o : Oper} {a : Act} {w : World} (hg : Given ops V a0 o a w) (t : Nat) (h : ((o.looksAt ops).contains t && !fedB ops o t) = true) : a.tmps[t]? = a0.tmps[t]? := by
  rw [Bool.and_eq_true, List.contains_iff_mem, Bool.not_eq_true'] at h
  exact (hg t h.1).2 h.2
theorem wanted_none {o : Oper} {y : Nat → Option Bool} (h : o.guard = none) : Region.wanted o y = true := by simp [Region.wanted, h]
theorem wanted_some {o : Oper} {tmps : Array Value} {g : Nat} {p b : Bool} {t : Nat} (h : o.guard = some (g, p)) (hp : (ops[g]?).bind (·.dst) = some t) (hv : tmps[t]? = some (.bool b)) (hb : b = p) : Region.wanted o (yielded ops tmps) = true := by
  subst hb
  simp [Region.wanted, h, yielded, hp, hv]
theorem wanted_undef {o : Oper} {tmps : Array Value} {g : Nat} {p : Bool} {t : Nat} (h : o.guard = some (g, p)) (hp : (ops[g]?).bind (·.dst) = some t) (hv : tmps[t]? = some undef) : Region.wanted o (yielded ops tmps) = false := by
  simp [Region.wanted, h, yielded, hp, hv, undef]
theorem wanted_not {o : Oper} {tmps : Array Value} {g : Nat} {p b : Bool} {t : Nat} (h : o.guard = some (g, p)) (hp : (ops[g]?).bind (·.dst) = some t) (hv : tmps[t]? = some (.bool b)) (hb : b ≠ p) : Region.wanted o (yielded ops tmps) = false := by
  simp [Region.wanted, h, yielded, hp, hv, hb]

end

end Go.Proofs.Ytmlndgkpbodnnaa

namespace Go.Proofs.Ytmlndgkpbodnnaa
open Go.RowKit

/-- Each slot that one of the first n looks at is written ahead of it, or behind it. -/
def tidyN (ops : Array Oper) (n : Nat) : Bool :=
  (List.range n).all fun i => match ops[i]? with
    | some o => (o.looksAt ops).all fun t => fedB ops o t || lateB ops i t
    | none => true
/-- Behind the first n each waits for the one ahead. -/
def chainN (ops : Array Oper) (n : Nat) : Bool :=
  (List.range ops.size).all fun i => decide (i ≤ n) || (match ops[i]? with | some o => o.after.any fun e => Region.binds .any e && e.on == i - 1 | none => true)
def edges (ops : Array Oper) (i : Nat) : List Nat := match ops[i]? with | some o => (o.after.toList.filter (Region.binds .any ·)).map (·.on) | none => []
def reach (ops : Array Oper) : Nat → List Nat → List Nat
  | 0, m => m
  | k + 1, m => reach ops k (if m.contains k then m ++ edges ops k else m)
/-- Operation n waits for all ahead of it. -/
def waitN (ops : Array Oper) (n : Nat) : Bool := (List.range n).all fun j => (reach ops n (edges ops n)).contains j

theorem edges_mem {ops : Array Oper} {i : Nat} {o : Oper} (ho : ops[i]? = some o) {j : Nat} (hj : j ∈ edges ops i) : ∃ e ∈ o.after, Region.binds .any e = true ∧ e.on = j := by
  unfold edges at hj
  rw [ho] at hj
  obtain ⟨e, he, rfl⟩ := List.mem_map.1 hj
  rw [List.mem_filter] at he
  exact ⟨e, by simpa using he.1, he.2, rfl⟩

theorem reach_listed {ops : Array Oper} {listed : Array Bool} (hshut : ∀ (i : Nat) (o : Oper), ops[i]? = some o → listed.getD i false = true → ∀ e ∈ o.after, Region.binds .any e = true → listed.getD e.on false = true) :
    ∀ (k : Nat) (m : List Nat), (∀ j ∈ m, listed.getD j false = true) → ∀ j ∈ reach ops k m, listed.getD j false = true
  | 0, m, hm, j, hj => hm j hj
  | k + 1, m, hm, j, hj => by
    refine reach_listed hshut k _ ?_ j hj
    intro x hx
    split at hx
    · rename_i hk
      rcases List.mem_append.1 hx with h | h
      · exact hm x h
      · rw [List.contains_iff_mem] at hk
        cases ho : ops[k]? with
        | none => unfold edges at h; rw [ho] at h; cases h
        | some o =>
          obtain ⟨e, he, hb, rfl⟩ := edges_mem ho h
          exact hshut k o ho (hm k hk) e he hb
    · exact hm x hx

section
variable {P : Program} {ops : Array Oper} {Q : Exit → Act → World → Prop}

theorem wpAny_more : ∀ (fuel : Nat) (listed : Array Bool) (a : Act) (w : World), wpAny P .any ops Q fuel listed a w → wpAny P .any ops Q (fuel + 1) listed a w
  | 0, listed, a, w, h => ⟨fun _ => h.2, fun i hi => by rw [h.1] at hi; cases hi⟩
  | fuel + 1, listed, a, w, h => ⟨h.1, fun i hi => wpOp_mono (fun a' w' h' => wpAny_more fuel _ a' w' h') (h.2 i hi)⟩
theorem wpAny_le {fuel fuel' : Nat} (hle : fuel ≤ fuel') {listed : Array Bool} {a : Act} {w : World} (h : wpAny P .any ops Q fuel listed a w) : wpAny P .any ops Q fuel' listed a w := by
  induction hle with
  | refl => exact h
  | step _ ih => exact wpAny_more _ _ _ _ ih

theorem tail_list {n : Nat} (hlow : lowB ops = true) (hchain : chainN ops n = true) : ∀ (k m : Nat) (listed : Array Bool) (a : Act) (w : World), n ≤ m → m + k = ops.size → listed.size = ops.size → (∀ i, i < ops.size → listed.getD i false = decide (i < m)) →
    wpList P ops Q (ops.toList.drop m) a w → wpAny P .any ops Q k listed a w := by
  have hd : ∀ (l : Array Bool) (i : Nat), i < l.size → l.getD i true = l.getD i false := by intro l i hi; simp [hi]
  intro k
  induction k with
  | zero =>
    intro m listed a w hnm hmk hsize hl hq
    rw [List.drop_of_length_le (by rw [Array.length_toList]; omega)] at hq
    refine ⟨?_, hq⟩
    cases hr : Region.ready .any ops listed with
    | nil => rfl
    | cons x xs =>
      obtain ⟨hun, o, ho, -⟩ := mem_ready.1 (show x ∈ Region.ready .any ops listed by rw [hr]; simp)
      have hx : x < ops.size := (Array.getElem?_eq_some_iff.1 ho).1
      rw [hd _ _ (by omega), hl x hx] at hun
      simp at hun
      omega
  | succ k ih =>
    intro m listed a w hnm hmk hsize hl hq
    have hm : m < ops.size := by omega
    have hom : ops[m]? = some ops[m] := by simp [hm]
    have hready : m ∈ Region.ready .any ops listed := by
      rw [mem_ready]
      refine ⟨by rw [hd _ _ (by omega), hl m hm]; simp, ops[m], hom, fun e he hb => ?_⟩
      have h1 := hlow
      unfold lowB at h1
      rw [List.all_eq_true] at h1
      have h2 := h1 m (by rw [List.mem_range]; exact hm)
      rw [hom] at h2
      simp only [Array.all_eq_true] at h2
      obtain ⟨j, hj, rfl⟩ := Array.mem_iff_getElem.1 he
      have h3 := h2 j hj
      rw [hb] at h3
      have hlt : (ops[m].after[j]).on < m := by simpa using h3
      rw [hl _ (by omega)]
      simpa using hlt
    refine ⟨fun hr => (by rw [hr] at hready; cases hready), fun i hi => ?_⟩
    obtain ⟨hun, o, ho, hall⟩ := mem_ready.1 hi
    have hi' : i < ops.size := (Array.getElem?_eq_some_iff.1 ho).1
    rw [hd _ _ (by omega), hl i hi'] at hun
    have him : m ≤ i := by simpa using hun
    have hie : i = m := by
      rcases Nat.lt_or_ge m i with hlt | hge
      · exfalso
        have h1 := hchain
        unfold chainN at h1
        rw [List.all_eq_true] at h1
        have h2 := h1 i (by rw [List.mem_range]; exact hi')
        rw [ho] at h2
        simp only [Bool.or_eq_true, decide_eq_true_eq, Array.any_eq_true, Bool.and_eq_true, beq_iff_eq] at h2
        rcases h2 with h2 | ⟨j, hj, hb, hon⟩
        · omega
        · have h3 := hall _ (Array.getElem_mem hj) hb
          rw [hon, hl _ (by omega)] at h3
          simp at h3
          omega
      · omega
    subst hie
    have hdrop : ops.toList.drop i = ops[i] :: ops.toList.drop (i + 1) := by
      rw [List.drop_eq_getElem_cons (by rw [Array.length_toList]; exact hi')]
      simp
    rw [hdrop] at hq
    have hset : ∀ j, j < ops.size → (listed.setIfInBounds i true).getD j false = decide (j < i + 1) := by
      intro j hj
      by_cases hji : j = i
      · subst hji; simp [hsize, hj]
      · have : (listed.setIfInBounds i true).getD j false = listed.getD j false := by simp [Array.getElem?_setIfInBounds_ne (Ne.symm hji), Array.getD_eq_getD_getElem?]
        rw [this, hl j hj]
        simp
        omega
    have hK : ∀ a' w', wpList P ops Q (ops.toList.drop (i + 1)) a' w' → wpAny P .any ops Q k (listed.setIfInBounds i true) a' w' := fun a' w' h => ih (i + 1) _ a' w' (by omega) (by omega) (by simp [hsize]) hset h
    refine wpOp_mono hK ?_
    unfold wpOp
    rw [hom]
    exact hq

theorem wp_region_kept_head {id : Nat} {a0 : Act} {w0 : World} (n : Nat) (hn : n ≤ ops.size) (hm : P.follows .mixedOrders = true) (V : Nat → World → Value → Prop)
    (hV : ∀ t w w' v, V t w v → Below w.heap.size w w' → V t w' v) (htidy : tidyN ops n = true) (hdst : ∀ (i : Nat) (o : Oper), i < n → ops[i]? = some o → ∃ t : Nat, o.dst = some t ∧ t < a0.tmps.size)
    (hstep : ∀ (i : Nat) (o : Oper), i < n → ops[i]? = some o → ∀ (a : Act) (w : World), Below w0.heap.size w0 w → a.tmps.size = a0.tmps.size → Given ops V a0 o a w →
      wpOp P ops Q i (fun a' w' => ∃ v, a' = a.put o.dst v ∧ Below w.heap.size w w' ∧ ∀ t, o.dst = some t → V t w' v) a w)
    (hend : ∀ (a : Act) (w : World), Below w0.heap.size w0 w → a.defers = a0.defers → a.tmps.size = a0.tmps.size → (∀ t : Nat, (∀ (i : Nat) (o : Oper), i < n → ops[i]? = some o → o.dst ≠ some t) → a.tmps[t]? = a0.tmps[t]?) →
      (∀ (i : Nat) (o : Oper) (t : Nat), i < n → ops[i]? = some o → o.dst = some t → ∃ v, a.tmps[t]? = some v ∧ V t w v) → wpList P ops Q (ops.toList.drop n) a w)
    (hlow : lowB ops = true) (hchain : chainN ops n = true) (hwait : waitN ops n = true) :
    (Code.region id ops true).wp P Q a0 w0 := by
  refine wp_region_any hm ?_
  have hd : ∀ (l : Array Bool) (i : Nat), i < l.size → l.getD i true = l.getD i false := by intro l i hi; simp [hi]
  have hfin : ∀ (listed : Array Bool) (a : Act) (w : World) (fuel : Nat), Held ops V a0 w0 listed a w → (∀ i, n ≤ i → listed.getD i false = false) → (∀ i, i < n → listed.getD i false = true) → ops.size - n ≤ fuel → wpAny P .any ops Q fuel listed a w := by
    intro listed a w fuel h hno hyes hf
    refine wpAny_le hf (tail_list hlow hchain (ops.size - n) n listed a w (Nat.le_refl _) (by omega) h.size ?_ ?_)
    · intro i hi
      rcases Nat.lt_or_ge i n with hlt | hge
      · rw [hyes i hlt]; simp [hlt]
      · rw [hno i hge]; simp [Nat.not_lt.2 hge]
    · refine hend a w h.below h.defers h.len (fun t ht => h.old t fun i o hi hd' => ?_) fun i o t hin hi hd' => h.new i o t hi hd' (hyes i hin)
      rcases Nat.lt_or_ge i n with hlt | hge
      · exact absurd hd' (ht i o hlt hi)
      · exact hno i hge
  have key : ∀ (fuel : Nat) (listed : Array Bool) (a : Act) (w : World), Held ops V a0 w0 listed a w → (∀ i, n ≤ i → listed.getD i false = false) →
      (List.range ops.size).countP (fun j => !listed.getD j true) ≤ fuel → wpAny P .any ops Q fuel listed a w := by
    intro fuel
    induction fuel with
    | zero =>
      intro listed a w h hno hcount
      have hall : ∀ i, i < ops.size → listed.getD i false = true := by
        intro i hi
        cases hl : listed.getD i false with
        | true => rfl
        | false =>
          have : 0 < (List.range ops.size).countP (fun j => !listed.getD j true) := List.countP_pos_iff.2 ⟨i, by rw [List.mem_range]; exact hi, by rw [hd _ _ (by rw [h.size]; exact hi), hl]; rfl⟩
          omega
      have hns : ops.size ≤ n := by
        rcases Nat.lt_or_ge n ops.size with hlt | hge
        · have := hall n hlt
          rw [hno n (Nat.le_refl _)] at this
          cases this
        · exact hge
      exact hfin listed a w 0 h hno (fun i hi => hall i (by omega)) (by omega)
    | succ fuel ih =>
      intro listed a w h hno hcount
      by_cases hyes : ∀ i, i < n → listed.getD i false = true
      · refine hfin listed a w _ h hno hyes ?_
        have : ops.size - n ≤ (List.range ops.size).countP (fun j => !listed.getD j true) := by
          have h1 : (List.range' n (ops.size - n)).countP (fun j => !listed.getD j true) = ops.size - n := by
            rw [List.countP_eq_length.2, List.length_range']
            intro j hj
            rw [List.mem_range'_1] at hj
            rw [hd _ _ (by rw [h.size]; omega), hno j hj.1]
            rfl
          have h2 : List.range ops.size = List.range n ++ List.range' n (ops.size - n) := by
            rw [List.range_eq_range', List.range_eq_range']
            have h3 := List.range'_append_1 (s := 0) (m := n) (n := ops.size - n)
            rw [Nat.zero_add] at h3
            rw [h3]
            congr 1
            omega
          rw [h2, List.countP_append, h1]
          omega
        omega
      · have hsmall : ∀ i ∈ Region.ready .any ops listed, i < n := by
          intro i hi
          obtain ⟨hun, o, ho, hall⟩ := mem_ready.1 hi
          have hi' : i < ops.size := (Array.getElem?_eq_some_iff.1 ho).1
          rcases Nat.lt_or_ge i n with hlt | hge
          · exact hlt
          exfalso
          rcases Nat.lt_or_ge n i with hlt | hge2
          · have h1 := hchain
            unfold chainN at h1
            rw [List.all_eq_true] at h1
            have h2 := h1 i (by rw [List.mem_range]; exact hi')
            rw [ho] at h2
            simp only [Bool.or_eq_true, decide_eq_true_eq, Array.any_eq_true, Bool.and_eq_true, beq_iff_eq] at h2
            rcases h2 with h2 | ⟨j, hj, hb, hon⟩
            · omega
            · have h3 := hall _ (Array.getElem_mem hj) hb
              rw [hon, hno _ (by omega)] at h3
              cases h3
          · obtain rfl : i = n := by omega
            refine hyes fun j hj => ?_
            have h1 := hwait
            unfold waitN at h1
            rw [List.all_eq_true] at h1
            have h2 := h1 j (by rw [List.mem_range]; exact hj)
            rw [List.contains_iff_mem] at h2
            refine reach_listed h.shut i (edges ops i) ?_ j h2
            intro x hx
            obtain ⟨e, he, hb, rfl⟩ := edges_mem ho hx
            exact hall e he hb
        have hne : Region.ready .any ops listed ≠ [] := by
          intro hr
          apply hyes
          intro i hi
          exact listed_all hlow h.size hr i (ops[i]'(by omega)) (by simp)
        refine ⟨fun hr => absurd hr hne, fun i hi => ?_⟩
        have hin := hsmall i hi
        obtain ⟨hun, o, ho, hall⟩ := mem_ready.1 hi
        have hil : i < listed.size := by
          rw [h.size]
          exact (Array.getElem?_eq_some_iff.1 ho).1
        have hunf := getD_false_of hil hun
        have hgiven : Given ops V a0 o a w := by
          intro t ht
          refine ⟨fun hf => ?_, fun hf => ?_⟩
          · unfold fedB at hf
            rw [Array.any_eq_true] at hf
            obtain ⟨k, hk, hke⟩ := hf
            simp only [Bool.and_eq_true] at hke
            obtain ⟨hb, hw⟩ := hke
            have hl := hall o.after[k] (Array.getElem_mem hk) hb
            cases hp : ops[(o.after[k]).on]? with
            | none => rw [hp] at hw; cases hw
            | some p =>
              rw [hp] at hw
              exact h.new _ p t hp (by simpa using hw) hl
          · refine h.old t fun j p hj hd => ?_
            have hti := htidy
            unfold tidyN at hti
            rw [List.all_eq_true] at hti
            have h1 := hti i (by rw [List.mem_range]; exact hin)
            rw [ho] at h1
            simp only [List.all_eq_true] at h1
            have h2 := h1 t ht
            rw [hf, Bool.false_or] at h2
            unfold lateB at h2
            rw [List.all_eq_true] at h2
            have h3 := h2 j (by rw [List.mem_range]; exact (Array.getElem?_eq_some_iff.1 hj).1)
            rw [hj] at h3
            simp only [hd, bne_self_eq_false, Bool.false_or, Array.any_eq_true, Bool.and_eq_true] at h3
            obtain ⟨k, hk, hb, hon⟩ := h3
            cases hlj : listed.getD j false with
            | false => rfl
            | true =>
              have := h.shut j p hj hlj p.after[k] (Array.getElem_mem hk) hb
              rw [show (p.after[k]).on = i from by simpa using hon, hunf] at this
              cases this
        refine wpOp_mono ?_ (hstep i o hin ho a w h.below h.len hgiven)
        rintro a' w' ⟨v, rfl, hb, hv⟩
        obtain ⟨d, hd', hdl⟩ := hdst i o hin ho
        have hset : ∀ j, (listed.setIfInBounds i true).getD j false = if j = i then true else listed.getD j false := by
          intro j
          by_cases hji : j = i
          · subst hji; simp [hil]
          · simp [hji, Array.getElem?_setIfInBounds_ne (Ne.symm hji), Array.getD_eq_getD_getElem?]
        refine ih _ _ _ ⟨by simpa using h.size, h.below.trans (hb.mono h.below.size), ?_, ?_, ?_, ?_, ?_⟩ ?_ ?_
        · rw [hd']; exact h.defers
        · rw [hd']; simp [Act.put, h.len]
        · intro t ht
          have hdt : d ≠ t := by
            intro e
            subst e
            have := ht i o ho hd'
            rw [hset, if_pos rfl] at this
            cases this
          rw [hd']
          simp only [Act.put]
          rw [Array.getElem?_setIfInBounds_ne hdt]
          refine h.old t fun j p hj hdj => ?_
          have := ht j p hj hdj
          rw [hset] at this
          split at this
          · cases this
          · exact this
        · intro j p t hj hdj hlj
          rw [hd']
          simp only [Act.put]
          by_cases hdt : d = t
          · subst hdt
            have : d < a.tmps.size := by rw [h.len]; exact hdl
            exact ⟨v, by simp [this], hv d hd'⟩
          · rw [Array.getElem?_setIfInBounds_ne hdt]
            rw [hset] at hlj
            split at hlj
            · rename_i hji
              subst hji
              rw [ho] at hj
              cases hj
              rw [hd'] at hdj
              exact absurd (Option.some.inj hdj) hdt
            · obtain ⟨u, hu, hVu⟩ := h.new j p t hj hdj hlj
              exact ⟨u, hu, hV _ _ _ _ hVu hb⟩
        · intro j p hj hlj e he hbe
          rw [hset] at hlj ⊢
          split
          · rfl
          · split at hlj
            · rename_i hji
              subst hji
              rw [ho] at hj
              cases hj
              exact hall e he hbe
            · exact h.shut j p hj hlj e he hbe
        · intro j hj
          rw [hset, if_neg (by omega)]
          exact hno j hj
        · have : (List.range ops.size).countP (fun j => !(listed.setIfInBounds i true).getD j true) < (List.range ops.size).countP (fun j => !listed.getD j true) := by
            refine countP_lt (i := i) (fun j hj hq => ?_) (by rw [List.mem_range, ← h.size]; exact hil) (by rw [hun]; rfl) (by simp [hil])
            by_cases hji : j = i
            · subst hji; rw [hun]; rfl
            · simp only [Array.getD_eq_getD_getElem?] at hq ⊢
              rwa [Array.getElem?_setIfInBounds_ne (Ne.symm hji)] at hq
          omega
  refine key ops.size _ _ _ ⟨by simp, ⟨rfl, rfl, rfl, Nat.le_refl _, fun _ _ => rfl⟩, rfl, rfl, fun _ _ => rfl, fun i o t hi _ hl => ?_, fun i o hi hl => ?_⟩ (fun i _ => ?_) ?_
  · rw [Array.getD_eq_getD_getElem?, Array.getElem?_replicate] at hl
    split at hl <;> cases hl
  · rw [Array.getD_eq_getD_getElem?, Array.getElem?_replicate] at hl
    split at hl <;> cases hl
  · rw [Array.getD_eq_getD_getElem?, Array.getElem?_replicate]
    split <;> rfl
  · exact Nat.le_trans List.countP_le_length (by simp)

/-- The slots that the first n write. -/
def dstsN (ops : Array Oper) (n : Nat) : List Nat := (ops.toList.take n).filterMap (·.dst)

theorem wp_region_head {id : Nat} {a0 : Act} {w0 : World} (n : Nat) (hn : n ≤ ops.size) (hm : P.follows .mixedOrders = true) (V : Nat → World → Value → Prop)
    (hV : ∀ t w w' v, V t w v → Below w.heap.size w w' → V t w' v) (hcheck : (tidyN ops n && lowB ops && chainN ops n && waitN ops n) = true)
    (hdst : ((ops.toList.take n).all fun o => match o.dst with | some t => decide (t < a0.tmps.size) | none => false) = true)
    (l : List Nat) (hl : dstsN ops n = l)
    (hstep : ∀ (i : Nat) (o : Oper), i < n → ops[i]? = some o → ∀ (a : Act) (w : World), Below w0.heap.size w0 w → a.tmps.size = a0.tmps.size → Given ops V a0 o a w →
      wpOp P ops Q i (fun a' w' => ∃ v, a' = a.put o.dst v ∧ Below w.heap.size w w' ∧ ∀ t, o.dst = some t → V t w' v) a w)
    (hend : ∀ (f : Nat → Value) (w : World), Below w0.heap.size w0 w → (∀ t, t ∈ l → V t w (f t)) → wpList P ops Q (ops.toList.drop n) (putAll a0 f l) w) :
    (Code.region id ops true).wp P Q a0 w0 := by
  simp only [Bool.and_eq_true] at hcheck
  obtain ⟨⟨⟨htidy, hlow⟩, hchain⟩, hwait⟩ := hcheck
  have hget : ∀ (i : Nat) (o : Oper), i < n → ops[i]? = some o → o ∈ ops.toList.take n := by
    intro i o hin ho
    rw [List.mem_take_iff_getElem]
    obtain ⟨h, rfl⟩ := Array.getElem?_eq_some_iff.1 ho
    exact ⟨i, by simp; omega, by simp⟩
  have hd : ∀ (i : Nat) (o : Oper), i < n → ops[i]? = some o → ∃ t : Nat, o.dst = some t ∧ t < a0.tmps.size := by
    intro i o hin ho
    rw [List.all_eq_true] at hdst
    have h1 := hdst o (hget i o hin ho)
    cases hod : o.dst with
    | none => rw [hod] at h1; cases h1
    | some t => rw [hod] at h1; exact ⟨t, rfl, of_decide_eq_true h1⟩
  have hmem : ∀ t, t ∈ l ↔ ∃ (i : Nat) (o : Oper), i < n ∧ ops[i]? = some o ∧ o.dst = some t := by
    intro t
    rw [← hl, dstsN, List.mem_filterMap]
    constructor
    · rintro ⟨o, ho, hot⟩
      obtain ⟨i, hi, rfl⟩ := List.mem_take_iff_getElem.1 ho
      have hi' : i < ops.size := by simp at hi; omega
      exact ⟨i, ops[i], by omega, by simp [hi'], by simpa using hot⟩
    · rintro ⟨i, o, hin, ho, hot⟩
      exact ⟨o, hget i o hin ho, hot⟩
  refine wp_region_kept_head n hn hm V hV htidy hd hstep ?_ hlow hchain hwait
  intro a w hb hdef hlen hold hnew
  have hf : ∀ t, t ∈ l → ∃ v, a.tmps[t]? = some v ∧ V t w v := fun t ht => by
    obtain ⟨i, o, hin, ho, hot⟩ := (hmem t).1 ht
    exact hnew i o t hin ho hot
  have ha : a = putAll a0 (fun t => a.tmps.getD t undef) l := by
    obtain ⟨tm, df⟩ := a
    obtain ⟨h1, h2⟩ := putAll_size (fun t => tm.getD t undef) l a0
    have h3 : tm = (putAll a0 (fun t => tm.getD t undef) l).tmps := by
      apply Array.ext_getElem?
      intro t
      rw [putAll_tmps]
      by_cases ht : t ∈ l
      · obtain ⟨v, hv, -⟩ := hf t ht
        simp only [] at hv
        have hts : t < a0.tmps.size := by rw [← hlen]; exact (Array.getElem?_eq_some_iff.1 hv).1
        rw [if_pos ⟨ht, hts⟩, Array.getD_eq_getD_getElem?, hv]
        rfl
      · rw [if_neg (fun h => ht h.1)]
        exact hold t fun i o hin ho hot => ht ((hmem t).2 ⟨i, o, hin, ho, hot⟩)
    have h4 : df = (putAll a0 (fun t => tm.getD t undef) l).defers := by rw [h2]; exact hdef
    calc (⟨tm, df⟩ : Act) = ⟨(putAll a0 (fun t => tm.getD t undef) l).tmps, (putAll a0 (fun t => tm.getD t undef) l).defers⟩ := by rw [← h3, ← h4]
      _ = _ := rfl
  rw [ha]
  refine hend _ w hb fun t ht => ?_
  obtain ⟨v, hv, hVv⟩ := hf t ht
  rw [Array.getD_eq_getD_getElem?, hv]
  exact hVv

/-- An operation of a region by a law over lists of operations. -/
theorem st_list {K : Act → World → Prop} {i : Nat} {o : Oper} {a : Act} {w : World} (ho : ops[i]? = some o) (hw : Region.wanted o (yielded ops a.tmps) = true)
    (h : ∀ Q' : Exit → Act → World → Prop, (∀ a' w', K a' w' → Q' .normal a' w') → wpList P ops Q' [o] a w) : wpOp P ops Q i K a w := by
  have h1 := h (fun ex a' w' => ex = .normal ∧ K a' w') (fun a' w' hk => ⟨rfl, hk⟩)
  unfold wpList at h1
  rw [if_pos hw] at h1
  unfold wpOp
  rw [ho]
  simp only [hw, if_true]
  refine .inl ?_
  rcases h1 with h1 | ⟨-, a', w', he, -⟩
  · unfold Oper.wp at *
    generalize (execOp a.eval o).run P w = r at *
    cases r with
    | ok n w' =>
      cases n <;> simp only [Oper.upon] at h1 ⊢ <;>
        first
          | exact h1.2
          | exact Rows.mono h1 (fun _ _ he => he.2)
          | exact Calls.mono h1 (fun e w'' he => by
              cases e with
              | returned v => exact he.2
              | panicked c => exact absurd he.1 (by simp)
              | outgrown => obtain ⟨_, _, hx, _⟩ := he; cases hx)
    | halt x w' =>
      cases x <;> simp only [Oper.upon] at h1 ⊢ <;> first | exact h1 | exact absurd h1.1 (by simp)
  · cases he

end

theorem rb_take {w : World} {a : Option Addr} {len cap : Nat} {l : List UInt8} (h : RB w (.slice a len cap) l) (n : Nat) : RB w (.slice a (min n len) cap) (l.take n) := by
  obtain ⟨a', cap', hv, h1, h2, h3, h4⟩ := h
  simp only [Value.slice.injEq] at hv
  obtain ⟨rfl, rfl, rfl⟩ := hv
  refine ⟨a, cap, by rw [List.length_take], by rw [List.length_take]; omega, h2, h3, fun hl => ?_⟩
  obtain ⟨b, o, ha, hc⟩ := h4 (by intro e; subst e; simp at hl)
  exact ⟨b, o, ha, fun i hi => by
    have := hc i (by rw [List.length_take] at hi; omega)
    simpa using this⟩

/-- 'b[n:]', in whatever world. -/
theorem RB.run_l {P : Program} {w : World} {a : Option Addr} {len cap : Nat} {l : List UInt8} (h : RB w (.slice a len cap) l) (t e : TypeId) (ht : P.underlying t = some (.slice e)) (hinfo : (P.info? e).map (fun i => (i.zero, i.size, i.bytes)) = some (some (.int .u8 0), 1, 1))
    (n : Nat) (hn : n ≤ l.length) (k : IntKind) : ∃ v, (∀ W, RB W (.slice a len cap) l → RB W v (l.drop n)) ∧ ∀ W, (Instr.slice t (.slice a len cap) (some (.int k (n : Int))) none none).run P W = .ok v W := by
  obtain ⟨h1, h2, h3⟩ := h.len
  refine ⟨sliced a n len cap 1, fun W hW => ?_, fun W => ?_⟩
  · have hc := hW.cut n l.length (by omega) (Nat.le_refl _)
    rw [List.take_of_length_le (Nat.le_refl _), ← h1] at hc
    exact hc
  · obtain ⟨ht', hs⟩ := run_sizeOf (P := P) (w := W) ht hinfo
    have hr := run_slice_l (P := P) W t a len cap ht' k (n : Int) (by omega) (by omega)
    rw [hs] at hr
    simpa [Result.andThen] using hr

end Go.Proofs.Ytmlndgkpbodnnaa

namespace Go.Proofs.Ytmlndgkpbodnnaa
open Go.RowKit

theorem set_rec (w : World) (g : Nat) (a b c d e x p q r : Value) (t : TypeId) (hg : w.heap[g]? = some (.cells #[a, b, c, d, e] t (0, 0))) :
    (w.setCell ⟨g, 0, none⟩ x).setCells g 2 [p, q, r] = w.setRow g #[x, b, p, q, r] := by
  rw [setCell_eq_setRow w g 0 _ t (0, 0) x hg]
  have h1 := setRow_heap w g _ (#[a, b, c, d, e].setIfInBounds 0 x) t (0, 0) hg
  simp only [World.setCells]
  rw [setCell_eq_setRow _ g 2 _ t (0, 0) p h1, setRow_setRow]
  have h2 := setRow_heap w g _ ((#[a, b, c, d, e].setIfInBounds 0 x).setIfInBounds 2 p) t (0, 0) hg
  rw [setCell_eq_setRow _ g 3 _ t (0, 0) q h2, setRow_setRow]
  have h3 := setRow_heap w g _ (((#[a, b, c, d, e].setIfInBounds 0 x).setIfInBounds 2 p).setIfInBounds 3 q) t (0, 0) hg
  rw [setCell_eq_setRow _ g 4 _ t (0, 0) r h3, setRow_setRow]
  simp

theorem there_row (w : World) (b : Nat) (C : Array Value) (t : TypeId) (hb : w.heap[b]? = some (.cells C t (0, 0))) (o n : Nat) (h : o + n ≤ C.size) : w.there b o n := fun j hj =>
  ⟨by rw [cell_of_row w b (o + j) C t (0, 0) hb, Array.getElem?_eq_getElem (by omega)]; rfl, frozen_of_row w b (o + j) C t hb⟩
theorem rec_cells_one (key : ByteArray) (gone : Bool) (k n : Int) (s : ByteArray) : (#[.string key, .bool gone, .int .i64 k, .int .i64 n, .string s] : Array Value).all (fun x => x.oneCell') = true := by simp [Value.oneCell']

def VC (g : Nat) (key key2 : ByteArray) (k n : Int) (s s2 : ByteArray) : Nat → World → Value → Prop
  | 3, _, v => v = .pointer (some ⟨g, 0, none⟩)
  | 4, _, v => v = .string key
  | 5, _, v => v = .string key2
  | 6, _, v => v = .pointer (some ⟨g, 2, none⟩)
  | 7, _, v => v = .agg #[.int .i64 k, .int .i64 n, .string s]
  | 9, _, v => v = .pointer (some ⟨g, 0, none⟩)
  | 8, _, v => v = .agg #[.int .i64 k, .int .i64 n, .string s2]
  | _, _, _ => True

theorem VC_below (g : Nat) (key key2 : ByteArray) (k n : Int) (s s2 : ByteArray) : ∀ (i : Nat) (w w' : World) (v : Value), VC g key key2 k n s s2 i w v → Below w.heap.size w w' → VC g key key2 k n s s2 i w' v := by
  intro i w w' v h hb
  unfold VC at h ⊢
  split at h <;> first | exact h | trivial | exact RB.below h hb | exact Own.below h hb

set_option maxHeartbeats 1000000 in
set_option maxRecDepth 100000 in
/-- The laws' 'Cut(r)'. -/
theorem rcut_c (key : ByteArray) (gone : Bool) (k n : Int) (s : ByteArray) (w : World) (hk : key.size ≤ maxLen) (hm : s.size ≤ maxLen) :
    Calls Try.prog 9 #[recV key gone k n s] w fun e w' => e = .returned (recV (str ((bl key).take 20)) gone k n (str ((bl s).take 30))) ∧ Below w.heap.size w w' := by
  unfold recV
  have C1 := Go.Lib.hid fun W => lcut_c key 20 W hk (by omega)
  have C2 := Go.Lib.hid fun W => vcut_c k n s W hm
  unfold rawV at C2
  clear hk hm
  generalize str ((bl key).take 20) = key2 at *
  generalize str ((bl s).take 30) = s2 at *
  go_enter Try.func9, Try.ntmps9
  go_upto_region 1 with (fail)
  have hA := two_first w (.cells #[.string key, .bool gone, .int .i64 k, .int .i64 n, .string s] 25) (.cells #[.string ⟨#[]⟩, .bool false, .int .i64 0, .int .i64 0, .string ⟨#[]⟩] 25)
  have hB := heap_alloc2_new w (.cells #[.string key, .bool gone, .int .i64 k, .int .i64 n, .string s] 25) (.cells #[.string ⟨#[]⟩, .bool false, .int .i64 0, .int .i64 0, .string ⟨#[]⟩] 25)
  have hbb := below_two w (.cells #[.string key, .bool gone, .int .i64 k, .int .i64 n, .string s] 25) (.cells #[.string ⟨#[]⟩, .bool false, .int .i64 0, .int .i64 0, .string ⟨#[]⟩] 25)
  generalize hW : (w.alloc (.cells #[.string key, .bool gone, .int .i64 k, .int .i64 n, .string s] 25)).alloc (.cells #[.string ⟨#[]⟩, .bool false, .int .i64 0, .int .i64 0, .string ⟨#[]⟩] 25) = W at *
  clear hW
  have hlt := (Array.getElem?_eq_some_iff.1 hA).1
  have hltB := (Array.getElem?_eq_some_iff.1 hB).1
  have hgb : w.heap.size ≠ w.heap.size + 1 := by omega
  generalize hg0 : w.heap.size = g at *
  generalize hb0 : g + 1 = gB at *
  refine wp_region_head 7 (by decide) (by kernel_rfl) (VC g key key2 k n s s2) (VC_below g key key2 k n s s2) (by decide +kernel) (by rfl) [3, 4, 5, 6, 7, 8, 9] (by rfl) ?_ ?_
  · intro i o hin ho a w6 hb6 hlen hg
    have hA := (hb6.block _ hlt).trans hA
    have x0 := cell_of_row w6 g 0 _ _ _ hA
    have x2 := cell_of_row w6 g 2 _ _ _ hA
    have x3 := cell_of_row w6 g 3 _ _ _ hA
    have x4 := cell_of_row w6 g 4 _ _ _ hA
    simp only [List.getElem?_toArray, List.getElem?_cons_zero, List.getElem?_cons_succ] at x0 x2 x3 x4
    have D1 := fun W => (C1.out W).mono (R' := fun e w' => e = .returned (.string key2) ∧ Below W.heap.size W w') (by rintro e w' ⟨h1, rfl⟩; exact ⟨h1, Below.refl _ _⟩)
    match i, hin, ho with
    | 0, hin, ho =>
      obtain rfl := Option.some.inj ho
      have h1 := given_old hg 1 (by decide +kernel)
      clear hg
      exact st_yield ho (wanted_none rfl) (.pointer (some ⟨g, 0, none⟩)) w6 (by simp [execOp, Act.eval, h1, go_sem]) ⟨_, rfl, Below.refl _ _, by rintro t' ⟨⟩; rfl⟩
    | 1, hin, ho =>
      obtain rfl := Option.some.inj ho
      obtain ⟨_, h3, rfl⟩ := given_fed hg 3 (by decide +kernel)
      clear hg
      exact st_yield ho (wanted_none rfl) (.string key) w6 (by simp [execOp, Act.eval, h3, go_sem, x0]) ⟨_, rfl, Below.refl _ _, by rintro t' ⟨⟩; rfl⟩
    | 2, hin, ho =>
      obtain rfl := Option.some.inj ho
      obtain ⟨_, h4, rfl⟩ := given_fed hg 4 (by decide +kernel)
      clear hg
      exact st_enter (w1 := w6) ho (wanted_none rfl) 23 #[.string key, .int .i64 20] (by simp [execOp, Act.eval, h4, resolve, go_sem]) ((D1 _).mono (by rintro e w7 ⟨rfl, hb7⟩; exact ⟨_, rfl, _, rfl, hb7, by rintro t' ⟨⟩; rfl⟩))
    | 3, hin, ho =>
      obtain rfl := Option.some.inj ho
      have h1 := given_old hg 1 (by decide +kernel)
      clear hg
      exact st_yield ho (wanted_none rfl) (.pointer (some ⟨g, 2, none⟩)) w6 (by simp [execOp, Act.eval, h1, go_sem]) ⟨_, rfl, Below.refl _ _, by rintro t' ⟨⟩; rfl⟩
    | 4, hin, ho =>
      obtain rfl := Option.some.inj ho
      obtain ⟨_, h6, rfl⟩ := given_fed hg 6 (by decide +kernel)
      clear hg
      exact st_yield ho (wanted_none rfl) (.agg #[.int .i64 k, .int .i64 n, .string s]) w6 (by simp [execOp, Act.eval, h6, go_sem, x2, x3, x4]) ⟨_, rfl, Below.refl _ _, by rintro t' ⟨⟩; rfl⟩
    | 5, hin, ho =>
      obtain rfl := Option.some.inj ho
      obtain ⟨_, h7, rfl⟩ := given_fed hg 7 (by decide +kernel)
      clear hg
      exact st_enter (w1 := w6) ho (wanted_none rfl) 24 #[.agg #[.int .i64 k, .int .i64 n, .string s]] (by simp [execOp, Act.eval, h7, resolve, go_sem]) ((C2.out _).mono (by rintro e w7 ⟨rfl, hb7⟩; exact ⟨_, rfl, _, rfl, hb7, by rintro t' ⟨⟩; rfl⟩))
    | 6, hin, ho =>
      obtain rfl := Option.some.inj ho
      have h1 := given_old hg 1 (by decide +kernel)
      clear hg
      exact st_yield ho (wanted_none rfl) (.pointer (some ⟨g, 0, none⟩)) w6 (by simp [execOp, Act.eval, h1, go_sem]) ⟨_, rfl, Below.refl _ _, by rintro t' ⟨⟩; rfl⟩
    | n + 7, hin, ho => omega
  · intro f w6 hb6 hv
    have h3 := hv 3 (by decide); have h4 := hv 4 (by decide); have h5 := hv 5 (by decide); have h6 := hv 6 (by decide); have h7 := hv 7 (by decide); have h8 := hv 8 (by decide); have h9 := hv 9 (by decide)
    simp only [VC] at h3 h4 h5 h6 h7 h8 h9
    have hA6 := (hb6.block _ hlt).trans hA
    have hB6 := (hb6.block _ hltB).trans hB
    have hbb6 := hbb.trans (hb6.mono (by have := hbb.size; omega))
    have hset := set_rec w6 g (.string key) (.bool gone) (.int .i64 k) (.int .i64 n) (.string s) (.string key2) (.int .i64 k) (.int .i64 n) (.string s2) _ hA6
    have hS := setRow_heap w6 g _ #[.string key2, .bool gone, .int .i64 k, .int .i64 n, .string s2] _ (0, 0) hA6
    have hset : (w6.setCell ⟨g, 0, none⟩ (.string key2)).setCells g 2 (#[.int .i64 k, .int .i64 n, .string s2] : Array Value).toList = w6.setRow g #[.string key2, .bool gone, .int .i64 k, .int .i64 n, .string s2] := hset
    have x0 := cell_of_row w6 g 0 _ _ _ hA6
    simp only [List.getElem?_toArray, List.getElem?_cons_zero] at x0
    have f0 : w6.frozen? ⟨g, 0, none⟩ = false := frozen_of_row w6 g 0 _ _ hA6
    have hth : (w6.setCell ⟨g, 0, none⟩ (.string key2)).there g 2 (#[.int .i64 k, .int .i64 n, .string s2] : Array Value).size := there_row _ g _ _ (by rw [setCell_eq_setRow w6 g 0 _ _ (0, 0) _ hA6]; exact setRow_heap w6 g _ _ _ (0, 0) hA6) 2 3 (by simp)
    have hBS := (setRow_other w6 g gB #[.string key2, .bool gone, .int .i64 k, .int .i64 n, .string s2] (by omega)).trans hB6
    have hbS := below_setRow hbb6 (by omega : g ≤ g) #[.string key2, .bool gone, .int .i64 k, .int .i64 n, .string s2]
    have HBS := Go.Lib.hid hBS
    have Hset := Go.Lib.hid hset
    have hfin := setRow_heap (w6.setRow g #[.string key2, .bool gone, .int .i64 k, .int .i64 n, .string s2]) gB _ #[.string key2, .bool gone, .int .i64 k, .int .i64 n, .string s2] _ (0, 0) hBS
    have hbF := below_setRow hbS (by omega : g ≤ gB) #[.string key2, .bool gone, .int .i64 k, .int .i64 n, .string s2]
    have Hfin := Go.Lib.hid hfin
    have Hth := Go.Lib.hid hth
    have hR : (w6.setRow g #[.string key2, .bool gone, .int .i64 k, .int .i64 n, .string s2]).rangeAt g 0 [.string key2, .bool gone, .int .i64 k, .int .i64 n, .string s2] := by simpa using World.rangeAt_of_block hS 0 5
    have HS := Go.Lib.hid hR
    clear hR hfin hBS hset hth hA6 hB6 hA hB hS hlt hltB
    unfold putAll
    simp only [List.foldl, List.drop]
    simp only [h3, h4, h5, h6, h7, h8, h9]
    go_simp
    go_wp2_with (first
      | (with_reducible show wpList _ _ _ (⟨none, Op.store 23 (.tmp 10) (.tmp 8), _, _, _, _⟩ :: _) _ _; go_loud (refine wpList_store_mid rfl 23 (.tmp 10) (.tmp 8) rfl g 2 #[.int .i64 k, .int .i64 n, .string s2] rfl rfl Hth.out (by kernel_rfl) (raw_cells_one ..) ?_); rw [Hset.out])
      | (with_reducible show wpList _ _ _ (⟨some 11, Op.load 25 (.tmp 1), _, _, _, _⟩ :: _) _ _; go_loud (refine wpList_load_mid rfl 25 (.tmp 1) rfl g 0 rfl [.string key2, .bool gone, .int .i64 k, .int .i64 n, .string s2] _ HS.out Try.underlying25 rfl (by kernel_rfl) ?_))
      | (with_reducible show wpList _ _ _ (⟨none, Op.store 25 (.tmp 2) (.tmp 11), _, _, _, _⟩ :: _) _ _; go_loud (refine wpList_store_row rfl 25 (.tmp 2) (.tmp 11) rfl gB #[.string key2, .bool gone, .int .i64 k, .int .i64 n, .string s2] rfl rfl 25 _ HBS.out (by kernel_rfl) rfl (rec_cells_one ..) ?_))
      | fail)
    refine bodyPost_ret (results_cell_row rfl _ _ gB 25 #[.string key2, .bool gone, .int .i64 k, .int .i64 n, .string s2] (0, 0) _ rfl Hfin.out Try.underlying25 rfl (by kernel_rfl)) rfl ?_
    exact ⟨rfl, hbF⟩

end Go.Proofs.Ytmlndgkpbodnnaa

namespace Go.Proofs.Ytmlndgkpbodnnaa
open Go.RowKit
open Go.Lib (uvarint zigzag)

def rr (r : RdT) : Value := .tuple #[recV (str r.1.1) r.1.2.1 r.1.2.2.1 r.1.2.2.2.1 (str r.1.2.2.2.2), .int .i64 (r.2.1 : Int), .int .i64 r.2.2]

/-- What Read answers, in a cell of its own. -/
theorem ret_rr_at {w w0 : World} {tmps : Array Value} {key : ByteArray} {gone : Bool} {k n : Int} {s : ByteArray} {m : Nat} {e : Int} {g : Nat} {fr : Nat × Nat} {r : RdT}
    (hp : tmps.getD 2 undef = .pointer (some ⟨g, 0, none⟩)) (hg : w.heap[g]? = some (.cells #[.string key, .bool gone, .int .i64 k, .int .i64 n, .string s] 25 fr)) (h3 : tmps.getD 3 undef = .int .i64 (m : Int)) (h4 : tmps.getD 4 undef = .int .i64 e)
    (hr : r = ((bl key, gone, k, n, bl s), m, e)) (hb : Below w0.heap.size w0 w) : bodyPost Try.prog Try.f39 (fun e w' => e = .returned (rr r) ∧ Below w0.heap.size w0 w') Exit.ret { tmps := tmps, defers := [] } w := by
  subst hr
  have h := results_row_two (P := Try.prog) (fn := Try.f39) (p := 2) (u := 3) (v := 4) (ty := 25) rfl tmps w g 25 #[.string key, .bool gone, .int .i64 k, .int .i64 n, .string s] fr _ hp hg Try.underlying25 rfl (by kernel_rfl)
  rw [h3, h4] at h
  refine bodyPost_ret h rfl ⟨?_, hb⟩
  unfold rr recV
  rw [str_bl, str_bl]

set_option maxHeartbeats 2000000 in
set_option maxRecDepth 100000 in
theorem rread_c (v : Value) (l : List UInt8) (w : World) (hv : RB w v l) :
    Calls Try.prog 39 #[v] w fun e w' => e = .returned (rr (readB l)) ∧ Below w.heap.size w w' := by
  have hrb := hv
  obtain ⟨a, cap, rfl, h1, h2, h3, h4⟩ := hv
  have hm : l.length ≤ 9223372036854775807 := by unfold maxLen at h2; omega
  clear h4 h3 h1 h2
  have hfit := textB_fits l
  have c1 := fun W (h : RB W (.slice a l.length cap) l) => rgetText_c (.slice a l.length cap) l W h
  rcases hr : textB l with ⟨key, p, er⟩
  rw [hr] at hfit c1
  unfold tv at c1
  simp only [] at hfit c1
  obtain ⟨f1, f2, f3, f4⟩ := hfit
  have C1 := Go.Lib.hid c1; clear c1
  have Hr := Go.Lib.hid hr; clear hr
  have hR1 := Go.Lib.hid fun o => hrb.below (below_one w o)
  have hnew := Go.Lib.hid fun o => heap_alloc_new w o
  by_cases he : er = 0
  · subst he
    clear f4
    have C2 := Go.Lib.hid fun W => rmay_c (str key) W (by rw [str_size]; unfold maxLen; omega)
    cases hmk : mayK (str key) with
    | false =>
      rw [hmk] at C2
      have hv := Go.Lib.hid (readB_e2 Hr.out hmk)
      clear hmk f1 f2 f3
      go_enter Try.func39, Try.ntmps39
      go_wp2_with fail
      refine (C1.out _ (hR1.out _)).mono ?_
      rintro e w1 ⟨rfl, rfl⟩
      go_wp2_with fail
      refine (C2.out _).mono ?_
      rintro e w1 ⟨rfl, rfl⟩
      go_wp2_with fail
      exact ret_rr_at (m := 0) rfl (hnew.out _) rfl rfl hv.out (below_one _ _)
    | true =>
      rw [hmk] at C2
      have Hmk := Go.Lib.hid hmk; clear hmk
      have hfit2 := getB_fits (l.drop p)
      have c3 := fun v' W (h : RB W v' (l.drop p)) => rget_c v' (l.drop p) W h
      rcases hr2 : getB (l.drop p) with ⟨x, m, e2⟩
      rw [hr2] at c3 hfit2
      unfold gv at c3
      simp only [List.length_drop] at c3 hfit2
      obtain ⟨q1, q2, q3, q4, -, q5⟩ := hfit2
      have C3 := Go.Lib.hid c3; clear c3
      have Hr2 := Go.Lib.hid hr2; clear hr2
      by_cases he2 : e2 = 0
      · subst he2
        clear q4
        by_cases hx : x = 0
        · subst hx
          have hv := Go.Lib.hid (readB_gone Hr.out Hmk.out Hr2.out)
          clear q1 q2 q3 f3
          go_enter Try.func39, Try.ntmps39
          go_wp2_with fail
          refine (C1.out _ (hR1.out _)).mono ?_
          rintro e w1 ⟨rfl, rfl⟩
          go_wp2_with fail
          refine (C2.out _).mono ?_
          rintro e w1 ⟨rfl, rfl⟩
          go_wp2_with (first
            | (with_reducible show wpList _ _ _ (⟨some 28, _, _, _, _, _⟩ :: _) _ _; go_loud (refine wpList_slice_l rfl (.tmp 26) (.tmp 27) 26 rfl 5 Try.underlying26 info8 (.slice a l.length cap) l .i64 _ p rfl rfl rfl (hR1.out _) f1 ?_); intro v3 hv3)
            | fail)
          refine (C3.out _ _ hv3).mono ?_
          rintro e w1 ⟨rfl, rfl⟩
          go_wp2_with fail
          refine ret_rr_at (m := p + m) rfl (hnew.out _) rfl rfl ?_ (below_one _ _)
          rw [hv.out, bl_str]
          rfl
        · have hxb : (x == 0) = false := by simp [hx]
          have hfv := valB_fits (l.drop p)
          have c4 := fun v' W (h : RB W v' (l.drop p)) => rgetVal_c v' (l.drop p) W h
          rcases hr3 : valB (l.drop p) with ⟨⟨vk, vn, vs⟩, q, e3⟩
          rw [hr3] at c4 hfv
          unfold vv rawV at c4
          simp only [List.length_drop] at c4 hfv
          obtain ⟨u1, u2, u3, -⟩ := hfv
          have C4 := Go.Lib.hid c4; clear c4
          have Hr3 := Go.Lib.hid hr3; clear hr3
          have Hx := Go.Lib.hid hx; clear hx
          clear q3 q5 q1 q2 f3
          by_cases he3 : e3 = 0
          · subst he3
            have hv := Go.Lib.hid (readB_ok Hr.out Hmk.out Hr2.out Hx.out Hr3.out)
            clear u3
            go_enter Try.func39, Try.ntmps39
            go_wp2_with fail
            refine (C1.out _ (hR1.out _)).mono ?_
            rintro e w1 ⟨rfl, rfl⟩
            go_wp2_with fail
            refine (C2.out _).mono ?_
            rintro e w1 ⟨rfl, rfl⟩
            go_wp2_with (first
              | (with_reducible show wpList _ _ _ (⟨some 28, _, _, _, _, _⟩ :: _) _ _; go_loud (refine wpList_slice_l rfl (.tmp 26) (.tmp 27) 26 rfl 5 Try.underlying26 info8 (.slice a l.length cap) l .i64 _ p rfl rfl rfl (hR1.out _) f1 ?_); intro v3 hv3)
              | fail)
            refine (C3.out _ _ hv3).mono ?_
            rintro e w1 ⟨rfl, rfl⟩
            go_wp2_with (first
              | (with_reducible show wpList _ _ _ (⟨some 47, _, _, _, _, _⟩ :: _) _ _; go_loud (refine wpList_slice_l rfl (.tmp 45) (.tmp 46) 26 rfl 5 Try.underlying26 info8 (.slice a l.length cap) l .i64 _ p rfl rfl rfl (hR1.out _) f1 ?_); intro v4 hv4)
              | fail)
            refine (C4.out _ _ hv4).mono ?_
            rintro e w1 ⟨rfl, hb1⟩
            obtain ⟨hh, -⟩ := rec_box _ _ _ _ _ hb1
            unfold recO at hh
            have hlt := (Array.getElem?_eq_some_iff.1 hh).1
            have hA := (heap_alloc_old w1 (.cells #[.int .i64 vk, .int .i64 vn, .string (str vs)] 23) hlt).trans hh
            have hbb := (below_one w (.cells #[.string ⟨#[]⟩, .bool false, .int .i64 0, .int .i64 0, .string ⟨#[]⟩] 25)).trans (hb1.mono (below_one w _).size)
            have hbb2 := hbb.trans ((below_one w1 (.cells #[.int .i64 vk, .int .i64 vn, .string (str vs)] 23)).mono hbb.size)
            have HA := Go.Lib.hid hA; clear hA hh hb1 hlt
            go_wp2_with (first
              | (with_reducible show wpList _ _ _ (⟨none, Op.store 25 (.tmp 2) (.tmp 58), _, _, _, _⟩ :: _) _ _; go_loud (refine wpList_store_row rfl 25 (.tmp 2) (.tmp 58) rfl w.heap.size #[.string (str key), .bool false, .int .i64 vk, .int .i64 vn, .string (str vs)] rfl rfl 25 _ HA.out (by kernel_rfl) rfl (rec_cells_one ..) ?_))
              | fail)
            refine ret_rr_at (m := p + q) rfl (setRow_heap _ _ _ _ _ (0, 0) HA.out) rfl rfl ?_ (setRow_below _ hbb2 (Nat.le_refl _))
            rw [hv.out, bl_str, bl_str]
          · have hv := Go.Lib.hid (readB_e4 Hr.out Hmk.out Hr2.out Hx.out Hr3.out he3)
            have he3b : (e3 == 0) = false := by simp [he3]
            clear u1 u2 u3 he3
            go_enter Try.func39, Try.ntmps39
            go_wp2_with fail
            refine (C1.out _ (hR1.out _)).mono ?_
            rintro e w1 ⟨rfl, rfl⟩
            go_wp2_with fail
            refine (C2.out _).mono ?_
            rintro e w1 ⟨rfl, rfl⟩
            go_wp2_with (first
              | (with_reducible show wpList _ _ _ (⟨some 28, _, _, _, _, _⟩ :: _) _ _; go_loud (refine wpList_slice_l rfl (.tmp 26) (.tmp 27) 26 rfl 5 Try.underlying26 info8 (.slice a l.length cap) l .i64 _ p rfl rfl rfl (hR1.out _) f1 ?_); intro v3 hv3)
              | fail)
            refine (C3.out _ _ hv3).mono ?_
            rintro e w1 ⟨rfl, rfl⟩
            go_wp2_with (first
              | (with_reducible show wpList _ _ _ (⟨some 47, _, _, _, _, _⟩ :: _) _ _; go_loud (refine wpList_slice_l rfl (.tmp 45) (.tmp 46) 26 rfl 5 Try.underlying26 info8 (.slice a l.length cap) l .i64 _ p rfl rfl rfl (hR1.out _) f1 ?_); intro v4 hv4)
              | fail)
            refine (C4.out _ _ hv4).mono ?_
            rintro e w1 ⟨rfl, hb1⟩
            obtain ⟨hh, -⟩ := rec_box _ _ _ _ _ hb1
            unfold recO at hh
            have hlt := (Array.getElem?_eq_some_iff.1 hh).1
            have hA := (heap_alloc_old w1 (.cells #[.int .i64 vk, .int .i64 vn, .string (str vs)] 23) hlt).trans hh
            have hbb := (below_one w (.cells #[.string ⟨#[]⟩, .bool false, .int .i64 0, .int .i64 0, .string ⟨#[]⟩] 25)).trans (hb1.mono (below_one w _).size)
            have hbb2 := hbb.trans ((below_one w1 (.cells #[.int .i64 vk, .int .i64 vn, .string (str vs)] 23)).mono hbb.size)
            have HA := Go.Lib.hid hA; clear hA hh hb1 hlt
            go_wp2_with (first
              | (with_reducible show wpList _ _ _ (⟨none, Op.store 25 (.tmp 2) (.tmp 54), _, _, _, _⟩ :: _) _ _; go_loud (refine wpList_store_row rfl 25 (.tmp 2) (.tmp 54) rfl w.heap.size #[.string ⟨#[]⟩, .bool false, .int .i64 0, .int .i64 0, .string ⟨#[]⟩] rfl rfl 25 _ HA.out (by kernel_rfl) rfl (rec_cells_one ..) ?_))
              | fail)
            exact ret_rr_at (m := 0) rfl (setRow_heap _ _ _ _ _ (0, 0) HA.out) rfl rfl hv.out (setRow_below _ hbb2 (Nat.le_refl _))
      · have hv := Go.Lib.hid (readB_e3 Hr.out Hmk.out Hr2.out he2)
        have he2b : (e2 == 0) = false := by simp [he2]
        clear q1 q2 q3 f3 he2
        go_enter Try.func39, Try.ntmps39
        go_wp2_with fail
        refine (C1.out _ (hR1.out _)).mono ?_
        rintro e w1 ⟨rfl, rfl⟩
        go_wp2_with fail
        refine (C2.out _).mono ?_
        rintro e w1 ⟨rfl, rfl⟩
        go_wp2_with (first
          | (with_reducible show wpList _ _ _ (⟨some 28, _, _, _, _, _⟩ :: _) _ _; go_loud (refine wpList_slice_l rfl (.tmp 26) (.tmp 27) 26 rfl 5 Try.underlying26 info8 (.slice a l.length cap) l .i64 _ p rfl rfl rfl (hR1.out _) f1 ?_); intro v3 hv3)
          | fail)
        refine (C3.out _ _ hv3).mono ?_
        rintro e w1 ⟨rfl, rfl⟩
        go_wp2_with fail
        exact ret_rr_at (m := 0) rfl (hnew.out _) rfl rfl hv.out (below_one _ _)
  · have hv := Go.Lib.hid (readB_e1 Hr.out he)
    have heb : (er == 0) = false := by simp [he]
    clear f1 f2 f3 he
    go_enter Try.func39, Try.ntmps39
    go_wp2_with fail
    refine (C1.out _ (hR1.out _)).mono ?_
    rintro e w1 ⟨rfl, rfl⟩
    go_wp2_with fail
    exact ret_rr_at (m := 0) rfl (hnew.out _) rfl rfl hv.out (below_one _ _)

end Go.Proofs.Ytmlndgkpbodnnaa
