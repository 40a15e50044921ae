/-
  Package value: contracts of Put, of what may be.
  Package record: contract of Put.
  Records as bytes: what stands at the beginning of bytes.
-/
import Derived.Test.YtafpbhkddodjoaaM10
import Derived.Test.YtafpbhkddodjoaaM11
import Derived.Test.YtafpbhkddodjoaaM07
import Derived.Test.YtafpbhkddodjoaaM08
namespace Go.Proofs.Ytafpbhkddodjoaa
open Go.RowKit
open Go.Lib (uvarint zigzag)

set_option maxRecDepth 100000 in
theorem vput_c (v : Value) (l : List UInt8) (k n : Int) (s : List UInt8) (w : World) (hv : RB w v l) (hm : mayR k n (str s) = true) (h0 : -9223372036854775808 ≤ n) (h1 : n ≤ 9223372036854775807) (hl : l.length ≤ 100000) :
    Calls Try.prog 33 #[v, rawV k n (str s)] w fun e w' => ∃ v', e = .returned v' ∧ Own 5 w' w.heap.size v' (l ++ putV k n s) ∧ Below w.heap.size w w' := by
  have C0 := Go.Lib.hid fun W => vof_c k n (str s) W
  rcases mayR_cases hm with ⟨rfl, rfl⟩ | ⟨rfl, rfl, hs⟩
  · have e0 := of_num hm
    have C0 := C0.out
    rw [e0] at C0
    simp only [VI.val, VI.v] at C0
    have C0' := Go.Lib.hid C0
    clear C0 hm e0
    have C1 := Go.Lib.hid fun W (h : RB W v l) => put_c v l 1 W h (by omega) (by omega) (by omega)
    have hz := Go.Lib.uvarint_length64 (Go.Lib.zigzag_lt (x := 1) (by omega) (by omega))
    have C2 := Go.Lib.hid fun v' W (h : RB W v' (l ++ uvarint (zigzag 1))) => put_c v' (l ++ uvarint (zigzag 1)) n W h h0 h1 (by rw [List.length_append]; omega)
    have he : Hid (l ++ uvarint (zigzag 1) ++ uvarint (zigzag n) = l ++ putV 1 n []) := by unfold Hid putV; rw [if_pos rfl, List.append_assoc]
    clear hz h0 h1 hl
    generalize uvarint (zigzag 1) = uk at *
    generalize uvarint (zigzag n) = un at *
    unfold rawV at C0' ⊢
    have hR0 := Go.Lib.hid (hv.below (below_one w (.cells #[.int .i64 1, .int .i64 n, .string (str [])] 23)))
    clear hv
    go_enter Try.func33, Try.ntmps33
    go_wp2_with fail
    refine (C0'.out _).mono ?_
    rintro e w1 ⟨rfl, hb1⟩
    obtain ⟨x0, x1, x2⟩ := box_cells _ _ _ _ _ _ hb1
    have hbb1 := (below_one w _).trans (hb1.mono (below_one w _).size)
    have hR1 := Go.Lib.hid ((hR0.out.below hb1).below (below_one w1 (.cells #[.iface 80 (.int .i64 n)] 68)))
    have Hbo := Go.Lib.hid (hbb1.trans ((below_one w1 (.cells #[.iface 80 (.int .i64 n)] 68)).mono hbb1.size))
    have xx := fun (c : Option Value) (p : Addr) (h : w1.cell? p = c) (o : Obj) (hp : p.block < w1.heap.size) => ((below_one w1 o).cell hp).trans h
    have hlt : w.heap.size < w1.heap.size := by
      have h1 := hb1.size
      have h2 := (Array.getElem?_eq_some_iff.1 (heap_alloc_new w (.cells #[.int .i64 1, .int .i64 n, .string (str [])] 23))).1
      omega
    have y0 := fun o => xx _ _ x0 o hlt
    have y1 := fun o => xx _ _ x1 o hlt
    have y2 := fun o => xx _ _ x2 o hlt
    clear xx hb1 hbb1 hR0 C0' x0 x1 x2
    go_wp2_with fail
    refine (C1.out _ hR1.out).mono ?_
    rintro e w2 ⟨v2, rfl, hown2, hb2⟩
    have hlt2 := Nat.lt_of_lt_of_le hlt ((below_one w1 (.cells #[.iface 80 (.int .i64 n)] 68)).size)
    have z0 := (hb2.cell hlt2).trans (y0 _)
    have z1 := (hb2.cell hlt2).trans (y1 _)
    have hbb2 := Hbo.out.trans (hb2.mono Hbo.out.size)
    have hR2 := hown2.rb
    clear y0 y1 y2 hR1 Hbo hlt hlt2 C1 hb2 hown2
    go_wp2_with fail
    refine (C2.out _ _ hR2).mono ?_
    rintro e w3 ⟨v3, rfl, hown3, hb3⟩
    have hbb3 := hbb2.trans (hb3.mono hbb2.size)
    have hown3' := hown3.mono hbb2.size
    rw [he.out] at hown3'
    clear hown3 hb3 z0 z1 hR2
    go_wp2_with fail
    go_ret
    exact ⟨_, rfl, hown3', hbb3⟩
  · have e0 := of_text hm
    have C0 := C0.out
    rw [e0] at C0
    simp only [VI.val, VI.v] at C0
    have C0' := Go.Lib.hid C0
    clear C0 hm e0
    have C1 := Go.Lib.hid fun W (h : RB W v l) => put_c v l 2 W h (by omega) (by omega) (by omega)
    have hz := Go.Lib.uvarint_length64 (Go.Lib.zigzag_lt (x := 2) (by omega) (by omega))
    have C2 := fun v' W (h : RB W v' (l ++ uvarint (zigzag 2))) => putText_c v' (l ++ uvarint (zigzag 2)) (str s) W h (by rw [List.length_append, str_size]; omega)
    have he : Hid (l ++ uvarint (zigzag 2) ++ putT s = l ++ putV 2 0 s) := by unfold Hid putV; rw [if_neg (by omega), List.append_assoc]
    rw [show (str s).data.toList = s from by simp [str]] at C2
    have C2 := Go.Lib.hid C2
    clear hz h0 h1 hl
    generalize uvarint (zigzag 2) = uk at *
    generalize putT s = un at *
    unfold rawV at C0' ⊢
    have hR0 := Go.Lib.hid (hv.below (below_one w (.cells #[.int .i64 2, .int .i64 0, .string (str s)] 23)))
    clear hv
    go_enter Try.func33, Try.ntmps33
    go_wp2_with fail
    refine (C0'.out _).mono ?_
    rintro e w1 ⟨rfl, hb1⟩
    obtain ⟨x0, x1, x2⟩ := box_cells _ _ _ _ _ _ hb1
    have hbb1 := (below_one w _).trans (hb1.mono (below_one w _).size)
    have hR1 := Go.Lib.hid ((hR0.out.below hb1).below (below_one w1 (.cells #[.iface 81 (.string (str s))] 68)))
    have Hbo := Go.Lib.hid (hbb1.trans ((below_one w1 (.cells #[.iface 81 (.string (str s))] 68)).mono hbb1.size))
    have xx := fun (c : Option Value) (p : Addr) (h : w1.cell? p = c) (o : Obj) (hp : p.block < w1.heap.size) => ((below_one w1 o).cell hp).trans h
    have hlt : w.heap.size < w1.heap.size := by
      have h1 := hb1.size
      have h2 := (Array.getElem?_eq_some_iff.1 (heap_alloc_new w (.cells #[.int .i64 2, .int .i64 0, .string (str s)] 23))).1
      omega
    have y0 := fun o => xx _ _ x0 o hlt
    have y1 := fun o => xx _ _ x1 o hlt
    have y2 := fun o => xx _ _ x2 o hlt
    clear xx hb1 hbb1 hR0 C0' x0 x1 x2
    go_wp2_with fail
    refine (C1.out _ hR1.out).mono ?_
    rintro e w2 ⟨v2, rfl, hown2, hb2⟩
    have hlt2 := Nat.lt_of_lt_of_le hlt ((below_one w1 (.cells #[.iface 81 (.string (str s))] 68)).size)
    have z0 := (hb2.cell hlt2).trans (y0 _)
    have z1 := (hb2.cell hlt2).trans (y2 _)
    have hbb2 := Hbo.out.trans (hb2.mono Hbo.out.size)
    have hR2 := hown2.rb
    clear y0 y1 y2 hR1 Hbo hlt hlt2 C1 hb2 hown2
    go_wp2_with fail
    refine (C2.out _ _ hR2).mono ?_
    rintro e w3 ⟨v3, rfl, hown3, hb3⟩
    have hbb3 := hbb2.trans (hb3.mono hbb2.size)
    have hown3' := hown3.mono hbb2.size
    rw [he.out] at hown3'
    clear hown3 hb3 z0 z1 hR2
    go_wp2_with fail
    go_ret
    exact ⟨_, rfl, hown3', hbb3⟩

end Go.Proofs.Ytafpbhkddodjoaa

namespace Go.Proofs.Ytafpbhkddodjoaa
open Go.RowKit
open Go.Lib (uvarint zigzag)

set_option maxRecDepth 100000 in
theorem pput_c (v : Value) (l key : List UInt8) (gone : Bool) (k n : Int) (s : List UInt8) (w : World) (hv : RB w v l) (hm : mayRec (str key) gone k n (str s) = true) (h0 : -9223372036854775808 ≤ n) (h1 : n ≤ 9223372036854775807) (hl : l.length ≤ 50000) :
    Calls Try.prog 15 #[v, recV (str key) gone k n (str s)] w fun e w' => ∃ v', e = .returned v' ∧ Own 5 w' w.heap.size v' (l ++ recB key gone k n s) ∧ Below w.heap.size w w' := by
  have hm' := hm
  unfold mayRec at hm'
  rw [Bool.and_eq_true] at hm'
  obtain ⟨hk, hr⟩ := hm'
  have hks : key.length ≤ 16 := by
    unfold mayK at hk
    rw [Bool.and_eq_true, decide_eq_true_eq, decide_eq_true_eq, str_size] at hk
    exact hk.2
  have hss : (str s).size ≤ maxLen := by
    unfold maxLen
    cases gone with
    | true =>
      rw [if_pos rfl, Bool.and_eq_true] at hr
      have h2 := hr.2
      rw [str_size]
      have h3 : s = [] := by simpa [str, ByteArray.toList_eq] using h2
      rw [h3]
      decide
    | false =>
      rw [if_neg (by decide)] at hr
      rw [str_size]
      rcases mayR_cases hr with ⟨-, h3⟩ | ⟨-, -, h3⟩
      · rw [h3]; decide
      · have := h3; omega
  have c0 := fun W => pmay_c (str key) gone k n (str s) W (by rw [str_size]; unfold maxLen; omega) hss
  rw [hm] at c0
  have c1 := fun W (h : RB W v l) => putText_c v l (str key) W h (by rw [str_size]; omega)
  rw [show (str key).data.toList = key from by simp [str]] at c1
  have hpl : (putT key).length ≤ 30 := by
    have hz := Go.Lib.uvarint_length64 (Go.Lib.zigzag_lt (x := (key.length : Int)) (by omega) (by omega))
    unfold putT
    rw [List.length_append]
    omega
  have C1 := Go.Lib.hid c1
  clear c1
  unfold recV at c0 ⊢
  have C0 := Go.Lib.hid c0
  clear c0
  have hb1 := below_one w (.cells #[.string (str key), .bool gone, .int .i64 k, .int .i64 n, .string (str s)] 25)
  have hA := heap_alloc_new w (.cells #[.string (str key), .bool gone, .int .i64 k, .int .i64 n, .string (str s)] 25)
  have hR0 := hv.below hb1
  cases gone with
  | true =>
    have c2 := fun v' W (h : RB W v' (l ++ putT key)) => put_c v' (l ++ putT key) 0 W h (by omega) (by omega) (by rw [List.length_append]; omega)
    have he : Hid (l ++ putT key ++ uvarint (zigzag 0) = l ++ recB key true k n s) := by unfold Hid recB; rw [if_pos rfl, List.append_assoc]
    rw [he.out] at c2
    have C2 := Go.Lib.hid c2
    clear c2 he hl hpl hks hss hr hk hm h0 h1
    generalize putT key = pk at *
    generalize l ++ recB key true k n s = L at *
    go_enter Try.func15, Try.ntmps15
    go_wp2_with fail
    refine (C0.out _).mono ?_
    rintro e w1 ⟨rfl, hb2⟩
    have hbb := hb1.trans (hb2.mono hb1.size)
    have hA := row_kept hA hb2
    have hR1 := hR0.below hb2
    obtain ⟨x0, x1, x2, x3, x4⟩ := row5 hA
    clear hb1 hb2 hR0 C0
    go_wp2_with fail
    refine (C1.out _ hR1).mono ?_
    rintro e w2 ⟨v2, rfl, hown2, hb2⟩
    have hbb2 := hbb.trans (hb2.mono hbb.size)
    have hA := row_kept hA hb2
    have hR2 := hown2.rb
    clear x0 x1 x2 x3 x4 hb2 hown2 hbb hR1 C1
    obtain ⟨x0, x1, x2, x3, x4⟩ := row5 hA
    go_wp2_with fail
    refine (C2.out _ _ hR2).mono ?_
    rintro e w3 ⟨v3, rfl, hown3, hb3⟩
    have hbb3 := hbb2.trans (hb3.mono hbb2.size)
    have hown3' := hown3.mono hbb2.size
    clear hown3 hb3 hR2 C2 x0 x1 x2 x3 x4
    go_wp2_with fail
    go_ret
    exact ⟨_, rfl, hown3', hbb3⟩
  | false =>
    rw [if_neg (by decide)] at hr
    have c2 := fun v' W (h : RB W v' (l ++ putT key)) => vput_c v' (l ++ putT key) k n s W h hr h0 h1 (by rw [List.length_append]; omega)
    have he : Hid (l ++ putT key ++ putV k n s = l ++ recB key false k n s) := by unfold Hid recB; rw [if_neg (by decide), List.append_assoc]
    rw [he.out] at c2
    unfold rawV at c2
    have C2 := Go.Lib.hid c2
    clear c2 he hl hpl hks hss hr hk hm h0 h1
    generalize putT key = pk at *
    generalize l ++ recB key false k n s = L at *
    go_enter Try.func15, Try.ntmps15
    go_wp2_with fail
    refine (C0.out _).mono ?_
    rintro e w1 ⟨rfl, hb2⟩
    have hbb := hb1.trans (hb2.mono hb1.size)
    have hA := row_kept hA hb2
    have hR1 := hR0.below hb2
    obtain ⟨x0, x1, x2, x3, x4⟩ := row5 hA
    clear hb1 hb2 hR0 C0
    go_wp2_with fail
    refine (C1.out _ hR1).mono ?_
    rintro e w2 ⟨v2, rfl, hown2, hb2⟩
    have hbb2 := hbb.trans (hb2.mono hbb.size)
    have hA := row_kept hA hb2
    have hR2 := hown2.rb
    clear x0 x1 x2 x3 x4 hb2 hown2 hbb hR1 C1
    obtain ⟨x0, x1, x2, x3, x4⟩ := row5 hA
    go_wp2_with fail
    refine (C2.out _ _ hR2).mono ?_
    rintro e w3 ⟨v3, rfl, hown3, hb3⟩
    have hbb3 := hbb2.trans (hb3.mono hbb2.size)
    have hown3' := hown3.mono hbb2.size
    clear hown3 hb3 hR2 C2 x0 x1 x2 x3 x4
    go_wp2_with fail
    go_ret
    exact ⟨_, rfl, hown3', hbb3⟩

end Go.Proofs.Ytafpbhkddodjoaa

namespace Go.Proofs.Ytafpbhkddodjoaa
open Go.RowKit
open Go.Lib (uvarint zigzag)

/-- Key, Gone, Kind, N, S; how many bytes; the error. -/
abbrev RdT := (List UInt8 × Bool × Int × Int × List UInt8) × Nat × Int
def rdErr (e : Int) : RdT := (([], false, 0, 0, []), 0, e)
def readB (l : List UInt8) : RdT :=
  if (textB l).2.2 ≠ 0 then rdErr (textB l).2.2
  else if mayK (str (textB l).1) = false then rdErr 1
  else if (getB (l.drop (textB l).2.1)).2.2 ≠ 0 then rdErr (getB (l.drop (textB l).2.1)).2.2
  else if (getB (l.drop (textB l).2.1)).1 = 0 then (((textB l).1, true, 0, 0, []), (textB l).2.1 + (getB (l.drop (textB l).2.1)).2.1, 0)
  else if (valB (l.drop (textB l).2.1)).2.2 ≠ 0 then rdErr (valB (l.drop (textB l).2.1)).2.2
  else (((textB l).1, false, (valB (l.drop (textB l).2.1)).1), (textB l).2.1 + (valB (l.drop (textB l).2.1)).2.1, 0)

section
variable {l key : List UInt8} {p m q : Nat} {x e e2 e3 : Int} {v : Int × Int × List UInt8}
theorem readB_e1 (h : textB l = (key, p, e)) (he : e ≠ 0) : readB l = rdErr e := by
  unfold readB; rw [h]; simp [he]
theorem readB_e2 (h : textB l = (key, p, 0)) (hk : mayK (str key) = false) : readB l = rdErr 1 := by
  unfold readB; rw [h]; simp [hk]
theorem readB_e3 (h : textB l = (key, p, 0)) (hk : mayK (str key) = true) (g : getB (l.drop p) = (x, m, e2)) (he : e2 ≠ 0) : readB l = rdErr e2 := by
  unfold readB; rw [h]; simp only []; rw [g]; simp [hk, he]
theorem readB_gone (h : textB l = (key, p, 0)) (hk : mayK (str key) = true) (g : getB (l.drop p) = (0, m, 0)) : readB l = ((key, true, 0, 0, []), p + m, 0) := by
  unfold readB; rw [h]; simp only []; rw [g]; simp [hk]
theorem readB_e4 (h : textB l = (key, p, 0)) (hk : mayK (str key) = true) (g : getB (l.drop p) = (x, m, 0)) (hx : x ≠ 0) (u : valB (l.drop p) = (v, q, e3)) (he : e3 ≠ 0) : readB l = rdErr e3 := by
  unfold readB; rw [h]; simp only []; rw [g, u]; simp [hk, hx, he]
theorem readB_ok (h : textB l = (key, p, 0)) (hk : mayK (str key) = true) (g : getB (l.drop p) = (x, m, 0)) (hx : x ≠ 0) (u : valB (l.drop p) = (v, q, 0)) : readB l = ((key, false, v), p + q, 0) := by
  unfold readB; rw [h]; simp only []; rw [g, u]; simp [hk, hx]
end

theorem textB_fits (l : List UInt8) : (textB l).2.1 ≤ l.length ∧ (textB l).2.1 ≤ 70000 ∧ (textB l).1.length ≤ 65536 ∧ ((textB l).2.2 = 0 ∨ (textB l).2.2 = 1 ∨ (textB l).2.2 = 2) := by
  have hf := getB_fits l
  unfold textB
  split
  · exact ⟨by simp, by simp, by simp, hf.2.2.2.1⟩
  · split
    · simp
    · split
      · simp
      · rename_i c1 c2 c3
        simp only [not_or, Int.not_lt, Nat.not_lt] at c2 c3
        obtain ⟨c4, c5⟩ := c2
        have c6 : (getB l).1.toNat ≤ 65536 := by omega
        refine ⟨?_, ?_, ?_, .inl rfl⟩
        · show (getB l).2.1 + (getB l).1.toNat ≤ l.length; exact c3
        · show (getB l).2.1 + (getB l).1.toNat ≤ 70000; omega
        · show ((l.drop _).take _).length ≤ 65536; rw [List.length_take]; omega
theorem valB_fits (l : List UInt8) : (valB l).2.1 ≤ l.length ∧ (valB l).2.1 ≤ 70010 ∧ ((valB l).2.2 = 0 ∨ (valB l).2.2 = 1 ∨ (valB l).2.2 = 2) ∧ (valB l).1.2.2.length ≤ 65536 := by
  have hf := getB_fits l
  have hf2 := getB_fits (l.drop (getB l).2.1)
  have ht2 := textB_fits (l.drop (getB l).2.1)
  rw [List.length_drop] at hf2 ht2
  unfold valB
  split
  · split
    · split
      · simp; omega
      · simp; omega
    · split
      · split
        · split
          · simp; omega
          · simp
        · simp; omega
      · simp
  · simp; omega

theorem mayRec_key {key : ByteArray} {gone : Bool} {k n : Int} {s : ByteArray} (h : mayRec key gone k n s = true) : mayK key = true ∧ key.size ≤ 16 := by
  unfold mayRec at h
  rw [Bool.and_eq_true] at h
  have h1 := h.1
  unfold mayK at h1
  rw [Bool.and_eq_true, decide_eq_true_eq, decide_eq_true_eq] at h1
  exact ⟨h.1, h1.2⟩
theorem mayRec_gone {key : ByteArray} {k n : Int} {s : List UInt8} (h : mayRec key true k n (str s) = true) : k = 0 ∧ n = 0 ∧ s = [] := by
  unfold mayRec at h
  rw [Bool.and_eq_true] at h
  have h1 := h.2
  simp only [if_true] at h1
  rw [Bool.and_eq_true, Bool.and_eq_true, beq_iff_eq, beq_iff_eq, ByteArray.toList_eq, List.isEmpty_iff] at h1
  exact ⟨h1.1.1, h1.1.2, by simpa [str] using h1.2⟩
theorem mayRec_val {key : ByteArray} {k n : Int} {s : ByteArray} (h : mayRec key false k n s = true) : mayR k n s = true := by
  unfold mayRec at h
  rw [Bool.and_eq_true] at h
  simpa using h.2

/-- What was written is told again. -/
theorem readB_put (key : List UInt8) (gone : Bool) (k n : Int) (s r : List UInt8) (h : mayRec (str key) gone k n (str s) = true) (h0 : -9223372036854775808 ≤ n) (h1 : n ≤ 9223372036854775807) : readB (recB key gone k n s ++ r) = ((key, gone, k, n, s), (recB key gone k n s).length, 0) := by
  obtain ⟨hk, hk16⟩ := mayRec_key h
  rw [str_size] at hk16
  cases gone with
  | true =>
    obtain ⟨rfl, rfl, rfl⟩ := mayRec_gone h
    have e1 : recB key true 0 0 [] = putT key ++ uvarint (zigzag 0) := rfl
    have t1 := textB_put key (uvarint (zigzag 0) ++ r) (by omega)
    have g1 := getB_put 0 (by omega) (by omega) r
    rw [e1, List.append_assoc, readB_gone t1 hk (m := (uvarint (zigzag 0)).length) (by rw [List.drop_left]; exact g1), List.length_append]
  | false =>
    have hv := mayRec_val h
    have e1 : recB key false k n s = putT key ++ putV k n s := rfl
    have t1 := textB_put key (putV k n s ++ r) (by omega)
    have v1 := valB_put k n s r hv h0 h1
    have hkk : k = 1 ∨ k = 2 := by
      rcases mayR_cases hv with ⟨h, -⟩ | ⟨h, -⟩
      · exact .inl h
      · exact .inr h
    obtain ⟨rest, hr⟩ : ∃ rest, putV k n s ++ r = uvarint (zigzag k) ++ rest := ⟨_, by unfold putV; rw [List.append_assoc]⟩
    have g1 := getB_put k (by omega) (by omega) rest
    rw [← hr] at g1
    rw [e1, List.append_assoc, readB_ok t1 hk (by rw [List.drop_left]; exact g1) (by omega) (by rw [List.drop_left]; exact v1), List.length_append]

theorem recB_inj {key1 : List UInt8} {gone1 : Bool} {k1 n1 : Int} {s1 key2 : List UInt8} {gone2 : Bool} {k2 n2 : Int} {s2 : List UInt8} (h : mayRec (str key1) gone1 k1 n1 (str s1) = true) (h0 : -9223372036854775808 ≤ n1) (h1 : n1 ≤ 9223372036854775807)
    (g : mayRec (str key2) gone2 k2 n2 (str s2) = true) (g0 : -9223372036854775808 ≤ n2) (g1 : n2 ≤ 9223372036854775807) (he : recB key1 gone1 k1 n1 s1 = recB key2 gone2 k2 n2 s2) : (key1, gone1, k1, n1, s1) = (key2, gone2, k2, n2, s2) := by
  have a := readB_put key1 gone1 k1 n1 s1 [] h h0 h1
  have b := readB_put key2 gone2 k2 n2 s2 [] g g0 g1
  rw [he, b] at a
  exact (Prod.mk.inj a).1.symm
theorem putV_len {k n : Int} {s : List UInt8} (h : mayR k n (str s) = true) (h0 : -9223372036854775808 ≤ n) (h1 : n ≤ 9223372036854775807) : 2 ≤ (putV k n s).length ∧ (putV k n s).length ≤ 100 := by
  rcases mayR_cases h with ⟨rfl, rfl⟩ | ⟨rfl, rfl, hs⟩
  · have e1 := Go.Lib.uvarint_length64 (Go.Lib.zigzag_lt (x := 1) (by omega) (by omega))
    have e2 := Go.Lib.uvarint_length64 (Go.Lib.zigzag_lt h0 h1)
    have p1 := Go.Lib.uvarint_pos (zigzag 1)
    have p2 := Go.Lib.uvarint_pos (zigzag n)
    unfold putV
    rw [if_pos rfl, List.length_append]
    omega
  · have e1 := Go.Lib.uvarint_length64 (Go.Lib.zigzag_lt (x := 2) (by omega) (by omega))
    have e2 := Go.Lib.uvarint_length64 (Go.Lib.zigzag_lt (x := (s.length : Int)) (by omega) (by omega))
    have p1 := Go.Lib.uvarint_pos (zigzag 2)
    have p2 := Go.Lib.uvarint_pos (zigzag s.length)
    unfold putV putT
    rw [if_neg (by omega), List.length_append, List.length_append]
    omega
theorem recB_len {key : List UInt8} {gone : Bool} {k n : Int} {s : List UInt8} (h : mayRec (str key) gone k n (str s) = true) (h0 : -9223372036854775808 ≤ n) (h1 : n ≤ 9223372036854775807) : 2 ≤ (recB key gone k n s).length ∧ (recB key gone k n s).length ≤ 200 := by
  obtain ⟨hk, hk16⟩ := mayRec_key h
  rw [str_size] at hk16
  have e2 := Go.Lib.uvarint_length64 (Go.Lib.zigzag_lt (x := (key.length : Int)) (by omega) (by omega))
  have p2 := Go.Lib.uvarint_pos (zigzag key.length)
  unfold recB putT
  rw [List.length_append, List.length_append]
  cases gone with
  | true =>
    have e3 := Go.Lib.uvarint_length64 (Go.Lib.zigzag_lt (x := 0) (by omega) (by omega))
    have p3 := Go.Lib.uvarint_pos (zigzag 0)
    simp only [if_true]
    omega
  | false =>
    have := putV_len (mayRec_val h) h0 h1
    simp only [Bool.false_eq_true, if_false]
    omega
theorem gone_less {key : List UInt8} {k n : Int} {s : List UInt8} (h : mayRec (str key) false k n (str s) = true) (h0 : -9223372036854775808 ≤ n) (h1 : n ≤ 9223372036854775807) : (recB key true 0 0 []).length < (recB key false k n s).length := by
  have hv := putV_len (mayRec_val h) h0 h1
  have e3 := Go.Lib.uvarint_length 0 (zigzag 0) (by simp [zigzag])
  unfold recB
  rw [List.length_append, List.length_append]
  simp only [if_true, Bool.false_eq_true, if_false]
  omega

end Go.Proofs.Ytafpbhkddodjoaa
