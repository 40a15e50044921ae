/-
  Package dir: contract of Encode.
-/
import Derived.Test.YteickihofbkbkaaEntMay
namespace Go.Proofs.Yteickihofbkbkaa
open Go.RowKit

theorem encode_no (v : Value) (l : List EntT) (w : World) (hv : RE w v l) (hm : mayL l = false) :
    Calls Try.prog 10 #[v] w fun e w' => e = .returned (.slice none 0 0) ∧ Below w.heap.size w w' := by
  have C := may_c v l w hv
  rw [hm] at C
  have C := Go.Lib.hid C
  obtain ⟨a, cap, rfl, -⟩ := hv.form
  go_enter Try.func10, Try.ntmps10
  go_wp2_with fail
  refine C.out.mono ?_
  rintro e w1 ⟨rfl, hb⟩
  have HB := Go.Lib.hid hb; clear hb
  go_wp2_with fail
  go_ret
  exact ⟨rfl, HB.out⟩

theorem entP_bound {l : List EntT} (h : MayL l) (k : Nat) : (numP (l.length : Int) ++ rowP (l.take k)).length ≤ 3000000 := by
  have h1 := h.1
  have e1 := (numP_len (l.length : Int) (by omega) (by omega)).1
  have e2 := rowP_len (l.take k) (fun x hx => by
    obtain ⟨i, hi, rfl⟩ := List.mem_iff_getElem.1 (List.mem_of_mem_take hx)
    obtain ⟨_, hm, _⟩ := h.2 i hi
    exact putE_of hm)
  have e3 : (l.take k).length ≤ 32 := by rw [List.length_take]; omega
  rw [List.length_append]
  omega

theorem below_to {B : Nat} {w w1 w2 : World} (h : Below B w w1) (hB : B ≤ w.heap.size) (h2 : Below w1.heap.size w1 w2) : Below B w w2 := h.trans (h2.mono (Nat.le_trans hB h.size))

set_option maxHeartbeats 1000000 in
set_option maxRecDepth 100000 in
theorem encode_c (v : Value) (l : List EntT) (w : World) (hv : RE w v l) (hm : mayL l = true) :
    Calls Try.prog 10 #[v] w fun e w' => ∃ v', e = .returned v' ∧ Own 5 w' w.heap.size v' (lstB l) ∧ Below w.heap.size w w' := by
  have C := may_c v l w hv
  rw [hm] at C
  have C := Go.Lib.hid C
  have hml := mayL_iff.1 hm
  obtain ⟨a, cap, rfl, hlen⟩ := hv.form
  have HV := Go.Lib.hid hv; clear hv
  have HM := Go.Lib.hid hml
  have hl32 := hml.1
  clear hm hml
  go_enter Try.func10, Try.ntmps10
  go_wp2_with fail
  refine C.out.mono ?_
  rintro e w1 ⟨rfl, hb⟩
  have HB := Go.Lib.hid hb; clear hb C
  go_wp2_with fail
  refine (put_c (.slice none 0 0) [] (l.length : Int) w1 (RB.nil _) (by omega) (by omega) (by simp)).mono ?_
  rintro e w2 ⟨v2, rfl, hown2, hb2⟩
  have HB2 := Go.Lib.hid (below_to HB.out (Nat.le_refl _) hb2)
  have HO := Go.Lib.hid (hown2.mono HB.out.size)
  clear hown2 hb2 HB
  go_wp2_with fail
  go_loopw [3, 14] (fun bv i wr => ∃ (k : Nat) (u : Value), u = bv ∧ k ≤ l.length ∧ i = .int .i64 (k : Int) ∧ Own 5 wr w.heap.size u (numP (l.length : Int) ++ rowP (l.take k)) ∧ Below w.heap.size w wr) (fun _ i _ => l.length - (intOf i).toNat)
  case atStart => exact ⟨0, _, rfl, by omega, rfl, by simpa [rowP, numP] using HO.out, HB2.out⟩
  case round =>
    obtain ⟨k, u, rfl, hk, rfl, hown, hbc⟩ := hrel
    by_cases hlt : k < l.length
    · obtain ⟨b, o, rfl, -, hbs, c0, c1, c2, c3⟩ := (HV.out.below hbc).at k hlt
      have hP := entP_bound HM.out k
      have hsn : numP (l.length : Int) ++ rowP (l.take k) ++ entP l[k] = numP (l.length : Int) ++ rowP (l.take (k + 1)) := by rw [List.take_succ_eq_append_getElem hlt, rowP_snoc, List.append_assoc]
      have hme : mayE l[k] := by obtain ⟨_, hm, _⟩ := HM.out.2 k hlt; exact hm
      generalize hx : l[k] = x at *
      obtain ⟨nm, en, ea, es⟩ := x
      obtain ⟨m0, m1, m2, m3, m4, m5, m6, -⟩ := hme
      simp only [] at c0 c1 c2 c3 m0 m1 m2 m3 m4 m5 m6
      generalize numP (l.length : Int) ++ rowP (l.take k) = P at *
      have Hsn := Go.Lib.hid hsn
      have Hlt := Go.Lib.hid hlt
      have hnew := heap_alloc_new wr (.cells #[.string nm, .int .i64 en, .int .i64 ea, .int .i64 es] 32)
      have hbn := newB wr (.cells #[.string nm, .int .i64 en, .int .i64 ea, .int .i64 es] 32)
      have hbb := below_to hbc (Nat.le_refl _) hbn
      have hA := hnew
      have hrb := hown.rb.below hbn
      have h1 : P.length + nm.size + 10 ≤ 140737488355328 := by omega
      have h2 : nm.size ≤ 20 := m1
      have h3 : -9223372036854775808 ≤ es ∧ es ≤ 9223372036854775807 := by omega
      have HP := Go.Lib.hid hP
      have pt := Go.Lib.hid (show (putT nm.data.toList).length ≤ 10 + nm.size by
        have := Go.Lib.uvarint_length64 (Go.Lib.zigzag_lt (x := (nm.size : Int)) (by omega) (by omega))
        unfold putT
        rw [List.length_append, ← Go.Lib.size_eq]
        omega)
      have pn := Go.Lib.hid (show (Go.Lib.uvarint (Go.Lib.zigzag en)).length ≤ 10 from Go.Lib.uvarint_length64 (Go.Lib.zigzag_lt (by omega) (by omega)))
      have pa := Go.Lib.hid (show (Go.Lib.uvarint (Go.Lib.zigzag ea)).length ≤ 10 from Go.Lib.uvarint_length64 (Go.Lib.zigzag_lt (by omega) (by omega)))
      have HA := Go.Lib.hid hA
      have HBB := Go.Lib.hid hbb
      have HRB := Go.Lib.hid hrb
      have H1 := Go.Lib.hid h1
      have H2 := Go.Lib.hid h2
      have H3 := Go.Lib.hid h3
      have H4 := Go.Lib.hid (And.intro m2 m3)
      have H5 := Go.Lib.hid (And.intro m5 m6)
      clear hx hsn hnew hbn hbb hA hrb hown hP h1 h2 h3 m0 m1 m2 m3 m4 m5 m6 hbc hlt
      go_wp2_with fail
      clear c0 c1 c2 c3
      refine (putText_c _ _ nm _ HRB.out H1.out).mono ?_
      rintro e w3 ⟨v3, rfl, hown3, hb3⟩
      have HA3 := Go.Lib.hid (keptR HA.out hb3)
      have HBB3 := Go.Lib.hid (below_to HBB.out (Nat.le_refl _) hb3)
      have HO3 := Go.Lib.hid hown3
      have HRB3 := Go.Lib.hid hown3.rb
      clear hb3 hown3
      obtain ⟨y0, y1, y2, y3⟩ := row4 HA3.out
      go_wp2_with fail
      clear y0 y1 y2 y3
      refine (put_c _ _ en _ HRB3.out (by have := H4.out; omega) (by have := H4.out; omega) (by have := HP.out; have := pt.out; have := H2.out; simp only [List.length_append]; omega)).mono ?_
      rintro e w4 ⟨v4, rfl, hown4, hb4⟩
      have HA4 := Go.Lib.hid (keptR HA3.out hb4)
      have HBB4 := Go.Lib.hid (below_to HBB3.out (Nat.le_refl _) hb4)
      have HO4 := Go.Lib.hid hown4
      have HRB4 := Go.Lib.hid hown4.rb
      clear hb4 hown4
      obtain ⟨y0, y1, y2, y3⟩ := row4 HA4.out
      go_wp2_with fail
      clear y0 y1 y2 y3
      refine (put_c _ _ ea _ HRB4.out (by have := H5.out; omega) (by have := H5.out; omega) (by have := HP.out; have := pt.out; have := H2.out; have := pn.out; simp only [List.length_append]; omega)).mono ?_
      rintro e w5 ⟨v5, rfl, hown5, hb5⟩
      have HA5 := Go.Lib.hid (keptR HA4.out hb5)
      have HBB5 := Go.Lib.hid (below_to HBB4.out (Nat.le_refl _) hb5)
      have HO5 := Go.Lib.hid hown5
      have HRB5 := Go.Lib.hid hown5.rb
      clear hb5 hown5
      obtain ⟨y0, y1, y2, y3⟩ := row4 HA5.out
      go_wp2_with fail
      clear y0 y1 y2 y3
      refine (put_c _ _ es _ HRB5.out H3.out.1 H3.out.2 (by have := HP.out; have := pt.out; have := H2.out; have := pn.out; have := pa.out; simp only [List.length_append]; omega)).mono ?_
      rintro e w6 ⟨v6, rfl, hown6, hb6⟩
      have HA6 := Go.Lib.hid (keptR HA5.out hb6)
      have HBB6 := Go.Lib.hid (below_to HBB5.out (Nat.le_refl _) hb6)
      have HO6 := Go.Lib.hid hown6
      have HRB6 := Go.Lib.hid hown6.rb
      clear hb6 hown6
      have hfin : Own 5 w6 w.heap.size v6 (numP (l.length : Int) ++ rowP (l.take (k + 1))) := by
        rw [← Hsn.out]
        have := HO6.out.mono HBB5.out.size
        simp only [List.append_assoc] at this ⊢
        exact this
      have HF := Go.Lib.hid hfin
      clear hfin HA HA3 HA4 HA5 HA6 HO3 HO4 HO5 HO6
      go_wp2_with fail
      go_roundw
      case rel => exact ⟨k + 1, _, rfl, by have := Hlt.out; omega, by go_num, HF.out, HBB6.out⟩
      case measure => simp only [intOf]; have := Hlt.out; omega
    · obtain rfl : k = l.length := by omega
      rw [List.take_of_length_le (Nat.le_refl _)] at hown
      have HO := Go.Lib.hid hown
      have HB := Go.Lib.hid hbc
      clear hown hbc
      go_wp2_with fail
      go_ret
      exact ⟨_, rfl, HO.out, HB.out⟩

end Go.Proofs.Yteickihofbkbkaa
