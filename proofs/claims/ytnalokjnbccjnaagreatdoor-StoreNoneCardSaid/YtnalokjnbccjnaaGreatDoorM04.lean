/-
  Package dir: contract of Decode.
  Package dir: contract of Encode.
  Contracts of crc's Sum and More.
  The contracts of store's sectors, row, encode, headOf, filesOf.
  Package dir: contracts of slices.IndexFunc over entries, of Find.
  Slices of files to be written; a sort's row of any cells.
  Files to be written, sorted by their lengths (twenty at most), files sorted by their names.
  Files of one length: symMerge, and the stable sort of more than twenty, leave them as they are.
-/
import Derived.Test.YtnalokjnbccjnaaGreatDoorM03
import Derived.Test.YtnalokjnbccjnaaGreatDoorM02
import Derived.Lib.LaidTab
import Derived.Laws.BitsAllLaws
import Derived.Deep.QuietTactic
import Derived.LoopTactic
import Derived.Shelf.Abstract
import Derived.Shelf.SlSortCmp.WholeK
import Derived.Shelf.SlSortCmp.NoneTotal
import Derived.Shelf.SlGeneric
import Derived.Ground.SlsfProg
namespace Go.Proofs.YtnalokjnbccjnaaGreatDoor
open Go.RowKit

def DecQ (b : List UInt8) (w : World) (e : Ending) (w' : World) : Prop :=
  (decB b = none ∧ e = .returned (.tuple #[.slice none 0 0, .int .i64 8])) ∨ ∃ l v', decB b = some l ∧ e = .returned (.tuple #[v', .int .i64 0]) ∧ OwnE w' w.heap.size v' l

theorem decB_bad {b : List UInt8} (h : hdN b < 0 ∨ 32 < hdN b) : decB b = none := by unfold decB; rw [if_pos h]
theorem decB_of {b : List UInt8} {N : Nat} {L : List EntT} {l2 : List UInt8} {b2 : Bool} (hN : hdN b = (N : Int)) (h32 : N ≤ 32) (hs : seqR N (hdS b) = (L, l2, b2)) :
    decB b = if b2 = true ∨ l2 ≠ [] ∨ mayL L = false then none else some L := by
  unfold decB
  rw [if_neg (by omega), hN]
  simp only [Int.toNat_natCast, hs]

set_option maxHeartbeats 2000000 in
set_option maxRecDepth 100000 in
theorem decode_any (v : Value) (b : List UInt8) (w : World) (hv : RB w v b) :
    Calls Tryz.prog 93 #[v] w fun e w' => DecQ b w e w' ∧ Below w.heap.size w w' := by
  have hv0 := hv
  obtain ⟨a, c, rfl, g1, g2, g3, g4⟩ := hv
  have hnew := heap_alloc_new w (.cells #[.slice a b.length c, .bool false] 186)
  have hb1 := newB w (.cells #[.slice a b.length c, .bool false] 186)
  have hrd : RD (w.alloc (.cells #[.slice a b.length c, .bool false] 186)) w.heap.size b false := by
    refine ⟨a, b.length, c, hnew, hv0.below hb1, fun hl k hk => ?_⟩
    obtain ⟨q, o, rfl, hc⟩ := g4 hl
    cases hk
    exact World.block_lt_of_cell? w _ (hc 0 (List.length_pos_iff.2 hl))
  have hn := rdnum_c hrd
  have e1 : numR (b, false) = (hdN b, (hdS b).1, (hdS b).2) := rfl
  rw [e1] at hn
  simp only [] at hn
  have HC := Go.Lib.hid hn
  have HB1 := Go.Lib.hid hb1
  clear hn e1 hrd hnew hb1 g1 g3 g4 hv0
  by_cases hbad : hdN b < 0 ∨ 32 < hdN b
  · have K := Go.Lib.hid (decB_bad hbad)
    generalize hdN b = n at *
    by_cases hneg : n < 0
    · clear hbad
      go_enter Tryz.func93, Tryz.ntmps93
      go_wp2_with fail
      refine HC.out.mono ?_
      rintro e w1 ⟨rfl, -, hb⟩
      have HB := Go.Lib.hid (hb.below (Nat.le_refl _) HB1.out.size)
      clear hb HC
      go_wp2_with fail
      go_ret2
      exact ⟨.inl ⟨K.out, rfl⟩, HB1.out.trans HB.out⟩
    · have hbig : 32 < n := by omega
      clear hbad
      go_enter Tryz.func93, Tryz.ntmps93
      go_wp2_with fail
      refine HC.out.mono ?_
      rintro e w1 ⟨rfl, -, hb⟩
      have HB := Go.Lib.hid (hb.below (Nat.le_refl _) HB1.out.size)
      clear hb HC
      go_wp2_with fail
      go_ret2
      exact ⟨.inl ⟨K.out, rfl⟩, HB1.out.trans HB.out⟩
  · obtain ⟨N, hN⟩ : ∃ N : Nat, hdN b = (N : Int) := ⟨(hdN b).toNat, by omega⟩
    have hN32 : N ≤ 32 := by omega
    have HD := Go.Lib.hid (fun L l2 b2 => decB_of (L := L) (l2 := l2) (b2 := b2) hN hN32)
    rw [hN] at HC
    have hN0 : ¬ (N : Int) < 0 := by omega
    have hN1 : ¬ (32 : Int) < (N : Int) := by omega
    clear hbad hN
    go_enter Tryz.func93, Tryz.ntmps93
    go_wp2_with fail
    refine HC.out.mono ?_
    rintro e w1 ⟨rfl, hr, hb⟩
    have hlt := hr.lt
    have HB := Go.Lib.hid (HB1.out.trans (hb.below (Nat.le_refl _) HB1.out.size))
    have HR := Go.Lib.hid hr
    have HLT := Go.Lib.hid hlt
    clear hb HC hr HB1 hlt
    go_wp2_with (first
      | (with_reducible show wpList _ _ _ (⟨some 17, _, _, _, _, _⟩ :: _) _ _; go_loud (refine wpList_make_ents rfl (.const (.int .i64 0)) (.tmp 16) rfl .i64 _ N rfl rfl rfl (by omega) ?_); intro v2 w2 hown2 hg2)
      | fail)
    have HB2 := Go.Lib.hid (HB.out.grown hg2 HB.out.size (fun k hk => by cases hk))
    have hown3 : OwnE w2 (w.heap.size + 1) v2 (seqR 0 (hdS b)).1 := hown2.mono HLT.out
    have hr3 : RD w2 w.heap.size (seqR 0 (hdS b)).2.1 (seqR 0 (hdS b)).2.2 := HR.out.below (grown_below hg2 (Nat.le_refl _) (fun k hk => by cases hk))
    have HO3 := Go.Lib.hid hown3
    have HR3 := Go.Lib.hid hr3
    clear hown2 hg2 hown3 hr3 HB HR HLT
    go_loopw [6, 19] (fun sv i wr => ∃ (k : Nat) (u : Value), u = sv ∧ k ≤ N ∧ i = .int .i64 (k : Int) ∧ OwnE wr (w.heap.size + 1) u (seqR k (hdS b)).1 ∧ RD wr w.heap.size (seqR k (hdS b)).2.1 (seqR k (hdS b)).2.2 ∧ Below w.heap.size w wr) (fun _ i _ => N - (intOf i).toNat)
    case atStart => exact ⟨0, _, rfl, by omega, rfl, HO3.out, HR3.out, HB2.out⟩
    case round =>
      obtain ⟨k, u, rfl, hk, rfl, hown, hr, hbc⟩ := hrel
      by_cases hlt : k < N
      · have hsz : w.heap.size + 1 ≤ wr.heap.size := hr.lt
        have hen := rdentry_c hr
        have hlen : (seqR k (hdS b)).1.length = k := seqR_len _ _
        obtain ⟨x, hx⟩ : ∃ x, x = (entR (seqR k (hdS b)).2).1 := ⟨_, rfl⟩
        have e1 : (seqR (k + 1) (hdS b)).1 = (seqR k (hdS b)).1 ++ [x] := by rw [hx]; rfl
        have e2 : (seqR (k + 1) (hdS b)).2 = (entR ((seqR k (hdS b)).2.1, (seqR k (hdS b)).2.2)).2 := rfl
        have e3 : entR ((seqR k (hdS b)).2.1, (seqR k (hdS b)).2.2) = entR (seqR k (hdS b)).2 := rfl
        rw [← e2, e3, ← hx] at hen
        have HE1 := Go.Lib.hid e1
        have HEN := Go.Lib.hid hen
        have HOWN := Go.Lib.hid hown
        have HBC := Go.Lib.hid hbc
        have HSZ := Go.Lib.hid hsz
        have HLEN := Go.Lib.hid hlen
        have Hlt := Go.Lib.hid hlt
        have hltI : (k : Int) < (N : Int) := by omega
        clear hx e1 e2 e3 hen hown hr hbc hsz hlen hlt
        go_wp2_with fail
        refine HEN.out.mono ?_
        rintro e w4 ⟨nm, en, ea, es, hx, rfl, hr4, ho4⟩
        have hown4 := HOWN.out.same (w' := w4) (fun q cs fr hq hB => ho4.block q (Array.getElem?_eq_some_iff.1 hq).1 (by omega))
        have hbn := newB w4 (entO nm en ea es)
        have hone := RE.one w4 nm en ea es
        rw [← hx] at hone
        have HB5 := Go.Lib.hid ((HBC.out.trans (ho4.below (Nat.le_refl _) (by have := HSZ.out; omega))).trans (hbn.mono (by have := HSZ.out; have := ho4.size; omega)))
        have HO5 := Go.Lib.hid (hown4.below hbn)
        have HR5 := Go.Lib.hid (hr4.below hbn)
        have HS5 := Go.Lib.hid (show w.heap.size + 1 ≤ (w4.alloc (entO nm en ea es)).heap.size by have := HSZ.out; have := ho4.size; have := hbn.size; omega)
        have HX := Go.Lib.hid hone
        unfold entO at HB5 HO5 HR5 HS5 HX
        have HL5 := Go.Lib.hid (show (seqR k (hdS b)).1.length + [x].length ≤ 1000000 by rw [HLEN.out]; have := Hlt.out; simp; omega)
        clear HEN HOWN HBC HSZ hx hr4 ho4 hown4 hbn hone
        unfold entV
        go_wp2_with (first
          | (with_reducible show wpList _ _ _ (⟨some 24, _, _, _, _, _⟩ :: _) _ _; go_loud (refine wpList_append_ents rfl (.tmp 21) (.tmp 23) rfl (w.heap.size + 1) u (.slice (some ⟨w4.heap.size, 0, none⟩) 1 1) (seqR k (hdS b)).1 [x] rfl rfl HO5.out HX.out HL5.out HS5.out ?_); intro v6 w6 hown6 hg6)
          | fail)
        rw [← HE1.out] at hown6
        have hb6 := grown_below hg6 HS5.out HO5.out.row
        have HR6 := Go.Lib.hid (HR5.out.above hb6)
        have HB6 := Go.Lib.hid (HB5.out.grown hg6 HB5.out.size (fun q hq => by have := HO5.out.row q hq; omega))
        have HO6 := Go.Lib.hid hown6
        clear hown6 hg6 hb6 HR5 HB5 HO5 HS5 HX HL5
        go_roundw
        case rel => exact ⟨k + 1, _, rfl, by have := Hlt.out; omega, by go_num, HO6.out, HR6.out, HB6.out⟩
        case measure => simp only [intOf]; have := Hlt.out; omega
      · obtain rfl : k = N := by omega
        rcases hs : seqR k (hdS b) with ⟨L, l2, b2⟩
        rw [hs] at hown hr
        simp only [] at hown hr
        have HD2 := Go.Lib.hid (HD.out L l2 b2 hs)
        obtain ⟨ra, rn, rc, hrow, hrb, -⟩ := hr
        obtain ⟨hrn, hrl, hrc⟩ := hrb.len
        subst hrn
        have y0 := cell_of_row wr w.heap.size 0 _ _ _ hrow
        have y1 := cell_of_row wr w.heap.size 1 _ _ _ hrow
        simp only [List.getElem?_toArray, List.getElem?_cons_zero, List.getElem?_cons_succ] at y0 y1
        have HB := Go.Lib.hid hbc
        have hlb : l2.length ≤ 9223372036854775807 := by unfold maxLen at hrc; omega
        clear hrl hrc hrb hrow hs hk hlt HD hbc
        cases b2 with
        | true =>
          have K := Go.Lib.hid (show decB b = none by rw [HD2.out, if_pos (.inl rfl)])
          clear HD2 hown
          go_wp2_with fail
          go_ret2
          exact ⟨.inl ⟨K.out, rfl⟩, HB.out⟩
        | false =>
          by_cases hl2 : l2 = []
          · subst hl2
            have CM := may_c u L wr hown.re
            have HOW := Go.Lib.hid (hown.mono (show w.heap.size ≤ w.heap.size + 1 by omega))
            cases hm : mayL L with
            | false =>
              have K := Go.Lib.hid (show decB b = none by rw [HD2.out, if_pos (.inr (.inr hm))])
              rw [hm] at CM
              have CM2 := Go.Lib.hid CM
              clear HD2 hown CM hm
              go_wp2_with fail
              refine CM2.out.mono ?_
              rintro e w7 ⟨rfl, hb7⟩
              have HB7 := Go.Lib.hid (HB.out.trans (hb7.mono HB.out.size))
              clear hb7 CM2
              go_wp2_with fail
              go_ret2
              exact ⟨.inl ⟨K.out, rfl⟩, HB7.out⟩
            | true =>
              have K := Go.Lib.hid (show decB b = some L by rw [HD2.out, if_neg (by simp [hm])])
              rw [hm] at CM
              have CM2 := Go.Lib.hid CM
              clear HD2 hown CM hm
              go_wp2_with fail
              refine CM2.out.mono ?_
              rintro e w7 ⟨rfl, hb7⟩
              have HB7 := Go.Lib.hid (HB.out.trans (hb7.mono HB.out.size))
              have HO7 := Go.Lib.hid (HOW.out.below hb7)
              clear hb7 CM2
              go_wp2_with fail
              go_ret2
              exact ⟨.inr ⟨_, _, K.out, rfl, HO7.out⟩, HB7.out⟩
          · have K := Go.Lib.hid (show decB b = none by rw [HD2.out, if_pos (.inr (.inl hl2))])
            have hpos : (0 : Int) < (l2.length : Int) := by have := List.length_pos_iff.2 hl2; omega
            clear HD2 hown hl2
            generalize l2.length = q at *
            have hq : 0 < q := by omega
            go_wp2_with fail
            go_ret2
            exact ⟨.inl ⟨K.out, rfl⟩, HB.out⟩

theorem decode_no {v : Value} {b : List UInt8} {w : World} (hv : RB w v b) (h : decB b = none) :
    Calls Tryz.prog 93 #[v] w fun e w' => e = .returned (.tuple #[.slice none 0 0, .int .i64 8]) ∧ Below w.heap.size w w' :=
  (decode_any v b w hv).mono fun e w' ⟨hq, hb⟩ => by
    rcases hq with ⟨-, he⟩ | ⟨l, v', hd, -⟩
    · exact ⟨he, hb⟩
    · rw [h] at hd; cases hd
theorem decode_c {v : Value} {b : List UInt8} {w : World} {l : List EntT} (hv : RB w v b) (h : decB b = some l) :
    Calls Tryz.prog 93 #[v] w fun e w' => ∃ v', e = .returned (.tuple #[v', .int .i64 0]) ∧ OwnE w' w.heap.size v' l ∧ Below w.heap.size w w' :=
  (decode_any v b w hv).mono fun e w' ⟨hq, hb⟩ => by
    rcases hq with ⟨hn, -⟩ | ⟨l', v', hd, he, ho⟩
    · rw [h] at hn; cases hn
    · rw [h] at hd; cases hd; exact ⟨v', he, ho, hb⟩

end Go.Proofs.YtnalokjnbccjnaaGreatDoor

namespace Go.Proofs.YtnalokjnbccjnaaGreatDoor
open Go.RowKit

theorem encode_no (v : Value) (l : List EntT) (w : World) (hv : RE w v l) (hm : mayL l = false) :
    Calls Tryz.prog 58 #[v] w fun e w' => e = .returned (.slice none 0 0) ∧ Below w.heap.size w w' := by
  have C := may_c v l w hv
  rw [hm] at C
  have C := Go.Lib.hid C
  obtain ⟨a, cap, rfl, -⟩ := hv.form
  go_enter Tryz.func58, Tryz.ntmps58
  go_wp2_with fail
  refine C.out.mono ?_
  rintro e w1 ⟨rfl, hb⟩
  have HB := Go.Lib.hid hb; clear hb
  go_wp2_with fail
  go_ret
  exact ⟨rfl, HB.out⟩

theorem entP_bound {l : List EntT} (h : MayL l) (k : Nat) : (numP (l.length : Int) ++ rowP (l.take k)).length ≤ 3000000 := by
  have h1 := h.1
  have e1 := (numP_len (l.length : Int) (by omega) (by omega)).1
  have e2 := rowP_len (l.take k) (fun x hx => by
    obtain ⟨i, hi, rfl⟩ := List.mem_iff_getElem.1 (List.mem_of_mem_take hx)
    obtain ⟨_, hm, _⟩ := h.2 i hi
    exact putE_of hm)
  have e3 : (l.take k).length ≤ 32 := by rw [List.length_take]; omega
  rw [List.length_append]
  omega

theorem below_to {B : Nat} {w w1 w2 : World} (h : Below B w w1) (hB : B ≤ w.heap.size) (h2 : Below w1.heap.size w1 w2) : Below B w w2 := h.trans (h2.mono (Nat.le_trans hB h.size))

set_option maxHeartbeats 1000000 in
set_option maxRecDepth 100000 in
theorem encode_c (v : Value) (l : List EntT) (w : World) (hv : RE w v l) (hm : mayL l = true) :
    Calls Tryz.prog 58 #[v] w fun e w' => ∃ v', e = .returned v' ∧ Own 5 w' w.heap.size v' (lstB l) ∧ Below w.heap.size w w' := by
  have C := may_c v l w hv
  rw [hm] at C
  have C := Go.Lib.hid C
  have hml := mayL_iff.1 hm
  obtain ⟨a, cap, rfl, hlen⟩ := hv.form
  have HV := Go.Lib.hid hv; clear hv
  have HM := Go.Lib.hid hml
  have hl32 := hml.1
  clear hm hml
  go_enter Tryz.func58, Tryz.ntmps58
  go_wp2_with fail
  refine C.out.mono ?_
  rintro e w1 ⟨rfl, hb⟩
  have HB := Go.Lib.hid hb; clear hb C
  go_wp2_with fail
  refine (put_c (.slice none 0 0) [] (l.length : Int) w1 (RB.nil _) (by omega) (by omega) (by simp)).mono ?_
  rintro e w2 ⟨v2, rfl, hown2, hb2⟩
  have HB2 := Go.Lib.hid (below_to HB.out (Nat.le_refl _) hb2)
  have HO := Go.Lib.hid (hown2.mono HB.out.size)
  clear hown2 hb2 HB
  go_wp2_with fail
  go_loopw [3, 14] (fun bv i wr => ∃ (k : Nat) (u : Value), u = bv ∧ k ≤ l.length ∧ i = .int .i64 (k : Int) ∧ Own 5 wr w.heap.size u (numP (l.length : Int) ++ rowP (l.take k)) ∧ Below w.heap.size w wr) (fun _ i _ => l.length - (intOf i).toNat)
  case atStart => exact ⟨0, _, rfl, by omega, rfl, by simpa [rowP, numP] using HO.out, HB2.out⟩
  case round =>
    obtain ⟨k, u, rfl, hk, rfl, hown, hbc⟩ := hrel
    by_cases hlt : k < l.length
    · obtain ⟨b, o, rfl, -, hbs, c0, c1, c2, c3⟩ := (HV.out.below hbc).at k hlt
      have hP := entP_bound HM.out k
      have hsn : numP (l.length : Int) ++ rowP (l.take k) ++ entP l[k] = numP (l.length : Int) ++ rowP (l.take (k + 1)) := by rw [List.take_succ_eq_append_getElem hlt, rowP_snoc, List.append_assoc]
      have hme : mayE l[k] := by obtain ⟨_, hm, _⟩ := HM.out.2 k hlt; exact hm
      generalize hx : l[k] = x at *
      obtain ⟨nm, en, ea, es⟩ := x
      obtain ⟨m0, m1, m2, m3, m4, m5, m6, -⟩ := hme
      simp only [] at c0 c1 c2 c3 m0 m1 m2 m3 m4 m5 m6
      generalize numP (l.length : Int) ++ rowP (l.take k) = P at *
      have Hsn := Go.Lib.hid hsn
      have Hlt := Go.Lib.hid hlt
      have hnew := heap_alloc_new wr (.cells #[.string nm, .int .i64 en, .int .i64 ea, .int .i64 es] 98)
      have hbn := newB wr (.cells #[.string nm, .int .i64 en, .int .i64 ea, .int .i64 es] 98)
      have hbb := below_to hbc (Nat.le_refl _) hbn
      have hA := hnew
      have hrb := hown.rb.below hbn
      have h1 : P.length + nm.size + 10 ≤ 140737488355328 := by omega
      have h2 : nm.size ≤ 20 := m1
      have h3 : -9223372036854775808 ≤ es ∧ es ≤ 9223372036854775807 := by omega
      have HP := Go.Lib.hid hP
      have pt := Go.Lib.hid (show (putT nm.data.toList).length ≤ 10 + nm.size by
        have := Go.Lib.uvarint_length64 (Go.Lib.zigzag_lt (x := (nm.size : Int)) (by omega) (by omega))
        unfold putT
        rw [List.length_append, ← Go.Lib.size_eq]
        omega)
      have pn := Go.Lib.hid (show (Go.Lib.uvarint (Go.Lib.zigzag en)).length ≤ 10 from Go.Lib.uvarint_length64 (Go.Lib.zigzag_lt (by omega) (by omega)))
      have pa := Go.Lib.hid (show (Go.Lib.uvarint (Go.Lib.zigzag ea)).length ≤ 10 from Go.Lib.uvarint_length64 (Go.Lib.zigzag_lt (by omega) (by omega)))
      have HA := Go.Lib.hid hA
      have HBB := Go.Lib.hid hbb
      have HRB := Go.Lib.hid hrb
      have H1 := Go.Lib.hid h1
      have H2 := Go.Lib.hid h2
      have H3 := Go.Lib.hid h3
      have H4 := Go.Lib.hid (And.intro m2 m3)
      have H5 := Go.Lib.hid (And.intro m5 m6)
      clear hx hsn hnew hbn hbb hA hrb hown hP h1 h2 h3 m0 m1 m2 m3 m4 m5 m6 hbc hlt
      go_wp2_with fail
      clear c0 c1 c2 c3
      refine (putText_c _ _ nm _ HRB.out H1.out).mono ?_
      rintro e w3 ⟨v3, rfl, hown3, hb3⟩
      have HA3 := Go.Lib.hid (keptR HA.out hb3)
      have HBB3 := Go.Lib.hid (below_to HBB.out (Nat.le_refl _) hb3)
      have HO3 := Go.Lib.hid hown3
      have HRB3 := Go.Lib.hid hown3.rb
      clear hb3 hown3
      obtain ⟨y0, y1, y2, y3⟩ := row4 HA3.out
      go_wp2_with fail
      clear y0 y1 y2 y3
      refine (put_c _ _ en _ HRB3.out (by have := H4.out; omega) (by have := H4.out; omega) (by have := HP.out; have := pt.out; have := H2.out; simp only [List.length_append]; omega)).mono ?_
      rintro e w4 ⟨v4, rfl, hown4, hb4⟩
      have HA4 := Go.Lib.hid (keptR HA3.out hb4)
      have HBB4 := Go.Lib.hid (below_to HBB3.out (Nat.le_refl _) hb4)
      have HO4 := Go.Lib.hid hown4
      have HRB4 := Go.Lib.hid hown4.rb
      clear hb4 hown4
      obtain ⟨y0, y1, y2, y3⟩ := row4 HA4.out
      go_wp2_with fail
      clear y0 y1 y2 y3
      refine (put_c _ _ ea _ HRB4.out (by have := H5.out; omega) (by have := H5.out; omega) (by have := HP.out; have := pt.out; have := H2.out; have := pn.out; simp only [List.length_append]; omega)).mono ?_
      rintro e w5 ⟨v5, rfl, hown5, hb5⟩
      have HA5 := Go.Lib.hid (keptR HA4.out hb5)
      have HBB5 := Go.Lib.hid (below_to HBB4.out (Nat.le_refl _) hb5)
      have HO5 := Go.Lib.hid hown5
      have HRB5 := Go.Lib.hid hown5.rb
      clear hb5 hown5
      obtain ⟨y0, y1, y2, y3⟩ := row4 HA5.out
      go_wp2_with fail
      clear y0 y1 y2 y3
      refine (put_c _ _ es _ HRB5.out H3.out.1 H3.out.2 (by have := HP.out; have := pt.out; have := H2.out; have := pn.out; have := pa.out; simp only [List.length_append]; omega)).mono ?_
      rintro e w6 ⟨v6, rfl, hown6, hb6⟩
      have HA6 := Go.Lib.hid (keptR HA5.out hb6)
      have HBB6 := Go.Lib.hid (below_to HBB5.out (Nat.le_refl _) hb6)
      have HO6 := Go.Lib.hid hown6
      have HRB6 := Go.Lib.hid hown6.rb
      clear hb6 hown6
      have hfin : Own 5 w6 w.heap.size v6 (numP (l.length : Int) ++ rowP (l.take (k + 1))) := by
        rw [← Hsn.out]
        have := HO6.out.mono HBB5.out.size
        simp only [List.append_assoc] at this ⊢
        exact this
      have HF := Go.Lib.hid hfin
      clear hfin HA HA3 HA4 HA5 HA6 HO3 HO4 HO5 HO6
      go_wp2_with fail
      go_roundw
      case rel => exact ⟨k + 1, _, rfl, by have := Hlt.out; omega, by go_num, HF.out, HBB6.out⟩
      case measure => simp only [intOf]; have := Hlt.out; omega
    · obtain rfl : k = l.length := by omega
      rw [List.take_of_length_le (Nat.le_refl _)] at hown
      have HO := Go.Lib.hid hown
      have HB := Go.Lib.hid hbc
      clear hown hbc
      go_wp2_with fail
      go_ret
      exact ⟨_, rfl, HO.out, HB.out⟩

end Go.Proofs.YtnalokjnbccjnaaGreatDoor

namespace Go.Proofs.YtnalokjnbccjnaaGreatDoor
open Go.RowKit

theorem gNib : Tryz.prog.globalNamed "loess/crc.byNibble" = some 0 := by kernel_rfl

/-- The table lies as the text lays it. -/
def Tab (w : World) : Prop := ∀ i, i < 16 → w.cell? ⟨0, i, none⟩ = some (.int .u32 (nibTab.getD i 0))

theorem Tab.of {w : World} (h : Lib.TabIs Tryz.prog w "loess/crc.byNibble" .u32 nibTab) : Tab w := fun i hi => Lib.TabIs.cell h gNib i hi

theorem Tab.below {w w' : World} (h : Tab w) (hb : Below w.heap.size w w') : Tab w' := fun i hi => (hb.cell (World.block_lt_of_cell? w _ (h i hi))).trans (h i hi)

theorem wrap_u32 (n : Int) : IntKind.u32.wrap n = n % 4294967296 := IntKind.wrap_u32' n

theorem x_xor (a b : U) : bits .xor .u32 (a.toNat : Int) (b.toNat : Int) = ((a ^^^ b).toNat : Int) := by
  show IntKind.u32.wrap ((BitVec.ofInt 32 (a.toNat : Int) ^^^ BitVec.ofInt 32 (b.toNat : Int)).toNat : Int) = _
  have e (a : U) : BitVec.ofInt 32 (a.toNat : Int) = a := by
    apply BitVec.eq_of_toNat_eq
    rw [BitVec.toNat_ofInt]
    have := a.isLt
    omega
  rw [e, e, wrap_u32]
  have := (a ^^^ b).isLt
  omega
theorem x_not (a : U) : bits .xor .u32 IntKind.u32.max (a.toNat : Int) = ((~~~ a).toNat : Int) := by
  have h := x_xor (BitVec.allOnes 32) a
  have e : ((BitVec.allOnes 32).toNat : Int) = IntKind.u32.max := by rw [BitVec.toNat_allOnes]; rfl
  rw [BitVec.allOnes_xor, e] at h
  exact h
theorem not_nat (a : U) : 4294967295 - a.toNat = (~~~ a).toNat := by rw [BitVec.toNat_not]
theorem ret_u {a b : Int} (h : a = b) : Ending.returned (.int .u32 a) = .returned (.int .u32 b) := by rw [h]
theorem x_byte (a : U) (c : UInt8) : bits .xor .u32 (a.toNat : Int) ((c.toNat : Int) % 4294967296) = ((a ^^^ byte8 c).toNat : Int) := by
  rw [← x_xor]
  congr 1
theorem x_and15 (a : U) : bits .and .u32 (a.toNat : Int) 15 = ((a &&& 15#32).toNat : Int) := by
  have := u32_and_nat a.toNat 15 a.isLt (by decide)
  rw [BitVec.toNat_and]
  exact this
theorem tab_fits : ∀ k, k < 16 → 0 ≤ nibTab.getD k 0 ∧ nibTab.getD k 0 < 4294967296 := by decide
theorem x_nib (a : U) : bits .xor .u32 (nibTab.getD (a &&& 15#32).toNat 0) ((a.toNat : Int) / 16) = ((nib a).toNat : Int) := by
  have h := x_xor (BitVec.ofInt 32 (nibTab.getD (a &&& 15#32).toNat 0)) (a >>> 4)
  have hf := tab_fits _ (low_lt a)
  have e1 : ((BitVec.ofInt 32 (nibTab.getD (a &&& 15#32).toNat 0)).toNat : Int) = nibTab.getD (a &&& 15#32).toNat 0 := by
    rw [BitVec.toNat_ofInt]
    omega
  have e2 : ((a >>> 4).toNat : Int) = (a.toNat : Int) / 16 := by
    rw [BitVec.toNat_ushiftRight, Nat.shiftRight_eq_div_pow]
    omega
  rw [e1, e2] at h
  rw [h]
  rfl

/-- What one nibble's region needs. -/
theorem nibble (x : U) {w : World} (hT : Tab w) : ∃ (n : Nat) (y : Int), n < 16 ∧ bits .and .u32 (x.toNat : Int) 15 = (n : Int) ∧ w.cell? ⟨0, n, none⟩ = some (.int .u32 y) ∧ bits .xor .u32 y ((x.toNat : Int) / 16) = ((nib x).toNat : Int) :=
  ⟨_, _, low_lt x, x_and15 x, hT _ (low_lt x), x_nib x⟩

set_option maxRecDepth 100000 in
theorem more_c (s : U) (v : Value) (l : List UInt8) (w : World) (hT : Tab w) (hv : RB w v l) :
    Calls Tryz.prog 116 #[.int .u32 (s.toNat : Int), v] w fun e w' => e = .returned (.int .u32 ((crcMore s l).toNat : Int)) ∧ w = w' := by
  obtain ⟨a, cap, rfl, h1, h2, h3, h4⟩ := hv
  have hm : l.length ≤ 9223372036854775807 := by unfold maxLen at h2; omega
  have H4 := Go.Lib.hid h4; clear h4
  have HT := Go.Lib.hid hT; clear hT
  clear h3
  have hn := x_not s
  go_enter Tryz.func116, Tryz.ntmps116
  go_wp2_with fail
  clear hn
  go_loop [5, 7, 12] (fun r c i => ∃ k : Nat, ∃ t : U, k ≤ l.length ∧ i = .int .i64 (k : Int) ∧ r = .int .u32 (t.toNat : Int) ∧ Hid (t = run (~~~ s) (l.take k))) (fun _ _ i => l.length - (intOf i).toNat)
  case atStart => exact ⟨0, ~~~ s, by omega, rfl, by rw [not_nat], by simp [Hid, run]⟩
  case round =>
    obtain ⟨k, t, hk, rfl, rfl, ht⟩ := hrel
    by_cases hlt : k < l.length
    · obtain ⟨b, o, rfl, hc⟩ := H4.out (by intro e; subst e; simp at hlt)
      have hck := hc k hlt
      clear hc
      have hst : run (~~~ s) (l.take (k + 1)) = upd (run (~~~ s) (l.take k)) l[k] := by rw [List.take_succ_eq_append_getElem hlt, run_append]; rfl
      rw [← ht.out] at hst
      clear ht
      generalize l[k] = c at hck hst
      rw [← upd_nib] at hst
      have hx := x_byte t c
      obtain ⟨n1, y1, hn1, ha1, hc1, hx1⟩ := nibble (t ^^^ byte8 c) HT.out
      obtain ⟨n2, y2, hn2, ha2, hc2, hx2⟩ := nibble (nib (t ^^^ byte8 c)) HT.out
      have Hst := Go.Lib.hid hst; clear hst
      generalize nib (nib (t ^^^ byte8 c)) = x3 at Hst hx2
      generalize nib (t ^^^ byte8 c) = x2 at hx1 ha2 hx2
      generalize (t ^^^ byte8 c) = x1 at hx ha1 hx1
      go_wp2
      go_round
      case rel => exact ⟨k + 1, x3, by omega, by go_num, rfl, Hst.out.symm⟩
      case measure => simp [intOf]; omega
    · have hn := x_not t
      go_wp2
      go_ret
      refine ⟨ret_u ?_, rfl⟩
      rw [not_nat, ht.out, List.take_of_length_le (by omega)]
      rfl

theorem sum_c (v : Value) (l : List UInt8) (w : World) (hT : Tab w) (hv : RB w v l) :
    Calls Tryz.prog 91 #[v] w fun e w' => e = .returned (.int .u32 ((crcSum l).toNat : Int)) ∧ w = w' := by
  have h0 : ((0#32 : U).toNat : Int) = 0 := rfl
  have c := more_c 0#32 v l w hT hv
  rw [h0] at c
  have C := Go.Lib.hid c; clear c h0 hT hv
  go_enter Tryz.func91, Tryz.ntmps91
  go_wp2_with (refine C.out.mono ?_; rintro e w1 ⟨rfl, rfl⟩)
  go_ret
  exact ⟨rfl, rfl⟩

/-- In a region that draws its order. -/
theorem sum_q (v : Value) (l : List UInt8) (w : World) (n : Nat) (hT : Tab w) (hv : RB w v l) :
    Calls Tryz.prog 91 #[v] (w.drewN n) fun e w' => e = .returned (.int .u32 ((crcSum l).toNat : Int)) ∧ ∃ m, w' = w.drewN m :=
  Calls.quiet_of_same ((sum_c v l _ (hT.below (below_drewN (Below.refl _ _) n)) (hv.drewN n)).mono fun _ _ ⟨h, hw⟩ => ⟨h, hw.symm⟩)

end Go.Proofs.YtnalokjnbccjnaaGreatDoor

namespace Go.Proofs.YtnalokjnbccjnaaGreatDoor
open Go.RowKit

theorem infoInt : (Tryz.prog.info? 3).map (fun i => (i.zero, i.size, i.bytes)) = some (some (.int .i64 0), 1, 8) := by kernel_rfl
theorem infoInt64 : (Tryz.prog.info? 2).map (fun i => (i.zero, i.size, i.bytes)) = some (some (.int .i64 0), 1, 8) := by kernel_rfl
theorem zi_snoc (ls : List Nat) (i : Nat) : zi .i64 (ls ++ [i]) = zi .i64 ls ++ [.int .i64 (i : Int)] := by rw [zi_append]; rfl
theorem one_int (x : Int) : ∀ u ∈ [Value.int .i64 x], u.oneCell' = true := by intro u hu; obtain rfl := List.mem_singleton.1 hu; rfl

/-- A block of another type is not the row's. -/
theorem own_ne {e t : TypeId} {w : World} {B s m k : Nat} {v : Value} {xs : List Value} {cs : Array Value} {fr : Nat × Nat} (h : w.ownsRow B e s v m xs) (hk : w.heap[k]? = some (.cells cs t fr)) (he : t ≠ e) : some k ≠ v.ownBlock := by
  rcases h.2 with ⟨rfl, -⟩ | ⟨g, cap, cur, rfl, -, hg, -⟩
  · intro e; cases e
  · intro e
    simp only [Value.ownBlock, Option.some.injEq] at e
    subst e
    rw [hk] at hg
    simp only [Option.some.injEq, Obj.cells.injEq] at hg
    exact he hg.2.1

/-- A row stays while its block does. -/
theorem row_keep {e : TypeId} {w w' : World} {B s m : Nat} {v : Value} {xs : List Value} (h : w.ownsRow B e s v m xs) (hs : ∀ k cs fr, v.ownBlock = some k → w.heap[k]? = some (.cells cs e fr) → w'.heap[k]? = w.heap[k]?) : w'.ownsRow B e s v m xs := by
  refine ⟨h.1, ?_⟩
  rcases h.2 with h' | ⟨g, cap, cur, rfl, hB, h2, h3⟩
  · exact .inl h'
  · exact .inr ⟨g, cap, cur, rfl, hB, (hs g _ _ rfl h2).trans h2, h3⟩
theorem row_blk {e : TypeId} {w : World} {B s m g n c : Nat} {xs : List Value} (h : w.ownsRow B e s (.slice (some ⟨g, 0, none⟩) n c) m xs) : ∃ cs fr, w.heap[g]? = some (.cells cs e fr) := by
  rcases h.2 with ⟨h', -⟩ | ⟨g', cap, cur, h', hB, h2, h3⟩
  · cases h'
  · simp only [Value.slice.injEq, Option.some.injEq, Addr.mk.injEq] at h'
    obtain ⟨⟨rfl, -⟩, -⟩ := h'
    exact ⟨_, _, h2⟩
/-- Another block is written: a row of another type stays. -/
theorem row_set {e t : TypeId} {w : World} {B s m k : Nat} {v : Value} {xs : List Value} {cs : Array Value} {fr : Nat × Nat} (h : w.ownsRow B e s v m xs) (hk : w.heap[k]? = some (.cells cs t fr)) (he : t ≠ e) (o : Nat) (u : Value) : (w.setCell ⟨k, o, none⟩ u).ownsRow B e s v m xs :=
  row_keep h fun j _ _ _ hj => Below.heap_setCell _ _ _ _ (by rintro rfl; rw [hk] at hj; simp only [Option.some.injEq, Obj.cells.injEq] at hj; exact he hj.2.1)

theorem osectors_c (n : Nat) (N : Int) (w : World) (hN : N = (n : Int)) (h1 : n ≤ 100000000) : Calls Tryz.prog 60 #[.int .i64 N] w fun e w' => e = .returned (.int .i64 (secs n : Int)) ∧ w = w' := by
  subst hN
  have hs : (secs n : Int) = ((n : Int) + 63) / 64 := by unfold secs; omega
  rw [hs]
  go_enter Tryz.func60, Tryz.ntmps60
  go_wp2_with fail
  go_ret
  refine ⟨ret_int ?_, rfl⟩
  go_num

set_option maxHeartbeats 1000000 in
set_option maxRecDepth 100000 in
theorem orow_c (a m : Nat) (A M : Int) (w : World) (hA : A = (a : Int)) (hM : M = (m : Int)) (h1 : a + m ≤ 100000) : Calls Tryz.prog 48 #[.agg #[.int .i64 A, .int .i64 M]] w fun e w' => ∃ v, e = .returned v ∧ OwnV 3 w' w.heap.size v (zi .i64 (rowL a m)) ∧ Below w.heap.size w w' := by
  subst hA hM
  have hnew := Go.Lib.hid (heap_alloc_new w (.cells #[.int .i64 (a : Int), .int .i64 (m : Int)] 96))
  have hb0 := Go.Lib.hid ((Below.refl w.heap.size w).alloc (Nat.le_refl _) (.cells #[.int .i64 (a : Int), .int .i64 (m : Int)] 96))
  go_enter Tryz.func48, Tryz.ntmps48
  go_wp2_with fail
  go_loopw [3, 7] (fun u c wr => ∃ (k : Nat) (v : Value), v = u ∧ k ≤ m ∧ c = .int .i64 (k : Int) ∧ OwnV 3 wr w.heap.size v (zi .i64 (rowL a k)) ∧ wr.heap[w.heap.size]? = some (.cells #[.int .i64 (a : Int), .int .i64 (m : Int)] 96) ∧ Below w.heap.size w wr) (fun _ c _ => m - (intOf c).toNat)
  case atStart => exact ⟨0, _, rfl, by omega, rfl, OwnV.nil _ _ _, hnew.out, hb0.out⟩
  case round =>
    obtain ⟨k, v, rfl, hk, rfl, hown, hblk, hbw⟩ := hrel
    by_cases hlt : k < m
    · have c0 : wr.cell? ⟨w.heap.size, 0, none⟩ = some (.int .i64 (a : Int)) := by rw [cell_of_row wr w.heap.size 0 _ _ _ hblk]; rfl
      have hkI : (k : Int) < (m : Int) := by omega
      have hw : (k : Int) + 1 = ((k + 1 : Nat) : Int) := by omega
      have hak : (a : Int) + (k : Int) = ((a + k : Nat) : Int) := by omega
      have hwr : IntKind.i64.wrap ((a : Int) + (k : Int)) = (a : Int) + (k : Int) := by rw [IntKind.wrap_i64]; omega
      have hmore := Go.Lib.hid (show zi .i64 (rowL a (k + 1)) = zi .i64 (rowL a k) ++ [.int .i64 ((a : Int) + (k : Int))] from by rw [rowL_snoc, zi_snoc, hak])
      have hown3 := Go.Lib.hid (hown.alloc (.cells #[.int .i64 ((a : Int) + (k : Int))] 3))
      have hrv := Go.Lib.hid (RV.one wr 3 (.int .i64 ((a : Int) + (k : Int))))
      have hbw3 := Go.Lib.hid (hbw.alloc hbw.size (.cells #[.int .i64 ((a : Int) + (k : Int))] 3))
      have hln := rowL_length a k
      have hln1 := Go.Lib.hid (show ((zi .i64 (rowL a k)).length + [Value.int .i64 ((a : Int) + (k : Int))].length) * 8 ≤ 140737488355328 from by rw [zi_length]; simp only [List.length_cons, List.length_nil]; omega)
      have hln2 := Go.Lib.hid (show (zi .i64 (rowL a k)).length + [Value.int .i64 ((a : Int) + (k : Int))].length ≤ 140737488355328 from by have := hln1.out; omega)
      have HW := Go.Lib.hid hw
      have hne := own_ne hown hblk (by decide)
      have HB := Go.Lib.hid hblk
      have HN := Go.Lib.hid hne
      have HL := Go.Lib.hid (Array.getElem?_eq_some_iff.1 hblk).1
      have HB3 := Go.Lib.hid (((newB wr (.cells #[.int .i64 ((a : Int) + (k : Int))] 3)).block w.heap.size HL.out).trans hblk)
      clear hown hbw hw hblk hne hln hak
      go_wp2_with (first
        | (with_reducible show wpList _ _ _ (⟨some 16, _, _, _, _, _⟩ :: _) _ _; go_must (refine wpList_append_RV rfl (.tmp 10) (.tmp 15) 42 rfl w.heap.size 3 Tryz.underlying42 (.int .i64 0) 8 rfl infoInt v (.slice (some ⟨wr.heap.size, 0, none⟩) 1 1) (zi .i64 (rowL a k)) [.int .i64 ((a : Int) + (k : Int))] rfl rfl hown3.out hrv.out (one_int _) hln1.out hln2.out hbw3.out.size ?_); intro v4 w4 hown4 hg4; have hb4 := Go.Lib.hid (hbw3.out.grown hg4 hbw3.out.size hown3.out.row); have hk4 := Go.Lib.hid ((hg4.block w.heap.size (Array.getElem?_eq_some_iff.1 HB3.out).1 HN.out).trans HB3.out))
        | fail)
      go_roundw
      case rel => exact ⟨k + 1, _, rfl, by omega, by rw [HW.out], by rw [hmore.out]; exact hown4, hk4.out, hb4.out⟩
      case measure => simp only [intOf]; omega
    · obtain rfl : k = m := by omega
      have c0 : wr.cell? ⟨w.heap.size, 1, none⟩ = some (.int .i64 (k : Int)) := by rw [cell_of_row wr w.heap.size 1 _ _ _ hblk]; rfl
      go_wp2_with fail
      go_ret
      exact ⟨_, rfl, hown, hbw⟩

set_option maxHeartbeats 1000000 in
set_option maxRecDepth 100000 in
theorem ofiles_nil (w : World) (v : Value) (hv : RB w v []) : Calls Tryz.prog 67 #[v] w fun e w' => e = .returned (.tuple #[.slice none 0 0, .bool true]) ∧ w = w' := by
  obtain ⟨a, c, rfl, -⟩ := hv
  go_enter Tryz.func67, Tryz.ntmps67
  go_wp2_with fail
  go_ret2
  exact ⟨rfl, rfl⟩
set_option maxHeartbeats 1000000 in
set_option maxRecDepth 100000 in
theorem ofiles_c {w : World} {v : Value} {b : List UInt8} {l : List EntT} (hv : RB w v b) (h : filesB b = some l) : Calls Tryz.prog 67 #[v] w fun e w' => ∃ v', e = .returned (.tuple #[v', .bool true]) ∧ OwnE w' w.heap.size v' l ∧ Below w.heap.size w w' := by
  unfold filesB at h
  split at h
  · rename_i hb
    subst hb
    cases h
    refine (ofiles_nil w v hv).mono ?_
    rintro e w' ⟨rfl, rfl⟩
    exact ⟨_, rfl, OwnE.nil _ _, Below.refl _ _⟩
  · rename_i hb
    have C := Go.Lib.hid (decode_c hv h)
    obtain ⟨a, c, rfl, h2, h3, -⟩ := hv
    have hp : (0 : Int) < (b.length : Int) := by have := List.length_pos_iff.2 hb; omega
    have hne : ((b.length : Int) == 0) = false := by simpa using hb
    generalize b.length = m at *
    clear h hb
    go_enter Tryz.func67, Tryz.ntmps67
    go_wp2_with fail
    refine C.out.mono ?_
    rintro e w1 ⟨v1, rfl, ho, hb1⟩
    have HO := Go.Lib.hid ho
    have HB := Go.Lib.hid hb1
    clear ho hb1
    go_wp2_with fail
    go_ret2
    exact ⟨_, rfl, HO.out, HB.out⟩

set_option maxHeartbeats 1000000 in
set_option maxRecDepth 100000 in
theorem oencode_c (size : Nat) (sum : Int) (vl : Value) (ls : List Nat) (w : World) (hv : RV w vl (zi .i64 ls)) (h1 : size ≤ 100000000) (h2 : 0 ≤ sum ∧ sum < 4294967296) (h3 : ls.length ≤ 1000) (h4 : ∀ i ∈ ls, i < 8192) :
    Calls Tryz.prog 32 #[.agg #[.int .i64 (size : Int), .int .i64 sum, vl]] w fun e w' => ∃ v, e = .returned v ∧ Own 5 w' w.heap.size v (headB size sum ls) ∧ Below w.heap.size w w' := by
  obtain ⟨a, c, rfl, hc⟩ := hv.form
  rw [zi_length] at hv hc ⊢
  have HH := Go.Lib.hid (heap_alloc_new w (.cells #[.int .i64 (size : Int), .int .i64 sum, .slice a ls.length c] 69))
  have hb0 := Go.Lib.hid (newB w (.cells #[.int .i64 (size : Int), .int .i64 sum, .slice a ls.length c] 69))
  have HV := Go.Lib.hid (hv.below hb0.out)
  have H1 := Go.Lib.hid h1
  have H2 := Go.Lib.hid h2
  have H3 := Go.Lib.hid h3
  have H4 := Go.Lib.hid h4
  clear h1 h2 h3 h4 hv
  have cc : ∀ (w1 : World) (k : Nat) (x : Value), w1.heap[w.heap.size]? = some (.cells #[.int .i64 (size : Int), .int .i64 sum, .slice a ls.length c] 69) → #[Value.int .i64 (size : Int), .int .i64 sum, .slice a ls.length c][k]? = some x → w1.cell? ⟨w.heap.size, k, none⟩ = some x := fun _ k x h e => by rw [cell_of_row _ _ k _ _ _ h]; exact e
  have CC := Go.Lib.hid cc
  clear cc
  go_enter Tryz.func32, Tryz.ntmps32
  go_wp2_with fail
  refine (put_c _ [] (size : Int) _ (RB.nil _) (by omega) (by have := H1.out; omega) (by simp)).mono ?_
  rintro e w1 ⟨v1, rfl, ho1, hb1⟩
  have HH1 := Go.Lib.hid (keptR HH.out hb1)
  have HV1 := Go.Lib.hid (HV.out.below hb1)
  have HB1 := Go.Lib.hid (below_to hb0.out (Nat.le_refl _) hb1)
  have HO1 := Go.Lib.hid ho1.rb
  have P1 := Go.Lib.hid (numP_len (size : Int) (by omega) (by have := H1.out; omega))
  have y1 := CC.out _ 1 _ HH1.out rfl
  clear ho1 hb1
  go_wp2_with fail
  clear y1
  refine (put_c _ _ sum _ HO1.out (by have := H2.out; omega) (by have := H2.out; omega) (by have := P1.out; unfold numP at this; simp; omega)).mono ?_
  rintro e w2 ⟨v2, rfl, ho2, hb2⟩
  have HH2 := Go.Lib.hid (keptR HH1.out hb2)
  have HV2 := Go.Lib.hid (HV1.out.below hb2)
  have HB2 := Go.Lib.hid (below_to HB1.out (Nat.le_refl _) hb2)
  have HO2 := Go.Lib.hid (show Own 5 w2 w.heap.size v2 (numP (size : Int) ++ numP sum ++ putL (ls.take 0)) from by simpa [putL, numP] using ho2.mono HB1.out.size)
  have P2 := Go.Lib.hid (numP_len sum (by have := H2.out; omega) (by have := H2.out; omega))
  have y1 := CC.out _ 2 _ HH2.out rfl
  clear ho2 hb2
  go_wp2_with fail
  clear y1
  go_loopw [3, 16] (fun bv i wr => ∃ (k : Nat) (u : Value), u = bv ∧ k ≤ ls.length ∧ i = .int .i64 (k : Int) ∧ Own 5 wr w.heap.size u (numP (size : Int) ++ numP sum ++ putL (ls.take k)) ∧ Below w.heap.size w wr ∧ Below w2.heap.size w2 wr) (fun _ i _ => ls.length - (intOf i).toNat)
  case atStart => exact ⟨0, _, rfl, by omega, rfl, HO2.out, HB2.out, Below.refl _ _⟩
  case round =>
    obtain ⟨k, u, rfl, hk, rfl, hown, hbw, hbc⟩ := hrel
    by_cases hlt : k < ls.length
    · obtain ⟨b, o, rfl, c0, -⟩ := (HV2.out.below hbc).at k (by rw [zi_length]; exact hlt)
      rw [zi_at _ _ _ hlt] at c0
      have hkI : (k : Int) < (ls.length : Int) := by omega
      have hi := H4.out ls[k] (List.getElem_mem hlt)
      have hl := Go.Lib.hid (show (numP (size : Int) ++ numP sum ++ putL (ls.take k)).length + 10 ≤ 140737488355328 from by
        have h5 := P1.out
        have h6 := P2.out
        have h7 := putL_len (ls := ls.take k) (fun i hi => H4.out i (List.mem_of_mem_take hi))
        have h8 := H3.out
        have h9 : (ls.take k).length ≤ k := by rw [List.length_take]; omega
        simp only [List.length_append]
        omega)
      have hsn := Go.Lib.hid (show numP (size : Int) ++ numP sum ++ putL (ls.take (k + 1)) = numP (size : Int) ++ numP sum ++ putL (ls.take k) ++ numP (ls[k] : Int) from by rw [List.take_succ_eq_append_getElem hlt, putL_snoc]; simp)
      generalize ls[k] = x at *
      generalize numP (size : Int) ++ numP sum ++ putL (ls.take k) = P at *
      have HB := Go.Lib.hid hbw
      have HC := Go.Lib.hid hbc
      have HO := Go.Lib.hid hown
      have HX := Go.Lib.hid hi
      clear hbw hbc hown hi
      go_wp2_with fail
      refine (put_c _ P (x : Int) _ HO.out.rb (by omega) (by have := HX.out; omega) hl.out).mono ?_
      rintro e w4 ⟨v4, rfl, ho4, hb4⟩
      have HO4 := Go.Lib.hid (show Own 5 w4 w.heap.size v4 (P ++ numP (x : Int)) from ho4.mono HB.out.size)
      have HB4 := Go.Lib.hid (below_to HB.out (Nat.le_refl _) hb4)
      have HC4 := Go.Lib.hid (HC.out.trans (hb4.mono HC.out.size))
      clear ho4 hb4
      go_wp2_with fail
      go_roundw
      case rel => exact ⟨k + 1, _, rfl, by omega, by go_num, by rw [hsn.out]; exact HO4.out, HB4.out, HC4.out⟩
      case measure => simp only [intOf]; omega
    · obtain rfl : k = ls.length := by omega
      rw [List.take_of_length_le (Nat.le_refl _)] at hown
      have HO := Go.Lib.hid hown
      have HB := Go.Lib.hid hbw
      clear hown hbw hbc
      go_wp2_with fail
      go_ret
      exact ⟨_, rfl, HO.out, HB.out⟩

set_option maxHeartbeats 1000000 in
set_option maxRecDepth 100000 in
theorem oheadof_c {w : World} {v vl : Value} {b : List UInt8} {ls : List Nat} (hT : Tab w) (hv : RB w v b) (hl : RV w vl (zi .i64 ls)) : Calls Tryz.prog 64 #[v, vl] w fun e w' => e = .returned (.agg #[.int .i64 (b.length : Int), .int .i64 ((crcSum b).toNat : Int), vl]) ∧ Below w.heap.size w w' := by
  have C := Go.Lib.hid fun (w1 : World) (hb : Below w.heap.size w w1) => sum_c v b w1 (hT.below hb) (hv.below hb)
  obtain ⟨a, c, rfl, h2, h3, -⟩ := hv
  obtain ⟨a2, c2, rfl, -⟩ := hl
  have hlt : ((crcSum b).toNat : Int) < 4294967296 := by have := (crcSum b).isLt; omega
  have hw : IntKind.i64.wrap ((crcSum b).toNat : Int) = ((crcSum b).toNat : Int) := by rw [IntKind.wrap_i64]; omega
  have hb0 := Go.Lib.hid (newB w (.cells #[.int .i64 0, .int .i64 0, .slice none 0 0] 69))
  generalize ((crcSum b).toNat : Int) = s at *
  generalize b.length = m at *
  clear hT
  go_enter Tryz.func64, Tryz.ntmps64
  go_wp2_with fail
  refine (C.out _ hb0.out).mono ?_
  rintro e w1 ⟨rfl, rfl⟩
  go_wp2_with fail
  refine bodyPost_ret (results_cell_row rfl _ _ w.heap.size 69 #[.int .i64 (m : Int), .int .i64 s, .slice a2 (zi .i64 ls).length c2] (0, 0) _ rfl (heap_alloc_new w _) Tryz.underlying69 rfl (by kernel_rfl)) rfl ?_
  exact ⟨rfl, newB w _⟩

end Go.Proofs.YtnalokjnbccjnaaGreatDoor

namespace Go.Proofs.YtnalokjnbccjnaaGreatDoor
open Go.RowKit

set_option maxHeartbeats 1000000 in
set_option maxRecDepth 100000 in
theorem indexfunc_c (g : Nat) (cb : Array Value) (p : EntT → Bool) (v : Value) (l : List EntT) (w : World) (hv : RE w v l) (eg : ∀ args w, (callFunc g args).run Tryz.prog w = .ok (.enter g args) w)
    (hf : ∀ (nm : ByteArray) (n a s : Int) (W : World), Below w.heap.size w W → Calls Tryz.prog g (#[.agg #[.string nm, .int .i64 n, .int .i64 a, .int .i64 s]] ++ cb) W fun e w' => e = .returned (.bool (p (nm, n, a, s))) ∧ Below W.heap.size W w') :
    Calls Tryz.prog 71 #[v, .func (.func g) #[] cb] w fun e w' => e = .returned (.int .i64 (idxE p l)) ∧ Below w.heap.size w w' := by
  obtain ⟨a, cap, rfl, hm⟩ := hv.form
  have HV := Go.Lib.hid hv
  have HF := Go.Lib.hid hf
  clear hf hv
  go_enter Tryz.func71, Tryz.ntmps71
  go_wp2_with fail
  go_loopw [8] (fun i wr => ∃ k : Nat, k ≤ l.length ∧ i = .int .i64 (k : Int) ∧ Hid (∀ (j : Nat) (hj : j < l.length), j < k → p l[j] = false) ∧ Below w.heap.size w wr) (fun i _ => l.length - (intOf i).toNat)
  case atStart => exact ⟨0, by omega, rfl, Go.Lib.hid (fun j hj h => by omega), Below.refl _ _⟩
  case round =>
    obtain ⟨k, hk, rfl, hno, hbc⟩ := hrel
    by_cases hlt : k < l.length
    · obtain ⟨b, o, rfl, -, hbs, c0, c1, c2, c3⟩ := (HV.out.below hbc).at k hlt
      have Hyes := Go.Lib.hid (fun (h : p l[k] = true) => idxE_of hlt h hno.out)
      have Hnot := Go.Lib.hid (fun (h : p l[k] = false) => show ∀ (j : Nat) (hj : j < l.length), j < k + 1 → p l[j] = false from fun j hj hj1 => by
        rcases Nat.lt_or_ge j k with h2 | h2
        · exact hno.out j hj h2
        · obtain rfl : j = k := by omega
          exact h)
      have Hlt := Go.Lib.hid hlt
      generalize hx : l[k] = x at *
      obtain ⟨nm, en, ea, es⟩ := x
      simp only [] at c0 c1 c2 c3
      have hc := HF.out nm en ea es wr hbc
      have HBC := Go.Lib.hid hbc
      cases hp : p (nm, en, ea, es) with
      | true =>
        rw [hp] at hc
        have HC := Go.Lib.hid hc
        have HY := Go.Lib.hid (Hyes.out hp)
        clear hp hc hx hno Hyes Hnot hbc hbs
        go_wp2_with (go_at_fn g; refine HC.out.mono ?_; rintro e w2 ⟨rfl, hb2⟩)
        go_ret
        exact ⟨ret_int HY.out.symm, HBC.out.trans (hb2.mono HBC.out.size)⟩
      | false =>
        rw [hp] at hc
        have HC := Go.Lib.hid hc
        have HN := Go.Lib.hid (Hnot.out hp)
        clear hp hc hx hno Hyes Hnot hbc hbs
        go_wp2_with (go_at_fn g; refine HC.out.mono ?_; rintro e w2 ⟨rfl, hb2⟩)
        go_roundw
        case rel => exact ⟨k + 1, by have := Hlt.out; omega, by go_num, HN, HBC.out.trans (hb2.mono HBC.out.size)⟩
        case measure => simp only [intOf]; have := Hlt.out; omega
    · obtain rfl : k = l.length := by omega
      have HN := Go.Lib.hid (idxE_no (p := p) (l := l) (fun j hj => hno.out j hj hj))
      clear hno hlt
      go_wp2_with fail
      go_ret
      exact ⟨ret_int HN.out.symm, hbc⟩

set_option maxRecDepth 100000 in
theorem findfn_c (nm : ByteArray) (n a s : Int) (q : Nat) (x : ByteArray) (W : World) (hq : W.cell? ⟨q, 0, none⟩ = some (.string x)) :
    Calls Tryz.prog 72 #[.agg #[.string nm, .int .i64 n, .int .i64 a, .int .i64 s], .pointer (some ⟨q, 0, none⟩)] W fun e w' => e = .returned (.bool (nmE x (nm, n, a, s))) ∧ Below W.heap.size W w' := by
  have hnew := heap_alloc_new W (.cells #[.string nm, .int .i64 n, .int .i64 a, .int .i64 s] 98)
  have hb := newB W (.cells #[.string nm, .int .i64 n, .int .i64 a, .int .i64 s] 98)
  obtain ⟨x0, x1, x2, x3⟩ := row4 hnew
  have hq := keptC hq hb
  have HB := Go.Lib.hid hb
  clear hnew hb
  go_enter Tryz.func72, Tryz.ntmps72
  go_wp2_with fail
  go_ret
  exact ⟨rfl, HB.out⟩

set_option maxRecDepth 100000 in
theorem find_c (v : Value) (l : List EntT) (x : ByteArray) (w : World) (hv : RE w v l) :
    Calls Tryz.prog 46 #[v, .string x] w fun e w' => e = .returned (.int .i64 (findE l x)) ∧ Below w.heap.size w w' := by
  have hb := newB w (.cells #[.string x] 9)
  have hnew := heap_alloc_new w (.cells #[.string x] 9)
  have hq : (w.alloc (.cells #[.string x] 9)).cell? ⟨w.heap.size, 0, none⟩ = some (.string x) := by rw [cell_of_row _ _ 0 _ _ _ hnew]; rfl
  have C := indexfunc_c 72 #[.pointer (some ⟨w.heap.size, 0, none⟩)] (nmE x) v l _ (hv.below hb) (enters_of Tryz.func72 (by kernel_rfl) rfl)
    (fun nm n a s W hW => by exact findfn_c nm n a s w.heap.size x W (keptC hq hW))
  have HC := Go.Lib.hid C
  have HB := Go.Lib.hid hb
  obtain ⟨a, cap, rfl, -⟩ := hv.form
  clear C hnew hq hb hv
  go_enter Tryz.func46, Tryz.ntmps46
  go_wp2_with fail
  refine HC.out.mono ?_
  rintro e w2 ⟨rfl, hb2⟩
  have HB2 := Go.Lib.hid (HB.out.trans (hb2.mono HB.out.size))
  clear hb2
  go_wp2_with fail
  go_ret
  exact ⟨rfl, HB2.out⟩

end Go.Proofs.YtnalokjnbccjnaaGreatDoor

namespace Go.Proofs.YtnalokjnbccjnaaGreatDoor
open Go.RowKit Go.Shelf Go.Lib Go.Sort

theorem flatk_len {α : Type} {enc : α → List Value} {k : Nat} (hk : ∀ x, (enc x).length = k) (l : List α) : (l.flatMap enc).length = l.length * k := by
  induction l with
  | nil => simp
  | cons x l ih => rw [List.flatMap_cons, List.length_append, ih, hk, List.length_cons, Nat.add_mul, Nat.one_mul, Nat.add_comm]
theorem flatk_at {α : Type} {enc : α → List Value} {k : Nat} (hk : ∀ x, (enc x).length = k) : ∀ (l : List α) (i j : Nat) (hi : i < l.length), j < k → (l.flatMap enc)[i * k + j]? = (enc l[i])[j]?
  | [], i, j, hi, _ => absurd hi (by simp)
  | x :: l, 0, j, hi, hj => by
    rw [List.flatMap_cons, Nat.zero_mul, Nat.zero_add, List.getElem?_append_left (by rw [hk]; exact hj)]
    rfl
  | x :: l, i + 1, j, hi, hj => by
    rw [List.flatMap_cons, List.getElem?_append_right (by rw [hk, Nat.add_mul]; omega), hk, show (i + 1) * k + j - k = i * k + j from by rw [Nat.add_mul]; omega]
    exact flatk_at hk l i j (by simpa using hi) hj
theorem flatK_list {α : Type} [Inhabited α] {enc : α → List Value} {k : Nat} (hk : ∀ x, (enc x).length = k) (hk0 : 0 < k) (d : Array α) : (flatK enc k d).toList = d.toList.flatMap enc := by
  apply List.ext_getElem?
  intro t
  by_cases ht : t < d.size * k
  · have hi : t / k < d.toList.length := by rw [Array.length_toList]; exact Nat.div_lt_of_lt_mul (by rw [Nat.mul_comm]; exact ht)
    have hj : t % k < k := Nat.mod_lt _ hk0
    have h1 := flatk_at hk d.toList (t / k) (t % k) hi hj
    rw [show t / k * k + t % k = t from by rw [Nat.mul_comm]; exact Nat.div_add_mod t k] at h1
    rw [h1, Array.getElem?_toList, Array.getElem?_eq_getElem (by rw [size_flatK]; exact ht)]
    have h2 := get_flatK enc k d t ht
    rw [getElem!_pos _ _ (by rw [size_flatK]; exact ht)] at h2
    rw [h2]
    have h3 : d[t / k]! = d.toList[t / k] := by rw [getElem!_pos _ _ (by simpa using hi)]; rfl
    rw [h3, getElem!_pos _ _ (by rw [hk]; exact hj), List.getElem?_eq_getElem (by rw [hk]; exact hj)]
  · rw [List.getElem?_eq_none (by rw [Array.length_toList, size_flatK]; omega), List.getElem?_eq_none (by rw [flatk_len hk, Array.length_toList]; omega)]

section
variable {α : Type} [Inhabited α] {enc : α → List Value} {k : Nat} {w : World} {B g n cap : Nat} {e : TypeId} {d d' : Array α}
theorem row_open {xs : List Value} {s m : Nat} (h : w.ownsRow B e s (.slice (some ⟨g, 0, none⟩) n cap) m xs) : ∃ cur, B ≤ g ∧ w.heap[g]? = some (.cells cur e (0, 0)) ∧ m ≤ cap ∧ cap ≤ maxLen ∧ cur.size = cap * s ∧ cur.toList.take (m * s) = xs ∧ m = n := by
  rcases h.2 with ⟨h', -⟩ | ⟨g', cap', cur, h', hB, h2, h3, h4, h5, h6⟩
  · cases h'
  · simp only [Value.slice.injEq, Option.some.injEq, Addr.mk.injEq] at h'
    obtain ⟨⟨rfl, -⟩, rfl, rfl⟩ := h'
    exact ⟨cur, hB, h2, h3, h4, h5, h6, rfl⟩
theorem holdsK_row (hk : ∀ x, (enc x).length = k) (hk0 : 0 < k) (h : w.ownsRow B e k (.slice (some ⟨g, 0, none⟩) d.size cap) d.size (d.toList.flatMap enc)) : HoldsK enc k w g 0 d := by
  obtain ⟨cur, -, h2, h3, h4, h5, h6, -⟩ := row_open h
  intro t ht
  rw [size_flatK] at ht
  refine ⟨?_, frozen_of_row w g _ _ _ h2⟩
  rw [cell_of_row w g (0 + t) _ _ _ h2, Nat.zero_add]
  have h7 : (flatK enc k d).toList[t]? = cur.toList[t]? := by rw [flatK_list hk hk0, ← h6, List.getElem?_take_of_lt ht]
  rw [Array.getElem?_toList, Array.getElem?_toList] at h7
  rw [← h7, Array.getElem?_eq_getElem (by rw [size_flatK]; exact ht), getElem!_pos _ _ (by rw [size_flatK]; exact ht)]
  rfl
theorem grown_sortedK (m : Nat) (os : Array Obj) : w.grownBy (sortWorldK enc k w g 0 m d' os) (some g) := by
  refine ⟨rfl, rfl, rfl, by simp [sortWorldK, putRowK, putRow, mapBlock, Sort.ahead], fun j hj hne => ?_⟩
  unfold sortWorldK
  rw [heap_grow_old _ _ (by simpa [putRowK, putRow, mapBlock, Sort.ahead] using hj)]
  have : g ≠ j := fun e => hne (by rw [e])
  simp [putRowK, putRow, mapBlock, Sort.ahead, Array.getElem?_modify, this]
theorem row_sortedK (hk : ∀ x, (enc x).length = k) (hk0 : 0 < k) (h : w.ownsRow B e k (.slice (some ⟨g, 0, none⟩) d.size cap) d.size (d.toList.flatMap enc)) (hs : d'.size = d.size) (m : Nat) (os : Array Obj) :
    (sortWorldK enc k w g 0 m d' os).ownsRow B e k (.slice (some ⟨g, 0, none⟩) d.size cap) d.size (d'.toList.flatMap enc) := by
  obtain ⟨cur, hB, h2, h3, h4, h5, h6, -⟩ := row_open h
  have hg : g < w.heap.size := (Array.getElem?_eq_some_iff.1 h2).1
  refine ⟨by rw [flatk_len hk, Array.length_toList, hs], .inr ⟨g, cap, putCells id 0 (flatK enc k d') cur, rfl, hB, ?_, h3, h4, by simp [putCells, h5], ?_⟩⟩
  · unfold sortWorldK
    rw [heap_grow_old _ _ (by simpa [putRowK, putRow, mapBlock, Sort.ahead] using hg)]
    simp [putRowK, putRow, mapBlock, Sort.ahead, Array.getElem?_modify, h2, onCells]
  · have hle : d.size * k ≤ cur.size := by rw [h5]; exact Nat.mul_le_mul_right k h3
    rw [← flatK_list hk hk0]
    apply List.ext_getElem?
    intro j
    by_cases hj : j < d.size * k
    · rw [List.getElem?_take_of_lt hj, Array.getElem?_toList, Array.getElem?_toList]
      simp [putCells, show j < cur.size by omega, show j < d'.size * k by rw [hs]; exact hj]
    · rw [List.getElem?_take_eq_none (by omega), List.getElem?_eq_none (by rw [Array.length_toList, size_flatK, hs]; omega)]
end
theorem permIn_list {α : Type} [Inhabited α] {d d' : Array α} (h : PermIn 0 d.size d d') : d'.toList.Perm d.toList := by
  have := h.2.2
  rw [Array.extract_size] at this
  rw [← h.1, Array.extract_size] at this
  exact this

end Go.Proofs.YtnalokjnbccjnaaGreatDoor

namespace Go.Proofs.YtnalokjnbccjnaaGreatDoor
open Go.RowKit Go.Shelf Go.Lib Go.Sort

/-- A file to be written: what the list says of it, its bytes' slice. -/
abbrev FreshT := EntT × (Option Addr × Nat × Nat)
def efr (x : FreshT) : List Value := [.string x.1.1, .int .i64 x.1.2.1, .int .i64 x.1.2.2.1, .int .i64 x.1.2.2.2, .slice x.2.1 x.2.2.1 x.2.2.2]
theorem efr_len (x : FreshT) : (efr x).length = 5 := rfl
theorem efr_one (x : FreshT) : ∀ v ∈ efr x, v.oneCell' = true := by
  intro v hv
  simp only [efr, List.mem_cons, List.not_mem_nil, or_false] at hv
  rcases hv with rfl | rfl | rfl | rfl | rfl <;> rfl
def OwnFr (w : World) (B : Nat) (v : Value) (l : List FreshT) : Prop := w.ownsRow B 111 5 v l.length (l.flatMap efr)
theorem een_len (x : EntT) : (ec x).length = 4 := rfl
theorem een_one (x : EntT) : ∀ v ∈ ec x, v.oneCell' = true := by
  intro v hv
  simp only [ec, List.mem_cons, List.not_mem_nil, or_false] at hv
  rcases hv with rfl | rfl | rfl | rfl <;> rfl

def insFreshL_ren : Go.Shelf.Ren := ⟨fun | 20 => 122 | n => n, fun | 24 => 111 | 22 => 76 | 3 => 3 | 25 => 143 | 4 => 4 | 0 => 0 | n => n, fun | n => n⟩
theorem insFreshL : Go.Proofs.SlLaysF0.n20 Tryz.prog insFreshL_ren := {
  mixed := by kernel_rfl
  f20 := ⟨Tryz.f122.name, by decide, Tryz.func122.trans (congrArg some (by kernel_rfl))⟩
  t0 := Tryz.underlying0
  a0 := Tryz.isAgg0
  z0 := Tryz.sizeOf0
  v0 := Tryz.zeroValue0
  t3 := Tryz.underlying3
  a3 := Tryz.isAgg3
  z3 := Tryz.sizeOf3
  v3 := Tryz.zeroValue3
  t4 := Tryz.underlying4
  a4 := Tryz.isAgg4
  z4 := Tryz.sizeOf4
  v4 := Tryz.zeroValue4
  t22 := Tryz.underlying76
  a22 := Tryz.isAgg76
  z22 := Tryz.sizeOf76
  v22 := Tryz.zeroValue76
  t25 := Tryz.underlying143
  a25 := Tryz.isAgg143
  z25 := Tryz.sizeOf143
  v25 := Tryz.zeroValue143 }
def sortEntsL_ren : Go.Shelf.Ren := ⟨fun | 6 => 55 | 15 => 85 | 14 => 84 | 28 => 112 | 29 => 113 | 20 => 104 | 21 => 105 | 22 => 106 | 23 => 107 | 24 => 108 | 25 => 109 | 26 => 110 | 27 => 111 | 46 => 125 | 47 => 126 | 48 => 127 | 49 => 128 | 50 => 129 | 57 => 135 | n => n, fun | 22 => 71 | 24 => 98 | 25 => 115 | 3 => 3 | 39 => 149 | 0 => 0 | 53 => 155 | 55 => 166 | 4 => 4 | 46 => 176 | 45 => 175 | 50 => 109 | 5 => 5 | 9 => 9 | 66 => 193 | 70 => 197 | 76 => 204 | 77 => 205 | n => n, fun | n => n⟩
theorem sortEntsL : Go.Proofs.SlLaysF0.n6 Tryz.prog sortEntsL_ren := {
  mixed := by kernel_rfl
  f6 := ⟨Tryz.f55.name, by decide, Tryz.func55.trans (congrArg some (by kernel_rfl))⟩
  f14 := ⟨Tryz.f84.name, by decide, Tryz.func84.trans (congrArg some (by kernel_rfl))⟩
  f15 := Tryz.func85.trans (congrArg some (by kernel_rfl))
  f20 := ⟨Tryz.f104.name, by decide, Tryz.func104.trans (congrArg some (by kernel_rfl))⟩
  f21 := ⟨Tryz.f105.name, by decide, Tryz.func105.trans (congrArg some (by kernel_rfl))⟩
  f22 := ⟨Tryz.f106.name, by decide, Tryz.func106.trans (congrArg some (by kernel_rfl))⟩
  f23 := ⟨Tryz.f107.name, by decide, Tryz.func107.trans (congrArg some (by kernel_rfl))⟩
  f24 := ⟨Tryz.f108.name, by decide, Tryz.func108.trans (congrArg some (by kernel_rfl))⟩
  f25 := ⟨Tryz.f109.name, by decide, Tryz.func109.trans (congrArg some (by kernel_rfl))⟩
  f26 := ⟨Tryz.f110.name, by decide, Tryz.func110.trans (congrArg some (by kernel_rfl))⟩
  f27 := ⟨Tryz.f111.name, by decide, Tryz.func111.trans (congrArg some (by kernel_rfl))⟩
  f28 := Tryz.func112.trans (congrArg some (by kernel_rfl))
  f29 := Tryz.func113.trans (congrArg some (by kernel_rfl))
  f46 := ⟨Tryz.f125.name, by decide, Tryz.func125.trans (congrArg some (by kernel_rfl))⟩
  f47 := Tryz.func126.trans (congrArg some (by kernel_rfl))
  f48 := Tryz.func127.trans (congrArg some (by kernel_rfl))
  f49 := ⟨Tryz.f128.name, by decide, Tryz.func128.trans (congrArg some (by kernel_rfl))⟩
  f50 := ⟨Tryz.f129.name, by decide, Tryz.func129.trans (congrArg some (by kernel_rfl))⟩
  f57 := ⟨Tryz.f135.name, by decide, Tryz.func135.trans (congrArg some (by kernel_rfl))⟩
  t0 := Tryz.underlying0
  a0 := Tryz.isAgg0
  z0 := Tryz.sizeOf0
  v0 := Tryz.zeroValue0
  t3 := Tryz.underlying3
  a3 := Tryz.isAgg3
  z3 := Tryz.sizeOf3
  v3 := Tryz.zeroValue3
  t4 := Tryz.underlying4
  a4 := Tryz.isAgg4
  z4 := Tryz.sizeOf4
  v4 := Tryz.zeroValue4
  t5 := Tryz.underlying5
  a5 := Tryz.isAgg5
  z5 := Tryz.sizeOf5
  v5 := Tryz.zeroValue5
  t9 := Tryz.underlying9
  a9 := Tryz.isAgg9
  z9 := Tryz.sizeOf9
  v9 := Tryz.zeroValue9
  t22 := Tryz.underlying71
  a22 := Tryz.isAgg71
  z22 := Tryz.sizeOf71
  v22 := Tryz.zeroValue71
  t25 := Tryz.underlying115
  a25 := Tryz.isAgg115
  z25 := Tryz.sizeOf115
  v25 := Tryz.zeroValue115
  t39 := Tryz.underlying149
  a39 := Tryz.isAgg149
  z39 := Tryz.sizeOf149
  v39 := Tryz.zeroValue149
  t45 := Tryz.underlying175
  a45 := Tryz.isAgg175
  z45 := Tryz.sizeOf175
  v45 := Tryz.zeroValue175
  t46 := Tryz.underlying176
  a46 := Tryz.isAgg176
  z46 := Tryz.sizeOf176
  v46 := Tryz.zeroValue176
  t50 := Tryz.underlying109
  a50 := Tryz.isAgg109
  z50 := Tryz.sizeOf109
  v50 := Tryz.zeroValue109
  t53 := Tryz.underlying155
  a53 := Tryz.isAgg155
  z53 := Tryz.sizeOf155
  v53 := Tryz.zeroValue155
  t55 := Tryz.underlying166
  a55 := Tryz.isAgg166
  z55 := Tryz.sizeOf166
  v55 := Tryz.zeroValue166
  t66 := Tryz.underlying193
  a66 := Tryz.isAgg193
  z66 := Tryz.sizeOf193
  v66 := Tryz.zeroValue193
  t70 := Tryz.underlying197
  a70 := Tryz.isAgg197
  z70 := Tryz.sizeOf197
  v70 := Tryz.zeroValue197
  t76 := Tryz.underlying204
  a76 := Tryz.isAgg204
  z76 := Tryz.sizeOf204
  v76 := Tryz.zeroValue204
  t77 := Tryz.underlying205
  a77 := Tryz.isAgg205
  z77 := Tryz.sizeOf205
  v77 := Tryz.zeroValue205 }

/-- The longest ones first. -/
def cfLen (x y : FreshT) : Int := cmpI y.1.2.1 x.1.2.1
def cfName (x y : EntT) : Int := cmpT x.1 y.1
theorem ltLen (x y : FreshT) : ltOf cfLen x y = decide (y.1.2.1 < x.1.2.1) := by
  unfold ltOf cfLen cmpI
  by_cases h1 : y.1.2.1 < x.1.2.1
  · simp [h1]
  · by_cases h2 : x.1.2.1 < y.1.2.1 <;> simp [h1, h2]
theorem swoLen : SWO (ltOf cfLen) where
  irrefl x := by rw [ltLen]; simp
  trans x y z h1 h2 := by rw [ltLen] at *; simp at *; omega
  ntrans x y z h1 h2 := by rw [ltLen] at *; simp at *; omega
theorem ltName (x y : EntT) : ltOf cfName x y = ltE x y := by
  unfold ltOf cfName cmpT ltE
  cases h : Op.bytesLess x.1.toList y.1.toList with
  | true => simp
  | false =>
    cases h2 : Op.bytesLess y.1.toList x.1.toList <;> simp
theorem swoName : SWO (ltOf cfName) where
  irrefl x := by rw [ltName]; exact less_irr _
  trans x y z h1 h2 := by rw [ltName] at *; exact less_trans _ _ _ h1 h2
  ntrans x y z h1 h2 := by
    rw [ltName] at *
    unfold ltE at *
    cases h3 : Op.bytesLess x.1.toList z.1.toList with
    | false => rfl
    | true =>
      rcases less_tri x.1.toList y.1.toList with h | h | h
      · rw [h] at h1; cases h1
      · rw [h] at h3; rw [h3] at h2; cases h2
      · rw [less_trans _ _ _ h h3] at h2; cases h2

set_option maxHeartbeats 1000000 in
theorem placefn_c (x y : FreshT) (W : World) : Calls Tryz.prog 81 #[.agg (efr x).toArray, .agg (efr y).toArray] W fun e w' => e = .returned (.int .i64 (cfLen x y)) ∧ ∃ q os', w' = grow (W.drewN q) os' := by
  have C := Go.Lib.hid fun W => compare_i y.1.2.1 x.1.2.1 W
  unfold cfLen
  generalize hr : cmpI y.1.2.1 x.1.2.1 = r at C ⊢
  clear hr
  unfold efr
  go_enter Tryz.func81, Tryz.ntmps81
  go_wp2_with fail
  refine (C.out _).mono ?_
  rintro e w1 ⟨rfl, rfl⟩
  go_wp2_with fail
  go_ret
  exact ⟨rfl, 0, _, by rw [alloc_eq_grow, alloc_eq_grow, grow_grow]; rfl⟩
set_option maxHeartbeats 1000000 in
theorem preparefn_c (x y : EntT) (W : World) : Calls Tryz.prog 56 #[.agg (ec x).toArray, .agg (ec y).toArray] W fun e w' => e = .returned (.int .i64 (cfName x y)) ∧ ∃ q os', w' = grow (W.drewN q) os' := by
  have C := Go.Lib.hid fun W => compare_s x.1 y.1 W
  unfold cfName
  generalize hr : cmpT x.1 y.1 = r at C ⊢
  clear hr
  unfold ec
  go_enter Tryz.func56, Tryz.ntmps56
  go_wp2_with fail
  refine (C.out _).mono ?_
  rintro e w1 ⟨rfl, rfl⟩
  go_wp2_with fail
  go_ret
  exact ⟨rfl, 0, _, by rw [alloc_eq_grow, alloc_eq_grow, grow_grow]; rfl⟩

theorem cmpName (blk off size : Nat) (w : World) : CmpLays Tryz.prog 56 #[] ec 4 cfName blk off size w := fun _ _ _ _ x y => preparefn_c x y _
theorem cmpLen (blk off size : Nat) (w : World) : CmpLays Tryz.prog 81 #[] efr 5 cfLen blk off size w := fun _ _ _ _ x y => placefn_c x y _

theorem ents_form {w : World} {B : Nat} {v : Value} {l : List EntT} (h : OwnE w B v l) : (l = [] ∧ ∃ p c, v = .slice p 0 c) ∨ ∃ g c, v = .slice (some ⟨g, 0, none⟩) l.length c ∧ g < w.heap.size := by
  rcases h.2 with ⟨rfl, h0⟩ | ⟨g, cap, cur, rfl, hB, h2, -⟩
  · exact .inl ⟨List.eq_nil_of_length_eq_zero h0, _, _, rfl⟩
  · exact .inr ⟨g, cap, rfl, (Array.getElem?_eq_some_iff.1 h2).1⟩
theorem fresh_form {w : World} {B : Nat} {v : Value} {l : List FreshT} (h : OwnFr w B v l) : (l = [] ∧ ∃ p c, v = .slice p 0 c) ∨ ∃ g c, v = .slice (some ⟨g, 0, none⟩) l.length c ∧ g < w.heap.size := by
  rcases h.2 with ⟨rfl, h0⟩ | ⟨g, cap, cur, rfl, hB, h2, -⟩
  · exact .inl ⟨List.eq_nil_of_length_eq_zero h0, _, _, rfl⟩
  · exact .inr ⟨g, cap, rfl, (Array.getElem?_eq_some_iff.1 h2).1⟩

set_option maxHeartbeats 2000000 in
/-- slices.SortFunc, by name. -/
theorem sortents_c (w : World) (B : Nat) (v : Value) (l : List EntT) (hown : OwnE w B v l) (hl : l.length ≤ 100000) :
    Calls Tryz.prog 55 #[v, .func (.func 56) #[] #[]] w fun e w' => e = .returned (.tuple #[]) ∧ ∃ l', l'.Perm l ∧ (∀ i j (hi : i < l'.length) (hj : j < l'.length), i < j → ltE l'[j] l'[i] = false) ∧ OwnE w' B v l' ∧ w.grownBy w' v.ownBlock := by
  rcases ents_form hown with ⟨rfl, p, c, rfl⟩ | ⟨g, c, rfl, hg⟩
  · have h := AnyF.slices_SortFunc_none { sortEntsL with } p c (.func (.func 56) #[] #[]) w
    change Calls Tryz.prog 55 _ _ _ at h
    refine h.mono ?_
    rintro e w' ⟨rfl, rfl⟩
    exact ⟨rfl, [], List.Perm.refl _, fun i j hi => absurd hi (by simp), hown, World.grownBy.refl _ _⟩
  · have eg : ∀ args w, (callFunc 56 args).run Tryz.prog w = .ok (.enter 56 args) w := enters_of Tryz.func56 (by kernel_rfl) rfl
    have hrow : w.ownsRow B 98 4 (.slice (some ⟨g, 0, none⟩) l.toArray.size c) l.toArray.size (l.toArray.toList.flatMap ec) := by simpa [OwnE, flatE] using hown
    have h := AnyQ.slices_SortFunc sortEntsL 4 Tryz.isAgg98 Tryz.sizeOf98 ec een_len een_one cfName swoName 56 #[] g 0 c l.toArray w eg (cmpName g 0 _ w) (holdsK_row een_len (by omega) hrow) hg (by simp; omega)
    change Calls Tryz.prog 55 _ _ _ at h
    rw [show l.toArray.size = l.length from by simp] at h
    refine h.mono ?_
    rintro e w' ⟨rfl, d', m, os, hp, hs, rfl⟩
    have hsz : d'.size = l.length := by have := hp.1; simpa using this
    have hp2 := permIn_list (d := l.toArray) (d' := d') (by simpa using hp)
    have hro := row_sortedK (d := l.toArray) (d' := d') een_len (by omega) hrow (by simp [hsz]) m os
    refine ⟨rfl, d'.toList, by simpa using hp2, fun i j hi hj hij => ?_, ?_, grown_sortedK m os⟩
    · rw [Array.length_toList] at hi hj
      have h1 := hs i j (Nat.zero_le _) hij (by rw [← hsz]; exact hj)
      rw [getElem!_pos d' j hj, getElem!_pos d' i hi, ltName] at h1
      exact h1
    · have : d'.toList.length = l.length := by rw [Array.length_toList, hsz]
      unfold OwnE
      rw [this]
      simpa [flatE] using hro

set_option maxHeartbeats 2000000 in
/-- Twenty files at most, sorted by their lengths: the same files. -/
theorem stable20_c (w : World) (B : Nat) (v : Value) (l : List FreshT) (hown : OwnFr w B v l) (hl : l.length ≤ 19) :
    Calls Tryz.prog 101 #[v, .int .i64 (l.length : Int), .func (.func 81) #[] #[]] w fun e w' => e = .returned (.tuple #[]) ∧ ∃ l', l'.Perm l ∧ OwnFr w' B v l' ∧ w.grownBy w' v.ownBlock := by
  have C : Calls Tryz.prog 122 #[v, .int .i64 0, .int .i64 (l.length : Int), .func (.func 81) #[] #[]] w fun e w' => e = .returned (.tuple #[]) ∧ ∃ l', l'.Perm l ∧ OwnFr w' B v l' ∧ w.grownBy w' v.ownBlock := by
    rcases fresh_form hown with ⟨rfl, p, c, rfl⟩ | ⟨g, c, rfl, hg⟩
    · have h := AnyF.insertionSortCmpFunc_none { insFreshL with } p c (.func (.func 81) #[] #[]) w
      change Calls Tryz.prog 122 _ _ _ at h
      refine h.mono ?_
      rintro e w' ⟨rfl, rfl⟩
      exact ⟨rfl, [], List.Perm.refl _, hown, World.grownBy.refl _ _⟩
    · have eg : ∀ args w, (callFunc 81 args).run Tryz.prog w = .ok (.enter 81 args) w := enters_of Tryz.func81 (by kernel_rfl) rfl
      have hrow : w.ownsRow B 111 5 (.slice (some ⟨g, 0, none⟩) l.toArray.size c) l.toArray.size (l.toArray.toList.flatMap efr) := by simpa [OwnFr] using hown
      have h := AnyQ.insertionSortCmpFunc insFreshL 5 Tryz.isAgg111 Tryz.sizeOf111 efr efr_len efr_one cfLen 81 #[] g 0 c 0 l.length l.toArray w eg (cmpLen g 0 _ w) (holdsK_row efr_len (by omega) hrow) hg (by omega) (by simp) (by simp; omega)
      change Calls Tryz.prog 122 _ _ _ at h
      rw [show l.toArray.size = l.length from by simp] at h
      refine h.mono ?_
      rintro e w' ⟨rfl, m, os, rfl⟩
      have hp := (insertionSort_holds (lt := ltOf cfLen) swoLen l.toArray 0 l.length (by omega) (by simp)).1
      generalize insertionSort (ltOf cfLen) l.toArray 0 l.length = d' at *
      have hsz : d'.size = l.length := by have := hp.1; simpa using this
      have hp2 := permIn_list (d := l.toArray) (d' := d') (by simpa using hp)
      have hro := row_sortedK (d := l.toArray) (d' := d') efr_len (by omega) hrow (by simp [hsz]) m os
      refine ⟨rfl, d'.toList, by simpa using hp2, ?_, grown_sortedK m os⟩
      have : d'.toList.length = l.length := by rw [Array.length_toList, hsz]
      unfold OwnFr
      rw [this]
      simpa using hro
  have C := Go.Lib.hid C
  have hlI : (l.length : Int) < 20 := by omega
  clear hown
  generalize l.length = n at *
  go_enter Tryz.func101, Tryz.ntmps101
  go_wp2_with fail
  go_loopw [7, 8] (fun a b wr => a = .int .i64 0 ∧ b = .int .i64 20 ∧ Hid (wr = w)) (fun _ _ _ => 0)
  case atStart => exact ⟨rfl, rfl, rfl⟩
  case round =>
    obtain ⟨rfl, rfl, he⟩ := hrel
    have he := he.out
    subst he
    go_wp2_with fail
    refine C.out.mono ?_
    rintro e w1 ⟨rfl, hf⟩
    have HF := Go.Lib.hid hf
    clear hf
    go_wp2_with fail
    go_loopw [6] (fun a wr => a = .int .i64 20 ∧ Hid (wr = w1)) (fun _ _ => 0)
    case atStart => exact ⟨rfl, rfl⟩
    case round =>
      obtain ⟨rfl, he⟩ := hrel
      have he := he.out
      subst he
      go_wp2_with fail
      go_end0
      exact ⟨rfl, HF.out⟩
set_option maxHeartbeats 2000000 in
theorem sortstable_c (w : World) (B : Nat) (v : Value) (l : List FreshT) (hown : OwnFr w B v l) (hl : l.length ≤ 19) :
    Calls Tryz.prog 80 #[v, .func (.func 81) #[] #[]] w fun e w' => e = .returned (.tuple #[]) ∧ ∃ l', l'.Perm l ∧ OwnFr w' B v l' ∧ w.grownBy w' v.ownBlock := by
  have C := Go.Lib.hid (stable20_c w B v l hown hl)
  obtain ⟨p, c, rfl⟩ : ∃ p c, v = .slice p l.length c := by
    rcases fresh_form hown with ⟨rfl, p, c, rfl⟩ | ⟨g, c, rfl, -⟩
    · exact ⟨p, c, rfl⟩
    · exact ⟨_, c, rfl⟩
  clear hown
  go_enter Tryz.func80, Tryz.ntmps80
  go_wp2_with fail
  refine C.out.mono ?_
  rintro e w1 ⟨rfl, hf⟩
  have HF := Go.Lib.hid hf
  clear hf
  go_wp2_with fail
  go_end0
  exact ⟨rfl, HF.out⟩

end Go.Proofs.YtnalokjnbccjnaaGreatDoor

namespace Go.Proofs.YtnalokjnbccjnaaGreatDoor
open Go.RowKit Go.Shelf Go.Lib Go.Sort

theorem cf_zero (x y : FreshT) (hx : x.1.2.1 = 0) (hy : y.1.2.1 = 0) : cfLen x y = 0 := by
  unfold cfLen cmpI
  rw [hx, hy]
  simp

section
variable {d0 d : Array FreshT} {w0 W : World} {g : Nat}
/-- A file's cells as a value. -/
abbrev efA (x : FreshT) : Value := .agg #[.string x.1.1, .int .i64 x.1.2.1, .int .i64 x.1.2.2.1, .int .i64 x.1.2.2.2, .slice x.2.1 x.2.2.1 x.2.2.2]
/-- A comparison of two files of one length. -/
theorem sym_cmp (S : SWK efr 5 w0 g 0 d W) (hz : ∀ i, i < d.size → d[i]!.1.2.1 = 0) (i j : Nat) (hi : i < d.size) (hj : j < d.size) (n : Nat) (os : Array Obj) :
    Calls Tryz.prog 81 #[efA d[i]!, efA d[j]!] (grow (W.drewN n) os) fun e w'' => e = .returned (.int .i64 0) ∧ ∃ p : GrownBy, w'' = grow ((W.drewN p.n)) p.os := by
  have h := S.cmp (cmpLen g 0 d.size w0) rfl d[i]! d[j]! n os
  rw [cf_zero _ _ (hz i hi) (hz j hj)] at h
  exact Calls.grown_of h
theorem sym_cells (R : RowK efr 5 w0 g 0 d0) (hs : d.size = d0.size) (S : SWK efr 5 w0 g 0 d W) (i : Nat) (hi : i < d.size) :
    (∀ n os, (grow (W.drewN n) os).cell? ⟨g, i * 5, none⟩ = some (.string d[i]!.1.1)) ∧ (∀ n os, (grow (W.drewN n) os).cell? ⟨g, i * 5 + 1, none⟩ = some (.int .i64 d[i]!.1.2.1)) ∧
      (∀ n os, (grow (W.drewN n) os).cell? ⟨g, i * 5 + 2, none⟩ = some (.int .i64 d[i]!.1.2.2.1)) ∧ (∀ n os, (grow (W.drewN n) os).cell? ⟨g, i * 5 + 3, none⟩ = some (.int .i64 d[i]!.1.2.2.2)) ∧
      (∀ n os, (grow (W.drewN n) os).cell? ⟨g, i * 5 + 4, none⟩ = some (.slice d[i]!.2.1 d[i]!.2.2.1 d[i]!.2.2.2)) := by
  have h := fun n os c v hv => HoldsK.cells ((S.grown n os).holds R.hblk R.hH hs) R.hk hi c v hv
  refine ⟨fun n os => ?_, fun n os => ?_, fun n os => ?_, fun n os => ?_, fun n os => ?_⟩
  · have := h n os 0 _ rfl; rwa [Addr.add_lit, Nat.zero_add, Nat.add_zero] at this
  · have := h n os 1 _ rfl; rwa [Addr.add_lit, Nat.zero_add] at this
  · have := h n os 2 _ rfl; rwa [Addr.add_lit, Nat.zero_add] at this
  · have := h n os 3 _ rfl; rwa [Addr.add_lit, Nat.zero_add] at this
  · have := h n os 4 _ rfl; rwa [Addr.add_lit, Nat.zero_add] at this

set_option maxHeartbeats 8000000 in
set_option maxRecDepth 100000 in
theorem symmerge_c (c : Nat) (R : RowK efr 5 w0 g 0 d0) (hs : d.size = d0.size) (hz : ∀ i, i < d.size → d[i]!.1.2.1 = 0) (hsz : d.size ≤ 1000) :
    ∀ (N a m b : Nat) (W : World), b - a ≤ N → a < m → m < b → b ≤ d.size → SWK efr 5 w0 g 0 d W →
    Calls Tryz.prog 123 #[.slice (some ⟨g, 0, none⟩) d.size c, .int .i64 a, .int .i64 m, .int .i64 b, .func (.func 81) #[] #[]] W fun e w' => e = .returned (.tuple #[]) ∧ SWK efr 5 w0 g 0 d w' := by
  intro N
  induction N with
  | zero =>
    intro a m b W h0 h1 h2 h3 S
    omega
  | succ N ih =>
    intro a m b W h0 h1 h2 h3 S
    have IH := Go.Lib.hid ih
    clear ih
    have HR := Go.Lib.hid (And.intro R hs)
    have HZ := Go.Lib.hid hz
    have HS := Go.Lib.hid S
    obtain ⟨n, hn⟩ : ∃ n, n = d.size := ⟨_, rfl⟩
    rw [← hn] at hsz h3
    have HN := Go.Lib.hid hn
    have eg : ∀ args w, (callFunc 81 args).run Tryz.prog w = .ok (.enter 81 args) w := enters_of Tryz.func81 (by kernel_rfl) rfl
    have mixed : Tryz.prog.follows .mixedOrders = true := by kernel_rfl
    have aE := Tryz.isAgg111
    have zE := Tryz.sizeOf111
    rw [← hn]
    clear R hs hz S hn
    go_enter Tryz.func123, Tryz.ntmps123
    by_cases ha : m - a = 1
    · have haI : ((m : Int) - (a : Int) == 1) = true := by rw [beq_iff_eq]; omega
      have HA := Go.Lib.hid ha
      have haN : a < n := by omega
      clear ha
      go_wp2_with fail
      go_loopw [10, 11] (fun vi vj wr => ∃ (j : Nat), vi = .int .i64 (m : Int) ∧ vj = .int .i64 (j : Int) ∧ m ≤ j ∧ j ≤ b ∧ Hid (SWK efr 5 w0 g 0 d wr)) (fun vi vj _ => (intOf vj - intOf vi).toNat)
      case atStart => exact ⟨b, rfl, rfl, by omega, Nat.le_refl _, HS⟩
      case round =>
        obtain ⟨j, rfl, rfl, hmj, hjb, S⟩ := hrel
        by_cases hlt : m < j
        · obtain ⟨H, hH⟩ : ∃ H : Nat, H = (m + j) / 2 := ⟨_, rfl⟩
          have hHI : ((m : Int) + (j : Int)) / 2 = (H : Int) := by omega
          have hmj2 : (m : Int) < (j : Int) := by omega
          have hH1 : H < n := by omega
          have hH2 : H < j := by omega
          have hH3 : m ≤ H := by omega
          obtain ⟨j0, j1, j2, j3, j4⟩ := sym_cells HR.out.1 HR.out.2 S.out H (by rw [← HN.out]; omega)
          obtain ⟨a0, a1, a2, a3, a4⟩ := sym_cells HR.out.1 HR.out.2 S.out a (by rw [← HN.out]; omega)
          have hc := Go.Lib.hid fun n' os' => sym_cmp S.out HZ.out H a (by rw [← HN.out]; omega) (by rw [← HN.out]; omega) n' os'
          have hS2 := Go.Lib.hid fun n' os' => S.out.grown n' os'
          generalize d[H]! = xH at *
          generalize d[a]! = xa at *
          obtain ⟨⟨xj0, xj1, xj2, xj3⟩, xj4, xj5, xj6⟩ := xH
          obtain ⟨⟨xa0, xa1, xa2, xa3⟩, xa4, xa5, xa6⟩ := xa
          clear S hH
          go_wp2_with fail
          have HQ := Go.Lib.hid (And.intro h0 (And.intro h1 (And.intro h2 (And.intro h3 (And.intro hmj (And.intro hjb (And.intro hlt (And.intro haI (And.intro hmj2 (And.intro hH2 hH3))))))))))
          clear h0 h1 h2 h3 hmj hjb hlt haI hmj2 hH2 hH3
          go_quiet_grown (first | (go_at_fn 81; exact hc.out _ _))
          clear j0 j1 j2 j3 j4 a0 a1 a2 a3 a4 hc
          go_wp2_with fail
          obtain ⟨h0, h1, h2, h3, hmj, hjb, hlt, haI, hmj2, hH2, hH3⟩ := HQ.out
          go_roundw
          case rel => exact ⟨H, rfl, rfl, hH3, by omega, hS2.out _ _⟩
          case measure => simp only [intOf]; omega
        · obtain rfl : j = m := by omega
          have hna : ¬ (a : Int) < (j : Int) - 1 := by have := HA.out; omega
          go_wp2_with fail
          go_loopw [13] (fun vk wr2 => vk = .int .i64 (a : Int) ∧ Hid (SWK efr 5 w0 g 0 d wr2)) (fun _ _ => 0)
          case atStart => exact ⟨rfl, S⟩
          case round =>
            obtain ⟨rfl, S⟩ := hrel
            go_wp2_with fail
            refine bodyPost_ret (results_none rfl _ _ _) rfl ?_
            exact ⟨rfl, S.out⟩
    · have haI : ((m : Int) - (a : Int) == 1) = false := by rw [beq_eq_false_iff_ne]; omega
      by_cases hb : b - m = 1
      · have hbI : ((b : Int) - (m : Int) == 1) = true := by rw [beq_iff_eq]; omega
        have hmN : m < n := by omega
        clear hb ha
        go_wp2_with fail
        go_loopw [14, 15] (fun vi vj wr => ∃ (i : Nat), vi = .int .i64 (i : Int) ∧ vj = .int .i64 (m : Int) ∧ a ≤ i ∧ i ≤ m ∧ Hid (SWK efr 5 w0 g 0 d wr)) (fun vi vj _ => (intOf vj - intOf vi).toNat)
        case atStart => exact ⟨a, rfl, rfl, by omega, by omega, HS⟩
        case round =>
          obtain ⟨i, rfl, rfl, hai, him, S⟩ := hrel
          by_cases hlt : i < m
          · obtain ⟨H, hH⟩ : ∃ H : Nat, H = (i + m) / 2 := ⟨_, rfl⟩
            have hHI : ((i : Int) + (m : Int)) / 2 = (H : Int) := by omega
            have hmj2 : (i : Int) < (m : Int) := by omega
            have hH1 : H < n := by omega
            have hH2 : H < m := by omega
            have hH3 : i ≤ H := by omega
            obtain ⟨j0, j1, j2, j3, j4⟩ := sym_cells HR.out.1 HR.out.2 S.out H (by rw [← HN.out]; omega)
            obtain ⟨a0, a1, a2, a3, a4⟩ := sym_cells HR.out.1 HR.out.2 S.out m (by rw [← HN.out]; omega)
            have hc := Go.Lib.hid fun n' os' => sym_cmp S.out HZ.out m H (by rw [← HN.out]; omega) (by rw [← HN.out]; omega) n' os'
            have hS2 := Go.Lib.hid fun n' os' => S.out.grown n' os'
            generalize d[H]! = xH at *
            generalize d[m]! = xa at *
            obtain ⟨⟨xj0, xj1, xj2, xj3⟩, xj4, xj5, xj6⟩ := xH
            obtain ⟨⟨xa0, xa1, xa2, xa3⟩, xa4, xa5, xa6⟩ := xa
            clear S hH
            go_wp2_with fail
            have HQ := Go.Lib.hid (And.intro h0 (And.intro h1 (And.intro h2 (And.intro h3 (And.intro hai (And.intro him (And.intro hlt (And.intro haI (And.intro hbI (And.intro hmj2 (And.intro hH2 hH3)))))))))))
            clear h0 h1 h2 h3 hai him hlt haI hbI hmj2 hH2 hH3
            go_quiet_grown (first | (go_at_fn 81; exact hc.out _ _))
            clear j0 j1 j2 j3 j4 a0 a1 a2 a3 a4 hc
            go_wp2_with fail
            obtain ⟨h0, h1, h2, h3, hai, him, hlt, haI, hbI, hmj2, hH2, hH3⟩ := HQ.out
            go_roundw
            case rel => exact ⟨H + 1, by go_num, rfl, by omega, by omega, hS2.out _ _⟩
            case measure => simp only [intOf]; omega
          · obtain rfl : i = m := by omega
            go_wp2_with fail
            go_loopw [17] (fun vk wr2 => vk = .int .i64 (i : Int) ∧ Hid (SWK efr 5 w0 g 0 d wr2)) (fun _ _ => 0)
            case atStart => exact ⟨rfl, S⟩
            case round =>
              obtain ⟨rfl, S⟩ := hrel
              go_wp2_with fail
              refine bodyPost_ret (results_none rfl _ _ _) rfl ?_
              exact ⟨rfl, S.out⟩
      · have hbI : ((b : Int) - (m : Int) == 1) = false := by rw [beq_eq_false_iff_ne]; omega
        obtain ⟨D, hD⟩ : ∃ D : Nat, D = (a + b) / 2 := ⟨_, rfl⟩
        have hDI : ((a : Int) + (b : Int)) / 2 = (D : Int) := by omega
        have HD := Go.Lib.hid (show D = (a + b) / 2 ∧ 2 ≤ m - a ∧ 2 ≤ b - m by omega)
        have hDa : a < D := by omega
        have hDb : D < b := by omega
        clear hD ha hb
        by_cases hm : D < m
        · have hmI : (D : Int) < (m : Int) := by omega
          obtain ⟨st, hst⟩ : ∃ st : Nat, st + b = D + m := ⟨D + m - b, by have := HD.out; omega⟩
          have hstI : (D : Int) + (m : Int) - (b : Int) = (st : Int) := by omega
          have HST := Go.Lib.hid hst
          have hstD : st ≤ D := by omega
          clear hst
          go_wp2_with fail
          go_loopw [20, 21] (fun vi vj wr => ∃ (i : Nat), vi = .int .i64 (i : Int) ∧ vj = .int .i64 (D : Int) ∧ st ≤ i ∧ i ≤ D ∧ Hid (SWK efr 5 w0 g 0 d wr)) (fun vi vj _ => (intOf vj - intOf vi).toNat)
          case atStart => exact ⟨st, rfl, rfl, by omega, by omega, HS⟩
          case round =>
            obtain ⟨i, rfl, rfl, hai, him, S⟩ := hrel
            by_cases hlt : i < D
            · obtain ⟨H, hH⟩ : ∃ H : Nat, H = (i + D) / 2 := ⟨_, rfl⟩
              have hHI : ((i : Int) + (D : Int)) / 2 = (H : Int) := by omega
              have hmj2 : (i : Int) < (D : Int) := by omega
              have hH1 : H < n := by omega
              have hH2 : H < D := by omega
              have hH3 : i ≤ H := by omega
              obtain ⟨E, hE⟩ : ∃ E : Nat, E + H + 1 = D + m := ⟨D + m - 1 - H, by omega⟩
              have hEI : (D : Int) + (m : Int) - 1 - (H : Int) = (E : Int) := by omega
              have hEw : IntKind.i64.wrap (E : Int) = (E : Int) := by rw [IntKind.wrap_i64]; omega
              have hE1 : E < n := by have := HST.out; omega
              obtain ⟨j0, j1, j2, j3, j4⟩ := sym_cells HR.out.1 HR.out.2 S.out H (by rw [← HN.out]; omega)
              obtain ⟨a0, a1, a2, a3, a4⟩ := sym_cells HR.out.1 HR.out.2 S.out E (by rw [← HN.out]; omega)
              have hc := Go.Lib.hid fun n' os' => sym_cmp S.out HZ.out E H (by rw [← HN.out]; omega) (by rw [← HN.out]; omega) n' os'
              have hS2 := Go.Lib.hid fun n' os' => S.out.grown n' os'
              generalize d[H]! = xH at *
              generalize d[E]! = xa at *
              obtain ⟨⟨xj0, xj1, xj2, xj3⟩, xj4, xj5, xj6⟩ := xH
              obtain ⟨⟨xa0, xa1, xa2, xa3⟩, xa4, xa5, xa6⟩ := xa
              clear S hH hE
              go_wp2_with fail
              have HQ := Go.Lib.hid (And.intro h0 (And.intro h1 (And.intro h2 (And.intro h3 (And.intro hai (And.intro him (And.intro hlt (And.intro haI (And.intro hbI (And.intro hmj2 (And.intro hH2 (And.intro hH3 (And.intro hDa (And.intro hDb (And.intro hm (And.intro hmI (And.intro hstD (And.intro hstI hDI))))))))))))))))))
              clear h0 h1 h2 h3 hai him hlt haI hbI hmj2 hH2 hH3 hDa hDb hm hmI hstD hstI hDI
              go_quiet_grown (first | (go_at_fn 81; exact hc.out _ _))
              clear j0 j1 j2 j3 j4 a0 a1 a2 a3 a4 hc
              go_wp2_with fail
              obtain ⟨h0, h1, h2, h3, hai, him, hlt, haI, hbI, hmj2, hH2, hH3, hDa, hDb, hm, hmI, hstD, hstI, hDI⟩ := HQ.out
              go_roundw
              case rel => exact ⟨H + 1, by go_num, rfl, by omega, by omega, hS2.out _ _⟩
              case measure => simp only [intOf]; omega
            · obtain rfl : i = D := by omega
              have hend : (i : Int) + (m : Int) - (i : Int) = (m : Int) := by omega
              have t1 : ¬ (m : Int) < (m : Int) := by omega
              have t2 : ¬ (i : Int) < (i : Int) := by omega
              have t3 : (m : Int) < (b : Int) := by omega
              have t4 : (a : Int) < (i : Int) := by omega
              have CI := Go.Lib.hid (IH.out i m b wr (by omega) hm h2 (by rw [← HN.out]; exact h3) S.out)
              rw [← HN.out] at CI
              clear S
              go_wp2_with fail
              refine CI.out.mono ?_
              rintro e w2 ⟨rfl, hs2⟩
              have HS2 := Go.Lib.hid hs2
              clear hs2
              go_wp2_with fail
              go_end0
              exact ⟨rfl, HS2.out⟩
        · have hmI : ¬ (D : Int) < (m : Int) := by omega
          go_wp2_with fail
          go_loopw [20, 21] (fun vi vj wr => ∃ (i : Nat), vi = .int .i64 (i : Int) ∧ vj = .int .i64 (m : Int) ∧ a ≤ i ∧ i ≤ m ∧ Hid (SWK efr 5 w0 g 0 d wr)) (fun vi vj _ => (intOf vj - intOf vi).toNat)
          case atStart => exact ⟨a, rfl, rfl, by omega, by omega, HS⟩
          case round =>
            obtain ⟨i, rfl, rfl, hai, him, S⟩ := hrel
            by_cases hlt : i < m
            · obtain ⟨H, hH⟩ : ∃ H : Nat, H = (i + m) / 2 := ⟨_, rfl⟩
              have hHI : ((i : Int) + (m : Int)) / 2 = (H : Int) := by omega
              have hmj2 : (i : Int) < (m : Int) := by omega
              have hH1 : H < n := by omega
              have hH2 : H < m := by omega
              have hH3 : i ≤ H := by omega
              obtain ⟨E, hE⟩ : ∃ E : Nat, E + H + 1 = D + m := ⟨D + m - 1 - H, by omega⟩
              have hEI : (D : Int) + (m : Int) - 1 - (H : Int) = (E : Int) := by omega
              have hEw : IntKind.i64.wrap (E : Int) = (E : Int) := by rw [IntKind.wrap_i64]; omega
              have hE1 : E < n := by have := HD.out; omega
              obtain ⟨j0, j1, j2, j3, j4⟩ := sym_cells HR.out.1 HR.out.2 S.out H (by rw [← HN.out]; omega)
              obtain ⟨a0, a1, a2, a3, a4⟩ := sym_cells HR.out.1 HR.out.2 S.out E (by rw [← HN.out]; omega)
              have hc := Go.Lib.hid fun n' os' => sym_cmp S.out HZ.out E H (by rw [← HN.out]; omega) (by rw [← HN.out]; omega) n' os'
              have hS2 := Go.Lib.hid fun n' os' => S.out.grown n' os'
              generalize d[H]! = xH at *
              generalize d[E]! = xa at *
              obtain ⟨⟨xj0, xj1, xj2, xj3⟩, xj4, xj5, xj6⟩ := xH
              obtain ⟨⟨xa0, xa1, xa2, xa3⟩, xa4, xa5, xa6⟩ := xa
              clear S hH hE
              go_wp2_with fail
              have HQ := Go.Lib.hid (And.intro h0 (And.intro h1 (And.intro h2 (And.intro h3 (And.intro hai (And.intro him (And.intro hlt (And.intro haI (And.intro hbI (And.intro hmj2 (And.intro hH2 (And.intro hH3 (And.intro hDa (And.intro hDb (And.intro hm (And.intro hmI hDI))))))))))))))))
              clear h0 h1 h2 h3 hai him hlt haI hbI hmj2 hH2 hH3 hDa hDb hm hmI hDI
              go_quiet_grown (first | (go_at_fn 81; exact hc.out _ _))
              clear j0 j1 j2 j3 j4 a0 a1 a2 a3 a4 hc
              go_wp2_with fail
              obtain ⟨h0, h1, h2, h3, hai, him, hlt, haI, hbI, hmj2, hH2, hH3, hDa, hDb, hm, hmI, hDI⟩ := HQ.out
              go_roundw
              case rel => exact ⟨H + 1, by go_num, rfl, by omega, by omega, hS2.out _ _⟩
              case measure => simp only [intOf]; omega
            · obtain rfl : i = m := by omega
              have hend : (D : Int) + (i : Int) - (i : Int) = (D : Int) := by omega
              have t1 : ¬ (i : Int) < (i : Int) := by omega
              have t2 : ¬ (D : Int) < (D : Int) := by omega
              have t3 : (a : Int) < (i : Int) := by omega
              by_cases hiD : i < D
              · have t4 : (i : Int) < (D : Int) := by omega
                have CI := Go.Lib.hid (IH.out a i D wr (by omega) h1 hiD (by rw [← HN.out]; omega) S.out)
                rw [← HN.out] at CI
                clear S
                go_wp2_with fail
                refine CI.out.mono ?_
                rintro e w2 ⟨rfl, hs2⟩
                have HS2 := Go.Lib.hid hs2
                clear hs2
                go_wp2_with fail
                go_end0
                exact ⟨rfl, HS2.out⟩
              · have t4 : ¬ (i : Int) < (D : Int) := by omega
                go_wp2_with fail
                go_end0
                exact ⟨rfl, S.out⟩
end

/-- Twenty at most, or all of one length. -/
def SrtF (l : List FreshT) : Prop := l.length ≤ 19 ∨ (l.length ≤ 39 ∧ ∀ x ∈ l, x.1.2.1 = 0)

theorem SrtF.len {l : List FreshT} (h : SrtF l) : l.length ≤ 39 := by
  rcases h with h | h
  · omega
  · exact h.1
theorem zero_ins (d : Array FreshT) (a b : Nat) (hab : a ≤ b) (hb : b ≤ d.size) : (insertionSort (ltOf cfLen) d a b).size = d.size ∧ (insertionSort (ltOf cfLen) d a b).toList.Perm d.toList := by
  have h := permIn_mono d _ a b 0 d.size (Nat.zero_le _) hb (Nat.le_refl _) (insertionSort_holds (lt := ltOf cfLen) swoLen d a b hab hb).1
  exact ⟨h.1, permIn_list h⟩
theorem zero_get {d : Array FreshT} {l : List FreshT} (hp : d.toList.Perm l) (hz : ∀ x ∈ l, x.1.2.1 = 0) : ∀ i, i < d.size → d[i]!.1.2.1 = 0 := by
  intro i hi
  rw [getElem!_pos d i hi]
  exact hz _ (hp.mem_iff.1 (by rw [Array.mem_toList_iff]; exact Array.getElem_mem hi))

set_option maxHeartbeats 4000000 in
set_option maxRecDepth 100000 in
theorem stable39_c (w : World) (B : Nat) (v : Value) (l : List FreshT) (hown : OwnFr w B v l) (h20 : 20 ≤ l.length) (h39 : l.length ≤ 39) (hz : ∀ x ∈ l, x.1.2.1 = 0) :
    Calls Tryz.prog 101 #[v, .int .i64 (l.length : Int), .func (.func 81) #[] #[]] w fun e w' => e = .returned (.tuple #[]) ∧ ∃ l', l'.Perm l ∧ OwnFr w' B v l' ∧ w.grownBy w' v.ownBlock := by
  obtain ⟨g, c, rfl, hg⟩ : ∃ g c, v = .slice (some ⟨g, 0, none⟩) l.length c ∧ g < w.heap.size := by
    rcases fresh_form hown with ⟨h0, -⟩ | h
    · rw [h0] at h20; simp at h20
    · exact h
  have eg : ∀ args w, (callFunc 81 args).run Tryz.prog w = .ok (.enter 81 args) w := enters_of Tryz.func81 (by kernel_rfl) rfl
  have hrow : w.ownsRow B 111 5 (.slice (some ⟨g, 0, none⟩) l.toArray.size c) l.toArray.size (l.toArray.toList.flatMap efr) := by simpa [OwnFr] using hown
  have hH := holdsK_row efr_len (by omega) hrow
  have R : RowK efr 5 w g 0 l.toArray := ⟨efr_len, efr_one, hH, hg⟩
  have hn : l.toArray.size = l.length := by simp
  obtain ⟨d1, hd1⟩ : ∃ d1, d1 = insertionSort (ltOf cfLen) l.toArray 0 20 := ⟨_, rfl⟩
  have z1 := zero_ins l.toArray 0 20 (by omega) (by rw [hn]; exact h20)
  rw [← hd1] at z1
  obtain ⟨d2, hd2⟩ : ∃ d2, d2 = insertionSort (ltOf cfLen) d1 20 l.length := ⟨_, rfl⟩
  have z2 := zero_ins d1 20 l.length h20 (by rw [z1.1, hn]; exact Nat.le_refl _)
  rw [← hd2] at z2
  have hp2 : d2.toList.Perm l := by simpa using z2.2.trans z1.2
  have hs2 : d2.size = l.length := by rw [z2.1, z1.1, hn]
  have C1 : Calls Tryz.prog 122 #[.slice (some ⟨g, 0, none⟩) l.length c, .int .i64 0, .int .i64 20, .func (.func 81) #[] #[]] w fun e w' => e = .returned (.tuple #[]) ∧ SWK efr 5 w g 0 d1 w' := by
    have h := AnyQ.insertionSortCmpFunc_w insFreshL 5 Tryz.isAgg111 Tryz.sizeOf111 efr cfLen 81 #[] g 0 c 0 20 l.toArray l.toArray w w eg (cmpLen g 0 _ w) R rfl (SWK.start hH) swoLen (by omega) (by rw [hn]; exact h20) (by rw [hn]; omega)
    change Calls Tryz.prog 122 _ _ _ at h
    rw [hn, ← hd1] at h
    exact h
  have C2 : ∀ W, SWK efr 5 w g 0 d1 W → Calls Tryz.prog 122 #[.slice (some ⟨g, 0, none⟩) l.length c, .int .i64 20, .int .i64 (l.length : Int), .func (.func 81) #[] #[]] W fun e w' => e = .returned (.tuple #[]) ∧ SWK efr 5 w g 0 d2 w' := by
    intro W hS
    have h := AnyQ.insertionSortCmpFunc_w insFreshL 5 Tryz.isAgg111 Tryz.sizeOf111 efr cfLen 81 #[] g 0 c 20 l.length l.toArray d1 w W eg (cmpLen g 0 _ w) R z1.1.symm hS swoLen h20 (by rw [z1.1, hn]; exact Nat.le_refl _) (by rw [z1.1, hn]; omega)
    change Calls Tryz.prog 122 _ _ _ at h
    rw [z1.1, hn, ← hd2] at h
    exact h
  have C3 : ∀ W, 20 < l.length → SWK efr 5 w g 0 d2 W → Calls Tryz.prog 123 #[.slice (some ⟨g, 0, none⟩) l.length c, .int .i64 0, .int .i64 20, .int .i64 (l.length : Int), .func (.func 81) #[] #[]] W fun e w' => e = .returned (.tuple #[]) ∧ SWK efr 5 w g 0 d2 w' := by
    intro W hlt hS
    have h := symmerge_c (d := d2) c R (by rw [hs2, hn]) (zero_get hp2 hz) (by rw [hs2]; omega) l.length 0 20 l.length W (by omega) (by omega) hlt (by rw [hs2]; exact Nat.le_refl _) hS
    rw [hs2] at h
    exact h
  have hF : ∀ W, SWK efr 5 w g 0 d2 W → ∃ l', l'.Perm l ∧ OwnFr W B (.slice (some ⟨g, 0, none⟩) l.length c) l' ∧ w.grownBy W (Value.slice (some ⟨g, 0, none⟩) l.length c).ownBlock := by
    rintro W ⟨m, os, rfl⟩
    have hro := row_sortedK (d := l.toArray) (d' := d2) efr_len (by omega) hrow (by rw [hs2, hn]) m os
    refine ⟨d2.toList, hp2, ?_, grown_sortedK m os⟩
    have : d2.toList.length = l.length := by rw [Array.length_toList, hs2]
    unfold OwnFr
    rw [this]
    simpa using hro
  have C1 := Go.Lib.hid C1
  have C2 := Go.Lib.hid C2
  have C3 := Go.Lib.hid C3
  have HF := Go.Lib.hid hF
  obtain ⟨n, hnn⟩ : ∃ n, n = l.length := ⟨_, rfl⟩
  have HN := Go.Lib.hid hnn
  have hI20 : (20 : Int) ≤ (n : Int) := by omega
  have hI39 : (n : Int) ≤ 39 := by omega
  rw [← hnn] at C1 C2 C3 HF ⊢
  clear hF hown hz hrow hH R hn hd1 z1 hd2 z2 hp2 hs2 h20 h39 hnn
  go_enter Tryz.func101, Tryz.ntmps101
  go_wp2_with fail
  go_loopw [7, 8] (fun a b wr => (a = .int .i64 0 ∧ b = .int .i64 20 ∧ Hid (wr = w)) ∨ (a = .int .i64 20 ∧ b = .int .i64 40 ∧ Hid (SWK efr 5 w g 0 d1 wr))) (fun _ b _ => 40 - (intOf b).toNat)
  case atStart => exact .inl ⟨rfl, rfl, rfl⟩
  case round =>
    rcases hrel with ⟨rfl, rfl, he⟩ | ⟨rfl, rfl, hs⟩
    · have he := he.out
      subst he
      go_wp2_with fail
      refine C1.out.mono ?_
      rintro e w1 ⟨rfl, hs1⟩
      have HS1 := Go.Lib.hid hs1
      clear hs1
      go_wp2_with fail
      go_roundw
      case rel => exact .inr ⟨rfl, rfl, HS1⟩
      case measure => simp [intOf]
    · have h40 : ¬ (40 : Int) ≤ (n : Int) := by omega
      have C2 := Go.Lib.hid (C2.out _ hs.out)
      clear hs
      go_wp2_with fail
      refine C2.out.mono ?_
      rintro e w1 ⟨rfl, hs1⟩
      have HS1 := Go.Lib.hid hs1
      clear hs1 C2
      go_wp2_with fail
      go_loopw [6] (fun a wr => ((a = .int .i64 20) ∨ (a = .int .i64 40)) ∧ Hid (SWK efr 5 w g 0 d2 wr)) (fun a _ => 40 - (intOf a).toNat)
      case atStart => exact ⟨.inl rfl, HS1⟩
      case round =>
        obtain ⟨hbs, hs⟩ := hrel
        rcases hbs with rfl | rfl
        · by_cases hlt : 20 < n
          · have hltI : (20 : Int) < (n : Int) := by omega
            have C3 := Go.Lib.hid fun W => C3.out W hlt
            have HS2 := Go.Lib.hid hs.out
            clear hs hlt
            go_wp2_with fail
            go_loopw [7, 8] (fun a b wr2 => a = .int .i64 0 ∧ b = .int .i64 40 ∧ Hid (wr2 = wr)) (fun _ _ _ => 0)
            case atStart => exact ⟨rfl, rfl, rfl⟩
            case round =>
              obtain ⟨rfl, rfl, he⟩ := hrel
              have he := he.out
              subst he
              have C4 := Go.Lib.hid (C3.out _ HS2.out)
              go_wp2_with fail
              refine C4.out.mono ?_
              rintro e w3 ⟨rfl, hs3⟩
              have HS3 := Go.Lib.hid hs3
              clear hs3
              go_wp2_with fail
              go_roundw
              case rel => exact ⟨.inr rfl, HS3⟩
              case measure => simp [intOf]
          · have hltI : ¬ (20 : Int) < (n : Int) := by omega
            have HS2 := Go.Lib.hid hs.out
            clear hs
            go_wp2_with fail
            go_end0
            exact ⟨rfl, HF.out _ HS2.out⟩
        · have hltI : ¬ (40 : Int) < (n : Int) := by omega
          have HS2 := Go.Lib.hid hs.out
          clear hs
          go_wp2_with fail
          go_end0
          exact ⟨rfl, HF.out _ HS2.out⟩

set_option maxHeartbeats 2000000 in
theorem sortany_c (w : World) (B : Nat) (v : Value) (l : List FreshT) (hown : OwnFr w B v l) (hl : SrtF l) :
    Calls Tryz.prog 80 #[v, .func (.func 81) #[] #[]] w fun e w' => e = .returned (.tuple #[]) ∧ ∃ l', l'.Perm l ∧ OwnFr w' B v l' ∧ w.grownBy w' v.ownBlock := by
  by_cases h19 : l.length ≤ 19
  · exact sortstable_c w B v l hown h19
  obtain ⟨h39, hz⟩ : l.length ≤ 39 ∧ ∀ x ∈ l, x.1.2.1 = 0 := by
    rcases hl with h | h
    · exact absurd h h19
    · exact h
  have C := Go.Lib.hid (stable39_c w B v l hown (by omega) h39 hz)
  obtain ⟨p, c, rfl⟩ : ∃ p c, v = .slice p l.length c := by
    rcases fresh_form hown with ⟨rfl, p, c, rfl⟩ | ⟨g, c, rfl, -⟩
    · exact ⟨p, c, rfl⟩
    · exact ⟨_, c, rfl⟩
  clear hown
  go_enter Tryz.func80, Tryz.ntmps80
  go_wp2_with fail
  refine C.out.mono ?_
  rintro e w1 ⟨rfl, hf⟩
  have HF := Go.Lib.hid hf
  clear hf
  go_wp2_with fail
  go_end0
  exact ⟨rfl, HF.out⟩
end Go.Proofs.YtnalokjnbccjnaaGreatDoor
