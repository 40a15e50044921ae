/-
  Package dir: contract of Decode.
-/
import Derived.Test.YteickihofbkbkaaEntD
import Derived.Test.YteickihofbkbkaaEntMay
namespace Go.Proofs.Yteickihofbkbkaa
open Go.RowKit

def DecQ (b : List UInt8) (w : World) (e : Ending) (w' : World) : Prop :=
  (decB b = none ∧ e = .returned (.tuple #[.slice none 0 0, .int .i64 8])) ∨ ∃ l v', decB b = some l ∧ e = .returned (.tuple #[v', .int .i64 0]) ∧ OwnE w' w.heap.size v' l

theorem decB_bad {b : List UInt8} (h : hdN b < 0 ∨ 32 < hdN b) : decB b = none := by unfold decB; rw [if_pos h]
theorem decB_of {b : List UInt8} {N : Nat} {L : List EntT} {l2 : List UInt8} {b2 : Bool} (hN : hdN b = (N : Int)) (h32 : N ≤ 32) (hs : seqR N (hdS b) = (L, l2, b2)) :
    decB b = if b2 = true ∨ l2 ≠ [] ∨ mayL L = false then none else some L := by
  unfold decB
  rw [if_neg (by omega), hN]
  simp only [Int.toNat_natCast, hs]

set_option maxHeartbeats 2000000 in
set_option maxRecDepth 100000 in
theorem decode_any (v : Value) (b : List UInt8) (w : World) (hv : RB w v b) :
    Calls Try.prog 13 #[v] w fun e w' => DecQ b w e w' ∧ Below w.heap.size w w' := by
  have hv0 := hv
  obtain ⟨a, c, rfl, g1, g2, g3, g4⟩ := hv
  have hnew := heap_alloc_new w (.cells #[.slice a b.length c, .bool false] 48)
  have hb1 := newB w (.cells #[.slice a b.length c, .bool false] 48)
  have hrd : RD (w.alloc (.cells #[.slice a b.length c, .bool false] 48)) w.heap.size b false := by
    refine ⟨a, b.length, c, hnew, hv0.below hb1, fun hl k hk => ?_⟩
    obtain ⟨q, o, rfl, hc⟩ := g4 hl
    cases hk
    exact World.block_lt_of_cell? w _ (hc 0 (List.length_pos_iff.2 hl))
  have hn := rdnum_c hrd
  have e1 : numR (b, false) = (hdN b, (hdS b).1, (hdS b).2) := rfl
  rw [e1] at hn
  simp only [] at hn
  have HC := Go.Lib.hid hn
  have HB1 := Go.Lib.hid hb1
  clear hn e1 hrd hnew hb1 g1 g3 g4 hv0
  by_cases hbad : hdN b < 0 ∨ 32 < hdN b
  · have K := Go.Lib.hid (decB_bad hbad)
    generalize hdN b = n at *
    by_cases hneg : n < 0
    · clear hbad
      go_enter Try.func13, Try.ntmps13
      go_wp2_with fail
      refine HC.out.mono ?_
      rintro e w1 ⟨rfl, -, hb⟩
      have HB := Go.Lib.hid (hb.below (Nat.le_refl _) HB1.out.size)
      clear hb HC
      go_wp2_with fail
      go_ret2
      exact ⟨.inl ⟨K.out, rfl⟩, HB1.out.trans HB.out⟩
    · have hbig : 32 < n := by omega
      clear hbad
      go_enter Try.func13, Try.ntmps13
      go_wp2_with fail
      refine HC.out.mono ?_
      rintro e w1 ⟨rfl, -, hb⟩
      have HB := Go.Lib.hid (hb.below (Nat.le_refl _) HB1.out.size)
      clear hb HC
      go_wp2_with fail
      go_ret2
      exact ⟨.inl ⟨K.out, rfl⟩, HB1.out.trans HB.out⟩
  · obtain ⟨N, hN⟩ : ∃ N : Nat, hdN b = (N : Int) := ⟨(hdN b).toNat, by omega⟩
    have hN32 : N ≤ 32 := by omega
    have HD := Go.Lib.hid (fun L l2 b2 => decB_of (L := L) (l2 := l2) (b2 := b2) hN hN32)
    rw [hN] at HC
    have hN0 : ¬ (N : Int) < 0 := by omega
    have hN1 : ¬ (32 : Int) < (N : Int) := by omega
    clear hbad hN
    go_enter Try.func13, Try.ntmps13
    go_wp2_with fail
    refine HC.out.mono ?_
    rintro e w1 ⟨rfl, hr, hb⟩
    have hlt := hr.lt
    have HB := Go.Lib.hid (HB1.out.trans (hb.below (Nat.le_refl _) HB1.out.size))
    have HR := Go.Lib.hid hr
    have HLT := Go.Lib.hid hlt
    clear hb HC hr HB1 hlt
    go_wp2_with (first
      | (with_reducible show wpList _ _ _ (⟨some 17, _, _, _, _, _⟩ :: _) _ _; go_loud (refine wpList_make_ents rfl (.const (.int .i64 0)) (.tmp 16) rfl .i64 _ N rfl rfl rfl (by omega) ?_); intro v2 w2 hown2 hg2)
      | fail)
    have HB2 := Go.Lib.hid (HB.out.grown hg2 HB.out.size (fun k hk => by cases hk))
    have hown3 : OwnE w2 (w.heap.size + 1) v2 (seqR 0 (hdS b)).1 := hown2.mono HLT.out
    have hr3 : RD w2 w.heap.size (seqR 0 (hdS b)).2.1 (seqR 0 (hdS b)).2.2 := HR.out.below (grown_below hg2 (Nat.le_refl _) (fun k hk => by cases hk))
    have HO3 := Go.Lib.hid hown3
    have HR3 := Go.Lib.hid hr3
    clear hown2 hg2 hown3 hr3 HB HR HLT
    go_loopw [6, 19] (fun sv i wr => ∃ (k : Nat) (u : Value), u = sv ∧ k ≤ N ∧ i = .int .i64 (k : Int) ∧ OwnE wr (w.heap.size + 1) u (seqR k (hdS b)).1 ∧ RD wr w.heap.size (seqR k (hdS b)).2.1 (seqR k (hdS b)).2.2 ∧ Below w.heap.size w wr) (fun _ i _ => N - (intOf i).toNat)
    case atStart => exact ⟨0, _, rfl, by omega, rfl, HO3.out, HR3.out, HB2.out⟩
    case round =>
      obtain ⟨k, u, rfl, hk, rfl, hown, hr, hbc⟩ := hrel
      by_cases hlt : k < N
      · have hsz : w.heap.size + 1 ≤ wr.heap.size := hr.lt
        have hen := rdentry_c hr
        have hlen : (seqR k (hdS b)).1.length = k := seqR_len _ _
        obtain ⟨x, hx⟩ : ∃ x, x = (entR (seqR k (hdS b)).2).1 := ⟨_, rfl⟩
        have e1 : (seqR (k + 1) (hdS b)).1 = (seqR k (hdS b)).1 ++ [x] := by rw [hx]; rfl
        have e2 : (seqR (k + 1) (hdS b)).2 = (entR ((seqR k (hdS b)).2.1, (seqR k (hdS b)).2.2)).2 := rfl
        have e3 : entR ((seqR k (hdS b)).2.1, (seqR k (hdS b)).2.2) = entR (seqR k (hdS b)).2 := rfl
        rw [← e2, e3, ← hx] at hen
        have HE1 := Go.Lib.hid e1
        have HEN := Go.Lib.hid hen
        have HOWN := Go.Lib.hid hown
        have HBC := Go.Lib.hid hbc
        have HSZ := Go.Lib.hid hsz
        have HLEN := Go.Lib.hid hlen
        have Hlt := Go.Lib.hid hlt
        have hltI : (k : Int) < (N : Int) := by omega
        clear hx e1 e2 e3 hen hown hr hbc hsz hlen hlt
        go_wp2_with fail
        refine HEN.out.mono ?_
        rintro e w4 ⟨nm, en, ea, es, hx, rfl, hr4, ho4⟩
        have hown4 := HOWN.out.same (w' := w4) (fun q cs fr hq hB => ho4.block q (Array.getElem?_eq_some_iff.1 hq).1 (by omega))
        have hbn := newB w4 (entO nm en ea es)
        have hone := RE.one w4 nm en ea es
        rw [← hx] at hone
        have HB5 := Go.Lib.hid ((HBC.out.trans (ho4.below (Nat.le_refl _) (by have := HSZ.out; omega))).trans (hbn.mono (by have := HSZ.out; have := ho4.size; omega)))
        have HO5 := Go.Lib.hid (hown4.below hbn)
        have HR5 := Go.Lib.hid (hr4.below hbn)
        have HS5 := Go.Lib.hid (show w.heap.size + 1 ≤ (w4.alloc (entO nm en ea es)).heap.size by have := HSZ.out; have := ho4.size; have := hbn.size; omega)
        have HX := Go.Lib.hid hone
        unfold entO at HB5 HO5 HR5 HS5 HX
        have HL5 := Go.Lib.hid (show (seqR k (hdS b)).1.length + [x].length ≤ 1000000 by rw [HLEN.out]; have := Hlt.out; simp; omega)
        clear HEN HOWN HBC HSZ hx hr4 ho4 hown4 hbn hone
        unfold entV
        go_wp2_with (first
          | (with_reducible show wpList _ _ _ (⟨some 24, _, _, _, _, _⟩ :: _) _ _; go_loud (refine wpList_append_ents rfl (.tmp 21) (.tmp 23) rfl (w.heap.size + 1) u (.slice (some ⟨w4.heap.size, 0, none⟩) 1 1) (seqR k (hdS b)).1 [x] rfl rfl HO5.out HX.out HL5.out HS5.out ?_); intro v6 w6 hown6 hg6)
          | fail)
        rw [← HE1.out] at hown6
        have hb6 := grown_below hg6 HS5.out HO5.out.row
        have HR6 := Go.Lib.hid (HR5.out.above hb6)
        have HB6 := Go.Lib.hid (HB5.out.grown hg6 HB5.out.size (fun q hq => by have := HO5.out.row q hq; omega))
        have HO6 := Go.Lib.hid hown6
        clear hown6 hg6 hb6 HR5 HB5 HO5 HS5 HX HL5
        go_roundw
        case rel => exact ⟨k + 1, _, rfl, by have := Hlt.out; omega, by go_num, HO6.out, HR6.out, HB6.out⟩
        case measure => simp only [intOf]; have := Hlt.out; omega
      · obtain rfl : k = N := by omega
        rcases hs : seqR k (hdS b) with ⟨L, l2, b2⟩
        rw [hs] at hown hr
        simp only [] at hown hr
        have HD2 := Go.Lib.hid (HD.out L l2 b2 hs)
        obtain ⟨ra, rn, rc, hrow, hrb, -⟩ := hr
        obtain ⟨hrn, hrl, hrc⟩ := hrb.len
        subst hrn
        have y0 := cell_of_row wr w.heap.size 0 _ _ _ hrow
        have y1 := cell_of_row wr w.heap.size 1 _ _ _ hrow
        simp only [List.getElem?_toArray, List.getElem?_cons_zero, List.getElem?_cons_succ] at y0 y1
        have HB := Go.Lib.hid hbc
        have hlb : l2.length ≤ 9223372036854775807 := by unfold maxLen at hrc; omega
        clear hrl hrc hrb hrow hs hk hlt HD hbc
        cases b2 with
        | true =>
          have K := Go.Lib.hid (show decB b = none by rw [HD2.out, if_pos (.inl rfl)])
          clear HD2 hown
          go_wp2_with fail
          go_ret2
          exact ⟨.inl ⟨K.out, rfl⟩, HB.out⟩
        | false =>
          by_cases hl2 : l2 = []
          · subst hl2
            have CM := may_c u L wr hown.re
            have HOW := Go.Lib.hid (hown.mono (show w.heap.size ≤ w.heap.size + 1 by omega))
            cases hm : mayL L with
            | false =>
              have K := Go.Lib.hid (show decB b = none by rw [HD2.out, if_pos (.inr (.inr hm))])
              rw [hm] at CM
              have CM2 := Go.Lib.hid CM
              clear HD2 hown CM hm
              go_wp2_with fail
              refine CM2.out.mono ?_
              rintro e w7 ⟨rfl, hb7⟩
              have HB7 := Go.Lib.hid (HB.out.trans (hb7.mono HB.out.size))
              clear hb7 CM2
              go_wp2_with fail
              go_ret2
              exact ⟨.inl ⟨K.out, rfl⟩, HB7.out⟩
            | true =>
              have K := Go.Lib.hid (show decB b = some L by rw [HD2.out, if_neg (by simp [hm])])
              rw [hm] at CM
              have CM2 := Go.Lib.hid CM
              clear HD2 hown CM hm
              go_wp2_with fail
              refine CM2.out.mono ?_
              rintro e w7 ⟨rfl, hb7⟩
              have HB7 := Go.Lib.hid (HB.out.trans (hb7.mono HB.out.size))
              have HO7 := Go.Lib.hid (HOW.out.below hb7)
              clear hb7 CM2
              go_wp2_with fail
              go_ret2
              exact ⟨.inr ⟨_, _, K.out, rfl, HO7.out⟩, HB7.out⟩
          · have K := Go.Lib.hid (show decB b = none by rw [HD2.out, if_pos (.inr (.inl hl2))])
            have hpos : (0 : Int) < (l2.length : Int) := by have := List.length_pos_iff.2 hl2; omega
            clear HD2 hown hl2
            generalize l2.length = q at *
            have hq : 0 < q := by omega
            go_wp2_with fail
            go_ret2
            exact ⟨.inl ⟨K.out, rfl⟩, HB.out⟩

theorem decode_no {v : Value} {b : List UInt8} {w : World} (hv : RB w v b) (h : decB b = none) :
    Calls Try.prog 13 #[v] w fun e w' => e = .returned (.tuple #[.slice none 0 0, .int .i64 8]) ∧ Below w.heap.size w w' :=
  (decode_any v b w hv).mono fun e w' ⟨hq, hb⟩ => by
    rcases hq with ⟨-, he⟩ | ⟨l, v', hd, -⟩
    · exact ⟨he, hb⟩
    · rw [h] at hd; cases hd
theorem decode_c {v : Value} {b : List UInt8} {w : World} {l : List EntT} (hv : RB w v b) (h : decB b = some l) :
    Calls Try.prog 13 #[v] w fun e w' => ∃ v', e = .returned (.tuple #[v', .int .i64 0]) ∧ OwnE w' w.heap.size v' l ∧ Below w.heap.size w w' :=
  (decode_any v b w hv).mono fun e w' ⟨hq, hb⟩ => by
    rcases hq with ⟨hn, -⟩ | ⟨l', v', hd, he, ho⟩
    · rw [h] at hn; cases hn
    · rw [h] at hd; cases hd; exact ⟨v', he, ho, hb⟩

end Go.Proofs.Yteickihofbkbkaa
