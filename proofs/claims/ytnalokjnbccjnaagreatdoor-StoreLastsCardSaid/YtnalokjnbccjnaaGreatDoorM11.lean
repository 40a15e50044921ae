/-
  The contract of store's read.
  The contracts of super's hasBoth, newest, Open, Text, Turn.
  The contract of super's lay.
  The contracts of super's Save, Open, Make.
  The laws' begun of super: true, whatever the memory.
  The contract of store's lay.
-/
import Derived.Test.YtnalokjnbccjnaaGreatDoorM10
import Derived.Test.YtnalokjnbccjnaaGreatDoorM08
import Derived.Test.YtnalokjnbccjnaaGreatDoorM09
namespace Go.Proofs.YtnalokjnbccjnaaGreatDoor
open Go.RowKit

theorem readF_len (F : Nat → List UInt8) (l : List Nat) (m : Nat) : (readF F l m).length ≤ m := by unfold readF; rw [List.length_take]; omega
theorem readF_snoc {F : Nat → List UInt8} {l : List Nat} {i m : Nat} (hi : (F i).length = 64) : readF F (l ++ [i]) m = readF F l m ++ (F i).take (min 64 (m - (readF F l m).length)) := by
  unfold readF
  rw [List.flatMap_append, List.flatMap_cons, List.flatMap_nil, List.append_nil, List.take_append, List.length_take]
  congr 1
  by_cases h : m ≤ (l.flatMap F).length
  · rw [show min m (l.flatMap F).length = m from by omega, Nat.sub_self, show m - (l.flatMap F).length = 0 from by omega]; simp
  · rw [show min m (l.flatMap F).length = (l.flatMap F).length from by omega]
    by_cases h2 : m - (l.flatMap F).length ≤ 64
    · rw [show min 64 (m - (l.flatMap F).length) = m - (l.flatMap F).length from by omega]
    · rw [show min 64 (m - (l.flatMap F).length) = 64 from by omega, List.take_of_length_le (by omega), List.take_of_length_le (by omega)]

section
variable {w : World} {B s d g n : Nat} {S : Nat → Sec} {L : Life} {p vf vl : Value} {dn : Bool}
set_option maxHeartbeats 8000000 in
set_option maxRecDepth 100000 in
theorem oread_c (hd : DV w B d g n S L) (hs : w.heap[s]? = some (.cells #[.pointer (some ⟨d, 0, none⟩), p, vf, vl, .bool dn] 73)) (va : Value) (at_ : List Nat) (m : Nat) (M : Int) (hM : M = (m : Int)) (hm : m ≤ 1000000)
    (ha : RV w va (zi .i64 at_)) (hat : ∀ i ∈ at_, i < n) :
    Calls Tryz.prog 47 #[.pointer (some ⟨s, 0, none⟩), va, .int .i64 M] w fun e w' => ∃ v, e = .returned v ∧ Own 5 w' w.heap.size v (readF (nowF S) at_ m) ∧ Below w.heap.size w w' := by
  subst hM
  have HA := Go.Lib.hid ha
  have HAT := Go.Lib.hid hat
  have HD := Go.Lib.hid hd
  have HS := Go.Lib.hid hs
  obtain ⟨aa, ca, rfl, hla⟩ := ha.form
  rw [zi_length] at HA hla ⊢
  clear ha hat hd hs
  go_enter Tryz.func47, Tryz.ntmps47
  go_wp2_with (first
    | (at_make; refine wpList_make_len rfl (.const (.int .i64 0)) (.tmp 12) 45 rfl 5 Tryz.underlying45 info8 .i64 .i64 _ _ 0 m rfl rfl rfl rfl (by omega) (by omega) ?_; intro v1 w1 hown1 hg1; have HO1 := Go.Lib.hid hown1; have HB1 := Go.Lib.hid (show Below w.heap.size w w1 from (Below.refl _ _).grown hg1 (Nat.le_refl _) (fun j hj => by cases hj)); clear hown1 hg1)
    | fail)
  go_loopw [7, 16] (fun bv i wr => ∃ (k : Nat) (u : Value), u = bv ∧ k ≤ at_.length ∧ i = .int .i64 (k : Int) ∧ Own 5 wr w.heap.size u (readF (nowF S) (at_.take k) m) ∧ Below w.heap.size w wr) (fun _ i _ => at_.length - (intOf i).toNat)
  case atStart => exact ⟨0, _, rfl, by omega, rfl, by simpa [readF] using HO1.out, HB1.out⟩
  case round =>
    obtain ⟨k, u, rfl, hk, rfl, hown, hbw⟩ := hrel
    by_cases hlt : k < at_.length
    · obtain ⟨ga, oa, rfl, x0, -⟩ := (HA.out.below hbw).at k (by rw [zi_length]; exact hlt)
      rw [zi_at _ _ _ hlt] at x0
      have hi := HAT.out at_[k] (List.getElem_mem hlt)
      have hdv := HD.out.below hbw
      have h64 : (nowF S at_[k]).length = 64 := hdv.whole64 hi
      have hsn := readF_snoc (F := nowF S) (l := at_.take k) (i := at_[k]) (m := m) h64
      rw [← List.take_succ_eq_append_getElem hlt] at hsn
      generalize at_[k] = ix at *
      have hxl := readF_len (nowF S) (at_.take k) m
      have C := Go.Lib.hid (dread_c hdv ix hi)
      have c0 := (cell_of5 (keptR HS.out hbw)).1
      obtain ⟨X, hX⟩ : ∃ X, X = readF (nowF S) (at_.take k) m := ⟨_, rfl⟩
      rw [← hX] at hsn hxl hown
      obtain ⟨au, nu, cu, rfl, hnu⟩ : ∃ a n c, u = .slice a n c ∧ n = X.length := by
        obtain ⟨a, c, h, -⟩ := hown.rb
        exact ⟨a, _, c, h, rfl⟩
      obtain ⟨q, hq⟩ : ∃ q, q = min 64 (m - X.length) := ⟨_, rfl⟩
      have e1 : IntKind.i64.wrap ((m : Int) - (nu : Int)) = ((m - nu : Nat) : Int) := by rw [IntKind.wrap_i64]; omega
      have e2 : min 64 ((m - nu : Nat) : Int) = (q : Int) := by omega
      rw [← hq] at hsn
      have HSN := Go.Lib.hid hsn
      have HO := Go.Lib.hid hown
      have HBW := Go.Lib.hid hbw
      have HQ := Go.Lib.hid (show q ≤ 64 by omega)
      have HXL := Go.Lib.hid hxl
      have H64 := Go.Lib.hid h64
      have HLT := Go.Lib.hid hlt
      have hmn : ((m - nu : Nat) : Int) = (m : Int) - (nu : Int) := by omega
      generalize ((m - nu : Nat) : Int) = MN at *
      clear hX hnu hq hsn hown hbw hxl h64 hdv hi hk hmn
      go_wp2_with fail
      refine C.out.mono ?_
      rintro e w3 ⟨vp, rfl, hop, hb3⟩
      obtain ⟨ap, np, cp, rfl, hnp⟩ : ∃ a n c, vp = .slice a n c ∧ n = 64 := by
        obtain ⟨a, c, h, -⟩ := hop.rb
        exact ⟨a, _, c, h, H64.out⟩
      subst hnp
      have HO3 := Go.Lib.hid (HO.out.below hb3)
      have HBW3 := Go.Lib.hid (below_to HBW.out (Nat.le_refl _) hb3)
      have HRP := Go.Lib.hid (show RB w3 (.slice ap 64 cp) (nowF S ix) from hop.rb)
      clear hop hb3 C c0 x0
      go_wp2_with (first
        | (with_reducible show wpList _ _ _ (⟨some 38, _, _, _, _, _⟩ :: _) _ _; go_must (refine wpList_slice_hi rfl (.tmp 30) (.tmp 37) 45 rfl 5 Tryz.underlying45 info8 (.slice ap 64 cp) (nowF S ix) .i64 _ q rfl rfl rfl HRP.out (by rw [H64.out]; exact HQ.out) ?_); intro v5 hv5; have HV5 := Go.Lib.hid (hv5 _ HRP.out); clear hv5)
        | (with_reducible show wpList _ _ _ (⟨some 39, _, _, _, _, _⟩ :: _) _ _; go_must (refine wpList_append_RB rfl (.tmp 29) (.tmp 38) 45 rfl w.heap.size 5 Tryz.underlying45 info8 (.slice au nu cu) v5 X ((nowF S ix).take q) rfl rfl HO3.out HV5.out (by have := HXL.out; have := HQ.out; rw [List.length_take]; omega) HBW3.out.size ?_); intro v6 w6 hown6 hg6; have HO6 := Go.Lib.hid hown6; have HB6 := Go.Lib.hid (HBW3.out.grown hg6 HBW3.out.size HO3.out.row); clear hown6 hg6)
        | fail)
      go_roundw
      case rel => exact ⟨k + 1, _, rfl, by have := HLT.out; omega, by go_num, by rw [HSN.out]; exact HO6.out, HB6.out⟩
      case measure => simp only [intOf]; have := HLT.out; omega
    · obtain rfl : k = at_.length := by omega
      rw [List.take_of_length_le (Nat.le_refl _)] at hown
      have HF := Go.Lib.hid (And.intro hown hbw)
      clear hown hbw
      go_wp2_with fail
      go_ret
      exact ⟨_, rfl, HF.out.1, HF.out.2⟩
end

end Go.Proofs.YtnalokjnbccjnaaGreatDoor

namespace Go.Proofs.YtnalokjnbccjnaaGreatDoor
open Go.RowKit

section
variable (w : World)
set_option maxRecDepth 100000
theorem sboth_nil (i : Int) : Calls Tryz.prog 49 #[.pointer none, .int .i64 i] w fun e w' => e = .returned (.bool false) ∧ w = w' := by
  have C := Go.Lib.hid (dlen_nil w)
  by_cases h0 : 0 ≤ i
  · go_enter Tryz.func49, Tryz.ntmps49
    go_wp2_with fail
    refine C.out.mono ?_
    rintro e w1 ⟨rfl, rfl⟩
    go_wp2_with fail
    go_ret
    refine ⟨?_, rfl⟩
    show Ending.returned (.bool (decide (i ≤ -2))) = _
    rw [decide_eq_false (by omega)]
  · go_enter Tryz.func49, Tryz.ntmps49
    go_wp2_with fail
    go_ret
    exact ⟨rfl, rfl⟩
theorem sopen_nil (i : Int) : Calls Tryz.prog 41 #[.pointer none, .int .i64 i] w fun e w' => e = .returned (.tuple #[.pointer none, .int .i64 3]) ∧ w = w' := by
  have C := Go.Lib.hid (sboth_nil w i)
  go_enter Tryz.func41, Tryz.ntmps41
  go_wp2_with fail
  refine C.out.mono ?_
  rintro e w1 ⟨rfl, rfl⟩
  go_wp2_with fail
  go_ret2
  exact ⟨rfl, rfl⟩
theorem stext_nil : Calls Tryz.prog 66 #[.pointer none] w fun e w' => e = .returned (.slice none 0 0) ∧ w = w' := by
  go_enter Tryz.func66, Tryz.ntmps66
  go_wp2_with fail
  go_ret
  exact ⟨rfl, rfl⟩
theorem ssave_nil (v : Value) : Calls Tryz.prog 63 #[.pointer none, v] w fun e w' => e = .returned (.int .i64 7) ∧ w = w' := by
  go_enter Tryz.func63, Tryz.ntmps63
  go_wp2_with fail
  go_ret
  exact ⟨rfl, rfl⟩

variable {B B' d g n p at_ : Nat} {S : Nat → Sec} {L : Life} {f : Found} {F : Nat → List UInt8}
variable {w}
theorem sboth_c (h : DV w B d g n S L) (i : Int) : Calls Tryz.prog 49 #[.pointer (some ⟨d, 0, none⟩), .int .i64 i] w fun e w' => e = .returned (.bool (decide (0 ≤ i) && decide (i ≤ (n : Int) - 2))) ∧ w = w' := by
  have C := Go.Lib.hid (dlen_c h)
  have hn := h.n1
  have hn0 := h.n0
  clear h
  by_cases h0 : 0 ≤ i
  · go_enter Tryz.func49, Tryz.ntmps49
    go_wp2_with fail
    refine C.out.mono ?_
    rintro e w1 ⟨rfl, rfl⟩
    go_wp2_with fail
    go_ret
    exact ⟨by simp [h0], rfl⟩
  · go_enter Tryz.func49, Tryz.ntmps49
    go_wp2_with fail
    go_ret
    exact ⟨by simp; omega, rfl⟩
theorem stext_c (h : SU w B p d at_ f) : Calls Tryz.prog 66 #[.pointer (some ⟨p, 0, none⟩)] w fun e w' => ∃ v, e = .returned v ∧ Own 5 w' w.heap.size v f.text ∧ Below w.heap.size w w' := by
  obtain ⟨v, ht, c0, c1, c2, c3, c4⟩ := h.cells
  have C := Go.Lib.hid (bclone_c _ _ w ht.1 (by have := h.fits.text; omega))
  clear h c0 c1 c2 c4 ht
  go_enter Tryz.func66, Tryz.ntmps66
  go_wp2_with fail
  refine C.out.mono ?_
  rintro e w1 ⟨u, rfl, ho, hb⟩
  go_wp2_with fail
  go_ret
  exact ⟨u, rfl, ho, hb⟩
theorem TX.form {w : World} {v : Value} {l : List UInt8} (h : TX w v l) : ∃ a n c, v = .slice a n c := by
  obtain ⟨⟨a, c, hv, -⟩, -⟩ := h
  exact ⟨a, _, c, hv⟩
/-- What has been found behind i sectors. -/
def stepF (F : Nat → List UInt8) (p : Nat) : Nat → Found
  | 0 => none0
  | i + 1 => seeS (stepF F p i) i (F (p + i))
theorem stepF_two (F : Nat → List UInt8) (p : Nat) : stepF F p 2 = newestS F p := rfl
theorem stepF_fits (F : Nat → List UInt8) (p i : Nat) (hi : i ≤ 2) : (stepF F p i).Fits := by
  rcases (show i = 0 ∨ i = 1 ∨ i = 2 by omega) with rfl | rfl | rfl
  · exact none0_fits
  · exact none0_fits.see (by decide) _
  · exact (none0_fits.see (by decide) _).see (by decide) _

set_option maxHeartbeats 1000000
theorem snewest_c (h : DV w B d g n S L) (hF : ∀ j, j < n → (S j).now = F j) (hT : Tab w) (hat : at_ + 2 ≤ n) : Calls Tryz.prog 50 #[.pointer (some ⟨d, 0, none⟩), .int .i64 (at_ : Int)] w fun e w' => ∃ p, e = .returned (.pointer (some ⟨p, 0, none⟩)) ∧ SU w' w.heap.size p d at_ (newestS F at_) ∧ Below w.heap.size w w' := by
  obtain ⟨p, hp⟩ : ∃ p, p = w.heap.size := ⟨_, rfl⟩
  have HP := Go.Lib.hid hp
  have hb0 : Below w.heap.size w (w.alloc (.cells #[.pointer (some ⟨d, 0, none⟩), .int .i64 (at_ : Int), .int .i64 0, .slice none 0 0, .int .i64 0] 125)) := (Below.refl _ _).alloc (Nat.le_refl _) _
  have hs0 : SU (w.alloc (.cells #[.pointer (some ⟨d, 0, none⟩), .int .i64 (at_ : Int), .int .i64 0, .slice none 0 0, .int .i64 0] 125)) p p d at_ (stepF F at_ 0) :=
    ⟨⟨.slice none 0 0, by rw [hp]; exact heap_alloc_new w _, TX.nil _⟩, Nat.le_refl _, none0_fits⟩
  have hn1 := h.n1
  have hd2048 : (at_ : Int) + 2 ≤ 2048 := by omega
  have H := Go.Lib.hid h
  have HT := Go.Lib.hid hT
  have HS0 := Go.Lib.hid hs0
  have HB0 := Go.Lib.hid hb0
  have Hat := Go.Lib.hid hat
  rw [← hp]
  have HF := Go.Lib.hid hF
  clear h hT hs0 hb0 hn1 hat hp hF
  go_enter Tryz.func50, Tryz.ntmps50
  go_wp2_with fail
  rw [← HP.out]
  go_loopw [6, 7, 8, 9, 10, 15] (fun _ _ _ _ _ iv wr => ∃ i : Nat, i ≤ 2 ∧ iv = .int .i64 (i : Int) ∧ SU wr p p d at_ (stepF F at_ i) ∧ Below p w wr) (fun _ _ _ _ _ iv _ => 2 - (intOf iv).toNat)
  case atStart => exact ⟨0, by omega, rfl, HS0.out, by rw [HP.out]; exact HB0.out⟩
  case round =>
    obtain ⟨i, hi, rfl, hsu, hb⟩ := hrel
    have HSU := Go.Lib.hid hsu
    have HB := Go.Lib.hid hb
    clear hsu hb
    by_cases hlt : i < 2
    · have hdv := H.out.below (by rw [← HP.out]; exact HB.out)
      have c1 := dread_c hdv (at_ + i) (by have := Hat.out; omega)
      rw [show ((at_ + i : Nat) : Int) = (at_ : Int) + (i : Int) from by omega] at c1
      have hw64 : (S (at_ + i)).now.length = 64 := hdv.whole64 (i := at_ + i) (by have := Hat.out; omega)
      rw [HF.out _ (by have := Hat.out; omega)] at c1 hw64
      have C1 := Go.Lib.hid c1
      have Hw := Go.Lib.hid hw64
      have Hi := Go.Lib.hid hlt
      clear hdv hw64 c1
      go_wp2_with fail
      refine C1.out.mono ?_
      rintro e w1 ⟨v, rfl, ho1, hb1⟩
      have hpw : p ≤ wr.heap.size := Nat.le_of_lt HSU.out.lt
      have hpw1 : p ≤ w1.heap.size := Nat.le_trans hpw hb1.size
      have C2 := Go.Lib.hid (sdecode_c w1 _ v (F (at_ + i)) ho1 Hw.out ((HT.out.below (by rw [← HP.out]; exact HB.out)).below hb1))
      have HSU1 := Go.Lib.hid (HSU.out.below hb1)
      have HB1 := Go.Lib.hid (HB.out.trans (hb1.mono hpw))
      clear ho1 hb1 C1 HSU HB
      go_wp2_with fail
      refine C2.out.mono ?_
      rintro e w2 ⟨u, rfl, ht2, hb2⟩
      obtain ⟨ua, un, uc, rfl⟩ := ht2.form
      have hsu2 := HSU1.out.below hb2
      obtain ⟨v0, ht0, c0, c1, c2, c3, c4⟩ := hsu2.cells
      have f2 := hsu2.frozen 2
      have f3 := hsu2.frozen 3
      have f4 := hsu2.frozen 4
      have hb2' := HB1.out.trans (hb2.mono hpw1)
      have hfit := stepF_fits F at_ (i + 1) Hi.out
      have hst : stepF F at_ (i + 1) = seeS (stepF F at_ i) i (F (at_ + i)) := rfl
      have HSU2 := Go.Lib.hid hsu2
      have HB2 := Go.Lib.hid hb2'
      have hpp : p ≤ p := Nat.le_refl _
      clear hsu2 hb2 hb2' C2 HSU1 HB1 hpw hpw1 ht0 c0 c1
      unfold seeS at hst
      by_cases hgt : (stepF F at_ i).turn < (decS (F (at_ + i))).2
      · rw [if_pos hgt] at hst
        rw [hst] at hfit
        have hs3 := HSU2.out.store hfit ht2
        have hbs := Go.Lib.hid (HB2.out.trans (hs3.2.below (by simp) (Nat.le_of_lt HSU2.out.lt)))
        have hs4 := Go.Lib.hid hs3.1
        have hst := Go.Lib.hid hst
        have hgtI : ((stepF F at_ i).turn : Int) < ((decS (F (at_ + i))).2 : Int) := by omega
        clear hfit hs3 hgt hlt hi HSU2 HB2 ht2
        generalize ((stepF F at_ i).turn : Int) = t0 at *
        generalize ((decS (F (at_ + i))).2 : Int) = t1 at *
        go_wp2_with fail
        go_roundw
        case rel => exact ⟨i + 1, Hi.out, by go_num, by rw [hst.out]; exact hs4.out, hbs.out⟩
        case measure => have := Hi.out; simp [intOf]; omega
      · rw [if_neg hgt] at hst
        have hst := Go.Lib.hid hst
        have hgtI : ¬ ((stepF F at_ i).turn : Int) < ((decS (F (at_ + i))).2 : Int) := by omega
        clear hfit hgt hlt hi f2 f3 f4 ht2
        generalize ((stepF F at_ i).turn : Int) = t0 at *
        generalize ((decS (F (at_ + i))).2 : Int) = t1 at *
        go_wp2_with fail
        go_roundw
        case rel => exact ⟨i + 1, Hi.out, by go_num, by rw [hst.out]; exact HSU2.out, HB2.out⟩
        case measure => have := Hi.out; simp [intOf]; omega
    · obtain rfl : i = 2 := by omega
      go_wp2_with fail
      go_ret
      exact ⟨p, rfl, HSU.out, HB.out⟩
end

end Go.Proofs.YtnalokjnbccjnaaGreatDoor

namespace Go.Proofs.YtnalokjnbccjnaaGreatDoor
open Go.RowKit

theorem Own.twoAbove {e : TypeId} {w w' : World} {B d g : Nat} {v : Value} {l : List UInt8} (h : Own e w B v l) (hk : Two d (some g) w w') (hd : d < B) (hg : g < B) : Own e w' B v l := by
  rcases h with ⟨h0, h1⟩
  refine ⟨h0, ?_⟩
  rcases h1 with ⟨rfl, hn⟩ | ⟨b, cap, cur, rfl, hB, hb, h2⟩
  · exact .inl ⟨rfl, hn⟩
  · exact .inr ⟨b, cap, cur, rfl, hB, (hk.block b (Array.getElem?_eq_some_iff.1 hb).1 (by omega) (by simp; omega)).trans hb, h2⟩
theorem Offs.new {l m : List Nat} {w w1 w2 : World} (h : Offs l w w1) (k : Offs m w1 w2) (hm : ∀ i, i ∈ m → i ∈ l ∨ w.heap.size ≤ i) : Offs l w w2 :=
  ⟨k.os.trans h.os, k.tape.trans h.tape, k.output.trans h.output, Nat.le_trans h.size k.size, fun i hi hn => (k.block i (Nat.lt_of_lt_of_le hi h.size) (fun hin => by rcases hm i hin with h1 | h1; exact hn h1; omega)).trans (h.block i hi hn)⟩
theorem Offs.more {l m : List Nat} {w w1 : World} (h : Offs l w w1) (hm : ∀ i, i ∈ l → i ∈ m) : Offs m w w1 :=
  ⟨h.os, h.tape, h.output, h.size, fun i hi hn => h.block i hi (fun hin => hn (hm i hin))⟩

/-- What stands while a text is laid (13: it has been written). -/
def IL (w0 : World) (E : World → Prop) (done : Nat → Bool) (w : World) : Prop := (done 13 = true → (∀ j, j < 13 → done j = true) ∧ True) ∧ if done 13 then E w else Below w0.heap.size w0 w
theorem IL.keep {w0 : World} {E : World → Prop} {w : World} {done : Nat → Bool} (h : IL w0 E done w) (i : Nat) (hi : i ≠ 13) : IL w0 E (doneToo done i) w := by
  obtain ⟨h1, h2⟩ := h
  refine ⟨fun hd => ?_, ?_⟩
  · rw [doneToo_other (Ne.symm hi)] at hd
    refine ⟨fun j hj => ?_, trivial⟩
    have := (h1 hd).1 j hj
    unfold doneToo
    split <;> simp [this]
  · rw [doneToo_other (Ne.symm hi)]
    exact h2
theorem IL.keep2 {w0 : World} {E : World → Prop} {w w' : World} {done : Nat → Bool} (_h : IL w0 E done w) (i : Nat) (hi : i ≠ 13) (hq : done 13 = false) (hb : Below w0.heap.size w0 w') : IL w0 E (doneToo done i) w' := by
  refine ⟨fun hd => ?_, ?_⟩
  · rw [doneToo_other (Ne.symm hi), hq] at hd
    cases hd
  · rw [doneToo_other (Ne.symm hi), hq]
    exact hb
def VL (M p d at_ s t : Nat) (v0 : Value) (X : List UInt8) (r : Int) : Nat → World → Value → Prop
  | 15, _, v => v = .pointer (some ⟨p, 0, none⟩)
  | 16, _, v => v = .pointer (some ⟨p, 0, none⟩)
  | 17, _, v => v = .pointer (some ⟨p, 0, none⟩)
  | 18, _, v => v = .pointer (some ⟨d, 0, none⟩)
  | 19, _, v => v = .pointer (some ⟨p, 0, none⟩)
  | 20, _, v => v = .pointer (some ⟨p, 0, none⟩)
  | 21, _, v => v = .pointer (some ⟨p, 1, none⟩)
  | 22, _, v => v = .int .i64 (at_ : Int)
  | 23, _, v => v = .int .i64 (s : Int)
  | 24, _, v => v = .int .i64 ((at_ : Int) + (s : Int))
  | 25, _w, v => v = v0
  | 26, _, v => v = .int .i64 (t : Int)
  | 27, w, v => Own 5 w M v X
  | 28, _, v => v = .int .i64 (r)
  | 8, _, v => v = .int .i64 (r)
  | _, _, _ => True

theorem VL_below (M p d at_ s t : Nat) (v0 : Value) (X : List UInt8) (r : Int) : ∀ (i : Nat) (w w' : World) (v : Value), VL M p d at_ s t v0 X r i w v → Below w.heap.size w w' → VL M p d at_ s t v0 X r i w' v := by
  intro i w w' v h hb
  unfold VL at h ⊢
  split at h <;> first | exact h | trivial | exact RB.below h hb | exact Own.below h hb

theorem VL_two (M p d at_ s t : Nat) (v0 : Value) (X : List UInt8) (r : Int) (d' g' : Nat) (i : Nat) (w w' : World) (v : Value) (h : VL M p d at_ s t v0 X r i w v) (ht : Two d' (some g') w w') (h1 : d' < M) (h2 : g' < M) : VL M p d at_ s t v0 X r i w' v := by
  unfold VL at h ⊢
  split at h <;> first | exact h | trivial | exact Own.twoAbove h ht h1 h2

section
variable {w : World} {B B' d g n p at_ t : Nat} {L : Life} {f : Found} {F : Nat → List UInt8} {v0 : Value} {l : List UInt8}
set_option maxHeartbeats 2000000
set_option maxRecDepth 100000
theorem slay_dead (h : DV w B d g n (calmS F) L) (hd : L.dead = true) (hs : SU w B' p d at_ f) (hT : Tab w) (hat : at_ + 2 ≤ n) (hv : RB w v0 l) (hl : l.length ≤ 40) (ht : t ≤ 1099511627776) :
    Calls Tryz.prog 51 #[.pointer (some ⟨p, 0, none⟩), v0, .int .i64 (t : Int)] w fun e w' => e = .returned (.int .i64 7) ∧ Below w.heap.size w w' := by
  obtain ⟨u, hu, c0, c1, c2, c3, c4⟩ := hs.cells
  have HLT := Go.Lib.hid hs.lt
  obtain ⟨M, hM⟩ : ∃ M, M = w.heap.size := ⟨_, rfl⟩
  have HM := Go.Lib.hid hM
  have CW : Hid (∀ w6, Below w.heap.size w w6 → ∀ v27, Own 5 w6 M v27 (encS l t) → Calls Tryz.prog 75 #[.pointer (some ⟨d, 0, none⟩), .int .i64 ((at_ : Int) + ((1 - f.slot : Nat) : Int)), v27] w6 fun e w7 => e = .returned (.int .i64 7) ∧ Below w.heap.size w w7 ∧ Two d (some g) w6 w7) := by
    intro w6 hb v27 hv27
    refine (dwrite_dead (h.below hb) hd _ _).mono ?_
    rintro e w7 ⟨rfl, rfl⟩
    exact ⟨rfl, hb, Two.refl _ _ _⟩
  have CE : Hid (∀ w6, Below w.heap.size w w6 → Calls Tryz.prog 76 #[v0, .int .i64 (t : Int)] w6 fun e w' => ∃ u, e = .returned u ∧ Own 5 w' w6.heap.size u (encS l t) ∧ Below w6.heap.size w6 w') := fun w6 hb => sencode_c w6 v0 l t (hv.below hb) hl ht (hT.below hb)
  have hslot := hs.fits.slot
  obtain ⟨s, hsl⟩ : ∃ s, s = 1 - f.slot := ⟨_, rfl⟩
  rw [← hsl] at CW
  have hsI : IntKind.i64.wrap (1 - (f.slot : Int)) = (s : Int) := by rw [IntKind.wrap_i64]; omega
  have hn1 := h.n1
  have HdM := Go.Lib.hid (show d < M by rw [hM]; exact h.lt)
  have HgM := Go.Lib.hid (show g < M by rw [hM]; exact h.ltg)
  have hwadd : IntKind.i64.wrap ((at_ : Int) + (s : Int)) = (at_ : Int) + (s : Int) := by rw [IntKind.wrap_i64]; omega
  have C0 := Go.Lib.hid c0
  have C1 := Go.Lib.hid c1
  obtain ⟨X, hX⟩ : ∃ X, X = encS l t := ⟨_, rfl⟩
  rw [← hX] at CW CE
  clear h hd hs hT hv hl ht hu c0 c1 c3 c4 hn1 hsl hat hslot hX
  go_enter Tryz.func51, Tryz.ntmps51
  go_upto_region 2 with (fail)
  have hI0 : IL w (fun w7 => Below w.heap.size w w7) (fun _ => false) w.drew := ⟨fun h => (by cases h), below_drewN (Below.refl _ _) 1⟩
  refine wp_region_inv (by kernel_rfl) (VL M p d at_ s t v0 X (7)) (IL w (fun w7 => Below w.heap.size w w7)) (by decide +kernel) (by decide +kernel) (by rfl) [15, 16, 17, 18, 19, 20, 21, 22, 23, 24, 25, 26, 27, 28, 8] (by rfl) (hI0) ?_ ?_
  · intro i o ho a w6 done hI hnot hr hlen hg
    match i, ho with
    | 0, ho =>
      obtain rfl := Option.some.inj ho
      have h0 := given_old hg 0 (by decide +kernel)
      clear hg
      exact st_yield ho (wanted_none rfl) (.pointer (some ⟨p, 0, none⟩)) w6 (by simp [execOp, Act.eval, h0, go_sem]) ⟨_, rfl, hI.keep 0 (by decide), fun _ _ h => h, by rintro t' ⟨⟩; rfl⟩
    | 1, ho =>
      obtain rfl := Option.some.inj ho
      obtain ⟨_, h15, rfl⟩ := given_fed hg 15 (by decide +kernel)
      clear hg
      exact st_yield ho (wanted_none rfl) (.pointer (some ⟨p, 0, none⟩)) w6 (by simp [execOp, Act.eval, h15, go_sem]) ⟨_, rfl, hI.keep 1 (by decide), fun _ _ h => h, by rintro t' ⟨⟩; rfl⟩
    | 2, ho =>
      obtain rfl := Option.some.inj ho
      obtain ⟨_, h16, rfl⟩ := given_fed hg 16 (by decide +kernel)
      clear hg
      exact st_yield ho (wanted_none rfl) (.pointer (some ⟨p, 0, none⟩)) w6 (by simp [execOp, Act.eval, h16, go_sem]) ⟨_, rfl, hI.keep 2 (by decide), fun _ _ h => h, by rintro t' ⟨⟩; rfl⟩
    | 3, ho =>
      obtain rfl := Option.some.inj ho
      obtain ⟨_, h17, rfl⟩ := given_fed hg 17 (by decide +kernel)
      clear hg
      have hq : done 13 = false := by cases h : done 13 with | false => rfl | true => have := (hI.1 h).1 3 (by decide); rw [hnot] at this; cases this
      have hc := hI.2
      rw [hq] at hc
      have k0 := (hc.cell (p := ⟨p, 0, none⟩) HLT.out).trans C0.out
      exact st_yield ho (wanted_none rfl) (.pointer (some ⟨d, 0, none⟩)) w6 (by simp [execOp, Act.eval, h17, go_sem, k0]) ⟨_, rfl, hI.keep 3 (by decide), fun _ _ h => h, by rintro t' ⟨⟩; rfl⟩
    | 4, ho =>
      obtain rfl := Option.some.inj ho
      have h0 := given_old hg 0 (by decide +kernel)
      clear hg
      exact st_yield ho (wanted_none rfl) (.pointer (some ⟨p, 0, none⟩)) w6 (by simp [execOp, Act.eval, h0, go_sem]) ⟨_, rfl, hI.keep 4 (by decide), fun _ _ h => h, by rintro t' ⟨⟩; rfl⟩
    | 5, ho =>
      obtain rfl := Option.some.inj ho
      obtain ⟨_, h19, rfl⟩ := given_fed hg 19 (by decide +kernel)
      clear hg
      exact st_yield ho (wanted_none rfl) (.pointer (some ⟨p, 0, none⟩)) w6 (by simp [execOp, Act.eval, h19, go_sem]) ⟨_, rfl, hI.keep 5 (by decide), fun _ _ h => h, by rintro t' ⟨⟩; rfl⟩
    | 6, ho =>
      obtain rfl := Option.some.inj ho
      obtain ⟨_, h20, rfl⟩ := given_fed hg 20 (by decide +kernel)
      clear hg
      exact st_yield ho (wanted_none rfl) (.pointer (some ⟨p, 1, none⟩)) w6 (by simp [execOp, Act.eval, h20, go_sem]) ⟨_, rfl, hI.keep 6 (by decide), fun _ _ h => h, by rintro t' ⟨⟩; rfl⟩
    | 7, ho =>
      obtain rfl := Option.some.inj ho
      obtain ⟨_, h21, rfl⟩ := given_fed hg 21 (by decide +kernel)
      clear hg
      have hq : done 13 = false := by cases h : done 13 with | false => rfl | true => have := (hI.1 h).1 7 (by decide); rw [hnot] at this; cases this
      have hc := hI.2
      rw [hq] at hc
      have k0 := (hc.cell (p := ⟨p, 1, none⟩) HLT.out).trans C1.out
      exact st_yield ho (wanted_none rfl) (.int .i64 (at_ : Int)) w6 (by simp [execOp, Act.eval, h21, go_sem, k0]) ⟨_, rfl, hI.keep 7 (by decide), fun _ _ h => h, by rintro t' ⟨⟩; rfl⟩
    | 8, ho =>
      obtain rfl := Option.some.inj ho
      have h7 := given_old hg 7 (by decide +kernel)
      clear hg
      exact st_yield ho (wanted_none rfl) (.int .i64 (s : Int)) w6 (by simp [execOp, Act.eval, h7, go_sem]) ⟨_, rfl, hI.keep 8 (by decide), fun _ _ h => h, by rintro t' ⟨⟩; rfl⟩
    | 9, ho =>
      obtain rfl := Option.some.inj ho
      obtain ⟨_, h22, rfl⟩ := given_fed hg 22 (by decide +kernel)
      obtain ⟨_, h23, rfl⟩ := given_fed hg 23 (by decide +kernel)
      clear hg
      exact st_yield ho (wanted_none rfl) (.int .i64 ((at_ : Int) + (s : Int))) w6 (by simp [execOp, Act.eval, h22, h23, go_sem, hwadd]) ⟨_, rfl, hI.keep 9 (by decide), fun _ _ h => h, by rintro t' ⟨⟩; rfl⟩
    | 10, ho =>
      obtain rfl := Option.some.inj ho
      have h1 := given_old hg 1 (by decide +kernel)
      clear hg
      exact st_yield ho (wanted_none rfl) v0 w6 (by simp [execOp, Act.eval, h1, go_sem]) ⟨_, rfl, hI.keep 10 (by decide), fun _ _ h => h, by rintro t' ⟨⟩; rfl⟩
    | 11, ho =>
      obtain rfl := Option.some.inj ho
      have h2 := given_old hg 2 (by decide +kernel)
      clear hg
      exact st_yield ho (wanted_none rfl) (.int .i64 (t : Int)) w6 (by simp [execOp, Act.eval, h2, go_sem]) ⟨_, rfl, hI.keep 11 (by decide), fun _ _ h => h, by rintro t' ⟨⟩; rfl⟩
    | 12, ho =>
      obtain rfl := Option.some.inj ho
      obtain ⟨v25, h25, p25⟩ := given_fed hg 25 (by decide +kernel)
      obtain ⟨_, h26, rfl⟩ := given_fed hg 26 (by decide +kernel)
      clear hg
      have hq : done 13 = false := by cases h : done 13 with | false => rfl | true => have := (hI.1 h).1 12 (by decide); rw [hnot] at this; cases this
      have hc := hI.2
      rw [hq] at hc
      rw [show v25 = v0 from p25] at h25
      exact st_enter (w1 := w6) ho (wanted_none rfl) 76 #[v0, .int .i64 (t : Int)] (by simp [execOp, Act.eval, h25, h26, resolve, go_sem]) ((CE.out w6 hc).mono (by rintro e w7 ⟨u, rfl, ho7, hb7⟩; exact ⟨_, rfl, _, rfl, hI.keep2 12 (by decide) hq (hc.trans (hb7.mono hc.size)), fun t' u h => VL_below M p d at_ s t v0 X (7) _ _ _ _ h hb7, by rintro t' ⟨⟩; exact ho7.mono (by rw [HM.out]; exact hc.size)⟩))
    | 13, ho =>
      obtain rfl := Option.some.inj ho
      obtain ⟨_, h18, rfl⟩ := given_fed hg 18 (by decide +kernel)
      obtain ⟨_, h24, rfl⟩ := given_fed hg 24 (by decide +kernel)
      obtain ⟨v27, h27, p27⟩ := given_fed hg 27 (by decide +kernel)
      clear hg
      have hc := hI.2
      rw [hnot] at hc
      exact st_enter (w1 := w6) ho (wanted_none rfl) 75 #[.pointer (some ⟨d, 0, none⟩), .int .i64 ((at_ : Int) + (s : Int)), v27] (by simp [execOp, Act.eval, h18, h24, h27, resolve, go_sem]) ((CW.out w6 hc v27 p27).mono (by rintro e w7 ⟨rfl, he7, ht7⟩; exact ⟨_, rfl, _, rfl, ⟨fun _ => ⟨fun j hj => by rw [doneToo_other (by rintro rfl; exact absurd hj (by decide))]; match j, hj with | 0, _ => exact hr 0 (by decide +kernel) | 1, _ => exact hr 1 (by decide +kernel) | 2, _ => exact hr 2 (by decide +kernel) | 3, _ => exact hr 3 (by decide +kernel) | 4, _ => exact hr 4 (by decide +kernel) | 5, _ => exact hr 5 (by decide +kernel) | 6, _ => exact hr 6 (by decide +kernel) | 7, _ => exact hr 7 (by decide +kernel) | 8, _ => exact hr 8 (by decide +kernel) | 9, _ => exact hr 9 (by decide +kernel) | 10, _ => exact hr 10 (by decide +kernel) | 11, _ => exact hr 11 (by decide +kernel) | 12, _ => exact hr 12 (by decide +kernel) | k + 13, hj => omega, trivial⟩, by rw [doneToo_self]; exact he7⟩, fun t' u h => VL_two M p d at_ s t v0 X (7) _ _ _ _ _ _ h ht7 HdM.out HgM.out, by rintro t' ⟨⟩; rfl⟩))
    | 14, ho =>
      obtain rfl := Option.some.inj ho
      obtain ⟨_, h28, rfl⟩ := given_fed hg 28 (by decide +kernel)
      clear hg
      exact st_yield ho (wanted_none rfl) (.int .i64 (7)) w6 (by simp [execOp, Act.eval, h28, go_sem]) ⟨_, rfl, hI.keep 14 (by decide), fun _ _ h => h, by rintro t' ⟨⟩; rfl⟩
    | n + 15, ho => simp at ho
  · intro f' w7 done hall hI hv
    have h8 := hv 8 (by decide)
    simp only [VL] at h8
    have h13 := hall 13 (by decide)
    have hI2 := hI.2
    rw [h13] at hI2
    have HI2 := Go.Lib.hid hI2
    clear hv hall hI hI2 h13 hI0
    unfold putAll
    simp only [List.foldl]
    simp only [h8]
    go_simp
    go_wp2_with fail
    go_ret
    exact ⟨rfl, HI2.out⟩

/-- The text is written; it lasts, or the device died between. -/
theorem slay_wr {S : Nat → Sec} (h : DV w B d g n S L) (hF : ∀ j, j < n → (S j).now = F j) (htd : Tidy S) (hd : L.dead = false) (hc : L.calls < 999999) (hs : SU w B' p d at_ f) (hT : Tab w) (hat : at_ + 2 ≤ n) (hv : ∀ w', Offs [d, g] w w' → RB w' v0 l) (hl : l.length ≤ 40) (ht : t ≤ 1099511627776) (hB : 0 < B) :
    Calls Tryz.prog 51 #[.pointer (some ⟨p, 0, none⟩), v0, .int .i64 (t : Int)] w fun e w' => Offs [d, g, p] w w' ∧ Tab w' ∧
      (L.tick.dead = true ∧ e = .returned (.int .i64 7) ∧ DV w' B d g n (wrS S (at_ + (1 - f.slot)) (encS l t)) L.tick ∧ SU w' B' p d at_ f ∨
       L.tick.dead = false ∧ e = .returned (.int .i64 0) ∧ DV w' B d g n (calmS (upF F (at_ + (1 - f.slot)) (encS l t))) L.tick.tick ∧ SU w' B' p d at_ ⟨1 - f.slot, l, t⟩) := by
  obtain ⟨u, hu, c0, c1, c2, c3, c4⟩ := hs.cells
  have HLT := Go.Lib.hid hs.lt
  obtain ⟨M, hM⟩ : ∃ M, M = w.heap.size := ⟨_, rfl⟩
  have HM := Go.Lib.hid hM
  have hslot := hs.fits.slot
  have hti : at_ + (1 - f.slot) < n := by omega
  have htick := h.ok.tick hd (by omega)
  have CW : Hid (∀ w6, Below w.heap.size w w6 → ∀ v27, Own 5 w6 M v27 (encS l t) → Calls Tryz.prog 75 #[.pointer (some ⟨d, 0, none⟩), .int .i64 ((at_ : Int) + ((1 - f.slot : Nat) : Int)), v27] w6 fun e w7 => e = .returned (.int .i64 0) ∧ (DV w7 B d g n (wrS S (at_ + (1 - f.slot)) (encS l t)) L.tick ∧ Offs [d, g] w w7) ∧ Two d (some g) w6 w7) := by
    intro w6 hb v27 hv27
    have hw := dwrite_c (h.below hb) hd (by omega) (at_ + (1 - f.slot)) hti v27 (encS l t) hv27.rb (by rw [encS_length (by omega)]; exact Nat.le_refl _)
    rw [show ((at_ + (1 - f.slot) : Nat) : Int) = (at_ : Int) + ((1 - f.slot : Nat) : Int) from by omega] at hw
    refine hw.mono ?_
    rintro e w7 ⟨rfl, hdv, h2⟩
    exact ⟨rfl, ⟨hdv, (Offs.of_below hb).trans (Offs.of_two h2 (by simp) (by simp))⟩, h2⟩
  have CE : Hid (∀ w6, Below w.heap.size w w6 → Calls Tryz.prog 76 #[v0, .int .i64 (t : Int)] w6 fun e w' => ∃ u, e = .returned u ∧ Own 5 w' w6.heap.size u (encS l t) ∧ Below w6.heap.size w6 w') := fun w6 hb => sencode_c w6 v0 l t (hv w6 (Offs.of_below hb)) hl ht (hT.below hb)
  have HV := Go.Lib.hid hv
  have HSU := Go.Lib.hid hs
  have HN := Go.Lib.hid h.noBytes
  have HAP := Go.Lib.hid (hs.apart h)
  have HTB : Hid (∀ w', Offs [d, g, p] w w' → Tab w') := fun w' ho i hi => ho.cell (hT i hi) (by
    have k0 := h.blk
    obtain ⟨cur, k1, -⟩ := h.row.row
    obtain ⟨u1, k2, -⟩ := hs.blk
    have h1 := h.lowd
    have h2 := h.lowg
    have h3 : p ≠ 0 := by
      rintro rfl
      have h4 := hT 0 (by decide)
      rw [cell_of_row w _ 0 _ _ _ k2] at h4
      cases h4
    show 0 ∉ [d, g, p]
    simp only [List.mem_cons, List.not_mem_nil, or_false, not_or]
    exact ⟨by omega, by omega, fun e => h3 e.symm⟩)
  have hfl : ∀ j, j < n → calmS (upF F (at_ + (1 - f.slot)) (encS l t)) j = flS (wrS S (at_ + (1 - f.slot)) (encS l t)) j := flS_tidy htd hF (over_all (by rw [encS_length (by omega)]; exact (h.whole64 hti).symm))
  have HFL := Go.Lib.hid hfl
  obtain ⟨s, hsl⟩ : ∃ s, s = 1 - f.slot := ⟨_, rfl⟩
  have hfx : (⟨s, l, t⟩ : Found).Fits := ⟨by simp only; omega, hl, ht⟩
  have HFX := Go.Lib.hid hfx
  rw [← hsl] at CW HFL ⊢
  have hsI : IntKind.i64.wrap (1 - (f.slot : Int)) = (s : Int) := by rw [IntKind.wrap_i64]; omega
  have hn1 := h.n1
  have HdM := Go.Lib.hid (show d < M by rw [hM]; exact h.lt)
  have HgM := Go.Lib.hid (show g < M by rw [hM]; exact h.ltg)
  have hwadd : IntKind.i64.wrap ((at_ : Int) + (s : Int)) = (at_ : Int) + (s : Int) := by rw [IntKind.wrap_i64]; omega
  have C0 := Go.Lib.hid c0
  have C1 := Go.Lib.hid c1
  have HTC : Hid (L.tick.calls < 1000000) := Go.Lib.hid (by rw [Life.tick_calls]; omega)
  have Hl40 := Go.Lib.hid hl
  obtain ⟨X, hX⟩ : ∃ X, X = encS l t := ⟨_, rfl⟩
  rw [← hX] at CW CE HFL ⊢
  clear h hd hs hT hv hl ht hu c0 c1 c3 c4 hn1 hsl hat hslot hX hc hti htick hfl hfx hB hF htd
  go_enter Tryz.func51, Tryz.ntmps51
  go_upto_region 2 with (fail)
  have hI0 : IL w (fun w7 => DV w7 B d g n (wrS S (at_ + s) X) L.tick ∧ Offs [d, g] w w7) (fun _ => false) w.drew := ⟨fun h => (by cases h), below_drewN (Below.refl _ _) 1⟩
  refine wp_region_inv (by kernel_rfl) (VL M p d at_ s t v0 X (0)) (IL w (fun w7 => DV w7 B d g n (wrS S (at_ + s) X) L.tick ∧ Offs [d, g] w w7)) (by decide +kernel) (by decide +kernel) (by rfl) [15, 16, 17, 18, 19, 20, 21, 22, 23, 24, 25, 26, 27, 28, 8] (by rfl) (hI0) ?_ ?_
  · intro i o ho a w6 done hI hnot hr hlen hg
    match i, ho with
    | 0, ho =>
      obtain rfl := Option.some.inj ho
      have h0 := given_old hg 0 (by decide +kernel)
      clear hg
      exact st_yield ho (wanted_none rfl) (.pointer (some ⟨p, 0, none⟩)) w6 (by simp [execOp, Act.eval, h0, go_sem]) ⟨_, rfl, hI.keep 0 (by decide), fun _ _ h => h, by rintro t' ⟨⟩; rfl⟩
    | 1, ho =>
      obtain rfl := Option.some.inj ho
      obtain ⟨_, h15, rfl⟩ := given_fed hg 15 (by decide +kernel)
      clear hg
      exact st_yield ho (wanted_none rfl) (.pointer (some ⟨p, 0, none⟩)) w6 (by simp [execOp, Act.eval, h15, go_sem]) ⟨_, rfl, hI.keep 1 (by decide), fun _ _ h => h, by rintro t' ⟨⟩; rfl⟩
    | 2, ho =>
      obtain rfl := Option.some.inj ho
      obtain ⟨_, h16, rfl⟩ := given_fed hg 16 (by decide +kernel)
      clear hg
      exact st_yield ho (wanted_none rfl) (.pointer (some ⟨p, 0, none⟩)) w6 (by simp [execOp, Act.eval, h16, go_sem]) ⟨_, rfl, hI.keep 2 (by decide), fun _ _ h => h, by rintro t' ⟨⟩; rfl⟩
    | 3, ho =>
      obtain rfl := Option.some.inj ho
      obtain ⟨_, h17, rfl⟩ := given_fed hg 17 (by decide +kernel)
      clear hg
      have hq : done 13 = false := by cases h : done 13 with | false => rfl | true => have := (hI.1 h).1 3 (by decide); rw [hnot] at this; cases this
      have hc := hI.2
      rw [hq] at hc
      have k0 := (hc.cell (p := ⟨p, 0, none⟩) HLT.out).trans C0.out
      exact st_yield ho (wanted_none rfl) (.pointer (some ⟨d, 0, none⟩)) w6 (by simp [execOp, Act.eval, h17, go_sem, k0]) ⟨_, rfl, hI.keep 3 (by decide), fun _ _ h => h, by rintro t' ⟨⟩; rfl⟩
    | 4, ho =>
      obtain rfl := Option.some.inj ho
      have h0 := given_old hg 0 (by decide +kernel)
      clear hg
      exact st_yield ho (wanted_none rfl) (.pointer (some ⟨p, 0, none⟩)) w6 (by simp [execOp, Act.eval, h0, go_sem]) ⟨_, rfl, hI.keep 4 (by decide), fun _ _ h => h, by rintro t' ⟨⟩; rfl⟩
    | 5, ho =>
      obtain rfl := Option.some.inj ho
      obtain ⟨_, h19, rfl⟩ := given_fed hg 19 (by decide +kernel)
      clear hg
      exact st_yield ho (wanted_none rfl) (.pointer (some ⟨p, 0, none⟩)) w6 (by simp [execOp, Act.eval, h19, go_sem]) ⟨_, rfl, hI.keep 5 (by decide), fun _ _ h => h, by rintro t' ⟨⟩; rfl⟩
    | 6, ho =>
      obtain rfl := Option.some.inj ho
      obtain ⟨_, h20, rfl⟩ := given_fed hg 20 (by decide +kernel)
      clear hg
      exact st_yield ho (wanted_none rfl) (.pointer (some ⟨p, 1, none⟩)) w6 (by simp [execOp, Act.eval, h20, go_sem]) ⟨_, rfl, hI.keep 6 (by decide), fun _ _ h => h, by rintro t' ⟨⟩; rfl⟩
    | 7, ho =>
      obtain rfl := Option.some.inj ho
      obtain ⟨_, h21, rfl⟩ := given_fed hg 21 (by decide +kernel)
      clear hg
      have hq : done 13 = false := by cases h : done 13 with | false => rfl | true => have := (hI.1 h).1 7 (by decide); rw [hnot] at this; cases this
      have hc := hI.2
      rw [hq] at hc
      have k0 := (hc.cell (p := ⟨p, 1, none⟩) HLT.out).trans C1.out
      exact st_yield ho (wanted_none rfl) (.int .i64 (at_ : Int)) w6 (by simp [execOp, Act.eval, h21, go_sem, k0]) ⟨_, rfl, hI.keep 7 (by decide), fun _ _ h => h, by rintro t' ⟨⟩; rfl⟩
    | 8, ho =>
      obtain rfl := Option.some.inj ho
      have h7 := given_old hg 7 (by decide +kernel)
      clear hg
      exact st_yield ho (wanted_none rfl) (.int .i64 (s : Int)) w6 (by simp [execOp, Act.eval, h7, go_sem]) ⟨_, rfl, hI.keep 8 (by decide), fun _ _ h => h, by rintro t' ⟨⟩; rfl⟩
    | 9, ho =>
      obtain rfl := Option.some.inj ho
      obtain ⟨_, h22, rfl⟩ := given_fed hg 22 (by decide +kernel)
      obtain ⟨_, h23, rfl⟩ := given_fed hg 23 (by decide +kernel)
      clear hg
      exact st_yield ho (wanted_none rfl) (.int .i64 ((at_ : Int) + (s : Int))) w6 (by simp [execOp, Act.eval, h22, h23, go_sem, hwadd]) ⟨_, rfl, hI.keep 9 (by decide), fun _ _ h => h, by rintro t' ⟨⟩; rfl⟩
    | 10, ho =>
      obtain rfl := Option.some.inj ho
      have h1 := given_old hg 1 (by decide +kernel)
      clear hg
      exact st_yield ho (wanted_none rfl) v0 w6 (by simp [execOp, Act.eval, h1, go_sem]) ⟨_, rfl, hI.keep 10 (by decide), fun _ _ h => h, by rintro t' ⟨⟩; rfl⟩
    | 11, ho =>
      obtain rfl := Option.some.inj ho
      have h2 := given_old hg 2 (by decide +kernel)
      clear hg
      exact st_yield ho (wanted_none rfl) (.int .i64 (t : Int)) w6 (by simp [execOp, Act.eval, h2, go_sem]) ⟨_, rfl, hI.keep 11 (by decide), fun _ _ h => h, by rintro t' ⟨⟩; rfl⟩
    | 12, ho =>
      obtain rfl := Option.some.inj ho
      obtain ⟨v25, h25, p25⟩ := given_fed hg 25 (by decide +kernel)
      obtain ⟨_, h26, rfl⟩ := given_fed hg 26 (by decide +kernel)
      clear hg
      have hq : done 13 = false := by cases h : done 13 with | false => rfl | true => have := (hI.1 h).1 12 (by decide); rw [hnot] at this; cases this
      have hc := hI.2
      rw [hq] at hc
      rw [show v25 = v0 from p25] at h25
      exact st_enter (w1 := w6) ho (wanted_none rfl) 76 #[v0, .int .i64 (t : Int)] (by simp [execOp, Act.eval, h25, h26, resolve, go_sem]) ((CE.out w6 hc).mono (by rintro e w7 ⟨u, rfl, ho7, hb7⟩; exact ⟨_, rfl, _, rfl, hI.keep2 12 (by decide) hq (hc.trans (hb7.mono hc.size)), fun t' u h => VL_below M p d at_ s t v0 X (0) _ _ _ _ h hb7, by rintro t' ⟨⟩; exact ho7.mono (by rw [HM.out]; exact hc.size)⟩))
    | 13, ho =>
      obtain rfl := Option.some.inj ho
      obtain ⟨_, h18, rfl⟩ := given_fed hg 18 (by decide +kernel)
      obtain ⟨_, h24, rfl⟩ := given_fed hg 24 (by decide +kernel)
      obtain ⟨v27, h27, p27⟩ := given_fed hg 27 (by decide +kernel)
      clear hg
      have hc := hI.2
      rw [hnot] at hc
      exact st_enter (w1 := w6) ho (wanted_none rfl) 75 #[.pointer (some ⟨d, 0, none⟩), .int .i64 ((at_ : Int) + (s : Int)), v27] (by simp [execOp, Act.eval, h18, h24, h27, resolve, go_sem]) ((CW.out w6 hc v27 p27).mono (by rintro e w7 ⟨rfl, he7, ht7⟩; exact ⟨_, rfl, _, rfl, ⟨fun _ => ⟨fun j hj => by rw [doneToo_other (by rintro rfl; exact absurd hj (by decide))]; match j, hj with | 0, _ => exact hr 0 (by decide +kernel) | 1, _ => exact hr 1 (by decide +kernel) | 2, _ => exact hr 2 (by decide +kernel) | 3, _ => exact hr 3 (by decide +kernel) | 4, _ => exact hr 4 (by decide +kernel) | 5, _ => exact hr 5 (by decide +kernel) | 6, _ => exact hr 6 (by decide +kernel) | 7, _ => exact hr 7 (by decide +kernel) | 8, _ => exact hr 8 (by decide +kernel) | 9, _ => exact hr 9 (by decide +kernel) | 10, _ => exact hr 10 (by decide +kernel) | 11, _ => exact hr 11 (by decide +kernel) | 12, _ => exact hr 12 (by decide +kernel) | k + 13, hj => omega, trivial⟩, by rw [doneToo_self]; exact he7⟩, fun t' u h => VL_two M p d at_ s t v0 X (0) _ _ _ _ _ _ h ht7 HdM.out HgM.out, by rintro t' ⟨⟩; rfl⟩))
    | 14, ho =>
      obtain rfl := Option.some.inj ho
      obtain ⟨_, h28, rfl⟩ := given_fed hg 28 (by decide +kernel)
      clear hg
      exact st_yield ho (wanted_none rfl) (.int .i64 (0)) w6 (by simp [execOp, Act.eval, h28, go_sem]) ⟨_, rfl, hI.keep 14 (by decide), fun _ _ h => h, by rintro t' ⟨⟩; rfl⟩
    | n + 15, ho => simp at ho
  · intro f' w7 done hall hI hv
    have h8 := hv 8 (by decide)
    simp only [VL] at h8
    have h13 := hall 13 (by decide)
    have hI2 := hI.2
    rw [h13, if_pos rfl] at hI2
    obtain ⟨hd7, ho7⟩ := hI2
    clear hv hall hI h13 hI0 CW CE
    unfold putAll
    simp only [List.foldl]
    simp only [h8]
    go_simp
    have hs7 := HSU.out.offs ho7 (by have := HAP.out; simp [this]) HN.out
    obtain ⟨u7, hu7, k0, k1, k2, k3, k4⟩ := hs7.cells
    have HO7 := Go.Lib.hid ho7
    by_cases hd2 : L.tick.dead = true
    · have CF := Go.Lib.hid (dflush_dead hd7 hd2)
      have HD7 := Go.Lib.hid hd7
      have HS7 := Go.Lib.hid hs7
      have Hd2 := Go.Lib.hid hd2
      clear hd7 ho7 hs7 hu7 k1 k2 k3 k4 hd2
      go_wp2_with fail
      refine CF.out.mono ?_
      rintro e w8 ⟨rfl, rfl⟩
      go_wp2_with fail
      go_ret
      have ho3 := HO7.out.more (m := [d, g, p]) (by intro i hi; simp at hi ⊢; rcases hi with h | h <;> simp [h])
      exact ⟨ho3, HTB.out _ ho3, .inl ⟨Hd2.out, rfl, HD7.out, HS7.out⟩⟩
    · have hd2' : L.tick.dead = false := by simpa using hd2
      have CF := Go.Lib.hid (dflush_c hd7 hd2' HTC.out)
      have HD7 := Go.Lib.hid hd7
      have HS7 := Go.Lib.hid hs7
      have Hd2 := Go.Lib.hid hd2'
      clear hd7 ho7 hs7 hu7 k1 k2 k3 k4 hd2 hd2'
      go_wp2_with fail
      refine CF.out.mono ?_
      rintro e w8 ⟨rfl, hd8, ht8⟩
      have hs8 := HS7.out.two HD7.out ht8
      have ho8 := HO7.out.trans (Offs.of_two (l := [d, g]) ht8 (by simp) (by simp))
      have CC := Go.Lib.hid (bclone_c _ _ w8 (HV.out w8 ho8) (by have := Hl40.out; omega))
      have hd8 := hd8.congr HFL.out
      have HD8 := Go.Lib.hid hd8
      have HS8 := Go.Lib.hid hs8
      have HO8 := Go.Lib.hid ho8
      clear hd8 hs8 ho8 ht8 CF HD7 HS7 HO7
      go_wp2_with fail
      refine CC.out.mono ?_
      rintro e w9 ⟨y, rfl, hy9, hb9⟩
      obtain ⟨ya, yn, yc, rfl⟩ := hy9.tx.form
      have hs9 := HS8.out.below hb9
      have hd9 := HD8.out.below hb9
      have ho9 := (HO8.out.more (m := [d, g, p]) (by intro i hi; simp at hi ⊢; rcases hi with h | h <;> simp [h])).trans (Offs.of_below hb9)
      obtain ⟨u9, hu9, j0, j1, j2, j3, j4⟩ := hs9.cells
      have g2 := hs9.frozen 2
      have g3 := hs9.frozen 3
      have g4 := hs9.frozen 4
      have hst := hs9.store (x := ⟨s, l, t⟩) HFX.out hy9.tx
      have HST := Go.Lib.hid hst.1
      have HOF := Go.Lib.hid hst.2
      have HO9 := Go.Lib.hid (ho9.trans (hst.2.more (by simp)))
      have HAP9 := Go.Lib.hid (hs9.apart hd9)
      have HD9 := Go.Lib.hid (hd9.offs hst.2 (by simp [Ne.symm (hs9.apart hd9).1]) (by simp [Ne.symm (hs9.apart hd9).2]))
      clear hs9 hd9 ho9 hu9 hst hy9 hb9 CC HS8 HD8 HO8 j0 j1
      go_wp2_with fail
      go_ret
      exact ⟨HO9.out, HTB.out _ HO9.out, .inr ⟨Hd2.out, rfl, HD9.out, HST.out⟩⟩
end

end Go.Proofs.YtnalokjnbccjnaaGreatDoor

namespace Go.Proofs.YtnalokjnbccjnaaGreatDoor
open Go.RowKit

section
variable {w : World} {B B' d g n p at_ : Nat} {L : Life} {S : Nat → Sec} {f : Found} {F : Nat → List UInt8} {v0 : Value} {l : List UInt8}
set_option maxHeartbeats 1000000
set_option maxRecDepth 100000
theorem ssave_long (hv : RB w v0 l) (hl : 40 < l.length) : Calls Tryz.prog 63 #[.pointer (some ⟨p, 0, none⟩), v0] w fun e w' => e = .returned (.int .i64 1) ∧ w = w' := by
  obtain ⟨a, cap, rfl, h1, h2, -⟩ := hv
  unfold maxLen at h2
  have hlI : (40 : Int) < (l.length : Int) := by omega
  generalize l.length = m at *
  go_enter Tryz.func63, Tryz.ntmps63
  go_wp2_with fail
  go_ret
  exact ⟨rfl, rfl⟩
theorem ssave_dead (h : DV w B d g n (calmS F) L) (hd : L.dead = true) (hs : SU w B' p d at_ f) (hT : Tab w) (hat : at_ + 2 ≤ n) (hv : RB w v0 l) (hl : l.length ≤ 40) (ht : f.turn + 1 ≤ 1099511627776) :
    Calls Tryz.prog 63 #[.pointer (some ⟨p, 0, none⟩), v0] w fun e w' => e = .returned (.int .i64 7) ∧ Below w.heap.size w w' := by
  have C := slay_dead h hd hs hT hat hv hl ht
  rw [show ((f.turn + 1 : Nat) : Int) = (f.turn : Int) + 1 from by omega] at C
  obtain ⟨u, hu, c0, c1, c2, c3, c4⟩ := hs.cells
  obtain ⟨a, cap, rfl, -, -, -⟩ := hv
  have hlI : (l.length : Int) ≤ 40 := by omega
  have htI : IntKind.i64.wrap ((f.turn : Int) + 1) = (f.turn : Int) + 1 := by rw [IntKind.wrap_i64]; omega
  have C := Go.Lib.hid C
  generalize l.length = m at *
  generalize (f.turn : Int) = T at *
  clear h hd hs hT hat hl ht hu c0 c1 c2 c3
  go_enter Tryz.func63, Tryz.ntmps63
  go_wp2_with fail
  refine C.out.mono ?_
  rintro e w1 ⟨rfl, hb⟩
  have HB := Go.Lib.hid hb
  clear hb
  go_wp2_with fail
  go_ret
  exact ⟨rfl, HB.out⟩
theorem ssave_wr (h : DV w B d g n (calmS F) L) (hd : L.dead = false) (hc : L.calls < 999999) (hs : SU w B' p d at_ f) (hT : Tab w) (hat : at_ + 2 ≤ n) (hv : ∀ w', Offs [d, g] w w' → RB w' v0 l) (hl : l.length ≤ 40) (ht : f.turn + 1 ≤ 1099511627776) (hB : 0 < B) :
    Calls Tryz.prog 63 #[.pointer (some ⟨p, 0, none⟩), v0] w fun e w' => Offs [d, g, p] w w' ∧ Tab w' ∧
      (L.tick.dead = true ∧ e = .returned (.int .i64 7) ∧ DV w' B d g n (wrS (calmS F) (at_ + (1 - f.slot)) (encS l (f.turn + 1))) L.tick ∧ SU w' B' p d at_ f ∨
       L.tick.dead = false ∧ e = .returned (.int .i64 0) ∧ DV w' B d g n (calmS (upF F (at_ + (1 - f.slot)) (encS l (f.turn + 1)))) L.tick.tick ∧ SU w' B' p d at_ ⟨1 - f.slot, l, f.turn + 1⟩) := by
  have C := slay_wr h (fun _ _ => rfl) (Tidy.calm F) hd hc hs hT hat hv hl ht hB
  rw [show ((f.turn + 1 : Nat) : Int) = (f.turn : Int) + 1 from by omega] at C
  obtain ⟨u, hu, c0, c1, c2, c3, c4⟩ := hs.cells
  obtain ⟨a, cap, rfl, -, -, -⟩ := hv w (Offs.refl _ _)
  have hlI : (l.length : Int) ≤ 40 := by omega
  have htI : IntKind.i64.wrap ((f.turn : Int) + 1) = (f.turn : Int) + 1 := by rw [IntKind.wrap_i64]; omega
  have C := Go.Lib.hid C
  obtain ⟨m, hm⟩ : ∃ m, m = l.length := ⟨_, rfl⟩
  rw [← hm] at hlI C ⊢
  obtain ⟨T, hTT⟩ : ∃ T, T = (f.turn : Int) := ⟨_, rfl⟩
  rw [← hTT] at htI c4 C
  clear h hd hs hT hat hl ht hu c0 c1 c2 c3 hm hv hTT
  go_enter Tryz.func63, Tryz.ntmps63
  go_wp2_with fail
  refine C.out.mono ?_
  rintro e w1 ⟨ho, hT1, h1⟩
  have HO := Go.Lib.hid ho
  have HT1 := Go.Lib.hid hT1
  rcases h1 with ⟨k0, rfl, k1, k2⟩ | ⟨k0, rfl, k1, k2⟩
  · have K0 := Go.Lib.hid k0
    have K1 := Go.Lib.hid k1
    have K2 := Go.Lib.hid k2
    clear ho hT1 k0 k1 k2
    go_wp2_with fail
    go_ret
    exact ⟨HO.out, HT1.out, .inl ⟨K0.out, rfl, K1.out, K2.out⟩⟩
  · have K0 := Go.Lib.hid k0
    have K1 := Go.Lib.hid k1
    have K2 := Go.Lib.hid k2
    clear ho hT1 k0 k1 k2
    go_wp2_with fail
    go_ret
    exact ⟨HO.out, HT1.out, .inr ⟨K0.out, rfl, K1.out, K2.out⟩⟩

theorem sopen_out (h : DV w B d g n S L) (i : Int) (hi : i < 0 ∨ (n : Int) - 2 < i) : Calls Tryz.prog 41 #[.pointer (some ⟨d, 0, none⟩), .int .i64 i] w fun e w' => e = .returned (.tuple #[.pointer none, .int .i64 3]) ∧ w = w' := by
  have C := sboth_c h i
  rw [show (decide (0 ≤ i) && decide (i ≤ (n : Int) - 2)) = false from by rcases hi with hi | hi <;> simp <;> omega] at C
  have C := Go.Lib.hid C
  clear h hi
  go_enter Tryz.func41, Tryz.ntmps41
  go_wp2_with fail
  refine C.out.mono ?_
  rintro e w1 ⟨rfl, rfl⟩
  go_wp2_with fail
  go_ret2
  exact ⟨rfl, rfl⟩
theorem sopen_c (h : DV w B d g n (calmS F) L) (hT : Tab w) (hat : at_ + 2 ≤ n) (hf : Good F at_ f) : Calls Tryz.prog 41 #[.pointer (some ⟨d, 0, none⟩), .int .i64 (at_ : Int)] w fun e w' => ∃ p, e = .returned (.tuple #[.pointer (some ⟨p, 0, none⟩), .int .i64 0]) ∧ SU w' w.heap.size p d at_ f ∧ Below w.heap.size w w' := by
  have C := sboth_c h (at_ : Int)
  rw [show (decide (0 ≤ (at_ : Int)) && decide ((at_ : Int) ≤ (n : Int) - 2)) = true from by simp; omega] at C
  have C2 := snewest_c (F := F) h (fun _ _ => rfl) hT hat
  rw [hf.found] at C2
  have C := Go.Lib.hid C
  have C2 := Go.Lib.hid C2
  have h1 := hf.one
  clear h hT hat hf
  go_enter Tryz.func41, Tryz.ntmps41
  go_wp2_with fail
  refine C.out.mono ?_
  rintro e w1 ⟨rfl, rfl⟩
  go_wp2_with fail
  refine C2.out.mono ?_
  rintro e w1 ⟨p, rfl, hs, hb⟩
  obtain ⟨u, hu, c0, c1, c2, c3, c4⟩ := hs.cells
  have HS := Go.Lib.hid hs
  have HB := Go.Lib.hid hb
  have h1I : ((f.turn : Int) == 0) = false := by simp; omega
  generalize (f.turn : Int) = t at c4 h1I
  clear hu c0 c1 c2 c3 hs hb h1
  go_wp2_with fail
  go_ret2
  exact ⟨p, rfl, HS.out, HB.out⟩
theorem sopen_bad (h : DV w B d g n (calmS F) L) (hT : Tab w) (hat : at_ + 2 ≤ n) (hf : newestS F at_ = none0) : Calls Tryz.prog 41 #[.pointer (some ⟨d, 0, none⟩), .int .i64 (at_ : Int)] w fun e w' => e = .returned (.tuple #[.pointer none, .int .i64 8]) ∧ Below w.heap.size w w' := by
  have C := sboth_c h (at_ : Int)
  rw [show (decide (0 ≤ (at_ : Int)) && decide ((at_ : Int) ≤ (n : Int) - 2)) = true from by simp; omega] at C
  have C2 := snewest_c (F := F) h (fun _ _ => rfl) hT hat
  rw [hf] at C2
  have C := Go.Lib.hid C
  have C2 := Go.Lib.hid C2
  clear h hT hat hf
  go_enter Tryz.func41, Tryz.ntmps41
  go_wp2_with fail
  refine C.out.mono ?_
  rintro e w1 ⟨rfl, rfl⟩
  go_wp2_with fail
  refine C2.out.mono ?_
  rintro e w1 ⟨p, rfl, hs, hb⟩
  obtain ⟨u, hu, c0, c1, c2, c3, c4⟩ := hs.cells
  have HB := Go.Lib.hid hb
  rw [show ((none0.turn : Nat) : Int) = 0 from rfl] at c4
  clear hu c0 c1 c2 c3 hs hb
  go_wp2_with fail
  go_ret2
  exact ⟨rfl, HB.out⟩

theorem smake_long (dv : Value) (i : Int) (hv : RB w v0 l) (hl : 40 < l.length) : Calls Tryz.prog 31 #[dv, .int .i64 i, v0] w fun e w' => e = .returned (.tuple #[.pointer none, .int .i64 1]) ∧ w = w' := by
  obtain ⟨a, cap, rfl, h1, h2, -⟩ := hv
  unfold maxLen at h2
  have hlI : (40 : Int) < (l.length : Int) := by omega
  generalize l.length = m at *
  go_enter Tryz.func31, Tryz.ntmps31
  go_wp2_with fail
  go_ret2
  exact ⟨rfl, rfl⟩
theorem smake_out (h : DV w B d g n S L) (i : Int) (hi : i < 0 ∨ (n : Int) - 2 < i) (hv : RB w v0 l) (hl : l.length ≤ 40) : Calls Tryz.prog 31 #[.pointer (some ⟨d, 0, none⟩), .int .i64 i, v0] w fun e w' => e = .returned (.tuple #[.pointer none, .int .i64 3]) ∧ w = w' := by
  have C := sboth_c h i
  rw [show (decide (0 ≤ i) && decide (i ≤ (n : Int) - 2)) = false from by rcases hi with hi | hi <;> simp <;> omega] at C
  have C := Go.Lib.hid C
  obtain ⟨a, cap, rfl, h1, h2, -⟩ := hv
  have hlI : (l.length : Int) ≤ 40 := by omega
  generalize l.length = m at *
  clear h hi h1 h2
  go_enter Tryz.func31, Tryz.ntmps31
  go_wp2_with fail
  refine C.out.mono ?_
  rintro e w1 ⟨rfl, rfl⟩
  go_wp2_with fail
  go_ret2
  exact ⟨rfl, rfl⟩

/-- Make's loop: what it holds when i of the two sectors have been laid; the sectors. -/
def mkT (l : List UInt8) : Nat → Found
  | 0 => none0
  | 1 => ⟨1, l, 1⟩
  | _ => ⟨0, l, 1⟩
def mkF (F : Nat → List UInt8) (q : Nat) (l : List UInt8) : Nat → Nat → List UInt8
  | 0 => F
  | 1 => upF F (q + 1) (encS l 1)
  | _ => upF (upF F (q + 1) (encS l 1)) q (encS l 1)
theorem mk_step (F : Nat → List UInt8) (q : Nat) (l : List UInt8) (i : Nat) (hi : i < 2) : upF (mkF F q l i) (q + (1 - (mkT l i).slot)) (encS l 1) = mkF F q l (i + 1) ∧ (⟨1 - (mkT l i).slot, l, 1⟩ : Found) = mkT l (i + 1) := by
  rcases (show i = 0 ∨ i = 1 by omega) with rfl | rfl <;> exact ⟨rfl, rfl⟩
theorem mk_end (F : Nat → List UInt8) (q : Nat) (l : List UInt8) (hl : l.length ≤ 40) : Good (mkF F q l 2) q (mkT l 2) := Good.made F q l hl
/-- The sectors while Make goes on: ahead of its first Flush they may be loose. -/
def mkS (S : Nat → Sec) (F : Nat → List UInt8) (q : Nat) (l : List UInt8) : Nat → Nat → Sec
  | 0 => S
  | i + 1 => calmS (mkF F q l (i + 1))
theorem mkS_now {S : Nat → Sec} {F : Nat → List UInt8} {n : Nat} (hF : ∀ j, j < n → (S j).now = F j) (q : Nat) (l : List UInt8) : ∀ i j, j < n → (mkS S F q l i j).now = mkF F q l i j
  | 0, j, hj => hF j hj
  | _ + 1, _, _ => rfl
theorem mkS_tidy {S : Nat → Sec} (h : Tidy S) (F : Nat → List UInt8) (q : Nat) (l : List UInt8) : ∀ i, Tidy (mkS S F q l i)
  | 0 => h
  | _ + 1 => Tidy.calm _
theorem smake_c {k : Nat} (h : DV w B d g n S (lifeN k)) (hF : ∀ j, j < n → (S j).now = F j) (htd : Tidy S) (hk : k ≤ 1000) (hT : Tab w) (hat : at_ + 2 ≤ n) (hf : newestS F at_ = none0) (hv : ∀ w', Offs [d, g] w w' → RB w' v0 l) (hl : l.length ≤ 40) (hB : 0 < B) :
    Calls Tryz.prog 31 #[.pointer (some ⟨d, 0, none⟩), .int .i64 (at_ : Int), v0] w fun e w' => ∃ p, e = .returned (.tuple #[.pointer (some ⟨p, 0, none⟩), .int .i64 0]) ∧ SU w' w.heap.size p d at_ (mkT l 2) ∧ DV w' B d g n (calmS (mkF F at_ l 2)) (lifeN (k + 4)) ∧ Offs [d, g] w w' ∧ Tab w' := by
  have C := sboth_c h (at_ : Int)
  rw [show (decide (0 ≤ (at_ : Int)) && decide ((at_ : Int) ≤ (n : Int) - 2)) = true from by simp; omega] at C
  have C2 := snewest_c h hF hT hat
  rw [hf] at C2
  have C := Go.Lib.hid C
  have C2 := Go.Lib.hid C2
  obtain ⟨a, cap, rfl, -, -, -⟩ := hv w (Offs.refl _ _)
  have hlI : (l.length : Int) ≤ 40 := by omega
  have HL := Go.Lib.hid hl
  have HV := Go.Lib.hid hv
  obtain ⟨m, hm⟩ : ∃ m, m = l.length := ⟨_, rfl⟩
  rw [← hm] at hlI HV ⊢
  have H := Go.Lib.hid h
  have HT := Go.Lib.hid hT
  have HB := Go.Lib.hid hB
  have HK := Go.Lib.hid hk
  have HA := Go.Lib.hid hat
  have HF := Go.Lib.hid hF
  have HTD := Go.Lib.hid htd
  clear hF htd
  clear h hk hT hat hf hv hl hm hB
  go_enter Tryz.func31, Tryz.ntmps31
  go_wp2_with fail
  refine C.out.mono ?_
  rintro e w1 ⟨rfl, rfl⟩
  go_wp2_with fail
  refine C2.out.mono ?_
  rintro e w1 ⟨p, rfl, hs1, hb1⟩
  have HS1 := Go.Lib.hid hs1
  have HD1 := Go.Lib.hid (H.out.below hb1)
  have HT1 := Go.Lib.hid (HT.out.below hb1)
  have HO1 : Hid (Offs [d, g] w w1) := Go.Lib.hid (Offs.of_below hb1)
  clear hs1 hb1 C C2
  go_wp2_with fail
  go_loopw [9, 22] (fun _ iv wr => ∃ i : Nat, i ≤ 2 ∧ iv = .int .i64 (i : Int) ∧ SU wr w.heap.size p d at_ (mkT l i) ∧ DV wr B d g n (mkS S F at_ l i) (lifeN (k + 2 * i)) ∧ Offs [d, g] w wr ∧ Tab wr) (fun _ iv _ => 2 - (intOf iv).toNat)
  case atStart => exact ⟨0, by omega, rfl, HS1.out, HD1.out, HO1.out, HT1.out⟩
  case round =>
    obtain ⟨i, hi, rfl, hsi, hdi, hoi, hti⟩ := hrel
    by_cases hlt : i < 2
    · have hvi : ∀ w', Offs [d, g] wr w' → RB w' (.slice a m cap) l := fun w' ho => HV.out w' (hoi.trans ho)
      have hst := mk_step F at_ l i hlt
      have CL := slay_wr (t := 1) hdi (mkS_now HF.out at_ l i) (mkS_tidy HTD.out F at_ l i) rfl (by show ((k + 2 * i : Nat) : Int) < 999999; have := HK.out; omega) hsi hti HA.out hvi HL.out (by omega) HB.out
      rw [show ((1 : Nat) : Int) = 1 from rfl] at CL
      rw [hst.1, hst.2, lifeN_tick, lifeN_tick] at CL
      have CL := Go.Lib.hid CL
      have Hi := Go.Lib.hid hlt
      have HOI := Go.Lib.hid hoi
      have Hlow := Go.Lib.hid hsi.low
      clear hvi hst hsi hdi hti hoi
      go_wp2_with fail
      refine CL.out.mono ?_
      rintro e w2 ⟨ho2, hT2, h2⟩
      rcases h2 with ⟨k0, -, -, -⟩ | ⟨k0, rfl, k1, k2⟩
      · cases k0
      · have HO2 := Go.Lib.hid (HOI.out.new ho2 (by intro j hj; simp only [List.mem_cons, List.not_mem_nil, or_false] at hj ⊢; rcases hj with rfl | rfl | rfl; exact .inl (.inl rfl); exact .inl (.inr rfl); exact .inr Hlow.out))
        have HT2 := Go.Lib.hid hT2
        have K1 := Go.Lib.hid k1
        have K2 := Go.Lib.hid k2
        clear ho2 hT2 k1 k2 k0 CL
        go_wp2_with fail
        go_roundw
        case rel => exact ⟨i + 1, Hi.out, by go_num, K2.out, K1.out, HO2.out, HT2.out⟩
        case measure => have := Hi.out; simp [intOf]; omega
    · obtain rfl : i = 2 := by omega
      have HSI := Go.Lib.hid hsi
      have HDI := Go.Lib.hid hdi
      have HOI := Go.Lib.hid hoi
      have HTI := Go.Lib.hid hti
      clear hsi hdi hoi hti
      go_wp2_with fail
      go_ret2
      exact ⟨p, rfl, HSI.out, HDI.out, HOI.out, HTI.out⟩
end

end Go.Proofs.YtnalokjnbccjnaaGreatDoor

namespace Go.Proofs.YtnalokjnbccjnaaGreatDoor
open Go.RowKit

/-- Bytes that were laid as the program's text has them. -/
theorem TX.lits (w : World) (l : List UInt8) (arr : Array Value) (n : Nat) (h : arr = (cells l).toArray) (hn : n = l.length) (hm : l.length ≤ 1000) (fr : Nat × Nat) : TX (w.alloc (.cells arr 5 fr)) (.slice (some ⟨w.heap.size, 0, none⟩) n n) l :=
  ⟨RB.lits w _ fr l arr n h hn hm, fun _ => ⟨w.heap.size, 0, n, n, arr, fr, rfl, heap_alloc_new w _⟩⟩
theorem TX.keep {w : World} {v : Value} {x : List UInt8} {B d g n : Nat} {S : Nat → Sec} {L : Life} (h : TX w v x) (k : DV w B d g n S L) : ∀ w', Offs [d, g] w w' → RB w' v x := fun _ ho => (h.offs ho k.noBytes).1
/-- What the law was handed stays, whatever is done to what was made behind it. -/
theorem RB.keep {w0 w : World} {v : Value} {x : List UInt8} {B d g n : Nat} {S : Nat → Sec} {L : Life} (h : RB w0 v x) (hb : Below w0.heap.size w0 w) (k : DV w B d g n S L) (hB : w0.heap.size ≤ B) : ∀ w', Offs [d, g] w w' → RB w' v x := fun _ ho =>
  h.below (hb.trans (ho.below (by intro i hi; have := k.lowd; have := k.lowg; simp only [List.mem_cons, List.not_mem_nil, or_false] at hi; rcases hi with rfl | rfl <;> omega) hb.size))
theorem Offs.belowDV {w w' : World} {B B0 d g n : Nat} {S : Nat → Sec} {L : Life} (h : Offs [d, g] w w') (k : DV w B d g n S L) (hB : B0 ≤ B) (hw : B0 ≤ w.heap.size) : Below B0 w w' :=
  h.below (by intro i hi; have := k.lowd; have := k.lowg; simp only [List.mem_cons, List.not_mem_nil, or_false] at hi; rcases hi with rfl | rfl <;> omega) hw
theorem Offs.belowSU {w w' : World} {B B' B0 d g n p at_ : Nat} {S : Nat → Sec} {L : Life} {f : Found} (h : Offs [d, g, p] w w') (k : DV w B d g n S L) (s : SU w B' p d at_ f) (hB : B0 ≤ B) (hB' : B0 ≤ B') (hw : B0 ≤ w.heap.size) : Below B0 w w' :=
  h.below (by intro i hi; have := k.lowd; have := k.lowg; have := s.low; simp only [List.mem_cons, List.not_mem_nil, or_false] at hi; rcases hi with rfl | rfl | rfl <;> omega) hw
theorem zeros_none (q : Nat) : newestS (fun _ => zeros) q = none0 := newest_zeros rfl rfl
theorem rv_none (w : World) : RV w (.slice none 0 0) (zb []) := ⟨none, 0, rfl, Nat.le_refl _, by simp [maxLen], fun _ => rfl, fun h => absurd rfl h⟩
theorem Tab.low {w : World} (h : Tab w) : 0 < w.heap.size := World.block_lt_of_cell? w _ (h 0 (by decide))
theorem str_cd : (str [99, 100]).toList = [99, 100] := by decide +kernel
/-- A device of n sectors, as its calls find it. -/
theorem snew_c (n : Int) (w : World) : Calls Tryz.prog 11 #[.int .i64 n] w fun e w' => ∃ d g, e = .returned (.pointer (some ⟨d, 0, none⟩)) ∧ DV w' w.heap.size d g (lenD n) (calmS (fun _ => zeros)) (lifeN 0) ∧ Below w.heap.size w w' := dnew_c n w
/-- A crash of one that is calm. -/
theorem scrash_c {w : World} {B d g n : Nat} {F : Nat → List UInt8} {L : Life} (h : DV w B d g n (calmS F) L) (kv : Value) (keep : List Bool) (hv : RV w kv (zb keep)) : Calls Tryz.prog 19 #[.pointer (some ⟨d, 0, none⟩), kv] w fun e w' => ∃ d' g', e = .returned (.pointer (some ⟨d', 0, none⟩)) ∧ DV w' w.heap.size d' g' n (calmS F) (lifeN 0) ∧ Below w.heap.size w w' := by
  have := dcrash_c h kv keep hv
  rw [crS_calm] at this
  exact this

/-- A text is saved on a device that was never fused. -/
theorem ssave_c {w : World} {B B' d g n p at_ k : Nat} {f : Found} {F : Nat → List UInt8} {v0 : Value} {l : List UInt8} (h : DV w B d g n (calmS F) (lifeN k)) (hk : k ≤ 1000) (hs : SU w B' p d at_ f) (hg : Good F at_ f) (hT : Tab w) (hat : at_ + 2 ≤ n) (hv : ∀ w', Offs [d, g] w w' → RB w' v0 l) (hl : l.length ≤ 40) (ht : f.turn ≤ 1000) (hB : 0 < B) :
    Calls Tryz.prog 63 #[.pointer (some ⟨p, 0, none⟩), v0] w fun e w' => e = .returned (.int .i64 0) ∧ ∃ F', DV w' B d g n (calmS F') (lifeN (k + 2)) ∧ SU w' B' p d at_ ⟨1 - f.slot, l, f.turn + 1⟩ ∧ Good F' at_ ⟨1 - f.slot, l, f.turn + 1⟩ ∧ Offs [d, g, p] w w' ∧ Tab w' ∧ (∀ j, j ≠ at_ → j ≠ at_ + 1 → F' j = F j) := by
  have hsl := hg.fits.slot
  refine (ssave_wr h rfl (by show (k : Int) < 999999; omega) hs hT hat hv hl (by omega) hB).mono ?_
  rintro e w' ⟨h1, h2, h3⟩
  rw [lifeN_tick, lifeN_tick] at h3
  rcases h3 with ⟨h4, -⟩ | ⟨-, rfl, h5, h6⟩
  · cases h4
  · exact ⟨rfl, _, h5, h6, hg.save hl (by omega), h1, h2, fun j h7 h8 => upF_other _ _ (by omega)⟩
/-- A text is made on a device that was never fused, where none is. -/
theorem smade_c {w : World} {B d g n at_ k : Nat} {S : Nat → Sec} {F : Nat → List UInt8} {v0 : Value} {l : List UInt8} (h : DV w B d g n S (lifeN k)) (hF : ∀ j, j < n → (S j).now = F j) (htd : Tidy S) (hk : k ≤ 1000) (hT : Tab w) (hat : at_ + 2 ≤ n) (h0 : F at_ = zeros) (h1 : F (at_ + 1) = zeros) (hv : ∀ w', Offs [d, g] w w' → RB w' v0 l) (hl : l.length ≤ 40) (hB : 0 < B) :
    Calls Tryz.prog 31 #[.pointer (some ⟨d, 0, none⟩), .int .i64 (at_ : Int), v0] w fun e w' => ∃ p, e = .returned (.tuple #[.pointer (some ⟨p, 0, none⟩), .int .i64 0]) ∧ ∃ F', DV w' B d g n (calmS F') (lifeN (k + 4)) ∧ SU w' w.heap.size p d at_ ⟨0, l, 1⟩ ∧ Good F' at_ ⟨0, l, 1⟩ ∧ Offs [d, g] w w' ∧ Tab w' ∧ (∀ j, j ≠ at_ → j ≠ at_ + 1 → F' j = F j) := by
  refine (smake_c h hF htd hk hT hat (newest_zeros h0 h1) hv hl hB).mono ?_
  rintro e w' ⟨p, rfl, h2, h3, h4, h5⟩
  refine ⟨p, rfl, _, h3, h2, mk_end F at_ l hl, h4, h5, fun j h7 h8 => ?_⟩
  show upF (upF F (at_ + 1) (encS l 1)) at_ (encS l 1) j = F j
  rw [upF_other _ _ h7, upF_other _ _ h8]

theorem RB.slice {w : World} {v : Value} {l : List UInt8} (h : RB w v l) : ∃ a c, v = .slice a l.length c := by
  obtain ⟨a, c, hv, -⟩ := h
  exact ⟨a, c, hv⟩
theorem stext_q {w : World} {B p d at_ : Nat} {f : Found} (h : SU w B p d at_ f) (x : List UInt8) (hx : f.text = x) : Calls Tryz.prog 66 #[.pointer (some ⟨p, 0, none⟩)] w fun e w' => ∃ v, e = .returned v ∧ RB w' v x ∧ Below w.heap.size w w' := by
  subst hx
  exact (stext_c h).mono (by rintro e w' ⟨v, rfl, ho, hb⟩; exact ⟨v, rfl, ho.rb, hb⟩)

end Go.Proofs.YtnalokjnbccjnaaGreatDoor

namespace Go.Proofs.YtnalokjnbccjnaaGreatDoor
open Go.RowKit

theorem sl3 {l : List Value} (h : l.length = 3) : ∃ a b c, l = [a, b, c] := by match l, h with | [a, b, c], _ => exact ⟨a, b, c, rfl⟩
theorem sl4 {l : List Value} (h : l.length = 4) : ∃ a b c d, l = [a, b, c, d] := by match l, h with | [a, b, c, d], _ => exact ⟨a, b, c, d, rfl⟩
/-- A file's writes, all files'. -/
def lay1 (y : FreshT × List UInt8) : List (Nat × List UInt8) := layB (spanFr y.1) y.2
def allW (G : List (FreshT × List UInt8)) : List (Nat × List UInt8) := G.flatMap lay1
theorem allW_succ (G : List (FreshT × List UInt8)) (k : Nat) (h : k < G.length) : allW (G.take (k + 1)) = allW (G.take k) ++ lay1 G[k] := by
  unfold allW
  rw [List.take_succ_eq_append_getElem h, List.flatMap_append, List.flatMap_cons, List.flatMap_nil, List.append_nil]
theorem allW_pre (G : List (FreshT × List UInt8)) (k : Nat) : allW (G.take k) <+: allW G := by
  refine ⟨allW (G.drop k), ?_⟩
  unfold allW
  rw [← List.flatMap_append, List.take_append_drop]
/-- All writes of a lay. -/
def allL (G : List (FreshT × List UInt8)) (text : List UInt8) (ls : List Nat) : List (Nat × List UInt8) := allW G ++ layB ls text

theorem ap_dev {w : World} {B d g n k : Nat} {S : Nat → Sec} {L : Life} {cs : Array Value} {t : TypeId} {fr : Nat × Nat} (hd : DV w B d g n S L) (h : w.heap[k]? = some (.cells cs t fr)) (h1 : t ≠ 64) (h2 : t ≠ 88) : k ≠ d ∧ k ≠ g := by
  obtain ⟨cur, hr, -⟩ := hd.row.row
  constructor
  · rintro rfl
    rw [hd.blk] at h
    simp only [Option.some.injEq, Obj.cells.injEq] at h
    exact h1 h.2.1.symm
  · rintro rfl
    rw [hr] at h
    simp only [Option.some.injEq, Obj.cells.injEq] at h
    exact h2 h.2.1.symm
theorem cells_two {w w' : World} {B d g n k : Nat} {S : Nat → Sec} {L : Life} {cs : Array Value} {t : TypeId} {fr : Nat × Nat} (hd : DV w B d g n S L) (hk : Two d (some g) w w') (h : w.heap[k]? = some (.cells cs t fr)) (h1 : t ≠ 64) (h2 : t ≠ 88) : w'.heap[k]? = some (.cells cs t fr) := by
  obtain ⟨a, b⟩ := ap_dev hd h h1 h2
  exact (hk.block k (Array.getElem?_eq_some_iff.1 h).1 a (by simp; exact b)).trans h
theorem row_two {e : TypeId} {w w' : World} {B Bd s m d g n : Nat} {S : Nat → Sec} {L : Life} {v : Value} {xs : List Value} (h : w.ownsRow B e s v m xs) (hd : DV w Bd d g n S L) (hk : Two d (some g) w w') (h1 : e ≠ 64) (h2 : e ≠ 88) : w'.ownsRow B e s v m xs :=
  row_keep h fun _ _ _ _ hc => (cells_two hd hk hc h1 h2).trans hc.symm
theorem Own.twoD {e : TypeId} {w w' : World} {B Bd d g n : Nat} {S : Nat → Sec} {L : Life} {v : Value} {l : List UInt8} (h : Own e w B v l) (hd : DV w Bd d g n S L) (hk : Two d (some g) w w') (h1 : e ≠ 64) (h2 : e ≠ 88) : Own e w' B v l := row_two (xs := cells l) h hd hk h1 h2
theorem Offs.two {d g : Nat} {w w' : World} (h : Two d (some g) w w') : Offs [d, g] w w' := Offs.of_two h (by simp) (by simp)
theorem Two.ofO {d g : Nat} {w w' : World} (h : Offs [d, g] w w') : Two d (some g) w w' := ⟨h.os, h.tape, h.output, h.size, fun k hk h1 h2 => h.block k hk (by simp only [List.mem_cons, List.not_mem_nil, or_false, not_or]; exact ⟨h1, fun e => h2 (by rw [e])⟩)⟩
theorem cells_offs {l : List Nat} {w w' : World} {k : Nat} {o : Obj} (hk : Offs l w w') (h : w.heap[k]? = some o) (hn : k ∉ l) : w'.heap[k]? = some o := (hk.block k (Array.getElem?_eq_some_iff.1 h).1 hn).trans h
theorem ap_su {w : World} {B p d at_ k : Nat} {f : Found} {cs : Array Value} {t : TypeId} {fr : Nat × Nat} (hs : SU w B p d at_ f) (h : w.heap[k]? = some (.cells cs t fr)) (h1 : t ≠ 125) : k ≠ p := by
  obtain ⟨v, hv, -⟩ := hs.blk
  rintro rfl
  rw [hv] at h
  simp only [Option.some.injEq, Obj.cells.injEq] at h
  exact h1 h.2.1.symm

theorem tab_two {w w' : World} {B d g n : Nat} {S : Nat → Sec} {L : Life} (hT : Tab w) (hd : DV w B d g n S L) (hk : Two d (some g) w w') (hB : 0 < B) : Tab w' := fun i hi =>
  hk.cell (hT i hi) (by have := hd.lowd; show 0 ≠ d; omega) (by have := hd.lowg; show 0 ≠ g; omega)

/-- What stands while a file is written. -/
structure LB (w0 : World) (s d p g b8 : Nat) (vf vl : Value) (dn : Bool) (v0 v1 v2 : Value) (y : FreshT) (W : World) : Prop where
  st : W.heap[s]? = some (.cells #[.pointer (some ⟨d, 0, none⟩), .pointer (some ⟨p, 0, none⟩), vf, vl, .bool dn] 73)
  fr : W.heap[b8]? = some (.cells (efr y).toArray 111)
  pl : W.heap[w0.heap.size]? = some (.cells #[v0, v1, v2] 80)
  two : Two d (some g) w0 W
section
variable {w0 W W' : World} {B s d p g n b8 : Nat} {vf vl v0 v1 v2 : Value} {dn : Bool} {y : FreshT} {S : Nat → Sec} {L : Life}
theorem LB.go (h : LB w0 s d p g b8 vf vl dn v0 v1 v2 y W) (hd : DV W B d g n S L) (hk : Two d (some g) W W') : LB w0 s d p g b8 vf vl dn v0 v1 v2 y W' := ⟨cells_two hd hk h.st (by decide) (by decide), cells_two hd hk h.fr (by decide) (by decide), cells_two hd hk h.pl (by decide) (by decide), h.two.trans hk⟩
end
def CL1 (B n d g : Nat) (P : World → Prop) (S0 : Nat → Sec) (L0 : Life) (S1 : Nat → Nat → Sec) (L1 : Nat → Life) (m : Nat) (at_ : List Nat) : List Value → World → Prop
  | [], W => P W ∧ DV W B d g n S0 L0
  | [v], W => P W ∧ DV W B d g n S0 L0 ∧ ∀ W', Two d (some g) W W' → RV W' v (zi .i64 at_)
  | [_, u], W => P W ∧ ∃ k, k ≤ m ∧ DV W B d g n (S1 k) (L1 k) ∧ ((u = .int .i64 0 ∧ k = m) ∨ (u = .int .i64 7 ∧ k < m ∧ (L1 k).dead = true))
  | [_, u, q], W => P W ∧ q = u ∧ ∃ k, k ≤ m ∧ DV W B d g n (S1 k) (L1 k) ∧ ((u = .int .i64 0 ∧ k = m) ∨ (u = .int .i64 7 ∧ k < m ∧ (L1 k).dead = true))
  | _, W => P W
theorem CL1.base {B n d g : Nat} {P : World → Prop} {S0 : Nat → Sec} {L0 : Life} {S1 : Nat → Nat → Sec} {L1 : Nat → Life} {m : Nat} {at_ : List Nat} : ∀ {vs : List Value} {W : World}, CL1 B n d g P S0 L0 S1 L1 m at_ vs W → P W
  | [], _, h => h.1
  | [_], _, h => h.1
  | [_, _], _, h => h.1
  | [_, _, _], _, h => h.1
  | _ :: _ :: _ :: _ :: _, _, h => h
def VL4 (s b8 a0 m0 : Nat) (sl : Option Addr × Nat × Nat) : Nat → Value → Prop
  | 18, v => v = .pointer (some ⟨s, 0, none⟩)
  | 19, v => v = .pointer (some ⟨b8, 0, none⟩)
  | 20, v => v = .pointer (some ⟨b8, 2, none⟩)
  | 21, v => v = .agg #[.int .i64 (a0 : Int), .int .i64 (m0 : Int)]
  | 23, v => v = .pointer (some ⟨b8, 4, none⟩)
  | 24, v => v = slV sl
  | _, _ => True


/-- What stands while the text is saved. -/
structure LC (s d p b4 : Nat) (vf vl : Value) (dn : Bool) (v0 v1 v2 : Value) (W : World) : Prop where
  st : W.heap[s]? = some (.cells #[.pointer (some ⟨d, 0, none⟩), .pointer (some ⟨p, 0, none⟩), vf, vl, .bool dn] 73)
  pl : W.heap[b4]? = some (.cells #[v0, v1, v2] 80)
def CS (ws : World) (P : World → Prop) (hv : Value) (hb : List UInt8) (E : World → Value → Prop) : List Value → World → Prop
  | [], W => P W ∧ Below ws.heap.size ws W
  | [a], W => P W ∧ Below ws.heap.size ws W ∧ a = hv
  | [_, b], W => P W ∧ Below ws.heap.size ws W ∧ Own 5 W ws.heap.size b hb
  | [_, _, r], W => P W ∧ E W r
  | [_, _, r, q], W => P W ∧ q = r ∧ E W r
  | _, W => P W
theorem CS.base {ws : World} {P : World → Prop} {hv : Value} {hb : List UInt8} {E : World → Value → Prop} : ∀ {vs : List Value} {W : World}, CS ws P hv hb E vs W → P W
  | [], _, h => h.1
  | [_], _, h => h.1
  | [_, _], _, h => h.1
  | [_, _, _], _, h => h.1
  | [_, _, _, _], _, h => h.1
  | _ :: _ :: _ :: _ :: _ :: _, _, h => h
theorem LC.below {s d p b4 : Nat} {vf vl : Value} {dn : Bool} {v0 v1 v2 : Value} {W W' : World} (h : LC s d p b4 vf vl dn v0 v1 v2 W) (hb : Below W.heap.size W W') : LC s d p b4 vf vl dn v0 v1 v2 W' := ⟨keptR h.st hb, keptR h.pl hb⟩
theorem LC.offs {s d p g b4 B B' n at_ : Nat} {f : Found} {S : Nat → Sec} {L : Life} {vf vl : Value} {dn : Bool} {v0 v1 v2 : Value} {W W' : World} (h : LC s d p b4 vf vl dn v0 v1 v2 W) (hd : DV W B d g n S L) (hs : SU W B' p d at_ f) (hk : Offs [d, g, p] W W') : LC s d p b4 vf vl dn v0 v1 v2 W' := by
  have a1 := ap_dev hd h.st (by decide) (by decide)
  have a2 := ap_dev hd h.pl (by decide) (by decide)
  have a3 := ap_su hs h.st (by decide)
  have a4 := ap_su hs h.pl (by decide)
  exact ⟨cells_offs hk h.st (by simp [a1.1, a1.2, a3]), cells_offs hk h.pl (by simp [a2.1, a2.2, a4])⟩
def VL14 (s p b4 : Nat) (v1 v2 : Value) : Nat → Value → Prop
  | 47, v => v = .pointer (some ⟨s, 0, none⟩)
  | 48, v => v = .pointer (some ⟨s, 0, none⟩)
  | 49, v => v = .pointer (some ⟨s, 1, none⟩)
  | 50, v => v = .pointer (some ⟨p, 0, none⟩)
  | 51, v => v = .pointer (some ⟨b4, 1, none⟩)
  | 52, v => v = v1
  | 53, v => v = .pointer (some ⟨b4, 2, none⟩)
  | 54, v => v = v2
  | _, _ => True


/-- What a lay that fails leaves. -/
def LayCut (F : Nat → List UInt8) (W : List (Nat × List UInt8)) (slot : Nat) (enc : List UInt8) (S' : Nat → Sec) : Prop :=
  (∃ Wp, Wp <+: W ∧ S' = wrW (calmS F) Wp) ∨ S' = calmS (nowF (wrW (calmS F) W)) ∨ S' = wrS (calmS (nowF (wrW (calmS F) W))) slot enc
/-- The head that a lay saves. -/
def headT (text : List UInt8) (ls : List Nat) : List UInt8 := headB text.length ((crcSum text).toNat : Int) ls
theorem headT_len {text : List UInt8} {ls : List Nat} {n : Nat} (h1 : text.length ≤ 896) (h2 : ∀ i ∈ ls, i < n) (h3 : n ≤ 2048) (h4 : ls.length ≤ 14) : (headT text ls).length ≤ 35 := headB_len (by omega) (crcSum text).isLt (fun i hi => by have := h2 i hi; omega) h4
/-- How a lay ends. -/
def LayEnd (w' : World) (B B' d g n p : Nat) (F : Nat → List UInt8) (L : Life) (f : Found) (W : List (Nat × List UInt8)) (hb : List UInt8) (e : Int) : Prop :=
  (e = 0 ∧ DV w' B d g n (calmS (upF (nowF (wrW (calmS F) W)) (0 + (1 - f.slot)) (encS hb (f.turn + 1)))) (tickN L (W.length + 3)) ∧ SU w' B' p d 0 ⟨1 - f.slot, hb, f.turn + 1⟩) ∨
  (e = 7 ∧ SU w' B' p d 0 f ∧ ∃ S' j, j ≤ W.length + 3 ∧ (tickN L j).dead = true ∧ DV w' B d g n S' (tickN L j) ∧ LayCut F W (0 + (1 - f.slot)) (encS hb (f.turn + 1)) S')
section
variable {w : World} {B B' Bf Bp s d p g n : Nat} {L : Life} {f : Found} {F : Nat → List UInt8} {vf vl v0 v1 v2 vw : Value} {dn : Bool}
/-- Save, whatever its device's life. -/
theorem osave_c {hb : List UInt8} {F1 : Nat → List UInt8} {L1 : Life} {v : Value} (hd : DV w B d g n (calmS F1) L1) (hs : SU w B' p d 0 f) (hT : Tab w) (hn : 2 ≤ n) (hB : 0 < B) (hv : Own 5 w Bp v hb) (hl : hb.length ≤ 40) (hc : L1.calls < 999999) (ht : f.turn + 1 ≤ 1099511627776) :
    Calls Tryz.prog 63 #[.pointer (some ⟨p, 0, none⟩), v] w fun e w' => Offs [d, g, p] w w' ∧ Tab w' ∧ ∃ r, e = .returned (.int .i64 r) ∧
      ((r = 0 ∧ DV w' B d g n (calmS (upF F1 (0 + (1 - f.slot)) (encS hb (f.turn + 1)))) L1.tick.tick ∧ SU w' B' p d 0 ⟨1 - f.slot, hb, f.turn + 1⟩) ∨
       (r = 7 ∧ SU w' B' p d 0 f ∧ ((L1.dead = true ∧ DV w' B d g n (calmS F1) L1) ∨ (L1.tick.dead = true ∧ DV w' B d g n (wrS (calmS F1) (0 + (1 - f.slot)) (encS hb (f.turn + 1))) L1.tick)))) := by
  cases hdead : L1.dead with
  | true =>
    refine (ssave_dead hd hdead hs hT (by omega) hv.rb hl ht).mono ?_
    rintro e w' ⟨rfl, hb'⟩
    exact ⟨Offs.of_below hb', hT.below hb', 7, rfl, .inr ⟨rfl, hs.below hb', .inl ⟨rfl, hd.below hb'⟩⟩⟩
  | false =>
    refine (ssave_wr hd hdead hc hs hT (by omega) (fun w' hk => (hv.twoD hd (Two.ofO hk) (by decide) (by decide)).rb) hl ht hB).mono ?_
    rintro e w' ⟨h1, h2, ⟨h3, rfl, h4, h5⟩ | ⟨h3, rfl, h4, h5⟩⟩
    · exact ⟨h1, h2, 7, rfl, .inr ⟨rfl, h5, .inr ⟨h3, h4⟩⟩⟩
    · exact ⟨h1, h2, 0, rfl, .inl ⟨rfl, h4, h5⟩⟩

set_option maxHeartbeats 8000000 in
set_option maxRecDepth 100000 in
theorem lay_c (hd : DV w B d g n (calmS F) L) (hs : w.heap[s]? = some (.cells #[.pointer (some ⟨d, 0, none⟩), .pointer (some ⟨p, 0, none⟩), vf, vl, .bool dn] 73)) (hsu : SU w B' p d 0 f) (hT : Tab w) (hB : 0 < B)
    (G : List (FreshT × List UInt8)) (hGl : G.length ≤ 1000) (hown : OwnFr w Bf vw (G.map (·.1))) (hG : ∀ y ∈ G, TX w (slV y.1.2) y.2 ∧ ∃ a m : Nat, y.1.1.2.2 = ((a : Int), (m : Int)) ∧ a + m ≤ n)
    (text : List UInt8) (ls : List Nat) (h1 : Own 5 w Bp v1 text) (h2 : OwnV 3 w Bp v2 (zi .i64 ls)) (hls : ∀ i ∈ ls, i < n) (hll : ls.length ≤ 14) (htl : text.length ≤ 896) (hn : 2 ≤ n)
    (hc : L.calls + (allL G text ls).length < 999990) (hf : f.turn + 1 ≤ 1099511627776) :
    Calls Tryz.prog 39 #[.pointer (some ⟨s, 0, none⟩), .agg #[v0, v1, v2], vw] w fun e w' => Offs [d, g, p] w w' ∧ Tab w' ∧ ∃ r, e = .returned (.int .i64 r) ∧ LayEnd w' B B' d g n p F L f (allL G text ls) (headT text ls) r := by
  have HD := Go.Lib.hid hd
  have HS := Go.Lib.hid hs
  have HSU := Go.Lib.hid hsu
  have HT := Go.Lib.hid hT
  have HB := Go.Lib.hid hB
  have HO := Go.Lib.hid hown
  have HG := Go.Lib.hid hG
  have H1 := Go.Lib.hid h1
  have H2 := Go.Lib.hid h2
  have HLS := Go.Lib.hid hls
  have HLL := Go.Lib.hid hll
  have HTL := Go.Lib.hid htl
  have HN := Go.Lib.hid hn
  have HC := Go.Lib.hid hc
  have HF := Go.Lib.hid hf
  have HN1 := Go.Lib.hid hd.n1
  have HNB := Go.Lib.hid hd.noBytes
  have HPL := Go.Lib.hid (heap_alloc_new w (.cells #[v0, v1, v2] 80))
  have HBX := Go.Lib.hid (newB w (.cells #[v0, v1, v2] 80))
  obtain ⟨pf, cf, nf, rfl, hnf⟩ : ∃ q c nf, vw = .slice q nf c ∧ nf = G.length := by
    rcases fresh_form hown with ⟨h0, q, c, hv⟩ | ⟨q, c, hv, -⟩
    · exact ⟨q, c, _, hv, by have := congrArg List.length h0; rw [List.length_map] at this; exact this.symm⟩
    · exact ⟨_, c, _, hv, by rw [List.length_map]⟩
  have HNF := Go.Lib.hid hnf
  clear hd hs hsu hT hB hown hG h1 h2 hls hll htl hn hc hf hnf
  go_enter Tryz.func39, Tryz.ntmps39
  go_wp2_with fail
  go_loopw [14] (fun i wr => ∃ k : Nat, k ≤ nf ∧ i = .int .i64 (k : Int) ∧ DV wr B d g n (wrW (calmS F) (allW (G.take k))) (tickN L (allW (G.take k)).length) ∧ Two d (some g) w wr ∧ wr.heap[w.heap.size]? = some (.cells #[v0, v1, v2] 80)) (fun i _ => nf - (intOf i).toNat)
  case atStart => exact ⟨0, by omega, rfl, HD.out.below HBX.out, Two.of_below HBX.out, HPL.out⟩
  case round =>
    obtain ⟨k, hk, rfl, hdv, htw, hpl⟩ := hrel
    by_cases hlt : k < nf
    · have hkG : k < G.length := by have := HNF.out; omega
      have hof : OwnFr wr Bf (.slice pf nf cf) (G.map (·.1)) := row_two HO.out HD.out htw (by decide) (by decide)
      have hkF : k < (G.map (·.1)).length := by rw [List.length_map]; exact hkG
      have hlen : (G.map (·.1)).length = nf := by rw [List.length_map]; exact HNF.out.symm
      obtain ⟨gw, rfl⟩ : ∃ gw, pf = some ⟨gw, 0, none⟩ := by
        rcases fresh_form hof with ⟨h0, -⟩ | ⟨gl, c', hv, -⟩
        · rw [h0] at hkF; simp at hkF
        · simp only [Value.slice.injEq] at hv
          exact ⟨gl, hv.1⟩
      have hrow := hof
      rw [← hlen] at hrow
      have x0 := (fresh_at hrow hkF 0 (by omega)).1
      have x1 := (fresh_at hrow hkF 1 (by omega)).1
      have x2 := (fresh_at hrow hkF 2 (by omega)).1
      have x3 := (fresh_at hrow hkF 3 (by omega)).1
      have x4 := (fresh_at hrow hkF 4 (by omega)).1
      rw [Nat.add_zero] at x0
      rw [List.getElem_map] at x0 x1 x2 x3 x4
      have hy := HG.out G[k] (List.getElem_mem hkG)
      have hws := allW_succ G k hkG
      have hpre := allW_pre G (k + 1)
      generalize G[k] = y at *
      obtain ⟨⟨⟨nm, en, ea, ess⟩, sl⟩, bs⟩ := y
      obtain ⟨htx, a0, m0, he, ham⟩ := hy
      simp only at htx he
      obtain ⟨rfl, rfl⟩ := Prod.mk.inj he
      simp only [efr, List.getElem?_cons_succ, List.getElem?_cons_zero] at x0 x1 x2 x3 x4
      have hkI : (k : Int) < (nf : Int) := by omega
      have hkM : (k : Int) ≤ 1000 := by omega
      obtain ⟨y, hy⟩ : ∃ y : FreshT × List UInt8, y = (((nm, en, (a0 : Int), (m0 : Int)), sl), bs) := ⟨_, rfl⟩
      rw [← hy] at hws
      have hal := newB wr (.cells #[.string nm, .int .i64 en, .int .i64 (a0 : Int), .int .i64 (m0 : Int), .slice sl.1 sl.2.1 sl.2.2] 111)
      obtain ⟨wq, hwq⟩ : ∃ wq, wq = wr.alloc (.cells #[.string nm, .int .i64 en, .int .i64 (a0 : Int), .int .i64 (m0 : Int), .slice sl.1 sl.2.1 sl.2.2] 111) := ⟨_, rfl⟩
      have hfr := heap_alloc_new wr (.cells #[.string nm, .int .i64 en, .int .i64 (a0 : Int), .int .i64 (m0 : Int), .slice sl.1 sl.2.1 sl.2.2] 111)
      rw [← hwq] at hal hfr
      obtain ⟨b8, hb8⟩ : ∃ b8, b8 = wr.heap.size := ⟨_, rfl⟩
      rw [← hb8] at hfr
      have htq : Two d (some g) w wq := htw.trans (Two.of_below hal)
      have hdq := hdv.below hal
      have hlb : LB w s d p g b8 vf vl dn v0 v1 v2 y.1 wq := ⟨cells_two HD.out htq HS.out (by decide) (by decide), by rw [hy]; exact hfr, keptR hpl hal, htq⟩
      have HPQ := Go.Lib.hid (keptR hpl hal)
      have hsp : spanFr y.1 = rowL a0 m0 := by rw [hy]; rfl
      have hl1 : lay1 y = layB (rowL a0 m0) bs := by unfold lay1; rw [hsp, hy]
      have HWS := Go.Lib.hid hws
      have HPRE := Go.Lib.hid hpre
      have HLT := Go.Lib.hid hlt
      have HL1 := Go.Lib.hid hl1
      have HAM := Go.Lib.hid ham
      have HTXK := Go.Lib.hid (show ∀ W, Two d (some g) w W → RB W (slV sl) bs from fun W hW => (htx.offs (Offs.two hW) HNB.out).1)
      have HWQ := Go.Lib.hid (And.intro hwq hb8)
      have HY := Go.Lib.hid hy
      obtain ⟨P, hP⟩ : ∃ P, P = allW (G.take k) := ⟨_, rfl⟩
      rw [← hP] at hdq HWS
      have HP := Go.Lib.hid hP
      have H0 := Go.Lib.hid (show CL1 B n d g (LB w s d p g b8 vf vl dn v0 v1 v2 y.1) (wrW (calmS F) P) (tickN L P.length) (fun k => wrW (calmS F) (P ++ (lay1 y).take k)) (fun k => tickN L (P.length + k)) m0 (rowL a0 m0) [] wq.drew from ⟨⟨hlb.st, hlb.fr, hlb.pl, hlb.two.drew⟩, hdq.drew⟩)
      have CW := Go.Lib.hid (show ∀ (W : World) (x : Value), LB w s d p g b8 vf vl dn v0 v1 v2 y.1 W → DV W B d g n (wrW (calmS F) P) (tickN L P.length) → (∀ W', Two d (some g) W W' → RV W' x (zi .i64 (rowL a0 m0))) → Calls Tryz.prog 61 #[.pointer (some ⟨s, 0, none⟩), x, slV sl] W fun e W' => ∃ u, e = .returned u ∧ CL1 B n d g (LB w s d p g b8 vf vl dn v0 v1 v2 y.1) (wrW (calmS F) P) (tickN L P.length) (fun k => wrW (calmS F) (P ++ (lay1 y).take k)) (fun k => tickN L (P.length + k)) m0 (rowL a0 m0) [x, u] W' from by
        intro W x hLB hW hx
        have hlen1 : (lay1 y).length = m0 := by rw [HL1.out, layB_len, rowL_length]
        refine (owrite_c hW hLB.st x (slV sl) (rowL a0 m0) bs hx (fun W' hW' => HTXK.out W' (hLB.two.trans hW')) (fun i hi => by have := mem_rowL.1 hi; have := HAM.out; omega) ?_).mono ?_
        · rw [tickN_calls, rowL_length]
          have := HC.out
          have h5 := HPRE.out.length_le
          rw [HWS.out, List.length_append, hlen1] at h5
          unfold allL at this
          rw [List.length_append] at this
          push_cast at this ⊢
          omega
        · rintro e W' ⟨ht, k2, hk2, hdv2, hcase⟩
          rw [rowL_length] at hk2 hcase
          rw [← HL1.out, ← wrW_append, ← tickN_add] at hdv2
          rw [← tickN_add] at hcase
          rcases hcase with ⟨rfl, rfl⟩ | ⟨rfl, hk3, hdd⟩
          · exact ⟨_, rfl, hLB.go hW ht, k2, Nat.le_refl _, hdv2, .inl ⟨rfl, rfl⟩⟩
          · exact ⟨_, rfl, hLB.go hW ht, k2, hk2, hdv2, .inr ⟨rfl, hk3, hdd⟩⟩)
      have CR := Go.Lib.hid fun (W : World) => orow_c a0 m0 (a0 : Int) (m0 : Int) W rfl rfl (by have := HAM.out; have := HN1.out; omega)
      clear hkF hlen hrow hws hpre hy hP hal hfr htq hdq hlb hsp hl1 htx ham hk hdv htw hpl hof hlt
      go_upto_region 4 with (fail)
      rw [← HWQ.out.1, ← HWQ.out.2]
      clear x0 x1 x2 x3 x4 hwq hb8
      refine wp_region_chain (by kernel_rfl) (VL4 s b8 a0 m0 sl) [4, 7, 8] (CL1 B n d g (LB w s d p g b8 vf vl dn v0 v1 v2 y.1) (wrW (calmS F) P) (tickN L P.length) (fun k => wrW (calmS F) (P ++ (lay1 y).take k)) (fun k => tickN L (P.length + k)) m0 (rowL a0 m0)) (by decide +kernel) (by decide +kernel) (by rfl) (by decide +kernel) [18, 19, 20, 21, 22, 23, 24, 25, 9] (by rfl) (H0.out) ?_ ?_ ?_
      · intro i o ho hnc a w6 vs hC hlen hg
        have hfr6 := (CL1.base hC).fr
        rw [HY.out] at hfr6
        obtain ⟨-, -, c2, c3, c4⟩ := cell_of5 hfr6
        match i, ho with
        | 0, ho =>
          obtain rfl := Option.some.inj ho
          have h0 := given_old hg 0 (by decide +kernel)
          clear hg
          exact st_yield ho (wanted_none rfl) (.pointer (some ⟨s, 0, none⟩)) w6 (by simp [execOp, Act.eval, h0, go_sem]) ⟨_, rfl, hC, by rintro t' ⟨⟩; rfl⟩
        | 1, ho =>
          obtain rfl := Option.some.inj ho
          have h8 := given_old hg 8 (by decide +kernel)
          clear hg
          exact st_yield ho (wanted_none rfl) (.pointer (some ⟨b8, 0, none⟩)) w6 (by simp [execOp, Act.eval, h8, go_sem]) ⟨_, rfl, hC, by rintro t' ⟨⟩; rfl⟩
        | 2, ho =>
          obtain rfl := Option.some.inj ho
          obtain ⟨_, h19, rfl⟩ := given_fed hg 19 (by decide +kernel)
          clear hg
          exact st_yield ho (wanted_none rfl) (.pointer (some ⟨b8, 2, none⟩)) w6 (by simp [execOp, Act.eval, h19, go_sem]) ⟨_, rfl, hC, by rintro t' ⟨⟩; rfl⟩
        | 3, ho =>
          obtain rfl := Option.some.inj ho
          obtain ⟨_, h20, rfl⟩ := given_fed hg 20 (by decide +kernel)
          clear hg
          exact st_yield ho (wanted_none rfl) (.agg #[.int .i64 (a0 : Int), .int .i64 (m0 : Int)]) w6 (by simp [execOp, Act.eval, h20, go_sem, c2, c3]) ⟨_, rfl, hC, by rintro t' ⟨⟩; rfl⟩
        | 4, ho =>
          exact absurd hnc (by decide)
        | 5, ho =>
          obtain rfl := Option.some.inj ho
          have h8 := given_old hg 8 (by decide +kernel)
          clear hg
          exact st_yield ho (wanted_none rfl) (.pointer (some ⟨b8, 4, none⟩)) w6 (by simp [execOp, Act.eval, h8, go_sem]) ⟨_, rfl, hC, by rintro t' ⟨⟩; rfl⟩
        | 6, ho =>
          obtain rfl := Option.some.inj ho
          obtain ⟨_, h23, rfl⟩ := given_fed hg 23 (by decide +kernel)
          clear hg
          exact st_yield ho (wanted_none rfl) (slV sl) w6 (by simp [execOp, Act.eval, h23, go_sem, c4, slV]) ⟨_, rfl, hC, by rintro t' ⟨⟩; rfl⟩
        | 7, ho =>
          exact absurd hnc (by decide)
        | 8, ho =>
          exact absurd hnc (by decide)
        | n + 9, ho => simp at ho
      · intro j i o hj ho a w6 vs hvl hC hsl hlen hg
        match j, hj with
        | 0, hj =>
          obtain rfl : 4 = i := Option.some.inj hj
          obtain rfl := Option.some.inj ho
          obtain ⟨_, h21, rfl⟩ := given_fed hg 21 (by decide +kernel)
          clear hg
          obtain rfl := sl0 hvl
          exact st_enter (w1 := w6) ho (wanted_none rfl) 48 #[.agg #[.int .i64 (a0 : Int), .int .i64 (m0 : Int)]] (by simp [execOp, Act.eval, h21, resolve, go_sem]) ((CR.out w6).mono (by rintro e w7 ⟨v, rfl, ho7, hb7⟩; exact ⟨_, rfl, _, rfl, ⟨hC.1.go hC.2 (Two.of_below hb7), hC.2.below hb7, fun W hW => OwnV.rv (row_two ho7 (hC.2.below hb7) hW (by decide) (by decide))⟩, by rintro t' ⟨⟩; trivial⟩))
        | 1, hj =>
          obtain rfl : 7 = i := Option.some.inj hj
          obtain rfl := Option.some.inj ho
          obtain ⟨_, h18, rfl⟩ := given_fed hg 18 (by decide +kernel)
          obtain ⟨_, h24, rfl⟩ := given_fed hg 24 (by decide +kernel)
          clear hg
          obtain ⟨x0, rfl⟩ := sl1 hvl
          have h22 : a.tmps[22]? = some x0 := hsl 0 4 _ 22 (by simp) rfl rfl rfl
          exact st_enter (w1 := w6) ho (wanted_none rfl) 61 #[.pointer (some ⟨s, 0, none⟩), x0, slV sl] (by simp [execOp, Act.eval, h18, h22, h24, resolve, go_sem]) ((CW.out w6 x0 hC.1 hC.2.1 hC.2.2).mono (by rintro e w7 ⟨u, rfl, hC7⟩; exact ⟨_, rfl, _, rfl, hC7, by rintro t' ⟨⟩; trivial⟩))
        | 2, hj =>
          obtain rfl : 8 = i := Option.some.inj hj
          obtain rfl := Option.some.inj ho
          clear hg
          obtain ⟨x0, x1, rfl⟩ := sl2 hvl
          have h25 : a.tmps[25]? = some x1 := hsl 1 7 _ 25 (by simp) rfl rfl rfl
          exact st_yield ho (wanted_none rfl) x1 w6 (by simp [execOp, Act.eval, h25, go_sem]) ⟨_, rfl, ⟨hC.1, rfl, hC.2⟩, by rintro t' ⟨⟩; trivial⟩
        | n + 3, hj => simp at hj
      · intro f5 w6 vs hvl hC hsl hV
        obtain ⟨z0, z1, z2, rfl⟩ := sl3 hvl
        obtain ⟨hlb6, hq6, k2, hk2, hdv6, hcase⟩ := hC
        subst hq6
        have h9 := hsl 2 8 _ 9 (by simp) rfl rfl rfl
        have h9 := (Option.some.inj h9).symm
        have hlen1 : (lay1 y).length = m0 := by rw [HL1.out, layB_len, rowL_length]
        have HLEN1 := Go.Lib.hid hlen1
        have HDV6 := Go.Lib.hid hdv6
        have HTW6 := Go.Lib.hid hlb6.two
        have HPL6 := Go.Lib.hid (show w6.heap[w.heap.size]? = some (.cells #[v0, v1, v2] 80) from hlb6.pl)
        clear hsl hV hlen1 hdv6 hlb6 CW H0
        unfold putAll
        simp only [List.foldl]
        simp only [h9]
        go_simp
        clear h9
        rcases hcase with ⟨rfl, rfl⟩ | ⟨rfl, hk3, hdd⟩
        · have HDD := Go.Lib.hid (show wrW (calmS F) (P ++ (lay1 y).take k2) = wrW (calmS F) (allW (G.take (k + 1))) from by rw [HWS.out, List.take_of_length_le (by rw [HLEN1.out]; exact Nat.le_refl _)])
          have HLL2 := Go.Lib.hid (show P.length + k2 = (allW (G.take (k + 1))).length from by rw [HWS.out, List.length_append, HLEN1.out])
          clear hk2
          go_wp2_with fail
          go_roundw
          case rel => exact ⟨k + 1, by have := HLT.out; omega, by go_num, by rw [← HDD.out, ← HLL2.out]; exact HDV6.out, HTW6.out, HPL6.out⟩
          case measure => simp only [intOf]; have := HLT.out; omega
        · have HDD := Go.Lib.hid hdd
          have HK3 := Go.Lib.hid hk3
          clear hdd hk3 hk2
          go_wp2_with fail
          go_ret
          refine ⟨(Offs.two HTW6.out).more (by simp +contextual), tab_two HT.out HD.out HTW6.out HB.out, 7, rfl, .inr ⟨rfl, HSU.out.two HD.out HTW6.out, _, P.length + k2, ?_, HDD.out, HDV6.out, .inl ⟨P ++ (lay1 y).take k2, ?_, rfl⟩⟩⟩
          · have h5 := HPRE.out.length_le
            rw [HWS.out, List.length_append, HLEN1.out] at h5
            have := HK3.out
            unfold allL
            rw [List.length_append]
            omega
          · refine List.IsPrefix.trans ?_ (List.IsPrefix.trans HPRE.out (List.prefix_append _ _))
            rw [HWS.out]
            exact (List.prefix_append_right_inj _).2 (List.take_prefix _ _)
    · obtain rfl : k = nf := by omega
      rw [List.take_of_length_le (by have := HNF.out; omega)] at hdv
      obtain ⟨W1, hW1⟩ : ∃ W1, W1 = allW G := ⟨_, rfl⟩
      rw [← hW1] at hdv
      have HW1 := Go.Lib.hid hW1
      have hst := cells_two HD.out htw HS.out (by decide) (by decide)
      obtain ⟨z0, z1, z2⟩ := cell_of3 hpl
      have C1 := Go.Lib.hid (owrite_c (vf := vf) (vl := vl) (dn := dn) hdv hst v2 v1 ls text (fun W hW => OwnV.rv (row_two (row_two H2.out HD.out htw (by decide) (by decide)) hdv hW (by decide) (by decide))) (fun W hW => ((H1.out.twoD HD.out htw (by decide) (by decide)).twoD hdv hW (by decide) (by decide)).rb) HLS.out (by
        rw [tickN_calls]
        have := HC.out
        unfold allL at this
        rw [List.length_append, layB_len, ← HW1.out] at this
        push_cast at this ⊢
        omega))
      have HDV := Go.Lib.hid hdv
      have HTW := Go.Lib.hid htw
      have HPLR := Go.Lib.hid hpl
      clear hdv htw hst hpl hk hW1
      go_wp2_with fail
      refine C1.out.mono ?_
      rintro e w2 ⟨ht2, k2, hk2, hdv2, hcase⟩
      rw [← wrW_append, ← tickN_add] at hdv2
      rw [← tickN_add] at hcase
      have htw2 := HTW.out.trans ht2
      have HTW2 := Go.Lib.hid htw2
      have HPL2 := Go.Lib.hid (cells_two HDV.out ht2 HPLR.out (by decide) (by decide))
      have hst2 := cells_two HD.out htw2 HS.out (by decide) (by decide)
      have HST2 := Go.Lib.hid hst2
      have HLL2 := Go.Lib.hid (show (allL G text ls).length = W1.length + ls.length from by unfold allL; rw [List.length_append, layB_len, ← HW1.out])
      obtain ⟨y0, y1, -⟩ := cell_of5 hst2
      clear z0 z1 z2 htw2 ht2 C1 hst2
      rcases hcase with ⟨rfl, rfl⟩ | ⟨rfl, hk3, hdd⟩
      · rw [List.take_of_length_le (by rw [layB_len]; exact Nat.le_refl _), HW1.out] at hdv2
        obtain ⟨WL, hWL⟩ : ∃ WL, WL = allL G text ls := ⟨_, rfl⟩
        rw [show allW G ++ layB ls text = WL from hWL.symm, ← HW1.out, ← HLL2.out, ← hWL] at hdv2
        have HWL := Go.Lib.hid hWL
        clear hk2 hWL
        have hkn := hdv2
        cases hdead : (tickN L WL.length).dead with
        | true =>
          have C2 := Go.Lib.hid (dflush_dead hdv2 hdead)
          have HDV2 := Go.Lib.hid hdv2
          have HDD := Go.Lib.hid hdead
          clear hdv2 hdead hkn
          go_wp2_with fail
          refine C2.out.mono ?_
          rintro e w3 ⟨rfl, rfl⟩
          clear y0 y1
          go_wp2_with fail
          go_ret
          exact ⟨(Offs.two HTW2.out).more (by simp +contextual), tab_two HT.out HD.out HTW2.out HB.out, 7, rfl, .inr ⟨rfl, HSU.out.two HD.out HTW2.out, _, WL.length, by rw [HWL.out]; omega, HDD.out, HDV2.out, .inl ⟨WL, by rw [HWL.out]; exact List.prefix_refl _, rfl⟩⟩⟩
        | false =>
          have C2 := Go.Lib.hid (dflush_c hdv2 hdead (by rw [tickN_calls]; have := HC.out; rw [← HWL.out] at this; push_cast at this ⊢; omega))
          have HDV2 := Go.Lib.hid hdv2
          clear hdv2 hdead hkn
          go_wp2_with fail
          refine C2.out.mono ?_
          rintro e w3 ⟨rfl, hdv3, ht3⟩
          have hfl : flS (wrW (calmS F) WL) = calmS (nowF (wrW (calmS F) WL)) := flS_now ((Tidy.calm F).wrW WL)
          rw [hfl] at hdv3
          obtain ⟨F1, hF1⟩ : ∃ F1, F1 = nowF (wrW (calmS F) WL) := ⟨_, rfl⟩
          rw [← hF1] at hdv3
          have HF1 := Go.Lib.hid hF1
          have htw3 := HTW2.out.trans ht3
          have hst3 := cells_two HD.out htw3 HS.out (by decide) (by decide)
          have hpl3 := cells_two HDV2.out ht3 HPL2.out (by decide) (by decide)
          have HTW3 := Go.Lib.hid htw3
          have HDV3 := Go.Lib.hid hdv3
          have HLC := Go.Lib.hid (show LC s d p w.heap.size vf vl dn v0 v1 v2 w3 from ⟨hst3, hpl3⟩)
          have HT3 := Go.Lib.hid (show Tab w3 from tab_two HT.out HD.out htw3 HB.out)
          have HSU3 := Go.Lib.hid (HSU.out.two HD.out htw3)
          have HV1 := Go.Lib.hid (H1.out.twoD HD.out htw3 (by decide) (by decide))
          have HV2 := Go.Lib.hid (show OwnV 3 w3 Bp v2 (zi .i64 ls) from row_two H2.out HD.out htw3 (by decide) (by decide))
          obtain ⟨hb, hhb⟩ : ∃ hb, hb = headT text ls := ⟨_, rfl⟩
          have HHB := Go.Lib.hid hhb
          obtain ⟨L1, hL1⟩ : ∃ L1, L1 = (tickN L WL.length).tick := ⟨_, rfl⟩
          rw [← hL1] at HDV3
          have HL1 := Go.Lib.hid hL1
          obtain ⟨sz, hsz⟩ : ∃ sz : Nat, sz = text.length := ⟨_, rfl⟩
          obtain ⟨sm, hsm⟩ : ∃ sm : Nat, sm = (crcSum text).toNat := ⟨_, rfl⟩
          have HSZ := Go.Lib.hid (And.intro hsz hsm)
          have CHD := Go.Lib.hid (show ∀ W, Below w3.heap.size w3 W → Calls Tryz.prog 64 #[v1, v2] W fun e w' => e = .returned (.agg #[.int .i64 (sz : Int), .int .i64 (sm : Int), v2]) ∧ Below W.heap.size W w' from fun W hW => by
            rw [HSZ.out.1, HSZ.out.2]
            exact oheadof_c (HT3.out.below hW) (HV1.out.below hW).rb (HV2.out.below hW).rv)
          have CEN := Go.Lib.hid (show ∀ W, Below w3.heap.size w3 W → Calls Tryz.prog 32 #[.agg #[.int .i64 (sz : Int), .int .i64 (sm : Int), v2]] W fun e w' => ∃ v, e = .returned v ∧ Own 5 w' W.heap.size v hb ∧ Below W.heap.size W w' from fun W hW => by
            rw [HHB.out, HSZ.out.1, HSZ.out.2]
            exact oencode_c text.length _ v2 ls W (HV2.out.below hW).rv (by have := HTL.out; omega) ⟨by omega, by have := (crcSum text).isLt; omega⟩ (by have := HLL.out; omega) (fun i hi => by have := HLS.out i hi; have := HN1.out; omega))
          have HE := Go.Lib.hid (show ∀ W x, LC s d p w.heap.size vf vl dn v0 v1 v2 W → Below w3.heap.size w3 W → Own 5 W w3.heap.size x hb → Calls Tryz.prog 63 #[.pointer (some ⟨p, 0, none⟩), x] W fun e w' => ∃ u, e = .returned u ∧ LC s d p w.heap.size vf vl dn v0 v1 v2 w' ∧ (fun (W2 : World) (u : Value) => Offs [d, g, p] w3 W2 ∧ Tab W2 ∧ ∃ r, u = .int .i64 r ∧ LayEnd W2 B B' d g n p F L f WL hb r) w' u from fun W x hlc hW hx => by
            refine (osave_c (HDV3.out.below hW) (HSU3.out.below hW) (HT3.out.below hW) HN.out HB.out hx (by rw [HHB.out]; have := headT_len (text := text) (ls := ls) HTL.out HLS.out HN1.out HLL.out; omega) (by
              rw [HL1.out]
              show (tickN L WL.length).calls + 1 < _
              rw [tickN_calls]
              have := HC.out
              rw [← HWL.out] at this
              omega) HF.out).mono ?_
            rintro e w' ⟨ho, ht', r, rfl, hcase⟩
            refine ⟨_, rfl, hlc.offs (HDV3.out.below hW) (HSU3.out.below hW) ho, (Offs.of_below hW).trans ho, ht', r, rfl, ?_⟩
            have e1 : L1.tick = tickN L (WL.length + 2) := by rw [HL1.out]; rfl
            have e2 : L1.tick.tick = tickN L (WL.length + 3) := by rw [HL1.out]; rfl
            have e0 : L1 = tickN L (WL.length + 1) := by rw [HL1.out]; rfl
            rcases hcase with ⟨rfl, h1, h2⟩ | ⟨rfl, h2, ⟨h3, h4⟩ | ⟨h3, h4⟩⟩
            · rw [e2, HF1.out] at h1
              exact .inl ⟨rfl, h1, h2⟩
            · rw [e0] at h3 h4
              rw [HF1.out] at h4
              exact .inr ⟨rfl, h2, _, WL.length + 1, by omega, h3, h4, .inr (.inl rfl)⟩
            · rw [e1] at h3 h4
              rw [HF1.out] at h4
              exact .inr ⟨rfl, h2, _, WL.length + 2, by omega, h3, h4, .inr (.inr rfl)⟩)
          have H0 := Go.Lib.hid (show CS w3 (LC s d p w.heap.size vf vl dn v0 v1 v2) (.agg #[.int .i64 (sz : Int), .int .i64 (sm : Int), v2]) hb (fun (W2 : World) (u : Value) => Offs [d, g, p] w3 W2 ∧ Tab W2 ∧ ∃ r, u = .int .i64 r ∧ LayEnd W2 B B' d g n p F L f WL hb r) [] w3.drew from ⟨⟨hst3, hpl3⟩, rfl, rfl, rfl, Nat.le_refl _, fun _ _ => rfl⟩)
          clear hdv3 ht3 hF1 htw3 hst3 hpl3 hhb hL1 hsz hsm hfl y0 y1 C2
          go_upto_region 14 with (fail)
          refine wp_region_chain (by kernel_rfl) (VL14 s p w.heap.size v1 v2) [8, 9, 10, 11] (CS w3 (LC s d p w.heap.size vf vl dn v0 v1 v2) (.agg #[.int .i64 (sz : Int), .int .i64 (sm : Int), v2]) hb (fun (W2 : World) (u : Value) => Offs [d, g, p] w3 W2 ∧ Tab W2 ∧ ∃ r, u = .int .i64 r ∧ LayEnd W2 B B' d g n p F L f WL hb r)) (by decide +kernel) (by decide +kernel) (by rfl) (by decide +kernel) [47, 48, 49, 50, 51, 52, 53, 54, 55, 56, 57, 6] (by rfl) (H0.out) ?_ ?_ ?_
          · intro i o ho hnc a w6 vs hC hlen hg
            have hlcb := CS.base hC
            obtain ⟨j0, j1, j2⟩ := cell_of3 hlcb.pl
            obtain ⟨k0, k1, -⟩ := cell_of5 hlcb.st
            match i, ho with
            | 0, ho =>
              obtain rfl := Option.some.inj ho
              have h0 := given_old hg 0 (by decide +kernel)
              clear hg
              exact st_yield ho (wanted_none rfl) (.pointer (some ⟨s, 0, none⟩)) w6 (by simp [execOp, Act.eval, h0, go_sem]) ⟨_, rfl, hC, by rintro t' ⟨⟩; rfl⟩
            | 1, ho =>
              obtain rfl := Option.some.inj ho
              obtain ⟨_, h47, rfl⟩ := given_fed hg 47 (by decide +kernel)
              clear hg
              exact st_yield ho (wanted_none rfl) (.pointer (some ⟨s, 0, none⟩)) w6 (by simp [execOp, Act.eval, h47, go_sem]) ⟨_, rfl, hC, by rintro t' ⟨⟩; rfl⟩
            | 2, ho =>
              obtain rfl := Option.some.inj ho
              obtain ⟨_, h48, rfl⟩ := given_fed hg 48 (by decide +kernel)
              clear hg
              exact st_yield ho (wanted_none rfl) (.pointer (some ⟨s, 1, none⟩)) w6 (by simp [execOp, Act.eval, h48, go_sem]) ⟨_, rfl, hC, by rintro t' ⟨⟩; rfl⟩
            | 3, ho =>
              obtain rfl := Option.some.inj ho
              obtain ⟨_, h49, rfl⟩ := given_fed hg 49 (by decide +kernel)
              clear hg
              exact st_yield ho (wanted_none rfl) (.pointer (some ⟨p, 0, none⟩)) w6 (by simp [execOp, Act.eval, h49, go_sem, k1]) ⟨_, rfl, hC, by rintro t' ⟨⟩; rfl⟩
            | 4, ho =>
              obtain rfl := Option.some.inj ho
              have h4 := given_old hg 4 (by decide +kernel)
              clear hg
              exact st_yield ho (wanted_none rfl) (.pointer (some ⟨w.heap.size, 1, none⟩)) w6 (by simp [execOp, Act.eval, h4, go_sem]) ⟨_, rfl, hC, by rintro t' ⟨⟩; rfl⟩
            | 5, ho =>
              obtain rfl := Option.some.inj ho
              obtain ⟨_, h51, rfl⟩ := given_fed hg 51 (by decide +kernel)
              clear hg
              exact st_yield ho (wanted_none rfl) (v1) w6 (by simp [execOp, Act.eval, h51, go_sem, j1]) ⟨_, rfl, hC, by rintro t' ⟨⟩; rfl⟩
            | 6, ho =>
              obtain rfl := Option.some.inj ho
              have h4 := given_old hg 4 (by decide +kernel)
              clear hg
              exact st_yield ho (wanted_none rfl) (.pointer (some ⟨w.heap.size, 2, none⟩)) w6 (by simp [execOp, Act.eval, h4, go_sem]) ⟨_, rfl, hC, by rintro t' ⟨⟩; rfl⟩
            | 7, ho =>
              obtain rfl := Option.some.inj ho
              obtain ⟨_, h53, rfl⟩ := given_fed hg 53 (by decide +kernel)
              clear hg
              exact st_yield ho (wanted_none rfl) (v2) w6 (by simp [execOp, Act.eval, h53, go_sem, j2]) ⟨_, rfl, hC, by rintro t' ⟨⟩; rfl⟩
            | 8, ho =>
              exact absurd hnc (by decide)
            | 9, ho =>
              exact absurd hnc (by decide)
            | 10, ho =>
              exact absurd hnc (by decide)
            | 11, ho =>
              exact absurd hnc (by decide)
            | n + 12, ho => simp at ho
          · intro j i o hj ho a w6 vs hvl hC hsl hlen hg
            match j, hj with
            | 0, hj =>
              obtain rfl : 8 = i := Option.some.inj hj
              obtain rfl := Option.some.inj ho
              obtain ⟨v52', h52, p52⟩ := given_fed hg 52 (by decide +kernel)
              have p52 : v52' = v1 := p52
              rw [p52] at h52
              obtain ⟨v54', h54, p54⟩ := given_fed hg 54 (by decide +kernel)
              have p54 : v54' = v2 := p54
              rw [p54] at h54
              clear hg
              obtain rfl := sl0 hvl
              exact st_enter (w1 := w6) ho (wanted_none rfl) 64 #[v1, v2] (by simp [execOp, Act.eval, h52, h54, resolve, go_sem]) ((CHD.out w6 hC.2).mono (by rintro e w7 ⟨rfl, hb7⟩; exact ⟨_, rfl, _, rfl, ⟨hC.1.below hb7, below_to hC.2 (Nat.le_refl _) hb7, rfl⟩, by rintro t' ⟨⟩; trivial⟩))
            | 1, hj =>
              obtain rfl : 9 = i := Option.some.inj hj
              obtain rfl := Option.some.inj ho
              clear hg
              obtain ⟨x0, rfl⟩ := sl1 hvl
              obtain ⟨hlc6, hbw6, rfl⟩ := hC
              have h55 : a.tmps[55]? = some _ := hsl 0 8 _ 55 (by simp) rfl rfl rfl
              exact st_enter (w1 := w6) ho (wanted_none rfl) 32 #[.agg #[.int .i64 (sz : Int), .int .i64 (sm : Int), v2]] (by simp [execOp, Act.eval, h55, resolve, go_sem]) ((CEN.out w6 hbw6).mono (by rintro e w7 ⟨v, rfl, ho7, hb7⟩; exact ⟨_, rfl, _, rfl, ⟨hlc6.below hb7, below_to hbw6 (Nat.le_refl _) hb7, ho7.mono hbw6.size⟩, by rintro t' ⟨⟩; trivial⟩))
            | 2, hj =>
              obtain rfl : 10 = i := Option.some.inj hj
              obtain rfl := Option.some.inj ho
              obtain ⟨_, h50, rfl⟩ := given_fed hg 50 (by decide +kernel)
              clear hg
              obtain ⟨x0, x1, rfl⟩ := sl2 hvl
              obtain ⟨hlc6, hbw6, hown6⟩ := hC
              have h56 : a.tmps[56]? = some x1 := hsl 1 9 _ 56 (by simp) rfl rfl rfl
              exact st_enter (w1 := w6) ho (wanted_none rfl) 63 #[.pointer (some ⟨p, 0, none⟩), x1] (by simp [execOp, Act.eval, h50, h56, resolve, go_sem]) ((HE.out w6 x1 hlc6 hbw6 hown6).mono (by rintro e w7 ⟨u, rfl, hlc7, he7⟩; exact ⟨_, rfl, _, rfl, ⟨hlc7, he7⟩, by rintro t' ⟨⟩; trivial⟩))
            | 3, hj =>
              obtain rfl : 11 = i := Option.some.inj hj
              obtain rfl := Option.some.inj ho
              clear hg
              obtain ⟨x0, x1, x2, rfl⟩ := sl3 hvl
              have h57 : a.tmps[57]? = some x2 := hsl 2 10 _ 57 (by simp) rfl rfl rfl
              exact st_yield ho (wanted_none rfl) x2 w6 (by simp [execOp, Act.eval, h57, go_sem]) ⟨_, rfl, ⟨hC.1, rfl, hC.2⟩, by rintro t' ⟨⟩; trivial⟩
            | n + 4, hj => simp at hj
          · intro f5 w6 vs hvl hC hsl hV
            obtain ⟨q0, q1, q2, q3, rfl⟩ := sl4 hvl
            obtain ⟨hlc6, hq6, ho6, ht6, r, hr6, hend⟩ := hC
            subst hr6 hq6
            have h6 := hsl 3 11 _ 6 (by simp) rfl rfl rfl
            have h6 : f5 6 = .int .i64 r := (Option.some.inj h6).symm
            have HFIN := Go.Lib.hid (show Offs [d, g, p] w w6 ∧ Tab w6 ∧ LayEnd w6 B B' d g n p F L f WL hb r from ⟨((Offs.two HTW3.out).more (by simp +contextual)).trans ho6, ht6, hend⟩)
            clear hsl hV hlc6 ho6 ht6 hend CHD CEN HE H0
            unfold putAll
            simp only [List.foldl]
            simp only [h6]
            go_simp
            go_wp2_with fail
            go_ret
            obtain ⟨a1, a2, a3⟩ := HFIN.out
            rw [HWL.out, HHB.out] at a3
            exact ⟨a1, a2, r, rfl, a3⟩
      · have HDV2 := Go.Lib.hid hdv2
        have HDD := Go.Lib.hid hdd
        have HK3 := Go.Lib.hid hk3
        clear hdv2 hdd hk3 hk2 y0 y1
        go_wp2_with fail
        go_ret
        refine ⟨(Offs.two HTW2.out).more (by simp +contextual), tab_two HT.out HD.out HTW2.out HB.out, 7, rfl, .inr ⟨rfl, HSU.out.two HD.out HTW2.out, _, W1.length + k2, ?_, HDD.out, HDV2.out, .inl ⟨W1 ++ (layB ls text).take k2, ?_, rfl⟩⟩⟩
        · rw [HLL2.out]
          have := HK3.out
          omega
        · unfold allL
          rw [← HW1.out]
          exact (List.prefix_append_right_inj _).2 (List.take_prefix _ _)
end

end Go.Proofs.YtnalokjnbccjnaaGreatDoor
