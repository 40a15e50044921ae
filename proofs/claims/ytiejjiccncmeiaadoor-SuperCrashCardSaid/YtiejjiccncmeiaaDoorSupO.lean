/-
  The contracts of super's hasBoth, newest, Open, Text, Turn.
-/
import Derived.Test.YtiejjiccncmeiaaDoorSupB
namespace Go.Proofs.YtiejjiccncmeiaaDoor
open Go.RowKit

section
variable (w : World)
set_option maxRecDepth 100000
theorem sboth_nil (i : Int) : Calls Tryd.prog 20 #[.pointer none, .int .i64 i] w fun e w' => e = .returned (.bool false) ∧ w = w' := by
  have C := Go.Lib.hid (dlen_nil w)
  by_cases h0 : 0 ≤ i
  · go_enter Tryd.func20, Tryd.ntmps20
    go_wp2_with fail
    refine C.out.mono ?_
    rintro e w1 ⟨rfl, rfl⟩
    go_wp2_with fail
    go_ret
    refine ⟨?_, rfl⟩
    show Ending.returned (.bool (decide (i ≤ -2))) = _
    rw [decide_eq_false (by omega)]
  · go_enter Tryd.func20, Tryd.ntmps20
    go_wp2_with fail
    go_ret
    exact ⟨rfl, rfl⟩
theorem sopen_nil (i : Int) : Calls Tryd.prog 12 #[.pointer none, .int .i64 i] w fun e w' => e = .returned (.tuple #[.pointer none, .int .i64 3]) ∧ w = w' := by
  have C := Go.Lib.hid (sboth_nil w i)
  go_enter Tryd.func12, Tryd.ntmps12
  go_wp2_with fail
  refine C.out.mono ?_
  rintro e w1 ⟨rfl, rfl⟩
  go_wp2_with fail
  go_ret2
  exact ⟨rfl, rfl⟩
theorem stext_nil : Calls Tryd.prog 14 #[.pointer none] w fun e w' => e = .returned (.slice none 0 0) ∧ w = w' := by
  go_enter Tryd.func14, Tryd.ntmps14
  go_wp2_with fail
  go_ret
  exact ⟨rfl, rfl⟩
theorem sturn_nil : Calls Tryd.prog 15 #[.pointer none] w fun e w' => e = .returned (.int .i64 0) ∧ w = w' := by
  go_enter Tryd.func15, Tryd.ntmps15
  go_wp2_with fail
  go_ret
  exact ⟨rfl, rfl⟩
theorem ssave_nil (v : Value) : Calls Tryd.prog 11 #[.pointer none, v] w fun e w' => e = .returned (.int .i64 7) ∧ w = w' := by
  go_enter Tryd.func11, Tryd.ntmps11
  go_wp2_with fail
  go_ret
  exact ⟨rfl, rfl⟩

variable {B B' d g n p at_ : Nat} {S : Nat → Sec} {L : Life} {f : Found} {F : Nat → List UInt8}
variable {w}
theorem sboth_c (h : DV w B d g n S L) (i : Int) : Calls Tryd.prog 20 #[.pointer (some ⟨d, 0, none⟩), .int .i64 i] w fun e w' => e = .returned (.bool (decide (0 ≤ i) && decide (i ≤ (n : Int) - 2))) ∧ w = w' := by
  have C := Go.Lib.hid (dlen_c h)
  have hn := h.n1
  have hn0 := h.n0
  clear h
  by_cases h0 : 0 ≤ i
  · go_enter Tryd.func20, Tryd.ntmps20
    go_wp2_with fail
    refine C.out.mono ?_
    rintro e w1 ⟨rfl, rfl⟩
    go_wp2_with fail
    go_ret
    exact ⟨by simp [h0], rfl⟩
  · go_enter Tryd.func20, Tryd.ntmps20
    go_wp2_with fail
    go_ret
    exact ⟨by simp; omega, rfl⟩
theorem stext_c (h : SU w B p d at_ f) : Calls Tryd.prog 14 #[.pointer (some ⟨p, 0, none⟩)] w fun e w' => ∃ v, e = .returned v ∧ Own 5 w' w.heap.size v f.text ∧ Below w.heap.size w w' := by
  obtain ⟨v, ht, c0, c1, c2, c3, c4⟩ := h.cells
  have C := Go.Lib.hid (bclone_c _ _ w ht.1 (by have := h.fits.text; omega))
  clear h c0 c1 c2 c4 ht
  go_enter Tryd.func14, Tryd.ntmps14
  go_wp2_with fail
  refine C.out.mono ?_
  rintro e w1 ⟨u, rfl, ho, hb⟩
  go_wp2_with fail
  go_ret
  exact ⟨u, rfl, ho, hb⟩
theorem sturn_c (h : SU w B p d at_ f) : Calls Tryd.prog 15 #[.pointer (some ⟨p, 0, none⟩)] w fun e w' => e = .returned (.int .i64 (f.turn : Int)) ∧ w = w' := by
  obtain ⟨v, ht, c0, c1, c2, c3, c4⟩ := h.cells
  clear h c0 c1 c2 c3 ht
  go_enter Tryd.func15, Tryd.ntmps15
  go_wp2_with fail
  go_ret
  exact ⟨rfl, rfl⟩

theorem TX.form {w : World} {v : Value} {l : List UInt8} (h : TX w v l) : ∃ a n c, v = .slice a n c := by
  obtain ⟨⟨a, c, hv, -⟩, -⟩ := h
  exact ⟨a, _, c, hv⟩
/-- What has been found behind i sectors. -/
def stepF (F : Nat → List UInt8) (p : Nat) : Nat → Found
  | 0 => none0
  | i + 1 => seeS (stepF F p i) i (F (p + i))
theorem stepF_two (F : Nat → List UInt8) (p : Nat) : stepF F p 2 = newestS F p := rfl
theorem stepF_fits (F : Nat → List UInt8) (p i : Nat) (hi : i ≤ 2) : (stepF F p i).Fits := by
  rcases (show i = 0 ∨ i = 1 ∨ i = 2 by omega) with rfl | rfl | rfl
  · exact none0_fits
  · exact none0_fits.see (by decide) _
  · exact (none0_fits.see (by decide) _).see (by decide) _

set_option maxHeartbeats 1000000
theorem snewest_c (h : DV w B d g n S L) (hF : ∀ j, j < n → (S j).now = F j) (hT : Tab w) (hat : at_ + 2 ≤ n) : Calls Tryd.prog 21 #[.pointer (some ⟨d, 0, none⟩), .int .i64 (at_ : Int)] w fun e w' => ∃ p, e = .returned (.pointer (some ⟨p, 0, none⟩)) ∧ SU w' w.heap.size p d at_ (newestS F at_) ∧ Below w.heap.size w w' := by
  obtain ⟨p, hp⟩ : ∃ p, p = w.heap.size := ⟨_, rfl⟩
  have HP := Go.Lib.hid hp
  have hb0 : Below w.heap.size w (w.alloc (.cells #[.pointer (some ⟨d, 0, none⟩), .int .i64 (at_ : Int), .int .i64 0, .slice none 0 0, .int .i64 0] 54)) := (Below.refl _ _).alloc (Nat.le_refl _) _
  have hs0 : SU (w.alloc (.cells #[.pointer (some ⟨d, 0, none⟩), .int .i64 (at_ : Int), .int .i64 0, .slice none 0 0, .int .i64 0] 54)) p p d at_ (stepF F at_ 0) :=
    ⟨⟨.slice none 0 0, by rw [hp]; exact heap_alloc_new w _, TX.nil _⟩, Nat.le_refl _, none0_fits⟩
  have hn1 := h.n1
  have hd2048 : (at_ : Int) + 2 ≤ 2048 := by omega
  have H := Go.Lib.hid h
  have HT := Go.Lib.hid hT
  have HS0 := Go.Lib.hid hs0
  have HB0 := Go.Lib.hid hb0
  have Hat := Go.Lib.hid hat
  rw [← hp]
  have HF := Go.Lib.hid hF
  clear h hT hs0 hb0 hn1 hat hp hF
  go_enter Tryd.func21, Tryd.ntmps21
  go_wp2_with fail
  rw [← HP.out]
  go_loopw [6, 7, 8, 9, 10, 15] (fun _ _ _ _ _ iv wr => ∃ i : Nat, i ≤ 2 ∧ iv = .int .i64 (i : Int) ∧ SU wr p p d at_ (stepF F at_ i) ∧ Below p w wr) (fun _ _ _ _ _ iv _ => 2 - (intOf iv).toNat)
  case atStart => exact ⟨0, by omega, rfl, HS0.out, by rw [HP.out]; exact HB0.out⟩
  case round =>
    obtain ⟨i, hi, rfl, hsu, hb⟩ := hrel
    have HSU := Go.Lib.hid hsu
    have HB := Go.Lib.hid hb
    clear hsu hb
    by_cases hlt : i < 2
    · have hdv := H.out.below (by rw [← HP.out]; exact HB.out)
      have c1 := dread_c hdv (at_ + i) (by have := Hat.out; omega)
      rw [show ((at_ + i : Nat) : Int) = (at_ : Int) + (i : Int) from by omega] at c1
      have hw64 : (S (at_ + i)).now.length = 64 := hdv.whole64 (i := at_ + i) (by have := Hat.out; omega)
      rw [HF.out _ (by have := Hat.out; omega)] at c1 hw64
      have C1 := Go.Lib.hid c1
      have Hw := Go.Lib.hid hw64
      have Hi := Go.Lib.hid hlt
      clear hdv hw64 c1
      go_wp2_with fail
      refine C1.out.mono ?_
      rintro e w1 ⟨v, rfl, ho1, hb1⟩
      have hpw : p ≤ wr.heap.size := Nat.le_of_lt HSU.out.lt
      have hpw1 : p ≤ w1.heap.size := Nat.le_trans hpw hb1.size
      have C2 := Go.Lib.hid (sdecode_c w1 _ v (F (at_ + i)) ho1 Hw.out ((HT.out.below (by rw [← HP.out]; exact HB.out)).below hb1))
      have HSU1 := Go.Lib.hid (HSU.out.below hb1)
      have HB1 := Go.Lib.hid (HB.out.trans (hb1.mono hpw))
      clear ho1 hb1 C1 HSU HB
      go_wp2_with fail
      refine C2.out.mono ?_
      rintro e w2 ⟨u, rfl, ht2, hb2⟩
      obtain ⟨ua, un, uc, rfl⟩ := ht2.form
      have hsu2 := HSU1.out.below hb2
      obtain ⟨v0, ht0, c0, c1, c2, c3, c4⟩ := hsu2.cells
      have f2 := hsu2.frozen 2
      have f3 := hsu2.frozen 3
      have f4 := hsu2.frozen 4
      have hb2' := HB1.out.trans (hb2.mono hpw1)
      have hfit := stepF_fits F at_ (i + 1) Hi.out
      have hst : stepF F at_ (i + 1) = seeS (stepF F at_ i) i (F (at_ + i)) := rfl
      have HSU2 := Go.Lib.hid hsu2
      have HB2 := Go.Lib.hid hb2'
      have hpp : p ≤ p := Nat.le_refl _
      clear hsu2 hb2 hb2' C2 HSU1 HB1 hpw hpw1 ht0 c0 c1
      unfold seeS at hst
      by_cases hgt : (stepF F at_ i).turn < (decS (F (at_ + i))).2
      · rw [if_pos hgt] at hst
        rw [hst] at hfit
        have hs3 := HSU2.out.store hfit ht2
        have hbs := Go.Lib.hid (HB2.out.trans (hs3.2.below (by simp) (Nat.le_of_lt HSU2.out.lt)))
        have hs4 := Go.Lib.hid hs3.1
        have hst := Go.Lib.hid hst
        have hgtI : ((stepF F at_ i).turn : Int) < ((decS (F (at_ + i))).2 : Int) := by omega
        clear hfit hs3 hgt hlt hi HSU2 HB2 ht2
        generalize ((stepF F at_ i).turn : Int) = t0 at *
        generalize ((decS (F (at_ + i))).2 : Int) = t1 at *
        go_wp2_with fail
        go_roundw
        case rel => exact ⟨i + 1, Hi.out, by go_num, by rw [hst.out]; exact hs4.out, hbs.out⟩
        case measure => have := Hi.out; simp [intOf]; omega
      · rw [if_neg hgt] at hst
        have hst := Go.Lib.hid hst
        have hgtI : ¬ ((stepF F at_ i).turn : Int) < ((decS (F (at_ + i))).2 : Int) := by omega
        clear hfit hgt hlt hi f2 f3 f4 ht2
        generalize ((stepF F at_ i).turn : Int) = t0 at *
        generalize ((decS (F (at_ + i))).2 : Int) = t1 at *
        go_wp2_with fail
        go_roundw
        case rel => exact ⟨i + 1, Hi.out, by go_num, by rw [hst.out]; exact HSU2.out, HB2.out⟩
        case measure => have := Hi.out; simp [intOf]; omega
    · obtain rfl : i = 2 := by omega
      go_wp2_with fail
      go_ret
      exact ⟨p, rfl, HSU.out, HB.out⟩
end

end Go.Proofs.YtiejjiccncmeiaaDoor
