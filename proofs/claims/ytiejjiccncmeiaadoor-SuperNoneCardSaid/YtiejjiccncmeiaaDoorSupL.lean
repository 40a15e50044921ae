/-
  The contract of super's lay.
-/
import Derived.Test.YtiejjiccncmeiaaDoorSupO
namespace Go.Proofs.YtiejjiccncmeiaaDoor
open Go.RowKit

theorem Own.twoAbove {e : TypeId} {w w' : World} {B d g : Nat} {v : Value} {l : List UInt8} (h : Own e w B v l) (hk : Two d (some g) w w') (hd : d < B) (hg : g < B) : Own e w' B v l := by
  rcases h with ⟨h0, h1⟩
  refine ⟨h0, ?_⟩
  rcases h1 with ⟨rfl, hn⟩ | ⟨b, cap, cur, rfl, hB, hb, h2⟩
  · exact .inl ⟨rfl, hn⟩
  · exact .inr ⟨b, cap, cur, rfl, hB, (hk.block b (Array.getElem?_eq_some_iff.1 hb).1 (by omega) (by simp; omega)).trans hb, h2⟩
theorem Offs.new {l m : List Nat} {w w1 w2 : World} (h : Offs l w w1) (k : Offs m w1 w2) (hm : ∀ i, i ∈ m → i ∈ l ∨ w.heap.size ≤ i) : Offs l w w2 :=
  ⟨k.os.trans h.os, k.tape.trans h.tape, k.output.trans h.output, Nat.le_trans h.size k.size, fun i hi hn => (k.block i (Nat.lt_of_lt_of_le hi h.size) (fun hin => by rcases hm i hin with h1 | h1; exact hn h1; omega)).trans (h.block i hi hn)⟩
theorem Offs.more {l m : List Nat} {w w1 : World} (h : Offs l w w1) (hm : ∀ i, i ∈ l → i ∈ m) : Offs m w w1 :=
  ⟨h.os, h.tape, h.output, h.size, fun i hi hn => h.block i hi (fun hin => hn (hm i hin))⟩

/-- What stands while a text is laid (13: it has been written). -/
def IL (w0 : World) (E : World → Prop) (done : Nat → Bool) (w : World) : Prop := (done 13 = true → (∀ j, j < 13 → done j = true) ∧ True) ∧ if done 13 then E w else Below w0.heap.size w0 w
theorem IL.keep {w0 : World} {E : World → Prop} {w : World} {done : Nat → Bool} (h : IL w0 E done w) (i : Nat) (hi : i ≠ 13) : IL w0 E (doneToo done i) w := by
  obtain ⟨h1, h2⟩ := h
  refine ⟨fun hd => ?_, ?_⟩
  · rw [doneToo_other (Ne.symm hi)] at hd
    refine ⟨fun j hj => ?_, trivial⟩
    have := (h1 hd).1 j hj
    unfold doneToo
    split <;> simp [this]
  · rw [doneToo_other (Ne.symm hi)]
    exact h2
theorem IL.keep2 {w0 : World} {E : World → Prop} {w w' : World} {done : Nat → Bool} (_h : IL w0 E done w) (i : Nat) (hi : i ≠ 13) (hq : done 13 = false) (hb : Below w0.heap.size w0 w') : IL w0 E (doneToo done i) w' := by
  refine ⟨fun hd => ?_, ?_⟩
  · rw [doneToo_other (Ne.symm hi), hq] at hd
    cases hd
  · rw [doneToo_other (Ne.symm hi), hq]
    exact hb
def VL (M p d at_ s t : Nat) (v0 : Value) (X : List UInt8) (r : Int) : Nat → World → Value → Prop
  | 15, _, v => v = .pointer (some ⟨p, 0, none⟩)
  | 16, _, v => v = .pointer (some ⟨p, 0, none⟩)
  | 17, _, v => v = .pointer (some ⟨p, 0, none⟩)
  | 18, _, v => v = .pointer (some ⟨d, 0, none⟩)
  | 19, _, v => v = .pointer (some ⟨p, 0, none⟩)
  | 20, _, v => v = .pointer (some ⟨p, 0, none⟩)
  | 21, _, v => v = .pointer (some ⟨p, 1, none⟩)
  | 22, _, v => v = .int .i64 (at_ : Int)
  | 23, _, v => v = .int .i64 (s : Int)
  | 24, _, v => v = .int .i64 ((at_ : Int) + (s : Int))
  | 25, w, v => v = v0
  | 26, _, v => v = .int .i64 (t : Int)
  | 27, w, v => Own 5 w M v X
  | 28, _, v => v = .int .i64 (r)
  | 8, _, v => v = .int .i64 (r)
  | _, _, _ => True

theorem VL_below (M p d at_ s t : Nat) (v0 : Value) (X : List UInt8) (r : Int) : ∀ (i : Nat) (w w' : World) (v : Value), VL M p d at_ s t v0 X r i w v → Below w.heap.size w w' → VL M p d at_ s t v0 X r i w' v := by
  intro i w w' v h hb
  unfold VL at h ⊢
  split at h <;> first | exact h | trivial | exact RB.below h hb | exact Own.below h hb

theorem VL_two (M p d at_ s t : Nat) (v0 : Value) (X : List UInt8) (r : Int) (d' g' : Nat) (i : Nat) (w w' : World) (v : Value) (h : VL M p d at_ s t v0 X r i w v) (ht : Two d' (some g') w w') (h1 : d' < M) (h2 : g' < M) : VL M p d at_ s t v0 X r i w' v := by
  unfold VL at h ⊢
  split at h <;> first | exact h | trivial | exact Own.twoAbove h ht h1 h2

section
variable {w : World} {B B' d g n p at_ t : Nat} {L : Life} {f : Found} {F : Nat → List UInt8} {v0 : Value} {l : List UInt8}
set_option maxHeartbeats 2000000
set_option maxRecDepth 100000
theorem slay_dead (h : DV w B d g n (calmS F) L) (hd : L.dead = true) (hs : SU w B' p d at_ f) (hT : Tab w) (hat : at_ + 2 ≤ n) (hv : RB w v0 l) (hl : l.length ≤ 40) (ht : t ≤ 1099511627776) :
    Calls Tryd.prog 22 #[.pointer (some ⟨p, 0, none⟩), v0, .int .i64 (t : Int)] w fun e w' => e = .returned (.int .i64 7) ∧ Below w.heap.size w w' := by
  obtain ⟨u, hu, c0, c1, c2, c3, c4⟩ := hs.cells
  have HLT := Go.Lib.hid hs.lt
  obtain ⟨M, hM⟩ : ∃ M, M = w.heap.size := ⟨_, rfl⟩
  have HM := Go.Lib.hid hM
  have CW : Hid (∀ w6, Below w.heap.size w w6 → ∀ v27, Own 5 w6 M v27 (encS l t) → Calls Tryd.prog 18 #[.pointer (some ⟨d, 0, none⟩), .int .i64 ((at_ : Int) + ((1 - f.slot : Nat) : Int)), v27] w6 fun e w7 => e = .returned (.int .i64 7) ∧ Below w.heap.size w w7 ∧ Two d (some g) w6 w7) := by
    intro w6 hb v27 hv27
    refine (dwrite_dead (h.below hb) hd _ _).mono ?_
    rintro e w7 ⟨rfl, rfl⟩
    exact ⟨rfl, hb, Two.refl _ _ _⟩
  have CE : Hid (∀ w6, Below w.heap.size w w6 → Calls Tryd.prog 29 #[v0, .int .i64 (t : Int)] w6 fun e w' => ∃ u, e = .returned u ∧ Own 5 w' w6.heap.size u (encS l t) ∧ Below w6.heap.size w6 w') := fun w6 hb => sencode_c w6 v0 l t (hv.below hb) hl ht (hT.below hb)
  have hslot := hs.fits.slot
  obtain ⟨s, hsl⟩ : ∃ s, s = 1 - f.slot := ⟨_, rfl⟩
  rw [← hsl] at CW
  have hsI : IntKind.i64.wrap (1 - (f.slot : Int)) = (s : Int) := by rw [IntKind.wrap_i64]; omega
  have hn1 := h.n1
  have HdM := Go.Lib.hid (show d < M by rw [hM]; exact h.lt)
  have HgM := Go.Lib.hid (show g < M by rw [hM]; exact h.ltg)
  have hwadd : IntKind.i64.wrap ((at_ : Int) + (s : Int)) = (at_ : Int) + (s : Int) := by rw [IntKind.wrap_i64]; omega
  have C0 := Go.Lib.hid c0
  have C1 := Go.Lib.hid c1
  obtain ⟨X, hX⟩ : ∃ X, X = encS l t := ⟨_, rfl⟩
  rw [← hX] at CW CE
  clear h hd hs hT hv hl ht hu c0 c1 c3 c4 hn1 hsl hat hslot hX
  go_enter Tryd.func22, Tryd.ntmps22
  go_upto_region 2 with (fail)
  have hI0 : IL w (fun w7 => Below w.heap.size w w7) (fun _ => false) w.drew := ⟨fun h => (by cases h), below_drewN (Below.refl _ _) 1⟩
  refine wp_region_inv (by kernel_rfl) (VL M p d at_ s t v0 X (7)) (IL w (fun w7 => Below w.heap.size w w7)) (by decide +kernel) (by decide +kernel) (by rfl) [15, 16, 17, 18, 19, 20, 21, 22, 23, 24, 25, 26, 27, 28, 8] (by rfl) (hI0) ?_ ?_
  · intro i o ho a w6 done hI hnot hr hlen hg
    match i, ho with
    | 0, ho =>
      obtain rfl := Option.some.inj ho
      have h0 := given_old hg 0 (by decide +kernel)
      clear hg
      exact st_yield ho (wanted_none rfl) (.pointer (some ⟨p, 0, none⟩)) w6 (by simp [execOp, Act.eval, h0, go_sem]) ⟨_, rfl, hI.keep 0 (by decide), fun _ _ h => h, by rintro t' ⟨⟩; rfl⟩
    | 1, ho =>
      obtain rfl := Option.some.inj ho
      obtain ⟨_, h15, rfl⟩ := given_fed hg 15 (by decide +kernel)
      clear hg
      exact st_yield ho (wanted_none rfl) (.pointer (some ⟨p, 0, none⟩)) w6 (by simp [execOp, Act.eval, h15, go_sem]) ⟨_, rfl, hI.keep 1 (by decide), fun _ _ h => h, by rintro t' ⟨⟩; rfl⟩
    | 2, ho =>
      obtain rfl := Option.some.inj ho
      obtain ⟨_, h16, rfl⟩ := given_fed hg 16 (by decide +kernel)
      clear hg
      exact st_yield ho (wanted_none rfl) (.pointer (some ⟨p, 0, none⟩)) w6 (by simp [execOp, Act.eval, h16, go_sem]) ⟨_, rfl, hI.keep 2 (by decide), fun _ _ h => h, by rintro t' ⟨⟩; rfl⟩
    | 3, ho =>
      obtain rfl := Option.some.inj ho
      obtain ⟨_, h17, rfl⟩ := given_fed hg 17 (by decide +kernel)
      clear hg
      have hq : done 13 = false := by cases h : done 13 with | false => rfl | true => have := (hI.1 h).1 3 (by decide); rw [hnot] at this; cases this
      have hc := hI.2
      rw [hq] at hc
      have k0 := (hc.cell (p := ⟨p, 0, none⟩) HLT.out).trans C0.out
      exact st_yield ho (wanted_none rfl) (.pointer (some ⟨d, 0, none⟩)) w6 (by simp [execOp, Act.eval, h17, go_sem, k0]) ⟨_, rfl, hI.keep 3 (by decide), fun _ _ h => h, by rintro t' ⟨⟩; rfl⟩
    | 4, ho =>
      obtain rfl := Option.some.inj ho
      have h0 := given_old hg 0 (by decide +kernel)
      clear hg
      exact st_yield ho (wanted_none rfl) (.pointer (some ⟨p, 0, none⟩)) w6 (by simp [execOp, Act.eval, h0, go_sem]) ⟨_, rfl, hI.keep 4 (by decide), fun _ _ h => h, by rintro t' ⟨⟩; rfl⟩
    | 5, ho =>
      obtain rfl := Option.some.inj ho
      obtain ⟨_, h19, rfl⟩ := given_fed hg 19 (by decide +kernel)
      clear hg
      exact st_yield ho (wanted_none rfl) (.pointer (some ⟨p, 0, none⟩)) w6 (by simp [execOp, Act.eval, h19, go_sem]) ⟨_, rfl, hI.keep 5 (by decide), fun _ _ h => h, by rintro t' ⟨⟩; rfl⟩
    | 6, ho =>
      obtain rfl := Option.some.inj ho
      obtain ⟨_, h20, rfl⟩ := given_fed hg 20 (by decide +kernel)
      clear hg
      exact st_yield ho (wanted_none rfl) (.pointer (some ⟨p, 1, none⟩)) w6 (by simp [execOp, Act.eval, h20, go_sem]) ⟨_, rfl, hI.keep 6 (by decide), fun _ _ h => h, by rintro t' ⟨⟩; rfl⟩
    | 7, ho =>
      obtain rfl := Option.some.inj ho
      obtain ⟨_, h21, rfl⟩ := given_fed hg 21 (by decide +kernel)
      clear hg
      have hq : done 13 = false := by cases h : done 13 with | false => rfl | true => have := (hI.1 h).1 7 (by decide); rw [hnot] at this; cases this
      have hc := hI.2
      rw [hq] at hc
      have k0 := (hc.cell (p := ⟨p, 1, none⟩) HLT.out).trans C1.out
      exact st_yield ho (wanted_none rfl) (.int .i64 (at_ : Int)) w6 (by simp [execOp, Act.eval, h21, go_sem, k0]) ⟨_, rfl, hI.keep 7 (by decide), fun _ _ h => h, by rintro t' ⟨⟩; rfl⟩
    | 8, ho =>
      obtain rfl := Option.some.inj ho
      have h7 := given_old hg 7 (by decide +kernel)
      clear hg
      exact st_yield ho (wanted_none rfl) (.int .i64 (s : Int)) w6 (by simp [execOp, Act.eval, h7, go_sem]) ⟨_, rfl, hI.keep 8 (by decide), fun _ _ h => h, by rintro t' ⟨⟩; rfl⟩
    | 9, ho =>
      obtain rfl := Option.some.inj ho
      obtain ⟨_, h22, rfl⟩ := given_fed hg 22 (by decide +kernel)
      obtain ⟨_, h23, rfl⟩ := given_fed hg 23 (by decide +kernel)
      clear hg
      exact st_yield ho (wanted_none rfl) (.int .i64 ((at_ : Int) + (s : Int))) w6 (by simp [execOp, Act.eval, h22, h23, go_sem, hwadd]) ⟨_, rfl, hI.keep 9 (by decide), fun _ _ h => h, by rintro t' ⟨⟩; rfl⟩
    | 10, ho =>
      obtain rfl := Option.some.inj ho
      have h1 := given_old hg 1 (by decide +kernel)
      clear hg
      exact st_yield ho (wanted_none rfl) v0 w6 (by simp [execOp, Act.eval, h1, go_sem]) ⟨_, rfl, hI.keep 10 (by decide), fun _ _ h => h, by rintro t' ⟨⟩; rfl⟩
    | 11, ho =>
      obtain rfl := Option.some.inj ho
      have h2 := given_old hg 2 (by decide +kernel)
      clear hg
      exact st_yield ho (wanted_none rfl) (.int .i64 (t : Int)) w6 (by simp [execOp, Act.eval, h2, go_sem]) ⟨_, rfl, hI.keep 11 (by decide), fun _ _ h => h, by rintro t' ⟨⟩; rfl⟩
    | 12, ho =>
      obtain rfl := Option.some.inj ho
      obtain ⟨v25, h25, p25⟩ := given_fed hg 25 (by decide +kernel)
      obtain ⟨_, h26, rfl⟩ := given_fed hg 26 (by decide +kernel)
      clear hg
      have hq : done 13 = false := by cases h : done 13 with | false => rfl | true => have := (hI.1 h).1 12 (by decide); rw [hnot] at this; cases this
      have hc := hI.2
      rw [hq] at hc
      rw [show v25 = v0 from p25] at h25
      exact st_enter (w1 := w6) ho (wanted_none rfl) 29 #[v0, .int .i64 (t : Int)] (by simp [execOp, Act.eval, h25, h26, resolve, go_sem]) ((CE.out w6 hc).mono (by rintro e w7 ⟨u, rfl, ho7, hb7⟩; exact ⟨_, rfl, _, rfl, hI.keep2 12 (by decide) hq (hc.trans (hb7.mono hc.size)), fun t' u h => VL_below M p d at_ s t v0 X (7) _ _ _ _ h hb7, by rintro t' ⟨⟩; exact ho7.mono (by rw [HM.out]; exact hc.size)⟩))
    | 13, ho =>
      obtain rfl := Option.some.inj ho
      obtain ⟨_, h18, rfl⟩ := given_fed hg 18 (by decide +kernel)
      obtain ⟨_, h24, rfl⟩ := given_fed hg 24 (by decide +kernel)
      obtain ⟨v27, h27, p27⟩ := given_fed hg 27 (by decide +kernel)
      clear hg
      have hc := hI.2
      rw [hnot] at hc
      exact st_enter (w1 := w6) ho (wanted_none rfl) 18 #[.pointer (some ⟨d, 0, none⟩), .int .i64 ((at_ : Int) + (s : Int)), v27] (by simp [execOp, Act.eval, h18, h24, h27, resolve, go_sem]) ((CW.out w6 hc v27 p27).mono (by rintro e w7 ⟨rfl, he7, ht7⟩; exact ⟨_, rfl, _, rfl, ⟨fun _ => ⟨fun j hj => by rw [doneToo_other (by rintro rfl; exact absurd hj (by decide))]; match j, hj with | 0, _ => exact hr 0 (by decide +kernel) | 1, _ => exact hr 1 (by decide +kernel) | 2, _ => exact hr 2 (by decide +kernel) | 3, _ => exact hr 3 (by decide +kernel) | 4, _ => exact hr 4 (by decide +kernel) | 5, _ => exact hr 5 (by decide +kernel) | 6, _ => exact hr 6 (by decide +kernel) | 7, _ => exact hr 7 (by decide +kernel) | 8, _ => exact hr 8 (by decide +kernel) | 9, _ => exact hr 9 (by decide +kernel) | 10, _ => exact hr 10 (by decide +kernel) | 11, _ => exact hr 11 (by decide +kernel) | 12, _ => exact hr 12 (by decide +kernel) | k + 13, hj => omega, trivial⟩, by rw [doneToo_self]; exact he7⟩, fun t' u h => VL_two M p d at_ s t v0 X (7) _ _ _ _ _ _ h ht7 HdM.out HgM.out, by rintro t' ⟨⟩; rfl⟩))
    | 14, ho =>
      obtain rfl := Option.some.inj ho
      obtain ⟨_, h28, rfl⟩ := given_fed hg 28 (by decide +kernel)
      clear hg
      exact st_yield ho (wanted_none rfl) (.int .i64 (7)) w6 (by simp [execOp, Act.eval, h28, go_sem]) ⟨_, rfl, hI.keep 14 (by decide), fun _ _ h => h, by rintro t' ⟨⟩; rfl⟩
    | n + 15, ho => simp at ho
  · intro f' w7 done hall hI hv
    have h8 := hv 8 (by decide)
    simp only [VL] at h8
    have h13 := hall 13 (by decide)
    have hI2 := hI.2
    rw [h13] at hI2
    have HI2 := Go.Lib.hid hI2
    clear hv hall hI hI2 h13 hI0
    unfold putAll
    simp only [List.foldl]
    simp only [h8]
    go_simp
    go_wp2_with fail
    go_ret
    exact ⟨rfl, HI2.out⟩

/-- The text is written; it lasts, or the device died between. -/
theorem slay_wr {S : Nat → Sec} (h : DV w B d g n S L) (hF : ∀ j, j < n → (S j).now = F j) (htd : Tidy S) (hd : L.dead = false) (hc : L.calls < 999999) (hs : SU w B' p d at_ f) (hT : Tab w) (hat : at_ + 2 ≤ n) (hv : ∀ w', Offs [d, g] w w' → RB w' v0 l) (hl : l.length ≤ 40) (ht : t ≤ 1099511627776) (hB : 0 < B) :
    Calls Tryd.prog 22 #[.pointer (some ⟨p, 0, none⟩), v0, .int .i64 (t : Int)] w fun e w' => Offs [d, g, p] w w' ∧ Tab w' ∧
      (L.tick.dead = true ∧ e = .returned (.int .i64 7) ∧ DV w' B d g n (wrS S (at_ + (1 - f.slot)) (encS l t)) L.tick ∧ SU w' B' p d at_ f ∨
       L.tick.dead = false ∧ e = .returned (.int .i64 0) ∧ DV w' B d g n (calmS (upF F (at_ + (1 - f.slot)) (encS l t))) L.tick.tick ∧ SU w' B' p d at_ ⟨1 - f.slot, l, t⟩) := by
  obtain ⟨u, hu, c0, c1, c2, c3, c4⟩ := hs.cells
  have HLT := Go.Lib.hid hs.lt
  obtain ⟨M, hM⟩ : ∃ M, M = w.heap.size := ⟨_, rfl⟩
  have HM := Go.Lib.hid hM
  have hslot := hs.fits.slot
  have hti : at_ + (1 - f.slot) < n := by omega
  have htick := h.ok.tick hd (by omega)
  have CW : Hid (∀ w6, Below w.heap.size w w6 → ∀ v27, Own 5 w6 M v27 (encS l t) → Calls Tryd.prog 18 #[.pointer (some ⟨d, 0, none⟩), .int .i64 ((at_ : Int) + ((1 - f.slot : Nat) : Int)), v27] w6 fun e w7 => e = .returned (.int .i64 0) ∧ (DV w7 B d g n (wrS S (at_ + (1 - f.slot)) (encS l t)) L.tick ∧ Offs [d, g] w w7) ∧ Two d (some g) w6 w7) := by
    intro w6 hb v27 hv27
    have hw := dwrite_c (h.below hb) hd (by omega) (at_ + (1 - f.slot)) hti v27 (encS l t) hv27.rb (by rw [encS_length (by omega)]; exact Nat.le_refl _)
    rw [show ((at_ + (1 - f.slot) : Nat) : Int) = (at_ : Int) + ((1 - f.slot : Nat) : Int) from by omega] at hw
    refine hw.mono ?_
    rintro e w7 ⟨rfl, hdv, h2⟩
    exact ⟨rfl, ⟨hdv, (Offs.of_below hb).trans (Offs.of_two h2 (by simp) (by simp))⟩, h2⟩
  have CE : Hid (∀ w6, Below w.heap.size w w6 → Calls Tryd.prog 29 #[v0, .int .i64 (t : Int)] w6 fun e w' => ∃ u, e = .returned u ∧ Own 5 w' w6.heap.size u (encS l t) ∧ Below w6.heap.size w6 w') := fun w6 hb => sencode_c w6 v0 l t (hv w6 (Offs.of_below hb)) hl ht (hT.below hb)
  have HV := Go.Lib.hid hv
  have HSU := Go.Lib.hid hs
  have HN := Go.Lib.hid h.noBytes
  have HAP := Go.Lib.hid (hs.apart h)
  have HTB : Hid (∀ w', Offs [d, g, p] w w' → Tab w') := fun w' ho i hi => ho.cell (hT i hi) (by
    have k0 := h.blk
    obtain ⟨cur, k1, -⟩ := h.row.row
    obtain ⟨u1, k2, -⟩ := hs.blk
    have h1 := h.lowd
    have h2 := h.lowg
    have h3 : p ≠ 0 := by
      rintro rfl
      have h4 := hT 0 (by decide)
      rw [cell_of_row w _ 0 _ _ _ k2] at h4
      cases h4
    show 0 ∉ [d, g, p]
    simp only [List.mem_cons, List.not_mem_nil, or_false, not_or]
    exact ⟨by omega, by omega, fun e => h3 e.symm⟩)
  have hfl : ∀ j, j < n → calmS (upF F (at_ + (1 - f.slot)) (encS l t)) j = flS (wrS S (at_ + (1 - f.slot)) (encS l t)) j := flS_tidy htd hF (over_all (by rw [encS_length (by omega)]; exact (h.whole64 hti).symm))
  have HFL := Go.Lib.hid hfl
  obtain ⟨s, hsl⟩ : ∃ s, s = 1 - f.slot := ⟨_, rfl⟩
  have hfx : (⟨s, l, t⟩ : Found).Fits := ⟨by simp only; omega, hl, ht⟩
  have HFX := Go.Lib.hid hfx
  rw [← hsl] at CW HFL ⊢
  have hsI : IntKind.i64.wrap (1 - (f.slot : Int)) = (s : Int) := by rw [IntKind.wrap_i64]; omega
  have hn1 := h.n1
  have HdM := Go.Lib.hid (show d < M by rw [hM]; exact h.lt)
  have HgM := Go.Lib.hid (show g < M by rw [hM]; exact h.ltg)
  have hwadd : IntKind.i64.wrap ((at_ : Int) + (s : Int)) = (at_ : Int) + (s : Int) := by rw [IntKind.wrap_i64]; omega
  have C0 := Go.Lib.hid c0
  have C1 := Go.Lib.hid c1
  have HTC : Hid (L.tick.calls < 1000000) := Go.Lib.hid (by rw [Life.tick_calls]; omega)
  have Hl40 := Go.Lib.hid hl
  obtain ⟨X, hX⟩ : ∃ X, X = encS l t := ⟨_, rfl⟩
  rw [← hX] at CW CE HFL ⊢
  clear h hd hs hT hv hl ht hu c0 c1 c3 c4 hn1 hsl hat hslot hX hc hti htick hfl hfx hB hF htd
  go_enter Tryd.func22, Tryd.ntmps22
  go_upto_region 2 with (fail)
  have hI0 : IL w (fun w7 => DV w7 B d g n (wrS S (at_ + s) X) L.tick ∧ Offs [d, g] w w7) (fun _ => false) w.drew := ⟨fun h => (by cases h), below_drewN (Below.refl _ _) 1⟩
  refine wp_region_inv (by kernel_rfl) (VL M p d at_ s t v0 X (0)) (IL w (fun w7 => DV w7 B d g n (wrS S (at_ + s) X) L.tick ∧ Offs [d, g] w w7)) (by decide +kernel) (by decide +kernel) (by rfl) [15, 16, 17, 18, 19, 20, 21, 22, 23, 24, 25, 26, 27, 28, 8] (by rfl) (hI0) ?_ ?_
  · intro i o ho a w6 done hI hnot hr hlen hg
    match i, ho with
    | 0, ho =>
      obtain rfl := Option.some.inj ho
      have h0 := given_old hg 0 (by decide +kernel)
      clear hg
      exact st_yield ho (wanted_none rfl) (.pointer (some ⟨p, 0, none⟩)) w6 (by simp [execOp, Act.eval, h0, go_sem]) ⟨_, rfl, hI.keep 0 (by decide), fun _ _ h => h, by rintro t' ⟨⟩; rfl⟩
    | 1, ho =>
      obtain rfl := Option.some.inj ho
      obtain ⟨_, h15, rfl⟩ := given_fed hg 15 (by decide +kernel)
      clear hg
      exact st_yield ho (wanted_none rfl) (.pointer (some ⟨p, 0, none⟩)) w6 (by simp [execOp, Act.eval, h15, go_sem]) ⟨_, rfl, hI.keep 1 (by decide), fun _ _ h => h, by rintro t' ⟨⟩; rfl⟩
    | 2, ho =>
      obtain rfl := Option.some.inj ho
      obtain ⟨_, h16, rfl⟩ := given_fed hg 16 (by decide +kernel)
      clear hg
      exact st_yield ho (wanted_none rfl) (.pointer (some ⟨p, 0, none⟩)) w6 (by simp [execOp, Act.eval, h16, go_sem]) ⟨_, rfl, hI.keep 2 (by decide), fun _ _ h => h, by rintro t' ⟨⟩; rfl⟩
    | 3, ho =>
      obtain rfl := Option.some.inj ho
      obtain ⟨_, h17, rfl⟩ := given_fed hg 17 (by decide +kernel)
      clear hg
      have hq : done 13 = false := by cases h : done 13 with | false => rfl | true => have := (hI.1 h).1 3 (by decide); rw [hnot] at this; cases this
      have hc := hI.2
      rw [hq] at hc
      have k0 := (hc.cell (p := ⟨p, 0, none⟩) HLT.out).trans C0.out
      exact st_yield ho (wanted_none rfl) (.pointer (some ⟨d, 0, none⟩)) w6 (by simp [execOp, Act.eval, h17, go_sem, k0]) ⟨_, rfl, hI.keep 3 (by decide), fun _ _ h => h, by rintro t' ⟨⟩; rfl⟩
    | 4, ho =>
      obtain rfl := Option.some.inj ho
      have h0 := given_old hg 0 (by decide +kernel)
      clear hg
      exact st_yield ho (wanted_none rfl) (.pointer (some ⟨p, 0, none⟩)) w6 (by simp [execOp, Act.eval, h0, go_sem]) ⟨_, rfl, hI.keep 4 (by decide), fun _ _ h => h, by rintro t' ⟨⟩; rfl⟩
    | 5, ho =>
      obtain rfl := Option.some.inj ho
      obtain ⟨_, h19, rfl⟩ := given_fed hg 19 (by decide +kernel)
      clear hg
      exact st_yield ho (wanted_none rfl) (.pointer (some ⟨p, 0, none⟩)) w6 (by simp [execOp, Act.eval, h19, go_sem]) ⟨_, rfl, hI.keep 5 (by decide), fun _ _ h => h, by rintro t' ⟨⟩; rfl⟩
    | 6, ho =>
      obtain rfl := Option.some.inj ho
      obtain ⟨_, h20, rfl⟩ := given_fed hg 20 (by decide +kernel)
      clear hg
      exact st_yield ho (wanted_none rfl) (.pointer (some ⟨p, 1, none⟩)) w6 (by simp [execOp, Act.eval, h20, go_sem]) ⟨_, rfl, hI.keep 6 (by decide), fun _ _ h => h, by rintro t' ⟨⟩; rfl⟩
    | 7, ho =>
      obtain rfl := Option.some.inj ho
      obtain ⟨_, h21, rfl⟩ := given_fed hg 21 (by decide +kernel)
      clear hg
      have hq : done 13 = false := by cases h : done 13 with | false => rfl | true => have := (hI.1 h).1 7 (by decide); rw [hnot] at this; cases this
      have hc := hI.2
      rw [hq] at hc
      have k0 := (hc.cell (p := ⟨p, 1, none⟩) HLT.out).trans C1.out
      exact st_yield ho (wanted_none rfl) (.int .i64 (at_ : Int)) w6 (by simp [execOp, Act.eval, h21, go_sem, k0]) ⟨_, rfl, hI.keep 7 (by decide), fun _ _ h => h, by rintro t' ⟨⟩; rfl⟩
    | 8, ho =>
      obtain rfl := Option.some.inj ho
      have h7 := given_old hg 7 (by decide +kernel)
      clear hg
      exact st_yield ho (wanted_none rfl) (.int .i64 (s : Int)) w6 (by simp [execOp, Act.eval, h7, go_sem]) ⟨_, rfl, hI.keep 8 (by decide), fun _ _ h => h, by rintro t' ⟨⟩; rfl⟩
    | 9, ho =>
      obtain rfl := Option.some.inj ho
      obtain ⟨_, h22, rfl⟩ := given_fed hg 22 (by decide +kernel)
      obtain ⟨_, h23, rfl⟩ := given_fed hg 23 (by decide +kernel)
      clear hg
      exact st_yield ho (wanted_none rfl) (.int .i64 ((at_ : Int) + (s : Int))) w6 (by simp [execOp, Act.eval, h22, h23, go_sem, hwadd]) ⟨_, rfl, hI.keep 9 (by decide), fun _ _ h => h, by rintro t' ⟨⟩; rfl⟩
    | 10, ho =>
      obtain rfl := Option.some.inj ho
      have h1 := given_old hg 1 (by decide +kernel)
      clear hg
      exact st_yield ho (wanted_none rfl) v0 w6 (by simp [execOp, Act.eval, h1, go_sem]) ⟨_, rfl, hI.keep 10 (by decide), fun _ _ h => h, by rintro t' ⟨⟩; rfl⟩
    | 11, ho =>
      obtain rfl := Option.some.inj ho
      have h2 := given_old hg 2 (by decide +kernel)
      clear hg
      exact st_yield ho (wanted_none rfl) (.int .i64 (t : Int)) w6 (by simp [execOp, Act.eval, h2, go_sem]) ⟨_, rfl, hI.keep 11 (by decide), fun _ _ h => h, by rintro t' ⟨⟩; rfl⟩
    | 12, ho =>
      obtain rfl := Option.some.inj ho
      obtain ⟨v25, h25, p25⟩ := given_fed hg 25 (by decide +kernel)
      obtain ⟨_, h26, rfl⟩ := given_fed hg 26 (by decide +kernel)
      clear hg
      have hq : done 13 = false := by cases h : done 13 with | false => rfl | true => have := (hI.1 h).1 12 (by decide); rw [hnot] at this; cases this
      have hc := hI.2
      rw [hq] at hc
      rw [show v25 = v0 from p25] at h25
      exact st_enter (w1 := w6) ho (wanted_none rfl) 29 #[v0, .int .i64 (t : Int)] (by simp [execOp, Act.eval, h25, h26, resolve, go_sem]) ((CE.out w6 hc).mono (by rintro e w7 ⟨u, rfl, ho7, hb7⟩; exact ⟨_, rfl, _, rfl, hI.keep2 12 (by decide) hq (hc.trans (hb7.mono hc.size)), fun t' u h => VL_below M p d at_ s t v0 X (0) _ _ _ _ h hb7, by rintro t' ⟨⟩; exact ho7.mono (by rw [HM.out]; exact hc.size)⟩))
    | 13, ho =>
      obtain rfl := Option.some.inj ho
      obtain ⟨_, h18, rfl⟩ := given_fed hg 18 (by decide +kernel)
      obtain ⟨_, h24, rfl⟩ := given_fed hg 24 (by decide +kernel)
      obtain ⟨v27, h27, p27⟩ := given_fed hg 27 (by decide +kernel)
      clear hg
      have hc := hI.2
      rw [hnot] at hc
      exact st_enter (w1 := w6) ho (wanted_none rfl) 18 #[.pointer (some ⟨d, 0, none⟩), .int .i64 ((at_ : Int) + (s : Int)), v27] (by simp [execOp, Act.eval, h18, h24, h27, resolve, go_sem]) ((CW.out w6 hc v27 p27).mono (by rintro e w7 ⟨rfl, he7, ht7⟩; exact ⟨_, rfl, _, rfl, ⟨fun _ => ⟨fun j hj => by rw [doneToo_other (by rintro rfl; exact absurd hj (by decide))]; match j, hj with | 0, _ => exact hr 0 (by decide +kernel) | 1, _ => exact hr 1 (by decide +kernel) | 2, _ => exact hr 2 (by decide +kernel) | 3, _ => exact hr 3 (by decide +kernel) | 4, _ => exact hr 4 (by decide +kernel) | 5, _ => exact hr 5 (by decide +kernel) | 6, _ => exact hr 6 (by decide +kernel) | 7, _ => exact hr 7 (by decide +kernel) | 8, _ => exact hr 8 (by decide +kernel) | 9, _ => exact hr 9 (by decide +kernel) | 10, _ => exact hr 10 (by decide +kernel) | 11, _ => exact hr 11 (by decide +kernel) | 12, _ => exact hr 12 (by decide +kernel) | k + 13, hj => omega, trivial⟩, by rw [doneToo_self]; exact he7⟩, fun t' u h => VL_two M p d at_ s t v0 X (0) _ _ _ _ _ _ h ht7 HdM.out HgM.out, by rintro t' ⟨⟩; rfl⟩))
    | 14, ho =>
      obtain rfl := Option.some.inj ho
      obtain ⟨_, h28, rfl⟩ := given_fed hg 28 (by decide +kernel)
      clear hg
      exact st_yield ho (wanted_none rfl) (.int .i64 (0)) w6 (by simp [execOp, Act.eval, h28, go_sem]) ⟨_, rfl, hI.keep 14 (by decide), fun _ _ h => h, by rintro t' ⟨⟩; rfl⟩
    | n + 15, ho => simp at ho
  · intro f' w7 done hall hI hv
    have h8 := hv 8 (by decide)
    simp only [VL] at h8
    have h13 := hall 13 (by decide)
    have hI2 := hI.2
    rw [h13, if_pos rfl] at hI2
    obtain ⟨hd7, ho7⟩ := hI2
    clear hv hall hI h13 hI0 CW CE
    unfold putAll
    simp only [List.foldl]
    simp only [h8]
    go_simp
    have hs7 := HSU.out.offs ho7 (by have := HAP.out; simp [this]) HN.out
    obtain ⟨u7, hu7, k0, k1, k2, k3, k4⟩ := hs7.cells
    have HO7 := Go.Lib.hid ho7
    by_cases hd2 : L.tick.dead = true
    · have CF := Go.Lib.hid (dflush_dead hd7 hd2)
      have HD7 := Go.Lib.hid hd7
      have HS7 := Go.Lib.hid hs7
      have Hd2 := Go.Lib.hid hd2
      clear hd7 ho7 hs7 hu7 k1 k2 k3 k4 hd2
      go_wp2_with fail
      refine CF.out.mono ?_
      rintro e w8 ⟨rfl, rfl⟩
      go_wp2_with fail
      go_ret
      have ho3 := HO7.out.more (m := [d, g, p]) (by intro i hi; simp at hi ⊢; rcases hi with h | h <;> simp [h])
      exact ⟨ho3, HTB.out _ ho3, .inl ⟨Hd2.out, rfl, HD7.out, HS7.out⟩⟩
    · have hd2' : L.tick.dead = false := by simpa using hd2
      have CF := Go.Lib.hid (dflush_c hd7 hd2' HTC.out)
      have HD7 := Go.Lib.hid hd7
      have HS7 := Go.Lib.hid hs7
      have Hd2 := Go.Lib.hid hd2'
      clear hd7 ho7 hs7 hu7 k1 k2 k3 k4 hd2 hd2'
      go_wp2_with fail
      refine CF.out.mono ?_
      rintro e w8 ⟨rfl, hd8, ht8⟩
      have hs8 := HS7.out.two HD7.out ht8
      have ho8 := HO7.out.trans (Offs.of_two (l := [d, g]) ht8 (by simp) (by simp))
      have CC := Go.Lib.hid (bclone_c _ _ w8 (HV.out w8 ho8) (by have := Hl40.out; omega))
      have hd8 := hd8.congr HFL.out
      have HD8 := Go.Lib.hid hd8
      have HS8 := Go.Lib.hid hs8
      have HO8 := Go.Lib.hid ho8
      clear hd8 hs8 ho8 ht8 CF HD7 HS7 HO7
      go_wp2_with fail
      refine CC.out.mono ?_
      rintro e w9 ⟨y, rfl, hy9, hb9⟩
      obtain ⟨ya, yn, yc, rfl⟩ := hy9.tx.form
      have hs9 := HS8.out.below hb9
      have hd9 := HD8.out.below hb9
      have ho9 := (HO8.out.more (m := [d, g, p]) (by intro i hi; simp at hi ⊢; rcases hi with h | h <;> simp [h])).trans (Offs.of_below hb9)
      obtain ⟨u9, hu9, j0, j1, j2, j3, j4⟩ := hs9.cells
      have g2 := hs9.frozen 2
      have g3 := hs9.frozen 3
      have g4 := hs9.frozen 4
      have hst := hs9.store (x := ⟨s, l, t⟩) HFX.out hy9.tx
      have HST := Go.Lib.hid hst.1
      have HOF := Go.Lib.hid hst.2
      have HO9 := Go.Lib.hid (ho9.trans (hst.2.more (by simp)))
      have HAP9 := Go.Lib.hid (hs9.apart hd9)
      have HD9 := Go.Lib.hid (hd9.offs hst.2 (by simp [Ne.symm (hs9.apart hd9).1]) (by simp [Ne.symm (hs9.apart hd9).2]))
      clear hs9 hd9 ho9 hu9 hst hy9 hb9 CC HS8 HD8 HO8 j0 j1
      go_wp2_with fail
      go_ret
      exact ⟨HO9.out, HTB.out _ HO9.out, .inr ⟨Hd2.out, rfl, HD9.out, HST.out⟩⟩
end

end Go.Proofs.YtiejjiccncmeiaaDoor
