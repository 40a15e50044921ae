/-
  The contract of Rank.Place.
-/
import Derived.Test.YtiakpjkpmepmoaaRK
import Derived.Test.YtiakpjkpmepmoaaPlaceW
import Derived.Test.YtiakpjkpmepmoaaSearch
import Derived.Deep.DeepMust
namespace Go.Proofs.Ytiakpjkpmepmoaa
open Go.RowKit

set_option maxRecDepth 100000 in
/-- The function that Place hands to sort.Search. -/
theorem place1_c (i : Nat) (b1 b2 rb g cap n : Nat) (av : Nat) (nI : Int) (w : World) (hi : i < n) (h1 : w.cell? ⟨b1, 0, none⟩ = some (.pointer (some ⟨rb, 0, none⟩))) (h2 : w.cell? ⟨b2, 0, none⟩ = some (.int .i64 nI))
    (h3 : w.cell? ⟨rb, 1, none⟩ = some (.slice (some ⟨g, 0, none⟩) n cap)) (h4 : w.cell? ⟨g, i, none⟩ = some (.int .i64 (av : Int))) :
    Calls Try.prog 17 (#[.int .i64 (i : Int)] ++ #[.pointer (some ⟨b1, 0, none⟩), .pointer (some ⟨b2, 0, none⟩)]) w fun e w' => e = .returned (.bool (decide (nI < (av : Int)))) ∧ Below w.heap.size w w' := by
  have hix := run_idxA g n cap i hi
  go_enter Try.func17, Try.ntmps17
  go_wp2_with fail
  go_quiet (fail)
  go_wp2_with fail
  go_ret
  exact ⟨rfl, below_drewN (Below.refl _ _) _⟩

set_option maxHeartbeats 1000000 in
set_option maxRecDepth 100000 in
theorem rplace_c (n : Int) (w : World) (B : Nat) (r : Option Addr) (l : List Bool) (h : RK w B r l) (h0 : -9223372036854775808 ≤ n) (h1 : n ≤ 9223372036854775807) :
    Calls Try.prog 10 #[.pointer r, .int .i64 n] w fun e w' => e = .returned (.int .i64 (placeI l n)) ∧ Below w.heap.size w w' := by
  obtain ⟨b1, hb1⟩ : ∃ b, b = w.heap.size := ⟨_, rfl⟩
  obtain ⟨W0, hW0⟩ : ∃ W, W = (w.alloc (.cells #[.pointer r] 24)).alloc (.cells #[.int .i64 n] 3) := ⟨_, rfl⟩
  have c1 : W0.cell? ⟨b1, 0, none⟩ = some (.pointer r) := by
    rw [hW0, hb1, World.cell?_alloc_past _ _ _ (by simp)]
    rw [World.cell?_alloc_at _ _ _ _ (by simp)]
    rfl
  have c2 : W0.cell? ⟨b1 + 1, 0, none⟩ = some (.int .i64 n) := by
    rw [hW0, hb1, World.cell?_alloc_at _ _ _ _ (by simp)]
    rfl
  have hb0 : Below w.heap.size w W0 := by rw [hW0]; exact ((Below.refl _ w).alloc (Nat.le_refl _) _).alloc (by simp) _
  have HK := Go.Lib.hid (h.below hb0)
  have hl := h.1
  have HB1 := Go.Lib.hid hb1
  have HW0 := Go.Lib.hid hW0
  clear h hb1 hW0
  by_cases hn : n < 0
  · rw [placeI_neg hn]
    go_enter Try.func10, Try.ntmps10
    go_upto_region 1 with (fail)
    rw [← HW0.out, ← HB1.out]
    go_quiet (fail)
    go_wp2_with fail
    go_ret
    exact ⟨rfl, hb0.trans (below_drewN (Below.refl _ _) _)⟩
  · obtain ⟨k, rfl⟩ : ∃ k : Nat, n = (k : Int) := ⟨n.toNat, by omega⟩
    have hones := ones_le l l.length
    have hL := fun (W : World) (h : RK W B r l) => rlen_w W B r l h
    have hO := fun (W : World) (h : RK W B r l) => rones_d (l.length : Int) W B r l h (by omega) (by omega)
    rw [onesI_nat, ones_len] at hO
    rw [ones_len] at hones
    have HL : Hid (∀ m, Calls Try.prog 11 #[.pointer r] (W0.drewN m) fun e w' => e = .returned (.int .i64 (l.length : Int)) ∧ ∃ k, w' = W0.drewN k) := Go.Lib.hid fun m => Calls.quiet_of_same ((hL _ (HK.out.below (below_drewN (Below.refl _ _) m))).mono fun _ _ ⟨h, hw⟩ => ⟨h, hw.symm⟩)
    have HO : Hid (∀ m, Calls Try.prog 9 #[.pointer r, .int .i64 (l.length : Int)] (W0.drewN m) fun e w' => e = .returned (.int .i64 (l.count true : Int)) ∧ ∃ k, w' = W0.drewN k) := Go.Lib.hid fun m => Calls.quiet_of (hO _ (HK.out.below (below_drewN (Below.refl _ _) m)))
    clear hL hO
    by_cases hk : l.count true ≤ k
    · rw [placeI_none ((place_none l k).2 hk)]
      generalize l.count true = c at *
      generalize l.length = len at *
      go_enter Try.func10, Try.ntmps10
      go_upto_region 1 with (fail)
      rw [← HW0.out, ← HB1.out]
      go_quiet (first
        | (go_at_call 11; exact HL.out _)
        | (go_at_call 9; exact HO.out _))
      go_wp2_with fail
      go_ret
      exact ⟨rfl, hb0.trans (below_drewN (Below.refl _ _) _)⟩
    · have hk : k < l.count true := by omega
      obtain ⟨P, hP⟩ : ∃ P, place l k = some P := by
        cases h : place l k with
        | some P => exact ⟨P, rfl⟩
        | none => have := (place_none l k).1 h; omega
      rw [placeI_some hP]
      have HP := Go.Lib.hid hP
      clear hP
      rcases HK.out.2 with ⟨rfl, rfl⟩ | ⟨rb, v1, v2, rfl, hrw⟩
      · simp at hk
      have hlen : 0 < l.length := by omega
      have Hnw := Go.Lib.hid (show nw l = (l.length + 63) / 64 from rfl)
      have hnw0 : 0 < nw l := by rw [Hnw.out]; omega
      have hnwb : nw l ≤ 15626 := by rw [Hnw.out]; omega
      obtain ⟨g1, p1, e1, l1, -, d1⟩ := hrw.ws.open (by rw [zi_length, words_length]; exact hnw0)
      obtain ⟨g2, p2, e2, l2, -, d2⟩ := hrw.hs.open (by rw [zi_length, aheads_length]; exact hnw0)
      rw [zi_length, words_length] at e1
      rw [zi_length, aheads_length] at e2
      subst e1 e2
      have D1 : ∀ q, q < nw l → W0.cell? ⟨g1, q, none⟩ = some (.int .u64 (val (wbits l q) : Int)) := fun q hq => by
        have := d1 q (by rw [zi_length, words_length]; exact hq)
        rwa [zi_at _ _ _ (by rw [words_length]; exact hq), words_at l _ _ hq] at this
      have D2 : ∀ q, q < nw l → W0.cell? ⟨g2, q, none⟩ = some (.int .i64 (ones l (64 * q) : Int)) := fun q hq => by
        have := d2 q (by rw [zi_length, aheads_length]; exact hq)
        rwa [zi_at _ _ _ (by rw [aheads_length]; exact hq), aheads_at l _ _ hq] at this
      clear d1 d2
      have r0 := hrw.c0
      have r1 := hrw.c1
      have hrbl := hrw.lt
      have hb1l := World.block_lt_of_cell? _ _ c1
      have hb2l := World.block_lt_of_cell? _ _ c2
      have CS := fun (m : Nat) => search_c 17 #[.pointer (some ⟨b1, 0, none⟩), .pointer (some ⟨b1 + 1, 0, none⟩)] (nw l) (fun i => decide ((k : Int) < (ones l (64 * i) : Int))) (W0.drewN m) (by omega) (enters_of Try.func17 (by kernel_rfl) rfl)
        (fun i W hi hW => by
          have hW2 : Below W0.heap.size W0 W := (below_drewN (Below.refl _ W0) m).trans hW
          exact place1_c i b1 (b1 + 1) rb g2 p2 (nw l) (ones l (64 * i)) (k : Int) W hi ((hW2.cell (p := ⟨b1, 0, none⟩) hb1l).trans c1) ((hW2.cell (p := ⟨b1 + 1, 0, none⟩) hb2l).trans c2) ((hW2.cell (p := ⟨rb, 1, none⟩) hrbl).trans r1) ((hW2.cell (p := ⟨g2, i, none⟩) l2).trans (D2 i hi)))
        (fun a b hab _ ha => by
          have := ones_mono l (show 64 * a ≤ 64 * b by omega)
          simp only [decide_eq_true_eq] at ha ⊢
          omega)
      have CS := Go.Lib.hid CS
      have HD1 := Go.Lib.hid D1
      have HD2 := Go.Lib.hid D2
      have HRW := Go.Lib.hid hrw
      have HKc := Go.Lib.hid hk
      clear D1 D2 hrw
      have hcn := hk
      generalize hcc : l.count true = c at *
      have Hcc := Go.Lib.hid hcc
      generalize hln : l.length = len at *
      have Hln := Go.Lib.hid hln
      clear hcc hln
      generalize hnn : nw l = nn at *
      have Hnn := Go.Lib.hid hnn
      clear hnn hk
      go_enter Try.func10, Try.ntmps10
      go_upto_region 1 with (fail)
      rw [← HW0.out, ← HB1.out]
      go_quiet (first
        | (go_at_call 11; exact HL.out _)
        | (go_at_call 9; exact HO.out _))
      go_wp2_with fail
      refine (CS.out _).mono ?_
      rintro e w5 ⟨s, rfl, hs, hlo, hhi, hbs⟩
      have hW5 : Below W0.heap.size W0 w5 := (below_drewN (Below.refl _ W0) _).trans hbs
      have hs0 : 0 < s := by
        rcases Nat.eq_zero_or_pos s with h | h
        · subst h
          have := hhi 0 (Nat.le_refl _) hnw0
          rw [decide_eq_true_eq, show 64 * 0 = 0 from rfl, ones_zero] at this
          omega
        · exact h
      obtain ⟨q, rfl⟩ : ∃ q, s = q + 1 := ⟨s - 1, by omega⟩
      have hq1 : ones l (64 * q) ≤ k := by
        have := hlo q (by omega)
        simp only [decide_eq_false_iff_not] at this
        omega
      have hq2 : k < ones l (64 * (q + 1)) := by
        rcases Nat.lt_or_ge (q + 1) nn with h | h
        · have := hhi (q + 1) (Nat.le_refl _) h
          simp only [decide_eq_true_eq] at this
          omega
        · rw [ones_all l _ (by rw [Hln.out]; have := Hnw.out; omega), Hcc.out]
          exact hcn
      have hqn : q < nn := by omega
      have hall := ones_word_all l q
      obtain ⟨p, hp⟩ : ∃ p, place (wbits l q) (k - ones l (64 * q)) = some p := by
        cases h : place (wbits l q) (k - ones l (64 * q)) with
        | some p => exact ⟨p, rfl⟩
        | none => have := (place_none _ _).1 h; omega
      obtain rfl : P = 64 * q + p := by
        have := place_word l k q p hq1 hp
        rw [HP.out] at this
        exact Option.some.inj this
      have hp64 := (place_some hp).1
      rw [wbits_length] at hp64
      have CW := fun m => Go.Lib.hid (placew_c (wbits l q) (k - ones l (64 * q)) p (w5.drewN m) (wbits_length l q) hp)
      have x1 := (hW5.cell (p := ⟨g1, q, none⟩) l1).trans (HD1.out q hqn)
      have x2 := (hW5.cell (p := ⟨g2, q, none⟩) l2).trans (HD2.out q hqn)
      have y1 := (hW5.cell (p := ⟨rb, 0, none⟩) hrbl).trans r0
      have y2 := (hW5.cell (p := ⟨rb, 1, none⟩) hrbl).trans r1
      have z1 := (hW5.cell (p := ⟨b1, 0, none⟩) hb1l).trans c1
      have z2 := (hW5.cell (p := ⟨b1 + 1, 0, none⟩) hb2l).trans c2
      have ix1 := run_idxW g1 nn p1 q hqn
      have ix2 := run_idxA g2 nn p2 q hqn
      have hbb5 := hb0.trans (hW5.mono hb0.size)
      have hsub : (k : Int) - (ones l (64 * q) : Int) = ((k - ones l (64 * q) : Nat) : Int) := by omega
      have hres : IntKind.i64.wrap ((q : Int) * 64 + (p : Int)) = ((64 * q + p : Nat) : Int) := by rw [IntKind.wrap_i64]; omega
      generalize val (wbits l q) = x at *
      generalize k - ones l (64 * q) = j at *
      generalize ones l (64 * q) = o at *
      clear hlo hhi hall hp HP HK HO HL CS HD1 HD2 HRW hq2 c1 c2 r0 r1 hbs hW5 hb0
      go_wp2_with fail
      go_quiet ((go_at_call 18; exact Calls.quiet_of_same ((CW _).out.mono fun _ _ ⟨h, hw⟩ => ⟨h, hw.symm⟩)))
      go_wp2_with fail
      go_ret
      exact ⟨rfl, hbb5.trans (below_drewN (Below.refl _ _) _)⟩

end Go.Proofs.Ytiakpjkpmepmoaa
