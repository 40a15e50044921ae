/-
  The laws' Same.
-/
import Derived.Test.YtmphcpggfgehhaaBof
import Derived.Test.YtmphcpggfgehhaaBitO
import Derived.Test.YtmphcpggfgehhaaRBytes
import Derived.Test.YtmphcpggfgehhaaDraw
import Derived.Deep.DeepCutAuto
namespace Go.Proofs.Ytmphcpggfgehhaa
open Go.RowKit

def V9 (b : Nat) (ad : Option Addr) (n cap : Nat) (l : List Bool) : Nat → World → Value → Prop
  | 6, _, v => v = .pointer (some ⟨b, 0, none⟩)
  | 7, _, v => v = .int .i64 (n : Int)
  | 8, _, v => v = .slice ad n cap
  | 9, _, v => v = .int .i64 (n : Int)
  | 10, _, v => v = .bool false
  | 11, _, v => v = .bool false
  | 12, _, v => v = .pointer (some ⟨b, 0, none⟩)
  | 13, w, v => RB w v (pack l)
  | 14, _, v => v = .string (str (pack l))
  | 15, _, v => v = .slice ad n cap
  | 16, w, v => RB w v (pack l)
  | 17, _, v => v = .string (str (pack l))
  | 18, _, v => v = .bool false
  | 19, _, v => v = .bool false
  | _, _, _ => True

theorem V9_below (b : Nat) (ad : Option Addr) (n cap : Nat) (l : List Bool) : ∀ (i : Nat) (w w' : World) (v : Value), V9 b ad n cap l i w v → Below w.heap.size w w' → V9 b ad n cap l i w' v := by
  intro i w w' v h hb
  unfold V9 at h ⊢
  split at h <;> first | exact h | trivial | exact RB.below h hb | exact Own.below h hb

set_option maxHeartbeats 1000000 in
set_option maxRecDepth 100000 in
/-- Just those bits. -/
theorem same_c (v : Value) (l : List Bool) (w : World) (B b : Nat) (u : Value) (hbt : BT w B b u l) (h : RV w v (zb l)) (hl : l.length ≤ 1000000) :
    Calls Try.prog 12 #[.pointer (some ⟨b, 0, none⟩), v] w fun e w' => e = .returned (.bool true) ∧ Below w.heap.size w w' := by
  obtain ⟨ad, cap, rfl, -, -⟩ := h.zbForm
  have H := Go.Lib.hid h
  have HBT := Go.Lib.hid hbt
  have CL : ∀ w6, Below w.heap.size w w6 → Calls Try.prog 18 #[.pointer (some ⟨b, 0, none⟩)] w6 fun e w' => e = .returned (.int .i64 (l.length : Int)) ∧ Below w6.heap.size w6 w' := fun w6 hb6 => (len_c w6 _ _ _ _ _ (HBT.out.below hb6)).mono fun e w7 h => ⟨h.1, h.2 ▸ Below.refl _ _⟩
  have hpl : (pack l).length ≤ 140737488355328 := by rw [pack_length]; omega
  obtain ⟨n, hn⟩ : ∃ n, n = l.length := ⟨_, rfl⟩
  rw [← hn] at CL
  have Hn := Go.Lib.hid hn
  have CL := Go.Lib.hid CL
  have Hpl := Go.Lib.hid hpl
  rw [← hn]
  clear h hbt hpl hn
  go_enter Try.func12, Try.ntmps12
  go_upto_region 1 with (fail)
  refine wp_region_each (by kernel_rfl) (V9 b ad n cap l) (V9_below b ad n cap l) (by decide +kernel) (by decide +kernel) (by rfl) [6, 7, 8, 9, 10, 11, 12, 13, 14, 15, 16, 17, 18, 19] (by rfl) ?_ ?_
  · intro i o ho a w6 hb6 hlen hg
    have HR := H.out
    rw [← Hn.out] at HR
    match i, ho with
    | 0, ho =>
      obtain rfl := Option.some.inj ho
      have h0 := given_old hg 0 (by decide +kernel)
      clear hg
      exact st_yield ho (wanted_none rfl) (.pointer (some ⟨b, 0, none⟩)) w6 (by simp [execOp, Act.eval, h0, go_sem]) ⟨_, rfl, Below.refl _ _, by rintro t' ⟨⟩; rfl⟩
    | 1, ho =>
      obtain rfl := Option.some.inj ho
      obtain ⟨_, h6, rfl⟩ := given_fed hg 6 (by decide +kernel)
      clear hg
      exact st_enter (w1 := w6) ho (wanted_none rfl) 18 #[.pointer (some ⟨b, 0, none⟩)] (by simp [execOp, Act.eval, h6, resolve, go_sem]) ((CL.out w6 hb6).mono (by rintro e w7 ⟨rfl, hb7⟩; exact ⟨_, rfl, _, rfl, hb7, by rintro t' ⟨⟩; rfl⟩))
    | 2, ho =>
      obtain rfl := Option.some.inj ho
      have h1 := given_old hg 1 (by decide +kernel)
      clear hg
      exact st_yield ho (wanted_none rfl) (.slice ad n cap) w6 (by simp [execOp, Act.eval, h1, go_sem]) ⟨_, rfl, Below.refl _ _, by rintro t' ⟨⟩; rfl⟩
    | 3, ho =>
      obtain rfl := Option.some.inj ho
      obtain ⟨_, h8, rfl⟩ := given_fed hg 8 (by decide +kernel)
      clear hg
      exact st_yield ho (wanted_none rfl) (.int .i64 (n : Int)) w6 (by simp [execOp, Act.eval, h8, go_sem, resolve, invoke, builtin]) ⟨_, rfl, Below.refl _ _, by rintro t' ⟨⟩; rfl⟩
    | 4, ho =>
      obtain rfl := Option.some.inj ho
      obtain ⟨_, h7, rfl⟩ := given_fed hg 7 (by decide +kernel)
      obtain ⟨_, h9, rfl⟩ := given_fed hg 9 (by decide +kernel)
      clear hg
      exact st_yield ho (wanted_none rfl) (.bool false) w6 (by simp [execOp, Act.eval, h7, h9, go_sem]) ⟨_, rfl, Below.refl _ _, by rintro t' ⟨⟩; rfl⟩
    | 5, ho =>
      obtain rfl := Option.some.inj ho
      obtain ⟨_, h10, rfl⟩ := given_fed hg 10 (by decide +kernel)
      clear hg
      exact st_yield ho (wanted_none rfl) (.bool false) w6 (by simp [execOp, Act.eval, h10, go_sem]) ⟨_, rfl, Below.refl _ _, by rintro t' ⟨⟩; rfl⟩
    | 6, ho =>
      obtain rfl := Option.some.inj ho
      have h0 := given_old hg 0 (by decide +kernel)
      obtain ⟨_, h11, rfl⟩ := given_fed hg 11 (by decide +kernel)
      clear hg
      exact st_yield ho (wanted_some rfl rfl h11 rfl) (.pointer (some ⟨b, 0, none⟩)) w6 (by simp [execOp, Act.eval, h0, go_sem]) ⟨_, rfl, Below.refl _ _, by rintro t' ⟨⟩; rfl⟩
    | 7, ho =>
      obtain rfl := Option.some.inj ho
      obtain ⟨_, h12, rfl⟩ := given_fed hg 12 (by decide +kernel)
      obtain ⟨_, h11, rfl⟩ := given_fed hg 11 (by decide +kernel)
      clear hg
      exact st_enter (w1 := w6) ho (wanted_some rfl rfl h11 rfl) 22 #[.pointer (some ⟨b, 0, none⟩)] (by simp [execOp, Act.eval, h12, resolve, go_sem]) ((bytes_c w6 _ _ _ _ _ (HBT.out.below hb6) Hpl.out).mono (by rintro e w7 ⟨v, rfl, hown, hb7⟩; exact ⟨v, rfl, _, rfl, hb7, by rintro t' ⟨⟩; exact hown.rb⟩))
    | 8, ho =>
      obtain rfl := Option.some.inj ho
      obtain ⟨v13, h13, p13⟩ := given_fed hg 13 (by decide +kernel)
      obtain ⟨_, h11, rfl⟩ := given_fed hg 11 (by decide +kernel)
      clear hg
      have cv := run_string_RB w6 46 5 9 Try.underlying46 Try.underlying5 Try.underlying9 v13 (pack l) p13
      exact st_yield ho (wanted_some rfl rfl h11 rfl) (.string (str (pack l))) w6 (by simp [execOp, Act.eval, h13, cv]) ⟨_, rfl, Below.refl _ _, by rintro t' ⟨⟩; rfl⟩
    | 9, ho =>
      obtain rfl := Option.some.inj ho
      have h1 := given_old hg 1 (by decide +kernel)
      obtain ⟨_, h11, rfl⟩ := given_fed hg 11 (by decide +kernel)
      clear hg
      exact st_yield ho (wanted_some rfl rfl h11 rfl) (.slice ad n cap) w6 (by simp [execOp, Act.eval, h1, go_sem]) ⟨_, rfl, Below.refl _ _, by rintro t' ⟨⟩; rfl⟩
    | 10, ho =>
      obtain rfl := Option.some.inj ho
      obtain ⟨_, h15, rfl⟩ := given_fed hg 15 (by decide +kernel)
      obtain ⟨_, h11, rfl⟩ := given_fed hg 11 (by decide +kernel)
      clear hg
      exact st_enter (w1 := w6) ho (wanted_some rfl rfl h11 rfl) 23 #[.slice ad n cap] (by simp [execOp, Act.eval, h15, resolve, go_sem]) ((rbitbytes_c (.slice ad n cap) l w6 (HR.below hb6) hl).mono (by rintro e w7 ⟨v, rfl, hown, hb7⟩; exact ⟨v, rfl, _, rfl, hb7, by rintro t' ⟨⟩; exact hown.rb⟩))
    | 11, ho =>
      obtain rfl := Option.some.inj ho
      obtain ⟨v16, h16, p16⟩ := given_fed hg 16 (by decide +kernel)
      obtain ⟨_, h11, rfl⟩ := given_fed hg 11 (by decide +kernel)
      clear hg
      have cv := run_string_RB w6 46 5 9 Try.underlying46 Try.underlying5 Try.underlying9 v16 (pack l) p16
      exact st_yield ho (wanted_some rfl rfl h11 rfl) (.string (str (pack l))) w6 (by simp [execOp, Act.eval, h16, cv]) ⟨_, rfl, Below.refl _ _, by rintro t' ⟨⟩; rfl⟩
    | 12, ho =>
      obtain rfl := Option.some.inj ho
      obtain ⟨_, h14, rfl⟩ := given_fed hg 14 (by decide +kernel)
      obtain ⟨_, h17, rfl⟩ := given_fed hg 17 (by decide +kernel)
      obtain ⟨_, h11, rfl⟩ := given_fed hg 11 (by decide +kernel)
      clear hg
      exact st_yield ho (wanted_some rfl rfl h11 rfl) (.bool false) w6 (by simp [execOp, Act.eval, h14, h17, go_sem]) ⟨_, rfl, Below.refl _ _, by rintro t' ⟨⟩; rfl⟩
    | 13, ho =>
      obtain rfl := Option.some.inj ho
      obtain ⟨_, h11, rfl⟩ := given_fed hg 11 (by decide +kernel)
      obtain ⟨_, h18, rfl⟩ := given_fed hg 18 (by decide +kernel)
      clear hg
      exact st_yield ho (wanted_none rfl) (.bool false) w6 (by simp [execOp, Act.eval, h11, h18, go_sem]) ⟨_, rfl, Below.refl _ _, by rintro t' ⟨⟩; rfl⟩
    | n + 14, ho => simp at ho
  · intro f w6 hb6 hv
    have h19 := hv 19 (by decide)
    simp only [V9] at h19
    clear hv CL Hpl
    unfold putAll
    simp only [List.foldl]
    simp only [h19]
    go_simp
    go_wp2_with fail
    go_loopw [5] (fun i wr => ∃ k : Nat, k ≤ n + 2 ∧ i = .int .i64 ((k : Int) - 1) ∧ Below w.heap.size w wr) (fun i _ => n + 2 - (intOf i + 1).toNat)
    case atStart => exact ⟨0, by omega, rfl, hb6⟩
    case round =>
      obtain ⟨k, hk, rfl, hb⟩ := hrel
      have CA := Go.Lib.hid fun i => at_c i wr _ _ _ _ (HBT.out.below hb) (by omega)
      have hn63 : n ≤ 1000000 := by rw [Hn.out]; exact hl
      rcases Nat.lt_trichotomy k (n + 2) with h1 | h1 | h1
      · by_cases h0 : k = 0
        · subst h0
          have C := CA.out (-1)
          have e : atBit l (-1) = false := rfl
          rw [e] at C
          have C := Go.Lib.hid C
          have e1 : (((0 : Nat) : Int) - 1) = -1 := by omega
          rw [e1]
          clear e e1 CA h1
          go_wp2_with fail
          refine C.out.mono ?_
          rintro e w2 ⟨rfl, k2⟩
          have hb2 := hb.trans (k2.mono hb.size)
          clear C k2 hb
          go_wp2_with fail
          go_roundw
          case rel => exact ⟨1, by omega, by rfl, hb2⟩
          case measure => simp only [intOf]; omega
        obtain ⟨j, rfl⟩ : ∃ j, k = j + 1 := ⟨k - 1, by omega⟩
        have e1 : (((j + 1 : Nat) : Int) - 1) = (j : Int) := by omega
        rw [e1]
        have C := CA.out (j : Int)
        clear e1 CA h0
        by_cases hj : j < n
        · have hjl : j < l.length := by rw [← Hn.out]; exact hj
          have e : atBit l (j : Int) = l[j] := by simp [atBit, hjl]
          obtain ⟨bb, o, hbo, hc, hbl⟩ := H.out.zbAt j hjl
          subst hbo
          have hd := (hb.cell (p := ⟨bb, o + j, none⟩) hbl).trans hc
          rw [e] at C
          generalize l[j] = t at *
          have hjI : (j : Int) < (n : Int) := by omega
          have C := Go.Lib.hid C
          have Hd := Go.Lib.hid hd
          clear e hc hd
          go_wp2_with fail
          refine C.out.mono ?_
          rintro e w2 ⟨rfl, k2⟩
          have hd2 := (k2.cell (p := ⟨bb, o + j, none⟩) (World.block_lt_of_cell? wr _ Hd.out)).trans Hd.out
          have hb2 := hb.trans (k2.mono hb.size)
          clear C k2 hb Hd
          have ht : (t != t) = false := by cases t <;> rfl
          go_wp2_with fail
          go_roundw
          case rel => exact ⟨j + 2, by omega, by congr 1; omega, hb2⟩
          case measure => simp only [intOf]; omega
        · have e : atBit l (j : Int) = false := by
            unfold atBit
            rw [Int.toNat_natCast, List.getD_eq_getElem?_getD, List.getElem?_eq_none (by rw [← Hn.out]; omega)]
            simp
          rw [e] at C
          have C := Go.Lib.hid C
          obtain rfl : j = n := by omega
          clear e hj
          go_wp2_with fail
          refine C.out.mono ?_
          rintro e w2 ⟨rfl, k2⟩
          have hb2 := hb.trans (k2.mono hb.size)
          clear C k2 hb
          go_wp2_with fail
          go_roundw
          case rel => exact ⟨j + 2, by omega, by congr 1; omega, hb2⟩
          case measure => simp only [intOf]; omega
      · subst h1
        clear CA
        have e1 : (((n + 2 : Nat) : Int) - 1) = (n : Int) + 1 := by omega
        rw [e1]
        clear e1
        go_wp2_with fail
        go_ret
        exact ⟨rfl, hb⟩
      · omega

end Go.Proofs.Ytmphcpggfgehhaa
