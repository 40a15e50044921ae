/-
  The reference's GetGamma.
-/
import Derived.Test.YtmphcpggfgehhaaRGam
namespace Go.Proofs.Ytmphcpggfgehhaa
open Go.RowKit

set_option maxRecDepth 100000 in
theorem rgetg_neg (v : Value) (i : Int) (l : List Bool) (w : World) (h : i < 0) : Calls Try.prog 29 #[v, .int .i64 i] w fun e w' => e = .returned (getGV l i) ∧ w = w' := by
  rw [getGV_neg h]
  go_enter Try.func29, Try.ntmps29
  go_wp2_with fail
  go_ret3
  exact ⟨rfl, rfl⟩

theorem val_top (l : List Bool) (i k : Nat) (h : i < l.length) (ht : l[i] = true) : 1 ≤ val ((l.drop i).take (k + 1)) := by
  rw [List.drop_eq_getElem_cons h, List.take_succ_cons, ht, val_cons]
  have : 0 < 2 ^ ((l.drop (i + 1)).take k).length := Nat.pow_pos (by omega)
  have e : bv true = 1 := rfl
  rw [e, Nat.one_mul]
  omega

set_option maxHeartbeats 2000000 in
set_option maxRecDepth 100000 in
theorem rgetg_c (v : Value) (a : Nat) (l : List Bool) (w : World) (h : RV w v (zb l)) (ha : a ≤ 9223372036854775807) (hl : l.length ≤ 1000000000) :
    Calls Try.prog 29 #[v, .int .i64 (a : Int)] w fun e w' => e = .returned (getGV l (a : Int)) ∧ w = w' := by
  obtain ⟨ad, cap, rfl, -, -⟩ := h.zbForm
  have H := Go.Lib.hid h
  have Cno := Go.Lib.hid fun i n hno => rnum_no _ l i n w h hno
  have Cyes := Go.Lib.hid fun i n hn hi => rnum_c _ l i n w h hn hi
  have ha' : (a : Int) ≤ 9223372036854775807 := by omega
  clear h
  go_enter Try.func29, Try.ntmps29
  go_wp2_with fail
  go_loop [7] (fun k' => ∃ k : Nat, k' = .int .i64 (k : Int) ∧ k ≤ 64 ∧ ∀ j, j < k → l.getD (a + j) true = false) (fun k' => 64 - (intOf k').toNat)
  case atStart => exact ⟨0, rfl, by omega, fun j hj => by omega⟩
  case round =>
    obtain ⟨k, rfl, hk, hno⟩ := hrel
    by_cases h64 : k < 64
    · by_cases hin : a + k < l.length
      · obtain ⟨b, o, rfl, hc, -⟩ := H.out.zbAt (a + k) hin
        have hak : (a : Int) + (k : Int) < (l.length : Int) := by omega
        cases hb : l[a + k] with
        | false =>
          rw [hb] at hc
          have Hno : Hid (∀ j, j < k + 1 → l.getD (a + j) true = false) := by
            intro j hj
            rcases Nat.lt_or_ge j k with h1 | h1
            · exact hno j h1
            · obtain rfl : j = k := by omega
              rw [List.getD_eq_getElem?_getD, List.getElem?_eq_getElem hin]
              exact hb
          clear hb hno
          go_wp2_with fail
          go_round
          case rel => exact ⟨k + 1, by go_num, by omega, Hno.out⟩
          case measure => simp only [intOf]; omega
        | true =>
          rw [hb] at hc
          have hn : noughts (l.drop a) = k := noughts_eq l a k hno (by rw [List.getD_eq_getElem?_getD, List.getElem?_eq_getElem hin]; exact hb)
          have Htop := Go.Lib.hid (val_top l (a + k) k hin hb)
          clear hb hno
          by_cases hfit : a + 2 * k + 1 ≤ l.length
          · have hg : getG l a = some (val ((l.drop (a + k)).take (k + 1)), a + 2 * k + 1) := by
              unfold getG
              rw [hn, if_neg (by omega), if_pos hfit]
            have Hg := Go.Lib.hid (getGV_some hg)
            have C := Cyes.out (a + k) (k + 1) (by omega) (by omega)
            clear Cno Cyes hg hn
            generalize val ((l.drop (a + k)).take (k + 1)) = x at *
            have hx : ((x : Int) == 0) = false := by have := Htop.out; simp; omega
            rw [show ((a + k : Nat) : Int) = (a : Int) + (k : Int) by omega, show ((k + 1 : Nat) : Int) = (k : Int) + 1 by omega] at C
            have C2 := Go.Lib.hid C
            clear C
            have hne : ((k : Int) == 64) = false := by simp; omega
            go_wp2_with fail
            refine C2.out.mono ?_
            rintro e w1 ⟨rfl, rfl⟩
            clear C2 hc
            go_wp2_with fail
            go_ret3
            exact ⟨by rw [Hg.out]; rfl, rfl⟩
          · have hg : getG l a = none := by
              unfold getG
              rw [hn, if_neg (by omega), if_neg hfit]
            have Hg := Go.Lib.hid (getGV_none hg)
            have C2 := Go.Lib.hid (Cno.out ((a : Int) + (k : Int)) ((k : Int) + 1) (by omega))
            have hne : ((k : Int) == 64) = false := by simp; omega
            clear Cno Cyes hg hn
            go_wp2_with fail
            refine C2.out.mono ?_
            rintro e w1 ⟨rfl, rfl⟩
            clear C2 hc
            go_wp2_with fail
            go_ret3
            exact ⟨by rw [Hg.out]; rfl, rfl⟩
      · have hn : noughts (l.drop a) = k := noughts_eq l a k hno (by rw [List.getD_eq_getElem?_getD, List.getElem?_eq_none (by omega)]; rfl)
        have hg : getG l a = none := by
          unfold getG
          rw [hn, if_neg (by omega), if_neg (by omega)]
        have Hg := Go.Lib.hid (getGV_none hg)
        have hne : ((k : Int) == 64) = false := by simp; omega
        have hk0 : 0 < k → a + k ≤ l.length := fun h0 => by
          have h1 := hno (k - 1) (by omega)
          rcases Nat.lt_or_ge (a + (k - 1)) l.length with h2 | h2
          · omega
          · rw [List.getD_eq_getElem?_getD, List.getElem?_eq_none h2] at h1; cases h1
        have hak : (a : Int) + (k : Int) ≤ 9223372036854775807 := by
          rcases Nat.eq_zero_or_pos k with h0 | h0
          · subst h0; omega
          · have := hk0 h0; omega
        have C2 := Go.Lib.hid (Cno.out ((a : Int) + (k : Int)) ((k : Int) + 1) (by omega))
        clear Cno Cyes hg hn hno hk0
        go_wp2_with fail
        refine C2.out.mono ?_
        rintro e w1 ⟨rfl, rfl⟩
        clear C2
        go_wp2_with fail
        go_ret3
        exact ⟨by rw [Hg.out]; rfl, rfl⟩
    · obtain rfl : k = 64 := by omega
      have hg : getG l a = none := by
        unfold getG
        rw [if_pos (noughts_step l a 64 hno)]
      have Hg := Go.Lib.hid (getGV_none hg)
      clear hg hno Cno Cyes
      go_wp2_with fail
      go_ret3
      exact ⟨by rw [Hg.out]; rfl, rfl⟩

theorem rgetg_any (v : Value) (i : Int) (l : List Bool) (w : World) (h : RV w v (zb l)) (h1 : i ≤ 9223372036854775807) (hl : l.length ≤ 1000000000) :
    Calls Try.prog 29 #[v, .int .i64 i] w fun e w' => e = .returned (getGV l i) ∧ w = w' := by
  by_cases h0 : i < 0
  · exact rgetg_neg v i l w h0
  · obtain ⟨a, rfl⟩ : ∃ a : Nat, i = (a : Int) := ⟨i.toNat, by omega⟩
    exact rgetg_c v a l w h (by omega) hl
theorem getG_bound {l : List Bool} {i x e : Nat} (h : getG l i = some (x, e)) : e ≤ l.length ∧ x < 18446744073709551616 := by
  unfold getG at h
  split at h
  · cases h
  · rename_i h1
    split at h
    · simp only [Option.some.injEq, Prod.mk.injEq] at h
      obtain ⟨rfl, rfl⟩ := h
      refine ⟨by assumption, ?_⟩
      have h2 : 2 ^ ((l.drop (i + noughts (l.drop i))).take (noughts (l.drop i) + 1)).length ≤ 2 ^ 64 := Nat.pow_le_pow_right (by omega) (by simp only [List.length_take]; omega)
      exact Nat.lt_of_lt_of_le (val_lt _) h2
    · cases h

end Go.Proofs.Ytmphcpggfgehhaa
