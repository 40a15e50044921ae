/-
  The reference's GetGamma.
  The contracts of gamma: Len, Put, Get.
  The contracts of trie: what only reads: may, bit, fork, past, Check, Rank.
-/
import Derived.Test.YtibbligidncocaaM30
import Derived.Test.YtibbligidncocaaM27
import Derived.Test.YtibbligidncocaaM29
import Derived.Test.YtibbligidncocaaM08
import Derived.LoopTactic
namespace Go.Proofs.Ytibbligidncocaa
open Go.RowKit

set_option maxRecDepth 100000 in
theorem rgetg_neg (v : Value) (i : Int) (l : List Bool) (w : World) (h : i < 0) : Calls Try.prog 79 #[v, .int .i64 i] w fun e w' => e = .returned (getGV l i) ∧ w = w' := by
  rw [getGV_neg h]
  go_enter Try.func79, Try.ntmps79
  go_wp2_with fail
  go_ret3
  exact ⟨rfl, rfl⟩

theorem val_top (l : List Bool) (i k : Nat) (h : i < l.length) (ht : l[i] = true) : 1 ≤ val ((l.drop i).take (k + 1)) := by
  rw [List.drop_eq_getElem_cons h, List.take_succ_cons, ht, val_cons]
  have : 0 < 2 ^ ((l.drop (i + 1)).take k).length := Nat.pow_pos (by omega)
  have e : bv true = 1 := rfl
  rw [e, Nat.one_mul]
  omega

set_option maxHeartbeats 2000000 in
set_option maxRecDepth 100000 in
theorem rgetg_c (v : Value) (a : Nat) (l : List Bool) (w : World) (h : RV w v (zb l)) (ha : a ≤ 9223372036854775807) (hl : l.length ≤ 1000000000) :
    Calls Try.prog 79 #[v, .int .i64 (a : Int)] w fun e w' => e = .returned (getGV l (a : Int)) ∧ w = w' := by
  obtain ⟨ad, cap, rfl, -, -⟩ := h.zbForm
  have H := Go.Lib.hid h
  have Cno := Go.Lib.hid fun i n hno => rnum_no _ l i n w h hno
  have Cyes := Go.Lib.hid fun i n hn hi => rnum_c _ l i n w h hn hi
  have ha' : (a : Int) ≤ 9223372036854775807 := by omega
  clear h
  go_enter Try.func79, Try.ntmps79
  go_wp2_with fail
  go_loop [7] (fun k' => ∃ k : Nat, k' = .int .i64 (k : Int) ∧ k ≤ 64 ∧ ∀ j, j < k → l.getD (a + j) true = false) (fun k' => 64 - (intOf k').toNat)
  case atStart => exact ⟨0, rfl, by omega, fun j hj => by omega⟩
  case round =>
    obtain ⟨k, rfl, hk, hno⟩ := hrel
    by_cases h64 : k < 64
    · by_cases hin : a + k < l.length
      · obtain ⟨b, o, rfl, hc, -⟩ := H.out.zbAt (a + k) hin
        have hak : (a : Int) + (k : Int) < (l.length : Int) := by omega
        cases hb : l[a + k] with
        | false =>
          rw [hb] at hc
          have Hno : Hid (∀ j, j < k + 1 → l.getD (a + j) true = false) := by
            intro j hj
            rcases Nat.lt_or_ge j k with h1 | h1
            · exact hno j h1
            · obtain rfl : j = k := by omega
              rw [List.getD_eq_getElem?_getD, List.getElem?_eq_getElem hin]
              exact hb
          clear hb hno
          go_wp2_with fail
          go_round
          case rel => exact ⟨k + 1, by go_num, by omega, Hno.out⟩
          case measure => simp only [intOf]; omega
        | true =>
          rw [hb] at hc
          have hn : noughts (l.drop a) = k := noughts_eq l a k hno (by rw [List.getD_eq_getElem?_getD, List.getElem?_eq_getElem hin]; exact hb)
          have Htop := Go.Lib.hid (val_top l (a + k) k hin hb)
          clear hb hno
          by_cases hfit : a + 2 * k + 1 ≤ l.length
          · have hg : getG l a = some (val ((l.drop (a + k)).take (k + 1)), a + 2 * k + 1) := by
              unfold getG
              rw [hn, if_neg (by omega), if_pos hfit]
            have Hg := Go.Lib.hid (getGV_some hg)
            have C := Cyes.out (a + k) (k + 1) (by omega) (by omega)
            clear Cno Cyes hg hn
            generalize val ((l.drop (a + k)).take (k + 1)) = x at *
            have hx : ((x : Int) == 0) = false := by have := Htop.out; simp; omega
            rw [show ((a + k : Nat) : Int) = (a : Int) + (k : Int) by omega, show ((k + 1 : Nat) : Int) = (k : Int) + 1 by omega] at C
            have C2 := Go.Lib.hid C
            clear C
            have hne : ((k : Int) == 64) = false := by simp; omega
            go_wp2_with fail
            refine C2.out.mono ?_
            rintro e w1 ⟨rfl, rfl⟩
            clear C2 hc
            go_wp2_with fail
            go_ret3
            exact ⟨by rw [Hg.out]; rfl, rfl⟩
          · have hg : getG l a = none := by
              unfold getG
              rw [hn, if_neg (by omega), if_neg hfit]
            have Hg := Go.Lib.hid (getGV_none hg)
            have C2 := Go.Lib.hid (Cno.out ((a : Int) + (k : Int)) ((k : Int) + 1) (by omega))
            have hne : ((k : Int) == 64) = false := by simp; omega
            clear Cno Cyes hg hn
            go_wp2_with fail
            refine C2.out.mono ?_
            rintro e w1 ⟨rfl, rfl⟩
            clear C2 hc
            go_wp2_with fail
            go_ret3
            exact ⟨by rw [Hg.out]; rfl, rfl⟩
      · have hn : noughts (l.drop a) = k := noughts_eq l a k hno (by rw [List.getD_eq_getElem?_getD, List.getElem?_eq_none (by omega)]; rfl)
        have hg : getG l a = none := by
          unfold getG
          rw [hn, if_neg (by omega), if_neg (by omega)]
        have Hg := Go.Lib.hid (getGV_none hg)
        have hne : ((k : Int) == 64) = false := by simp; omega
        have hk0 : 0 < k → a + k ≤ l.length := fun h0 => by
          have h1 := hno (k - 1) (by omega)
          rcases Nat.lt_or_ge (a + (k - 1)) l.length with h2 | h2
          · omega
          · rw [List.getD_eq_getElem?_getD, List.getElem?_eq_none h2] at h1; cases h1
        have hak : (a : Int) + (k : Int) ≤ 9223372036854775807 := by
          rcases Nat.eq_zero_or_pos k with h0 | h0
          · subst h0; omega
          · have := hk0 h0; omega
        have C2 := Go.Lib.hid (Cno.out ((a : Int) + (k : Int)) ((k : Int) + 1) (by omega))
        clear Cno Cyes hg hn hno hk0
        go_wp2_with fail
        refine C2.out.mono ?_
        rintro e w1 ⟨rfl, rfl⟩
        clear C2
        go_wp2_with fail
        go_ret3
        exact ⟨by rw [Hg.out]; rfl, rfl⟩
    · obtain rfl : k = 64 := by omega
      have hg : getG l a = none := by
        unfold getG
        rw [if_pos (noughts_step l a 64 hno)]
      have Hg := Go.Lib.hid (getGV_none hg)
      clear hg hno Cno Cyes
      go_wp2_with fail
      go_ret3
      exact ⟨by rw [Hg.out]; rfl, rfl⟩

theorem rgetg_any (v : Value) (i : Int) (l : List Bool) (w : World) (h : RV w v (zb l)) (h1 : i ≤ 9223372036854775807) (hl : l.length ≤ 1000000000) :
    Calls Try.prog 79 #[v, .int .i64 i] w fun e w' => e = .returned (getGV l i) ∧ w = w' := by
  by_cases h0 : i < 0
  · exact rgetg_neg v i l w h0
  · obtain ⟨a, rfl⟩ : ∃ a : Nat, i = (a : Int) := ⟨i.toNat, by omega⟩
    exact rgetg_c v a l w h (by omega) hl
theorem getG_bound {l : List Bool} {i x e : Nat} (h : getG l i = some (x, e)) : e ≤ l.length ∧ x < 18446744073709551616 := by
  unfold getG at h
  split at h
  · cases h
  · rename_i h1
    split at h
    · simp only [Option.some.injEq, Prod.mk.injEq] at h
      obtain ⟨rfl, rfl⟩ := h
      refine ⟨by assumption, ?_⟩
      have h2 : 2 ^ ((l.drop (i + noughts (l.drop i))).take (noughts (l.drop i) + 1)).length ≤ 2 ^ 64 := Nat.pow_le_pow_right (by omega) (by simp only [List.length_take]; omega)
      exact Nat.lt_of_lt_of_le (val_lt _) h2
    · cases h

end Go.Proofs.Ytibbligidncocaa

namespace Go.Proofs.Ytibbligidncocaa
open Go.RowKit

/-- How many digits the bits' number has: as many as there are behind the noughts. -/
theorem digits_val : ∀ m : List Bool, digits (val m) + noughts m = m.length
  | [] => rfl
  | true :: m => by
    have h1 := val_lt m
    have h2 : val (true :: m) = 2 ^ m.length + val m := by rw [val_cons]; simp [bv]
    have h3 : digits (val (true :: m)) = m.length + 1 := digits_eq (by rw [h2]; omega) (by rw [h2, Nat.pow_succ]; omega)
    rw [h3]
    simp [noughts]
  | false :: m => by
    have h2 : val (false :: m) = val m := by rw [val_cons]; simp [bv]
    have ih := digits_val m
    have h3 : noughts (false :: m) = noughts m + 1 := by unfold noughts; rw [List.takeWhile_cons_of_pos (by rfl), List.length_cons]
    rw [h2, h3, List.length_cons]
    omega
theorem noughts_le (m : List Bool) : noughts m ≤ m.length := by have := digits_val m; omega
theorem noughts_take : ∀ (m : List Bool) (k : Nat), noughts (m.take k) = min (noughts m) k
  | [], k => by simp [noughts]
  | b :: m, 0 => by simp [noughts]
  | true :: m, k + 1 => by simp [noughts]
  | false :: m, k + 1 => by
    have e : ∀ l : List Bool, noughts (false :: l) = noughts l + 1 := fun l => by unfold noughts; rw [List.takeWhile_cons_of_pos (by rfl), List.length_cons]
    rw [List.take_succ_cons, e, e, noughts_take m k]
    omega
theorem numB_zero : ∀ n, numB 0 n = List.replicate n false
  | 0 => rfl
  | n + 1 => by
    rw [numB, numB_zero n, List.replicate_succ]
    simp [bit]

set_option maxRecDepth 100000 in
theorem gput_nil (x : Nat) (w : World) : Calls Try.prog 78 #[.pointer none, .int .u64 (x : Int)] w fun e w' => e = .returned (.bool false) ∧ w = w' := by
  go_enter Try.func78, Try.ntmps78
  go_wp2_with fail
  go_ret
  exact ⟨rfl, rfl⟩
set_option maxRecDepth 100000 in
theorem gput_zero (b : Nat) (w : World) : Calls Try.prog 78 #[.pointer (some ⟨b, 0, none⟩), .int .u64 0] w fun e w' => e = .returned (.bool false) ∧ w = w' := by
  go_enter Try.func78, Try.ntmps78
  go_wp2_with fail
  go_ret
  exact ⟨rfl, rfl⟩
set_option maxRecDepth 100000 in
theorem gput_c (x : Nat) (w : World) (B b : Nat) (v : Value) (l : List Bool) (h : BT w B b v l) (hx : x < 18446744073709551616) (hl : l.length ≤ 100000000) :
    Calls Try.prog 78 #[.pointer (some ⟨b, 0, none⟩), .int .u64 (x : Int)] w fun e w' => e = .returned (.bool (x != 0)) ∧
      ∃ v', BT w' B b v' (l ++ gam x) ∧ Two b v.ownBlock w w' ∧ (v'.ownBlock = v.ownBlock ∨ ∀ k, v'.ownBlock = some k → w.heap.size ≤ k) := by
  by_cases h0 : x = 0
  · subst h0
    refine (gput_zero b w).mono ?_
    rintro e w1 ⟨rfl, rfl⟩
    exact ⟨rfl, v, by simpa [gam] using h, Two.refl _ _ _, .inl rfl⟩
  · have hg : gam x = numB 0 (digits x - 1) ++ numB x (digits x) := by unfold gam; rw [if_neg h0, numB_zero]
    have h1 := digits_64 x hx
    have h2 := (digits_bounds x h0).2.2
    have hb : (x != 0) = true := by simpa using h0
    rw [hg, hb]
    have C1 := len64_c x w hx
    have hxz : ((x : Int) == 0) = false := by simp; omega
    clear hx hg hb
    obtain ⟨d, hd⟩ : ∃ d, d = digits x := ⟨_, rfl⟩
    rw [← hd] at C1 h1 h2 ⊢
    have C1 := Go.Lib.hid C1
    clear hd h0
    have C2 := putNum_c 0 (d - 1) w B b v l h (by omega) (by omega)
    have hr : ((d - 1 : Nat) : Int) = (d : Int) - 1 := by omega
    rw [hr] at C2
    have C2 := Go.Lib.hid C2
    clear hr h
    go_enter Try.func78, Try.ntmps78
    go_wp2_with fail
    refine C1.out.mono ?_
    rintro e w1 ⟨rfl, rfl⟩
    go_wp2_with fail
    refine C2.out.mono ?_
    rintro e w1 ⟨rfl, v1, hbt1, htwo1, hown1⟩
    have C3 := putNum_c x d w1 B b v1 _ hbt1 (by omega) (by rw [List.length_append, numB_length]; omega)
    have C3 := Go.Lib.hid C3
    have Htwo1 := Go.Lib.hid htwo1
    have Hown1 := Go.Lib.hid hown1
    clear hbt1 htwo1 hown1
    go_wp2_with fail
    refine C3.out.mono ?_
    rintro e w2 ⟨rfl, v2, hbt2, htwo2, hown2⟩
    have Hbt2 := Go.Lib.hid hbt2
    have Htwo2 := Go.Lib.hid htwo2
    have Hown2 := Go.Lib.hid hown2
    clear hbt2 htwo2 hown2
    go_wp2_with fail
    go_ret
    refine ⟨rfl, v2, by rw [← List.append_assoc]; exact Hbt2.out, Htwo1.out.trans Htwo2.out ?_, ?_⟩
    · intro j hj
      rcases Hown1.out with h | h
      · exact .inl (h ▸ hj)
      · exact .inr (h j hj)
    · rcases Hown2.out with h | h
      · rw [h]; exact Hown1.out
      · exact .inr fun j hj => Nat.le_trans Htwo1.out.size (h j hj)

set_option maxRecDepth 100000 in
theorem gget_nil (i : Int) (w : World) : Calls Try.prog 101 #[.pointer none, .int .i64 i] w fun e w' => e = .returned (.tuple #[.int .u64 0, .int .i64 i, .bool false]) ∧ w = w' := by
  by_cases h0 : i < 0
  · go_enter Try.func101, Try.ntmps101
    go_wp2_with fail
    go_ret3
    exact ⟨rfl, rfl⟩
  · go_enter Try.func101, Try.ntmps101
    go_wp2_with fail
    refine (len_nil _).mono ?_
    rintro e w1 ⟨rfl, rfl⟩
    go_wp2_with fail
    go_ret3
    exact ⟨rfl, rfl⟩

set_option maxHeartbeats 1000000 in
set_option maxRecDepth 100000 in
theorem gget_c (i : Int) (w : World) (B b : Nat) (v : Value) (l : List Bool) (h : BT w B b v l) (hl : l.length ≤ 100000000) (h0 : -9223372036854775808 ≤ i) (h1 : i ≤ 9223372036854775807) :
    Calls Try.prog 101 #[.pointer (some ⟨b, 0, none⟩), .int .i64 i] w fun e w' => e = .returned (getGV l i) ∧ Below w.heap.size w w' := by
  have CL := Go.Lib.hid (len_c w B b v _ _ h)
  by_cases hi0 : i < 0
  · rw [getGV_neg hi0]
    go_enter Try.func101, Try.ntmps101
    go_wp2_with fail
    go_ret3
    exact ⟨rfl, Below.refl _ _⟩
  obtain ⟨a, rfl⟩ : ∃ a : Nat, i = (a : Int) := ⟨i.toNat, by omega⟩
  clear h0
  by_cases hin : l.length ≤ a
  · have hg : getG l a = none := by
      unfold getG
      have hn : noughts (l.drop a) = 0 := by rw [List.drop_of_length_le hin]; rfl
      rw [hn, if_neg (by omega), if_neg (by omega)]
    have Hg := Go.Lib.hid (getGV_none hg)
    clear hg
    go_enter Try.func101, Try.ntmps101
    go_wp2_with fail
    refine CL.out.mono ?_
    rintro e w1 ⟨rfl, rfl⟩
    go_wp2_with fail
    go_ret3
    exact ⟨by rw [Hg.out]; rfl, Below.refl _ _⟩
  obtain ⟨t, ht⟩ : ∃ t : Nat, t = min 64 (l.length - a) := ⟨_, rfl⟩
  have htI : min (64 : Int) ((l.length : Int) - (a : Int)) = (t : Int) := by omega
  have C1 := num_c a t w B b v l h (by omega) (by omega) (by omega)
  have hmd := digits_val ((l.drop a).take t)
  have hmn := noughts_take (l.drop a) t
  have hml : ((l.drop a).take t).length = t := by rw [List.length_take, List.length_drop]; omega
  have hx64 : val ((l.drop a).take t) < 18446744073709551616 := by
    have h2 : 2 ^ ((l.drop a).take t).length ≤ 2 ^ 64 := Nat.pow_le_pow_right (by omega) (by rw [hml]; omega)
    exact Nat.lt_of_lt_of_le (val_lt _) h2
  have hnl := noughts_le (l.drop a)
  rw [List.length_drop] at hnl
  rw [hml, hmn] at hmd
  clear hml hmn
  obtain ⟨X, hX⟩ : ∃ X, X = val ((l.drop a).take t) := ⟨_, rfl⟩
  obtain ⟨K, hK⟩ : ∃ K, K = noughts (l.drop a) := ⟨_, rfl⟩
  rw [← hX] at C1 hmd hx64
  rw [← hK] at hmd hnl
  clear hX
  by_cases hX0 : X = 0
  · have hg : getG l a = none := by
      rw [hX0, digits_zero] at hmd
      unfold getG
      rw [← hK]
      by_cases h64 : 64 ≤ K
      · rw [if_pos h64]
      · rw [if_neg h64, if_neg (by omega)]
    have Hg := Go.Lib.hid (getGV_none hg)
    have HC1 := Go.Lib.hid C1
    have hxz : ((X : Int) == 0) = true := by simp [hX0]
    clear hg C1 hK hmd hx64 hnl hX0 h ht
    have hlt : ¬ ((l.length : Int) ≤ (a : Int)) := by omega
    go_enter Try.func101, Try.ntmps101
    go_wp2_with fail
    refine CL.out.mono ?_
    rintro e w1 ⟨rfl, rfl⟩
    go_wp2_with fail
    refine CL.out.mono ?_
    rintro e w1 ⟨rfl, rfl⟩
    go_wp2_with fail
    refine HC1.out.mono ?_
    rintro e w1 ⟨rfl, hb1⟩
    go_wp2_with fail
    go_ret3
    exact ⟨by rw [Hg.out]; rfl, hb1⟩
  have hd := (digits_bounds X hX0).2.2
  have hKt : digits X + K = t := by omega
  have hxz : ((X : Int) == 0) = false := by simp; omega
  have C2 := fun w1 => len64_c X w1 hx64
  obtain ⟨d, hdd⟩ : ∃ d, d = digits X := ⟨_, rfl⟩
  simp only [← hdd] at C2
  rw [← hdd] at hd hKt
  have hsub : (t : Int) - (d : Int) = (K : Int) := by omega
  have hge : ¬ ((l.length : Int) ≤ (a : Int)) := by omega
  by_cases hfit : a + 2 * K + 1 ≤ l.length
  · have hg : getG l a = some (val ((l.drop (a + K)).take (K + 1)), a + 2 * K + 1) := by
      unfold getG
      rw [← hK, if_neg (by omega), if_pos hfit]
    have Hg := Go.Lib.hid (getGV_some hg)
    have HC1 := Go.Lib.hid C1
    have HC2 := Go.Lib.hid C2
    have C3 := fun w1 (hb1 : Below w.heap.size w w1) => num_c (a + K) (K + 1) w1 B b v l (h.below hb1) (by omega) (by omega) (by omega)
    have e1 : ((a + K : Nat) : Int) = (a : Int) + (K : Int) := by omega
    have e2 : ((K + 1 : Nat) : Int) = (K : Int) + 1 := by omega
    simp only [e1, e2] at C3
    have HC3 := Go.Lib.hid C3
    have hend : ((a + 2 * K + 1 : Nat) : Int) = (a : Int) + (K : Int) + ((K : Int) + 1) := by omega
    rw [Hg.out, hend]
    have hKb : K ≤ 63 := by omega
    have hab : a ≤ 100000000 := by omega
    clear hg Hg C1 C2 C3 hK hmd hx64 hnl hX0 h ht hdd e1 e2 hend hi0 h1 hin
    generalize val ((l.drop (a + K)).take (K + 1)) = Y at *
    go_enter Try.func101, Try.ntmps101
    go_wp2_with fail
    refine CL.out.mono ?_
    rintro e w1 ⟨rfl, rfl⟩
    go_wp2_with fail
    refine CL.out.mono ?_
    rintro e w1 ⟨rfl, rfl⟩
    go_wp2_with fail
    refine HC1.out.mono ?_
    rintro e w1 ⟨rfl, hb1⟩
    go_wp2_with fail
    refine (HC2.out w1).mono ?_
    rintro e w2 ⟨rfl, rfl⟩
    go_wp2_with fail
    refine (HC3.out w1 hb1).mono ?_
    rintro e w2 ⟨rfl, hb2⟩
    go_wp2_with fail
    go_ret3
    exact ⟨rfl, hb1.trans (hb2.mono hb1.size)⟩
  · have hg : getG l a = none := by
      unfold getG
      rw [← hK, if_neg (by omega), if_neg hfit]
    have Hg := Go.Lib.hid (getGV_none hg)
    have HC1 := Go.Lib.hid C1
    have HC2 := Go.Lib.hid C2
    have C3 := fun w1 (hb1 : Below w.heap.size w w1) => num_no ((a : Int) + (K : Int)) ((K : Int) + 1) w1 B b v l (h.below hb1) (by omega) (by omega)
    have HC3 := Go.Lib.hid C3
    have hKb : K ≤ 63 := by omega
    have hab : a ≤ 100000000 := by omega
    clear hg C1 C2 C3 hK hmd hx64 hnl hX0 h ht hdd hi0 h1 hin hfit
    go_enter Try.func101, Try.ntmps101
    go_wp2_with fail
    refine CL.out.mono ?_
    rintro e w1 ⟨rfl, rfl⟩
    go_wp2_with fail
    refine CL.out.mono ?_
    rintro e w1 ⟨rfl, rfl⟩
    go_wp2_with fail
    refine HC1.out.mono ?_
    rintro e w1 ⟨rfl, hb1⟩
    go_wp2_with fail
    refine (HC2.out w1).mono ?_
    rintro e w2 ⟨rfl, rfl⟩
    go_wp2_with fail
    refine (HC3.out w1 hb1).mono ?_
    rintro e w2 ⟨rfl, rfl⟩
    go_wp2_with fail
    go_ret3
    exact ⟨by rw [Hg.out]; rfl, hb1⟩

end Go.Proofs.Ytibbligidncocaa

namespace Go.Proofs.Ytibbligidncocaa
open Go.RowKit

theorem noughts_hit : ∀ (m : List Bool), noughts m < m.length → m.getD (noughts m) false = true
  | [], h => by simp [noughts] at h
  | true :: m, _ => by simp [noughts]
  | false :: m, h => by
    have e : noughts (false :: m) = noughts m + 1 := by unfold noughts; rw [List.takeWhile_cons_of_pos (by rfl), List.length_cons]
    rw [e] at h ⊢
    rw [List.getD_cons_succ]
    exact noughts_hit m (by simpa using h)
/-- The number that is told is never 0. -/
theorem getG_pos {l : List Bool} {i x e : Nat} (h : getG l i = some (x, e)) : 1 ≤ x := by
  unfold getG at h
  split at h
  · cases h
  · split at h
    · rename_i h1 h2
      simp only [Option.some.injEq, Prod.mk.injEq] at h
      obtain ⟨rfl, rfl⟩ := h
      have hK : i + noughts (l.drop i) < l.length := by omega
      have := noughts_hit (l.drop i) (by rw [List.length_drop]; omega)
      rw [List.getD_eq_getElem?_getD, List.getElem?_drop, List.getElem?_eq_getElem hK] at this
      exact val_top l _ _ hK this
    · cases h
/-- How many have a nought, and where their tree begins; k bits are left. -/
def forkB (l : List Bool) : Nat → Nat → Nat → Option (Nat × Nat)
  | 0, _, _ => none
  | _ + 1, i, n => match getG l i with
    | none => none
    | some (x, e) => if n + 1 < x then none else some (x - 1, e)
theorem skipB_fork (l : List Bool) (k i n : Nat) : skipB l k i n = if n ≤ 1 then some i else match forkB l k i n with
    | none => none
    | some (z, e) => match skipB l (k - 1) e z with
      | none => none
      | some e2 => skipB l (k - 1) e2 (n - z) := by
  cases k with
  | zero => rw [skipB, forkB]
  | succ k =>
    rw [skipB, forkB, Nat.add_sub_cancel]
    split
    · rfl
    · cases getG l i with
      | none => rfl
      | some p =>
        obtain ⟨x, e⟩ := p
        simp only []
        by_cases h : n + 1 < x
        · rw [if_pos h, if_pos h]
        · rw [if_neg h, if_neg h]
          rfl
theorem rankB_fork (l : List Bool) (h k i n r : Nat) : rankB l h k i n r = if n ≤ 1 then (if n = 1 then some r else none) else match forkB l k i n with
    | none => none
    | some (z, e) => if h.testBit (k - 1) then match skipB l (k - 1) e z with
        | none => none
        | some e2 => rankB l h (k - 1) e2 (n - z) (r + z)
      else rankB l h (k - 1) e z r := by
  cases k with
  | zero =>
    rw [rankB, forkB]
    by_cases h1 : n ≤ 1
    · rw [if_pos h1]
    · rw [if_neg h1, if_neg (by omega)]
  | succ k =>
    rw [rankB, forkB, Nat.add_sub_cancel]
    split
    · rfl
    · cases getG l i with
      | none => rfl
      | some p =>
        obtain ⟨x, e⟩ := p
        simp only []
        by_cases h : n + 1 < x
        · rw [if_pos h, if_pos h]
        · rw [if_neg h, if_neg h]
          rfl
theorem forkB_bound {l : List Bool} {k i n z e : Nat} (h : forkB l k i n = some (z, e)) : 1 ≤ k ∧ z ≤ n ∧ e ≤ l.length := by
  cases k with
  | zero => cases h
  | succ k =>
    rw [forkB] at h
    cases hg : getG l i with
    | none => rw [hg] at h; cases h
    | some p =>
      obtain ⟨x, e'⟩ := p
      rw [hg] at h
      simp only [] at h
      split at h
      · cases h
      · cases h
        exact ⟨by omega, by omega, (getG_bound hg).1⟩
theorem skipB_bound {l : List Bool} : ∀ {k i n e : Nat}, skipB l k i n = some e → e = i ∨ e ≤ l.length
  | k, i, n, e, h => by
    rw [skipB_fork] at h
    split at h
    · cases h; exact .inl rfl
    · cases hf : forkB l k i n with
      | none => rw [hf] at h; cases h
      | some p =>
        obtain ⟨z, e1⟩ := p
        obtain ⟨h1, h2, h3⟩ := forkB_bound hf
        rw [hf] at h
        simp only [] at h
        cases hs : skipB l (k - 1) e1 z with
        | none => rw [hs] at h; cases h
        | some e2 =>
          rw [hs] at h
          simp only [] at h
          have a1 := skipB_bound (k := k - 1) hs
          have a2 := skipB_bound (k := k - 1) h
          omega
  termination_by k => k

theorem bit_top (x d : Nat) (hd : d ≤ 63) : x * 2 ^ d % 18446744073709551616 / 9223372036854775808 = if x.testBit (63 - d) then 1 else 0 := by
  have e1 : x * 2 ^ d % 18446744073709551616 / 9223372036854775808 = x * 2 ^ d / 9223372036854775808 % 2 := by omega
  have e2 : x * 2 ^ d / 9223372036854775808 = x / 2 ^ (63 - d) := by
    rw [show (9223372036854775808 : Nat) = 2 ^ (63 - d) * 2 ^ d by rw [← Nat.pow_add, show 63 - d + d = 63 by omega]]
    exact Nat.mul_div_mul_right _ _ (Nat.pow_pos (by omega))
  have hb : x.testBit (63 - d) = decide (x / 2 ^ (63 - d) % 2 = 1) := Nat.testBit_eq_decide_div_mod_eq
  rw [e1, e2, hb]
  generalize x / 2 ^ (63 - d) = y
  by_cases h : y % 2 = 1
  · rw [decide_eq_true h, h]; rfl
  · rw [decide_eq_false h, show y % 2 = 0 by omega]; rfl

set_option maxRecDepth 100000 in
theorem bit_c (x d k : Nat) (w : World) (hd : d + k = 63) : Calls Try.prog 77 #[.int .u64 (x : Int), .int .i64 (d : Int)] w fun e w' => e = .returned (.bool (x.testBit k)) ∧ w = w' := by
  have h := bit_top x d (by omega)
  rw [show 63 - d = k by omega] at h
  have h1 : IntKind.u64.wrap ((x : Int) * 2 ^ d) = ((x * 2 ^ d % 18446744073709551616 : Nat) : Int) := by
    have e : (x : Int) * 2 ^ d = ((x * 2 ^ d : Nat) : Int) := by simp
    rw [e, IntKind.wrap_u64]
    omega
  obtain ⟨y, hy⟩ : ∃ y, y = x * 2 ^ d % 18446744073709551616 := ⟨_, rfl⟩
  rw [← hy] at h h1
  have hd63 : d ≤ 63 := by omega
  have hlt : y < 18446744073709551616 := by omega
  clear hy
  cases hb : x.testBit k with
  | true =>
    rw [hb] at h
    have h2 : (y : Int) / 9223372036854775808 = 1 := by have : y / 9223372036854775808 = 1 := h; omega
    clear h hb hd
    go_enter Try.func77, Try.ntmps77
    go_wp2_with fail
    go_ret
    exact ⟨rfl, rfl⟩
  | false =>
    rw [hb] at h
    have h2 : (y : Int) / 9223372036854775808 = 0 := by have : y / 9223372036854775808 = 0 := h; omega
    clear h hb hd
    go_enter Try.func77, Try.ntmps77
    go_wp2_with fail
    go_ret
    exact ⟨rfl, rfl⟩

set_option maxRecDepth 100000 in
theorem tmay_c (n : Nat) (t : Bool) (w : World) (ht : decide (n ≤ 4096) = t) : Calls Try.prog 90 #[.int .i64 (n : Int)] w fun e w' => e = .returned (.bool t) ∧ w = w' := by
  have h0 : (0 : Int) ≤ (n : Int) := by omega
  cases t with
  | true =>
    have h1 : (n : Int) ≤ 4096 := by have := of_decide_eq_true ht; omega
    clear ht
    go_enter Try.func90, Try.ntmps90
    go_wp2_with fail
    go_ret
    exact ⟨rfl, rfl⟩
  | false =>
    have h1 : ¬ (n : Int) ≤ 4096 := by have := of_decide_eq_false ht; omega
    clear ht
    go_enter Try.func90, Try.ntmps90
    go_wp2_with fail
    go_ret
    exact ⟨rfl, rfl⟩

def forkV : Option (Nat × Nat) → Value
  | some (z, e) => .tuple #[.int .i64 (z : Int), .int .i64 (e : Int), .bool true]
  | none => .tuple #[.int .i64 0, .int .i64 0, .bool false]
def endV : Option Nat → Value
  | some e => .tuple #[.int .i64 (e : Int), .bool true]
  | none => .tuple #[.int .i64 0, .bool false]

set_option maxRecDepth 100000 in
theorem fork_c (k d i n : Nat) (w : World) (B b : Nat) (v : Value) (l : List Bool) (h : BT w B b v l) (hl : l.length ≤ 100000000) (hd : d + k = 64) (hi : i ≤ 100000000) (hn : n ≤ 4096) :
    Calls Try.prog 91 #[.pointer (some ⟨b, 0, none⟩), .int .i64 (i : Int), .int .i64 (n : Int), .int .i64 (d : Int)] w fun e w' => e = .returned (forkV (forkB l k i n)) ∧ Below w.heap.size w w' := by
  cases k with
  | zero =>
    obtain rfl : d = 64 := by omega
    clear h
    go_enter Try.func91, Try.ntmps91
    go_wp2_with fail
    go_ret3
    exact ⟨rfl, Below.refl _ _⟩
  | succ k =>
    have C := gget_c (i : Int) w B b v l h hl (by omega) (by omega)
    have hd64 : ((d : Int) == 64) = false := by simp; omega
    rw [forkB]
    clear h hd
    cases hg : getG l i with
    | none =>
      rw [getGV_none hg] at C
      have C := Go.Lib.hid C
      clear hg
      go_enter Try.func91, Try.ntmps91
      go_wp2_with fail
      refine C.out.mono ?_
      rintro e w1 ⟨rfl, hb⟩
      go_wp2_with fail
      go_ret3
      exact ⟨rfl, hb⟩
    | some p =>
      obtain ⟨x, e⟩ := p
      have hx1 := getG_pos hg
      obtain ⟨he, hx64⟩ := getG_bound hg
      rw [getGV_some hg] at C
      have C := Go.Lib.hid C
      have hs : (x : Int) - 1 = ((x - 1 : Nat) : Int) := by omega
      have hsw : IntKind.u64.wrap ((x : Int) - 1) = ((x - 1 : Nat) : Int) := by rw [IntKind.wrap_u64]; omega
      simp only []
      clear hg
      obtain ⟨z, hz⟩ : ∃ z, z = x - 1 := ⟨_, rfl⟩
      rw [← hz] at hs hsw ⊢
      by_cases hx : n + 1 < x
      · rw [if_pos hx]
        have hnz : (n : Int) < (z : Int) := by omega
        have hz64 : z < 18446744073709551616 := by omega
        clear hz hx
        go_enter Try.func91, Try.ntmps91
        go_wp2_with fail
        refine C.out.mono ?_
        rintro e w1 ⟨rfl, hb⟩
        go_wp2_with fail
        go_ret3
        exact ⟨rfl, hb⟩
      · rw [if_neg hx]
        have hnz : ¬ (n : Int) < (z : Int) := by omega
        have hz64 : z ≤ 4096 := by omega
        clear hz hx
        go_enter Try.func91, Try.ntmps91
        go_wp2_with fail
        refine C.out.mono ?_
        rintro e w1 ⟨rfl, hb⟩
        go_wp2_with fail
        go_ret3
        exact ⟨rfl, hb⟩

set_option maxHeartbeats 400000 in
set_option maxRecDepth 100000 in
theorem past_c (l : List Bool) (hl : l.length ≤ 100000000) (B b : Nat) (v : Value) : ∀ (k d i n : Nat) (w : World), BT w B b v l → d + k = 64 → i ≤ 100000000 → n ≤ 4096 →
    Calls Try.prog 92 #[.pointer (some ⟨b, 0, none⟩), .int .i64 (i : Int), .int .i64 (n : Int), .int .i64 (d : Int)] w fun e w' => e = .returned (endV (skipB l k i n)) ∧ Below w.heap.size w w' := by
  intro k
  induction k using Nat.strongRecOn with
  | ind k ih =>
    intro d i n w h hd hi hn
    rw [skipB_fork]
    by_cases hn2 : n ≤ 1
    · rw [if_pos hn2]
      have h2 : (n : Int) < 2 := by omega
      clear ih h
      go_enter Try.func92, Try.ntmps92
      go_wp2_with fail
      go_ret2
      exact ⟨rfl, Below.refl _ _⟩
    · rw [if_neg hn2]
      have h2 : ¬ (n : Int) < 2 := by omega
      have C := fork_c k d i n w B b v l h hl hd hi hn
      cases hf : forkB l k i n with
      | none =>
        rw [hf] at C
        have C := Go.Lib.hid C
        clear ih h hf
        go_enter Try.func92, Try.ntmps92
        go_wp2_with fail
        refine C.out.mono ?_
        rintro e w1 ⟨rfl, hb⟩
        simp only [forkV]
        go_wp2_with fail
        go_ret2
        exact ⟨rfl, hb⟩
      | some p =>
        obtain ⟨z, e⟩ := p
        obtain ⟨hk1, hzn, hel⟩ := forkB_bound hf
        rw [hf] at C
        obtain ⟨k, rfl⟩ : ∃ j, k = j + 1 := ⟨k - 1, by omega⟩
        simp only [Nat.add_sub_cancel]
        have C := Go.Lib.hid C
        have C1 := fun w1 (hb : Below w.heap.size w w1) => ih k (by omega) (d + 1) e z w1 (h.below hb) (by omega) (by omega) (by omega)
        have he : e ≤ 100000000 := by omega
        have hd63 : d ≤ 63 := by omega
        rw [show ((d + 1 : Nat) : Int) = (d : Int) + 1 by omega] at C1
        cases hs : skipB l k e z with
        | none =>
          rw [hs] at C1
          have C1 := Go.Lib.hid C1
          clear ih h hf hs hd
          go_enter Try.func92, Try.ntmps92
          go_wp2_with fail
          refine C.out.mono ?_
          rintro e' w1 ⟨rfl, hb⟩
          simp only [forkV]
          go_wp2_with fail
          refine (C1.out w1 hb).mono ?_
          rintro e' w2 ⟨rfl, hb2⟩
          simp only [endV]
          go_wp2_with fail
          go_ret2
          exact ⟨rfl, hb.trans (hb2.mono hb.size)⟩
        | some e2 =>
          have he2 := skipB_bound hs
          have he2' : e2 ≤ 100000000 := by omega
          rw [hs] at C1
          have C2 := fun w1 (hb : Below w.heap.size w w1) => ih k (by omega) (d + 1) e2 (n - z) w1 (h.below hb) (by omega) (by omega) (by omega)
          rw [show ((d + 1 : Nat) : Int) = (d : Int) + 1 by omega, show ((n - z : Nat) : Int) = (n : Int) - (z : Int) by omega] at C2
          have C1 := Go.Lib.hid C1
          have C2 := Go.Lib.hid C2
          simp only []
          generalize skipB l k e2 (n - z) = r at *
          clear ih h hf hs hd he2
          go_enter Try.func92, Try.ntmps92
          go_wp2_with fail
          refine C.out.mono ?_
          rintro e' w1 ⟨rfl, hb⟩
          simp only [forkV]
          go_wp2_with fail
          refine (C1.out w1 hb).mono ?_
          rintro e' w2 ⟨rfl, hb2⟩
          have hbb := hb.trans (hb2.mono hb.size)
          simp only [endV]
          go_wp2_with fail
          refine (C2.out w2 hbb).mono ?_
          rintro e' w3 ⟨rfl, hb3⟩
          have hb4 := hbb.trans (hb3.mono hbb.size)
          cases r with
          | none =>
            simp only [endV]
            go_wp2_with fail
            go_ret2
            exact ⟨rfl, hb4⟩
          | some r =>
            simp only [endV]
            go_wp2_with fail
            go_ret2
            exact ⟨rfl, hb4⟩

/-- The bits are a tree of n, from the first to the last one. -/
def checkB (l : List Bool) (n : Nat) : Bool := match skipB l 64 0 n with
  | some e => decide (e = l.length)
  | none => false

set_option maxHeartbeats 1000000 in
set_option maxRecDepth 100000 in
theorem rank_c (n0 x : Nat) (w : World) (B b : Nat) (v : Value) (l : List Bool) (h : BT w B b v l) (hl : l.length ≤ 100000000) (hn : n0 ≤ 4096) (R : Option Nat) (hR0 : rankB l x 64 0 n0 0 = R) :
    Calls Try.prog 69 #[.pointer (some ⟨b, 0, none⟩), .int .i64 (n0 : Int), .int .u64 (x : Int)] w fun e w' => e = .returned (endV R) ∧ Below w.heap.size w w' := by
  have CM := Go.Lib.hid (tmay_c n0 true w (decide_eq_true hn))
  have H := Go.Lib.hid h
  have Hl := Go.Lib.hid hl
  have HR0 := Go.Lib.hid hR0
  clear h hl hR0
  go_enter Try.func69, Try.ntmps69
  go_wp2_with fail
  refine CM.out.mono ?_
  rintro e w1 ⟨rfl, rfl⟩
  clear CM
  go_wp2_with fail
  go_loopw [1, 8, 9, 10] (fun n' i' r' d' wr => ∃ (k d i n r : Nat), d + k = 64 ∧ i ≤ 100000000 ∧ r + n ≤ n0 ∧ n' = .int .i64 (n : Int) ∧ i' = .int .i64 (i : Int) ∧ r' = .int .i64 (r : Int) ∧ d' = .int .i64 (d : Int) ∧ Hid (rankB l x k i n r = R) ∧ Below w.heap.size w wr) (fun _ _ _ d' _ => 64 - (intOf d').toNat)
  case atStart => exact ⟨64, 0, 0, n0, 0, rfl, by omega, by omega, rfl, rfl, rfl, rfl, HR0, Below.refl _ _⟩
  case round =>
    obtain ⟨k, d, i, n, r, hdk, hi, hrn, rfl, rfl, rfl, rfl, HR, hb⟩ := hrel
    have hR := HR.out
    clear HR
    rw [rankB_fork] at hR
    by_cases hn2 : n ≤ 1
    · rw [if_pos hn2] at hR
      have h2 : ¬ 1 < (n : Int) := by omega
      by_cases hn1 : n = 1
      · subst hn1
        rw [if_pos rfl] at hR
        subst hR
        go_wp2_with fail
        go_ret2
        exact ⟨rfl, hb⟩
      · obtain rfl : n = 0 := by omega
        rw [if_neg (by omega)] at hR
        subst hR
        go_wp2_with fail
        go_ret2
        exact ⟨rfl, hb⟩
    · rw [if_neg hn2] at hR
      have h2 : 1 < (n : Int) := by omega
      have C := fork_c k d i n wr B b v l (H.out.below hb) Hl.out hdk hi (by omega)
      cases hf : forkB l k i n with
      | none =>
        rw [hf] at C hR
        simp only [] at hR
        subst hR
        have C := Go.Lib.hid C
        clear hf
        go_wp2_with fail
        refine C.out.mono ?_
        rintro e w1 ⟨rfl, hb1⟩
        simp only [forkV]
        go_wp2_with fail
        go_ret2
        exact ⟨rfl, hb.trans (hb1.mono hb.size)⟩
      | some p =>
        obtain ⟨z, e⟩ := p
        obtain ⟨hk1, hzn, hel⟩ := forkB_bound hf
        rw [hf] at C hR
        obtain ⟨k, rfl⟩ : ∃ j, k = j + 1 := ⟨k - 1, by omega⟩
        simp only [Nat.add_sub_cancel] at hR
        have he : e ≤ 100000000 := by have := Hl.out; omega
        have hd63 : d ≤ 63 := by omega
        have hz : z ≤ 4096 := by omega
        have C := Go.Lib.hid C
        have CB := fun W => bit_c x d k W (by omega)
        cases hbit : x.testBit k with
        | false =>
          rw [hbit] at CB hR
          have CB := Go.Lib.hid CB
          rw [if_neg (by decide)] at hR
          have HR := Go.Lib.hid hR
          clear hf hR hbit
          go_wp2_with fail
          refine C.out.mono ?_
          rintro e' w1 ⟨rfl, hb1⟩
          have hb2 := hb.trans (hb1.mono hb.size)
          simp only [forkV]
          go_wp2_with fail
          refine (CB.out w1).mono ?_
          rintro e' w2 ⟨rfl, rfl⟩
          clear C CB hb1 hb
          go_wp2_with fail
          go_roundw
          case rel => exact ⟨k, d + 1, e, z, r, by omega, by omega, by omega, rfl, rfl, rfl, by go_num, HR, hb2⟩
          case measure => simp only [intOf]; omega
        | true =>
          rw [hbit] at CB hR
          have CB := Go.Lib.hid CB
          rw [if_pos rfl] at hR
          have C1 := fun w1 (hb1 : Below w.heap.size w w1) => past_c l Hl.out B b v k (d + 1) e z w1 (H.out.below hb1) (by omega) (by omega) (by omega)
          rw [show ((d + 1 : Nat) : Int) = (d : Int) + 1 by omega] at C1
          cases hs : skipB l k e z with
          | none =>
            rw [hs] at C1 hR
            simp only [] at hR
            subst hR
            have C1 := Go.Lib.hid C1
            clear hf hbit hs
            go_wp2_with fail
            refine C.out.mono ?_
            rintro e' w1 ⟨rfl, hb1⟩
            have hb2 := hb.trans (hb1.mono hb.size)
            simp only [forkV]
            go_wp2_with fail
            refine (CB.out w1).mono ?_
            rintro e' w2 ⟨rfl, rfl⟩
            clear C CB hb1 hb
            go_wp2_with fail
            refine (C1.out w1 hb2).mono ?_
            rintro e' w3 ⟨rfl, hb3⟩
            simp only [endV]
            go_wp2_with fail
            go_ret2
            exact ⟨rfl, hb2.trans (hb3.mono hb2.size)⟩
          | some e2 =>
            have he2 := skipB_bound hs
            have he2' : e2 ≤ 100000000 := by have := Hl.out; omega
            rw [hs] at C1 hR
            simp only [] at hR
            have HR := Go.Lib.hid hR
            have C1 := Go.Lib.hid C1
            clear hf hR hbit hs he2
            go_wp2_with fail
            refine C.out.mono ?_
            rintro e' w1 ⟨rfl, hb1⟩
            have hb2 := hb.trans (hb1.mono hb.size)
            simp only [forkV]
            go_wp2_with fail
            refine (CB.out w1).mono ?_
            rintro e' w2 ⟨rfl, rfl⟩
            clear C CB hb1 hb
            go_wp2_with fail
            refine (C1.out w1 hb2).mono ?_
            rintro e' w3 ⟨rfl, hb3⟩
            have hb4 := hb2.trans (hb3.mono hb2.size)
            simp only [endV]
            go_wp2_with fail
            go_roundw
            case rel => exact ⟨k, d + 1, e2, n - z, r + z, by omega, by omega, by omega, by congr 1; omega, rfl, by go_num, by go_num, HR, hb4⟩
            case measure => simp only [intOf]; omega

end Go.Proofs.Ytibbligidncocaa
