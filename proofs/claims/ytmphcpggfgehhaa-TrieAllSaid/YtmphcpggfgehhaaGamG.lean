/-
  The contracts of gamma: Len, Put, Get.
-/
import Derived.Test.YtmphcpggfgehhaaBitF
import Derived.Test.YtmphcpggfgehhaaLen64
import Derived.Test.YtmphcpggfgehhaaGamL
import Derived.Test.YtmphcpggfgehhaaRGet
namespace Go.Proofs.Ytmphcpggfgehhaa
open Go.RowKit

/-- How many digits the bits' number has: as many as there are behind the noughts. -/
theorem digits_val : ∀ m : List Bool, digits (val m) + noughts m = m.length
  | [] => rfl
  | true :: m => by
    have h1 := val_lt m
    have h2 : val (true :: m) = 2 ^ m.length + val m := by rw [val_cons]; simp [bv]
    have h3 : digits (val (true :: m)) = m.length + 1 := digits_eq (by rw [h2]; omega) (by rw [h2, Nat.pow_succ]; omega)
    rw [h3]
    simp [noughts]
  | false :: m => by
    have h2 : val (false :: m) = val m := by rw [val_cons]; simp [bv]
    have ih := digits_val m
    have h3 : noughts (false :: m) = noughts m + 1 := by unfold noughts; rw [List.takeWhile_cons_of_pos (by rfl), List.length_cons]
    rw [h2, h3, List.length_cons]
    omega
theorem noughts_le (m : List Bool) : noughts m ≤ m.length := by have := digits_val m; omega
theorem noughts_take : ∀ (m : List Bool) (k : Nat), noughts (m.take k) = min (noughts m) k
  | [], k => by simp [noughts]
  | b :: m, 0 => by simp [noughts]
  | true :: m, k + 1 => by simp [noughts]
  | false :: m, k + 1 => by
    have e : ∀ l : List Bool, noughts (false :: l) = noughts l + 1 := fun l => by unfold noughts; rw [List.takeWhile_cons_of_pos (by rfl), List.length_cons]
    rw [List.take_succ_cons, e, e, noughts_take m k]
    omega
theorem numB_zero : ∀ n, numB 0 n = List.replicate n false
  | 0 => rfl
  | n + 1 => by
    rw [numB, numB_zero n, List.replicate_succ]
    simp [bit]

set_option maxRecDepth 100000 in
theorem gput_nil (x : Nat) (w : World) : Calls Try.prog 33 #[.pointer none, .int .u64 (x : Int)] w fun e w' => e = .returned (.bool false) ∧ w = w' := by
  go_enter Try.func33, Try.ntmps33
  go_wp2_with fail
  go_ret
  exact ⟨rfl, rfl⟩
set_option maxRecDepth 100000 in
theorem gput_zero (b : Nat) (w : World) : Calls Try.prog 33 #[.pointer (some ⟨b, 0, none⟩), .int .u64 0] w fun e w' => e = .returned (.bool false) ∧ w = w' := by
  go_enter Try.func33, Try.ntmps33
  go_wp2_with fail
  go_ret
  exact ⟨rfl, rfl⟩
set_option maxRecDepth 100000 in
theorem gput_c (x : Nat) (w : World) (B b : Nat) (v : Value) (l : List Bool) (h : BT w B b v l) (hx : x < 18446744073709551616) (hl : l.length ≤ 100000000) :
    Calls Try.prog 33 #[.pointer (some ⟨b, 0, none⟩), .int .u64 (x : Int)] w fun e w' => e = .returned (.bool (x != 0)) ∧
      ∃ v', BT w' B b v' (l ++ gam x) ∧ Two b v.ownBlock w w' ∧ (v'.ownBlock = v.ownBlock ∨ ∀ k, v'.ownBlock = some k → w.heap.size ≤ k) := by
  by_cases h0 : x = 0
  · subst h0
    refine (gput_zero b w).mono ?_
    rintro e w1 ⟨rfl, rfl⟩
    exact ⟨rfl, v, by simpa [gam] using h, Two.refl _ _ _, .inl rfl⟩
  · have hg : gam x = numB 0 (digits x - 1) ++ numB x (digits x) := by unfold gam; rw [if_neg h0, numB_zero]
    have h1 := digits_64 x hx
    have h2 := (digits_bounds x h0).2.2
    have hb : (x != 0) = true := by simpa using h0
    rw [hg, hb]
    have C1 := len64_c x w hx
    have hxz : ((x : Int) == 0) = false := by simp; omega
    clear hx hg hb
    obtain ⟨d, hd⟩ : ∃ d, d = digits x := ⟨_, rfl⟩
    rw [← hd] at C1 h1 h2 ⊢
    have C1 := Go.Lib.hid C1
    clear hd h0
    have C2 := putNum_c 0 (d - 1) w B b v l h (by omega) (by omega)
    have hr : ((d - 1 : Nat) : Int) = (d : Int) - 1 := by omega
    rw [hr] at C2
    have C2 := Go.Lib.hid C2
    clear hr h
    go_enter Try.func33, Try.ntmps33
    go_wp2_with fail
    refine C1.out.mono ?_
    rintro e w1 ⟨rfl, rfl⟩
    go_wp2_with fail
    refine C2.out.mono ?_
    rintro e w1 ⟨rfl, v1, hbt1, htwo1, hown1⟩
    have C3 := putNum_c x d w1 B b v1 _ hbt1 (by omega) (by rw [List.length_append, numB_length]; omega)
    have C3 := Go.Lib.hid C3
    have Htwo1 := Go.Lib.hid htwo1
    have Hown1 := Go.Lib.hid hown1
    clear hbt1 htwo1 hown1
    go_wp2_with fail
    refine C3.out.mono ?_
    rintro e w2 ⟨rfl, v2, hbt2, htwo2, hown2⟩
    have Hbt2 := Go.Lib.hid hbt2
    have Htwo2 := Go.Lib.hid htwo2
    have Hown2 := Go.Lib.hid hown2
    clear hbt2 htwo2 hown2
    go_wp2_with fail
    go_ret
    refine ⟨rfl, v2, by rw [← List.append_assoc]; exact Hbt2.out, Htwo1.out.trans Htwo2.out ?_, ?_⟩
    · intro j hj
      rcases Hown1.out with h | h
      · exact .inl (h ▸ hj)
      · exact .inr (h j hj)
    · rcases Hown2.out with h | h
      · rw [h]; exact Hown1.out
      · exact .inr fun j hj => Nat.le_trans Htwo1.out.size (h j hj)

set_option maxRecDepth 100000 in
theorem gget_nil (i : Int) (w : World) : Calls Try.prog 38 #[.pointer none, .int .i64 i] w fun e w' => e = .returned (.tuple #[.int .u64 0, .int .i64 i, .bool false]) ∧ w = w' := by
  by_cases h0 : i < 0
  · go_enter Try.func38, Try.ntmps38
    go_wp2_with fail
    go_ret3
    exact ⟨rfl, rfl⟩
  · go_enter Try.func38, Try.ntmps38
    go_wp2_with fail
    refine (len_nil _).mono ?_
    rintro e w1 ⟨rfl, rfl⟩
    go_wp2_with fail
    go_ret3
    exact ⟨rfl, rfl⟩

set_option maxHeartbeats 1000000 in
set_option maxRecDepth 100000 in
theorem gget_c (i : Int) (w : World) (B b : Nat) (v : Value) (l : List Bool) (h : BT w B b v l) (hl : l.length ≤ 100000000) (h0 : -9223372036854775808 ≤ i) (h1 : i ≤ 9223372036854775807) :
    Calls Try.prog 38 #[.pointer (some ⟨b, 0, none⟩), .int .i64 i] w fun e w' => e = .returned (getGV l i) ∧ Below w.heap.size w w' := by
  have CL := Go.Lib.hid (len_c w B b v _ _ h)
  by_cases hi0 : i < 0
  · rw [getGV_neg hi0]
    go_enter Try.func38, Try.ntmps38
    go_wp2_with fail
    go_ret3
    exact ⟨rfl, Below.refl _ _⟩
  obtain ⟨a, rfl⟩ : ∃ a : Nat, i = (a : Int) := ⟨i.toNat, by omega⟩
  clear h0
  by_cases hin : l.length ≤ a
  · have hg : getG l a = none := by
      unfold getG
      have hn : noughts (l.drop a) = 0 := by rw [List.drop_of_length_le hin]; rfl
      rw [hn, if_neg (by omega), if_neg (by omega)]
    have Hg := Go.Lib.hid (getGV_none hg)
    clear hg
    go_enter Try.func38, Try.ntmps38
    go_wp2_with fail
    refine CL.out.mono ?_
    rintro e w1 ⟨rfl, rfl⟩
    go_wp2_with fail
    go_ret3
    exact ⟨by rw [Hg.out]; rfl, Below.refl _ _⟩
  obtain ⟨t, ht⟩ : ∃ t : Nat, t = min 64 (l.length - a) := ⟨_, rfl⟩
  have htI : min (64 : Int) ((l.length : Int) - (a : Int)) = (t : Int) := by omega
  have C1 := num_c a t w B b v l h (by omega) (by omega) (by omega)
  have hmd := digits_val ((l.drop a).take t)
  have hmn := noughts_take (l.drop a) t
  have hml : ((l.drop a).take t).length = t := by rw [List.length_take, List.length_drop]; omega
  have hx64 : val ((l.drop a).take t) < 18446744073709551616 := by
    have h2 : 2 ^ ((l.drop a).take t).length ≤ 2 ^ 64 := Nat.pow_le_pow_right (by omega) (by rw [hml]; omega)
    exact Nat.lt_of_lt_of_le (val_lt _) h2
  have hnl := noughts_le (l.drop a)
  rw [List.length_drop] at hnl
  rw [hml, hmn] at hmd
  clear hml hmn
  obtain ⟨X, hX⟩ : ∃ X, X = val ((l.drop a).take t) := ⟨_, rfl⟩
  obtain ⟨K, hK⟩ : ∃ K, K = noughts (l.drop a) := ⟨_, rfl⟩
  rw [← hX] at C1 hmd hx64
  rw [← hK] at hmd hnl
  clear hX
  by_cases hX0 : X = 0
  · have hg : getG l a = none := by
      rw [hX0, digits_zero] at hmd
      unfold getG
      rw [← hK]
      by_cases h64 : 64 ≤ K
      · rw [if_pos h64]
      · rw [if_neg h64, if_neg (by omega)]
    have Hg := Go.Lib.hid (getGV_none hg)
    have HC1 := Go.Lib.hid C1
    have hxz : ((X : Int) == 0) = true := by simp [hX0]
    clear hg C1 hK hmd hx64 hnl hX0 h ht
    have hlt : ¬ ((l.length : Int) ≤ (a : Int)) := by omega
    go_enter Try.func38, Try.ntmps38
    go_wp2_with fail
    refine CL.out.mono ?_
    rintro e w1 ⟨rfl, rfl⟩
    go_wp2_with fail
    refine CL.out.mono ?_
    rintro e w1 ⟨rfl, rfl⟩
    go_wp2_with fail
    refine HC1.out.mono ?_
    rintro e w1 ⟨rfl, hb1⟩
    go_wp2_with fail
    go_ret3
    exact ⟨by rw [Hg.out]; rfl, hb1⟩
  have hd := (digits_bounds X hX0).2.2
  have hKt : digits X + K = t := by omega
  have hxz : ((X : Int) == 0) = false := by simp; omega
  have C2 := fun w1 => len64_c X w1 hx64
  obtain ⟨d, hdd⟩ : ∃ d, d = digits X := ⟨_, rfl⟩
  simp only [← hdd] at C2
  rw [← hdd] at hd hKt
  have hsub : (t : Int) - (d : Int) = (K : Int) := by omega
  have hge : ¬ ((l.length : Int) ≤ (a : Int)) := by omega
  by_cases hfit : a + 2 * K + 1 ≤ l.length
  · have hg : getG l a = some (val ((l.drop (a + K)).take (K + 1)), a + 2 * K + 1) := by
      unfold getG
      rw [← hK, if_neg (by omega), if_pos hfit]
    have Hg := Go.Lib.hid (getGV_some hg)
    have HC1 := Go.Lib.hid C1
    have HC2 := Go.Lib.hid C2
    have C3 := fun w1 (hb1 : Below w.heap.size w w1) => num_c (a + K) (K + 1) w1 B b v l (h.below hb1) (by omega) (by omega) (by omega)
    have e1 : ((a + K : Nat) : Int) = (a : Int) + (K : Int) := by omega
    have e2 : ((K + 1 : Nat) : Int) = (K : Int) + 1 := by omega
    simp only [e1, e2] at C3
    have HC3 := Go.Lib.hid C3
    have hend : ((a + 2 * K + 1 : Nat) : Int) = (a : Int) + (K : Int) + ((K : Int) + 1) := by omega
    rw [Hg.out, hend]
    have hKb : K ≤ 63 := by omega
    have hab : a ≤ 100000000 := by omega
    clear hg Hg C1 C2 C3 hK hmd hx64 hnl hX0 h ht hdd e1 e2 hend hi0 h1 hin
    generalize val ((l.drop (a + K)).take (K + 1)) = Y at *
    go_enter Try.func38, Try.ntmps38
    go_wp2_with fail
    refine CL.out.mono ?_
    rintro e w1 ⟨rfl, rfl⟩
    go_wp2_with fail
    refine CL.out.mono ?_
    rintro e w1 ⟨rfl, rfl⟩
    go_wp2_with fail
    refine HC1.out.mono ?_
    rintro e w1 ⟨rfl, hb1⟩
    go_wp2_with fail
    refine (HC2.out w1).mono ?_
    rintro e w2 ⟨rfl, rfl⟩
    go_wp2_with fail
    refine (HC3.out w1 hb1).mono ?_
    rintro e w2 ⟨rfl, hb2⟩
    go_wp2_with fail
    go_ret3
    exact ⟨rfl, hb1.trans (hb2.mono hb1.size)⟩
  · have hg : getG l a = none := by
      unfold getG
      rw [← hK, if_neg (by omega), if_neg hfit]
    have Hg := Go.Lib.hid (getGV_none hg)
    have HC1 := Go.Lib.hid C1
    have HC2 := Go.Lib.hid C2
    have C3 := fun w1 (hb1 : Below w.heap.size w w1) => num_no ((a : Int) + (K : Int)) ((K : Int) + 1) w1 B b v l (h.below hb1) (by omega) (by omega)
    have HC3 := Go.Lib.hid C3
    have hKb : K ≤ 63 := by omega
    have hab : a ≤ 100000000 := by omega
    clear hg C1 C2 C3 hK hmd hx64 hnl hX0 h ht hdd hi0 h1 hin hfit
    go_enter Try.func38, Try.ntmps38
    go_wp2_with fail
    refine CL.out.mono ?_
    rintro e w1 ⟨rfl, rfl⟩
    go_wp2_with fail
    refine CL.out.mono ?_
    rintro e w1 ⟨rfl, rfl⟩
    go_wp2_with fail
    refine HC1.out.mono ?_
    rintro e w1 ⟨rfl, hb1⟩
    go_wp2_with fail
    refine (HC2.out w1).mono ?_
    rintro e w2 ⟨rfl, rfl⟩
    go_wp2_with fail
    refine (HC3.out w1 hb1).mono ?_
    rintro e w2 ⟨rfl, rfl⟩
    go_wp2_with fail
    go_ret3
    exact ⟨by rw [Hg.out]; rfl, hb1⟩

end Go.Proofs.Ytmphcpggfgehhaa
