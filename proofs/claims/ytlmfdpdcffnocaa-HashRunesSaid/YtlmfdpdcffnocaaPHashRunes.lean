/- HashRunes: two texts of the same runes have one hash, whatever their bytes are: for every text, place and byte the law returns true. -/
import Derived.Test.YtlmfdpdcffnocaaRows
import Derived.WalkKit
import Derived.ProofKit
import Derived.OpenShut
import Derived.ShutString
import Derived.Test.YtlmfdpdcffnocaaBegun9
import Derived.Test.YtlmfdpdcffnocaaHashM
import Derived.Test.YtlmfdpdcffnocaaDraw
import Derived.Laws.BitsAllLaws
namespace Go.Proofs.Ytlmfdpdcffnocaa.hashRunes
open Go.ChangeShapes Go.WideShapes Go.ChangeAt Go.RowKit
open Go.ChangeMaps (open_string shut_string)
set_option linter.unusedVariables false      -- a walk need not use every 'w<i>' (that an integer argument fits its kind)

theorem own : ownKnob Try.prog.godebug = none := by kernel_rfl

def V7 (p U F V sA sB : ByteArray) (k : Nat) (y : UInt8) : Nat → World → Value → Prop
  | 23, _, v => v = .string p
  | 24, _, v => v = .int .i64 (k : Int)
  | 25, _, v => v = .string U
  | 26, w, v => RB w v [y]
  | 27, _, v => v = .string F
  | 28, _, v => v = .string sA
  | 29, _, v => v = .string p
  | 30, _, v => v = .int .i64 (k : Int)
  | 31, _, v => v = .string V
  | 32, _, v => v = .string sB
  | 8, _, v => v = .string sB
  | _, _, _ => True

theorem V7_below (p U F V sA sB : ByteArray) (k : Nat) (y : UInt8) : ∀ (i : Nat) (w w' : World) (v : Value), V7 p U F V sA sB k y i w v → Below w.heap.size w w' → V7 p U F V sA sB k y i w' v := by
  intro i w w' v h hb
  unfold V7 at h ⊢
  split at h <;> first | exact h | trivial | exact RB.below h hb | exact Own.below h hb

def V8 (p U F V sA sB : ByteArray) (k : Nat) (y : UInt8) (a2 x1 yz : Int) : Nat → World → Value → Prop
  | 33, _, v => v = .string p
  | 34, _, v => v = .int .i64 (k : Int)
  | 35, _, v => v = .string U
  | 36, _, v => v = .int .u8 a2
  | 37, _, v => v = .int .u8 x1
  | 38, _, v => v = .int .u8 yz
  | 39, w, v => RB w v [y]
  | 40, _, v => v = .string F
  | 41, _, v => v = .string sA
  | 42, _, v => v = .string p
  | 43, _, v => v = .int .i64 (k : Int)
  | 44, _, v => v = .string V
  | 45, _, v => v = .string sB
  | 9, _, v => v = .string sB
  | _, _, _ => True

theorem V8_below (p U F V sA sB : ByteArray) (k : Nat) (y : UInt8) (a2 x1 yz : Int) : ∀ (i : Nat) (w w' : World) (v : Value), V8 p U F V sA sB k y a2 x1 yz i w v → Below w.heap.size w w' → V8 p U F V sA sB k y a2 x1 yz i w' v := by
  intro i w w' v h hb
  unfold V8 at h ⊢
  split at h <;> first | exact h | trivial | exact RB.below h hb | exact Own.below h hb

theorem bl_app (a b : ByteArray) : bl (a ++ b) = bl a ++ bl b := by unfold bl; simp
theorem bl_one (y : UInt8) : bl (str [y]) = [y] := bl_str _
theorem hash_never (P : List UInt8) (k : Nat) (x y : UInt8) (hx : never x) (hy : never y) : hashS (str (P.take k) ++ str [x] ++ str (P.drop k)) = hashS (str (P.take k) ++ str [y] ++ str (P.drop k)) := by
  unfold hashS
  rw [bl_app, bl_app, bl_app, bl_app, bl_str, bl_str, bl_str, bl_str, List.append_assoc, List.append_assoc]
  exact congrArg hashN (runes_never hx hy _ _ _ (Nat.le_refl _))

set_option maxHeartbeats 4000000 in
set_option maxRecDepth 100000 in
theorem walk (a0 : ByteArray) (a1 : Int) (a2 : Int) (w0 : a0.size ≤ maxLen) (w1 : (Lit.int .i64 a1).wf = true) (w2 : (Lit.int .u8 a2).wf = true) (w : World) :
    Calls Try.prog 5 #[.string a0, .int .i64 a1, .int .u8 a2] w fun e w' => e = .returned (.bool true) ∧ Below w.heap.size w w' := by
  obtain ⟨q0, q1⟩ := bounds_u8 w2
  have L0 := Go.Lib.hid fun W => lcut_c a0 30 W w0 (by omega)
  have hp : (str ((bl a0).take 30)).size ≤ 30 := by rw [str_size, List.length_take]; omega
  generalize str ((bl a0).take 30) = p at *
  clear w0 w1 w2
  go_enter Try.func5, Try.ntmps5
  go_wp2_with fail
  refine (begun_c _).mono ?_
  rintro e w1 ⟨rfl, hbb⟩
  go_wp2_with fail
  refine (L0.out _).mono ?_
  rintro e wq ⟨rfl, rfl⟩
  clear L0
  by_cases hlo : a1 < 0
  · go_wp2_with fail
    go_ret
    exact ⟨rfl, hbb⟩
  obtain ⟨k, rfl⟩ : ∃ k : Nat, a1 = (k : Int) := ⟨a1.toNat, by omega⟩
  by_cases hhi : p.size < k
  · go_wp2_with fail
    go_ret
    exact ⟨rfl, hbb⟩
  have hk : k ≤ p.size := by omega
  have hd : decide ((k : Int) < 0) = false := by simp
  clear hlo
  obtain ⟨U, hU⟩ : ∃ U, str ((bl p).take k) = U := ⟨_, rfl⟩
  obtain ⟨V, hV⟩ : ∃ V, str ((bl p).drop k) = V := ⟨_, rfl⟩
  have h25 : p.extract 0 k = U := by rw [take_bl, hU]
  have h31 : p.extract k p.size = V := by rw [← str_bl (p.extract k p.size), drop_bl, hV]
  have hUs : U.size ≤ 30 := by rw [← hU, str_size, List.length_take]; have := bl_size p; omega
  have hVs : V.size ≤ 30 := by rw [← hV, str_size, List.length_drop]; have := bl_size p; omega
  obtain ⟨z, hz0⟩ : ∃ z : UInt8, z = UInt8.ofNat (192 + a2.toNat % 2) := ⟨_, rfl⟩
  have hz1 : z.toNat = 192 + a2.toNat % 2 := by rw [hz0, ofNat_toNat _ (by omega)]
  have hzn : never z := by
    rcases Nat.mod_two_eq_zero_or_one a2.toNat with h | h
    · exact .inr (.inl (by rw [hz1, h]))
    · exact .inr (.inr (by rw [hz1, h]))
  have hHs := hash_never (bl p) k 255 z (.inl rfl) hzn
  rw [hU, hV] at hHs
  obtain ⟨F, hF⟩ : ∃ F, str [(255 : UInt8)] = F := ⟨_, rfl⟩
  obtain ⟨G, hG⟩ : ∃ G, str [z] = G := ⟨_, rfl⟩
  have hFs : F.size = 1 := by rw [← hF]; rfl
  have hGs : G.size = 1 := by rw [← hG]; rfl
  rw [hF, hG] at hHs
  obtain ⟨sA, hA⟩ : ∃ s, U ++ F = s := ⟨_, rfl⟩
  obtain ⟨sC, hC⟩ : ∃ s, U ++ G = s := ⟨_, rfl⟩
  rw [hA, hC] at hHs
  have hAs : sA.size ≤ 31 := by rw [← hA, ByteArray.size_append]; omega
  have hCs : sC.size ≤ 31 := by rw [← hC, ByteArray.size_append]; omega
  obtain ⟨sB, hB⟩ : ∃ s, sA ++ V = s := ⟨_, rfl⟩
  obtain ⟨sD, hD⟩ : ∃ s, sC ++ V = s := ⟨_, rfl⟩
  rw [hB, hD] at hHs
  have hBs : sB.size ≤ 61 := by rw [← hB, ByteArray.size_append]; omega
  have hDs : sD.size ≤ 61 := by rw [← hD, ByteArray.size_append]; omega
  obtain ⟨n, hn⟩ : ∃ n, hashS sB = n := ⟨_, rfl⟩
  have C1 := Go.Lib.hid fun W => hof_k sB n hn W (by omega)
  have C2 := Go.Lib.hid fun W => hof_k sD n (hHs.symm.trans hn) W (by omega)
  have R1 := Go.Lib.hid fun W => rhash_k sB n hn W (by omega)
  have hx1 : bits .and .u8 a2 1 = ((a2.toNat % 2 : Nat) : Int) := by
    rw [u8_and a2 1 q0 (by omega) (by omega) (by omega)]
    exact congrArg _ (nat_mask1 _)
  have hyz : bits .or .u8 192 ((a2.toNat % 2 : Nat) : Int) = (z.toNat : Int) := by
    rw [hz1]
    rcases Nat.mod_two_eq_zero_or_one a2.toNat with h | h <;> rw [h] <;> decide +kernel
  obtain ⟨x1, hx⟩ : ∃ x1 : Int, ((a2.toNat % 2 : Nat) : Int) = x1 := ⟨_, rfl⟩
  obtain ⟨yz, hz⟩ : ∃ yz : Int, yz = (z.toNat : Int) := ⟨_, rfl⟩
  rw [hx] at hx1 hyz
  rw [← hz] at hyz
  have H25 := Go.Lib.hid fun W => show (Instr.slice 9 (.string p) none (some (.int .i64 (k : Int))) none).run Try.prog W = .ok (.string U) W by
    simp [go_sem, Try.underlying9, h25, hk]
  have H31 := Go.Lib.hid fun W => show (Instr.slice 9 (.string p) (some (.int .i64 (k : Int))) none none).run Try.prog W = .ok (.string V) W by
    simp [go_sem, Try.underlying9, h31, hk]
  have hUF : U.size + F.size ≤ 9223372036854775807 := by omega
  have hUG : U.size + G.size ≤ 9223372036854775807 := by omega
  have hAV : sA.size + V.size ≤ 9223372036854775807 := by omega
  have hCV : sC.size + V.size ≤ 9223372036854775807 := by omega
  have hy : (255 : Int) = ((255 : UInt8).toNat : Int) := rfl
  obtain ⟨y, hyy⟩ : ∃ y : UInt8, y = 255 := ⟨_, rfl⟩
  rw [← hyy] at hy hF
  clear hU hV h25 h31 hHs hn hz0 hz1 hzn hx hyy hBs hDs hAs hCs hFs hGs hUs hVs
  go_wp2_with fail
  refine wp_region_each (by kernel_rfl) (V7 p U F V sA sB k y) (V7_below p U F V sA sB k y) (by decide +kernel) (by decide +kernel) (by rfl) [23, 24, 25, 26, 27, 28, 29, 30, 31, 32, 8] (by rfl) ?_ ?_
  · intro i o ho a w6 hb6 hlen hg
    have h25 := H25.out
    have h31 := H31.out
    match i, ho with
    | 0, ho =>
      obtain rfl := Option.some.inj ho
      have h0 := given_old hg 0 (by decide +kernel)
      clear hg
      exact st_yield ho (wanted_none rfl) (.string p) w6 (by simp [execOp, Act.eval, h0, go_sem]) ⟨_, rfl, Below.refl _ _, by rintro t' ⟨⟩; rfl⟩
    | 1, ho =>
      obtain rfl := Option.some.inj ho
      have h1 := given_old hg 1 (by decide +kernel)
      clear hg
      exact st_yield ho (wanted_none rfl) (.int .i64 (k : Int)) w6 (by simp [execOp, Act.eval, h1, go_sem]) ⟨_, rfl, Below.refl _ _, by rintro t' ⟨⟩; rfl⟩
    | 2, ho =>
      obtain rfl := Option.some.inj ho
      obtain ⟨_, h23, rfl⟩ := given_fed hg 23 (by decide +kernel)
      obtain ⟨_, h24, rfl⟩ := given_fed hg 24 (by decide +kernel)
      clear hg
      exact st_yield ho (wanted_none rfl) (.string U) w6 (by simp [execOp, Act.eval, h23, h24, go_sem, h25]) ⟨_, rfl, Below.refl _ _, by rintro t' ⟨⟩; rfl⟩
    | 3, ho =>
      obtain rfl := Option.some.inj ho
      clear hg
      exact st_yield ho (wanted_none rfl) (.slice (some ⟨w6.heap.size, 0, none⟩) 1 1) (w6.alloc (.cells #[.int .u8 255] 5)) (by simp [execOp, Act.eval, go_sem]) ⟨_, rfl, (Below.refl _ _).alloc (Nat.le_refl _) _, by rintro t' ⟨⟩; exact RB.one _ _ _ _ hy⟩
    | 4, ho =>
      obtain rfl := Option.some.inj ho
      obtain ⟨v26, h26, p26⟩ := given_fed hg 26 (by decide +kernel)
      clear hg
      have cv := run_string_RB w6 30 5 9 Try.underlying30 Try.underlying5 Try.underlying9 v26 [y] p26
      rw [hF] at cv
      exact st_yield ho (wanted_none rfl) (.string F) w6 (by simp [execOp, Act.eval, h26, go_sem, cv]) ⟨_, rfl, Below.refl _ _, by rintro t' ⟨⟩; rfl⟩
    | 5, ho =>
      obtain rfl := Option.some.inj ho
      obtain ⟨_, h25, rfl⟩ := given_fed hg 25 (by decide +kernel)
      obtain ⟨_, h27, rfl⟩ := given_fed hg 27 (by decide +kernel)
      clear hg
      exact st_yield ho (wanted_none rfl) (.string sA) w6 (by simp [execOp, Act.eval, h25, h27, go_sem, hA, Nat.not_lt.2 hUF]) ⟨_, rfl, Below.refl _ _, by rintro t' ⟨⟩; rfl⟩
    | 6, ho =>
      obtain rfl := Option.some.inj ho
      have h0 := given_old hg 0 (by decide +kernel)
      clear hg
      exact st_yield ho (wanted_none rfl) (.string p) w6 (by simp [execOp, Act.eval, h0, go_sem]) ⟨_, rfl, Below.refl _ _, by rintro t' ⟨⟩; rfl⟩
    | 7, ho =>
      obtain rfl := Option.some.inj ho
      have h1 := given_old hg 1 (by decide +kernel)
      clear hg
      exact st_yield ho (wanted_none rfl) (.int .i64 (k : Int)) w6 (by simp [execOp, Act.eval, h1, go_sem]) ⟨_, rfl, Below.refl _ _, by rintro t' ⟨⟩; rfl⟩
    | 8, ho =>
      obtain rfl := Option.some.inj ho
      obtain ⟨_, h29, rfl⟩ := given_fed hg 29 (by decide +kernel)
      obtain ⟨_, h30, rfl⟩ := given_fed hg 30 (by decide +kernel)
      clear hg
      exact st_yield ho (wanted_none rfl) (.string V) w6 (by simp [execOp, Act.eval, h29, h30, go_sem, h31]) ⟨_, rfl, Below.refl _ _, by rintro t' ⟨⟩; rfl⟩
    | 9, ho =>
      obtain rfl := Option.some.inj ho
      obtain ⟨_, h28, rfl⟩ := given_fed hg 28 (by decide +kernel)
      obtain ⟨_, h31, rfl⟩ := given_fed hg 31 (by decide +kernel)
      clear hg
      exact st_yield ho (wanted_none rfl) (.string sB) w6 (by simp [execOp, Act.eval, h28, h31, go_sem, hB, Nat.not_lt.2 hAV]) ⟨_, rfl, Below.refl _ _, by rintro t' ⟨⟩; rfl⟩
    | 10, ho =>
      obtain rfl := Option.some.inj ho
      obtain ⟨_, h32, rfl⟩ := given_fed hg 32 (by decide +kernel)
      clear hg
      exact st_yield ho (wanted_none rfl) (.string sB) w6 (by simp [execOp, Act.eval, h32, go_sem]) ⟨_, rfl, Below.refl _ _, by rintro t' ⟨⟩; rfl⟩
    | n + 11, ho => simp at ho
  · intro f w6 hb6 hv
    have h8 := hv 8 (by decide)
    simp only [V7] at h8
    have hbb := hbb.trans (hb6.mono hbb.size)
    clear hv
    unfold putAll
    simp only [List.foldl]
    simp only [h8]
    go_simp
    go_wp2_with fail
    refine wp_region_each (by kernel_rfl) (V8 p U G V sC sD k z a2 x1 yz) (V8_below p U G V sC sD k z a2 x1 yz) (by decide +kernel) (by decide +kernel) (by rfl) [33, 34, 35, 36, 37, 38, 39, 40, 41, 42, 43, 44, 45, 9] (by rfl) ?_ ?_
    · intro i o ho a w6 hb6 hlen hg
      have h25 := H25.out
      have h31 := H31.out
      match i, ho with
      | 0, ho =>
        obtain rfl := Option.some.inj ho
        have h0 := given_old hg 0 (by decide +kernel)
        clear hg
        exact st_yield ho (wanted_none rfl) (.string p) w6 (by simp [execOp, Act.eval, h0, go_sem]) ⟨_, rfl, Below.refl _ _, by rintro t' ⟨⟩; rfl⟩
      | 1, ho =>
        obtain rfl := Option.some.inj ho
        have h1 := given_old hg 1 (by decide +kernel)
        clear hg
        exact st_yield ho (wanted_none rfl) (.int .i64 (k : Int)) w6 (by simp [execOp, Act.eval, h1, go_sem]) ⟨_, rfl, Below.refl _ _, by rintro t' ⟨⟩; rfl⟩
      | 2, ho =>
        obtain rfl := Option.some.inj ho
        obtain ⟨_, h33, rfl⟩ := given_fed hg 33 (by decide +kernel)
        obtain ⟨_, h34, rfl⟩ := given_fed hg 34 (by decide +kernel)
        clear hg
        exact st_yield ho (wanted_none rfl) (.string U) w6 (by simp [execOp, Act.eval, h33, h34, go_sem, h25]) ⟨_, rfl, Below.refl _ _, by rintro t' ⟨⟩; rfl⟩
      | 3, ho =>
        obtain rfl := Option.some.inj ho
        have h2 := given_old hg 2 (by decide +kernel)
        clear hg
        exact st_yield ho (wanted_none rfl) (.int .u8 a2) w6 (by simp [execOp, Act.eval, h2, go_sem]) ⟨_, rfl, Below.refl _ _, by rintro t' ⟨⟩; rfl⟩
      | 4, ho =>
        obtain rfl := Option.some.inj ho
        obtain ⟨_, h36, rfl⟩ := given_fed hg 36 (by decide +kernel)
        clear hg
        exact st_yield ho (wanted_none rfl) (.int .u8 x1) w6 (by simp [execOp, Act.eval, h36, go_sem, hx1]) ⟨_, rfl, Below.refl _ _, by rintro t' ⟨⟩; rfl⟩
      | 5, ho =>
        obtain rfl := Option.some.inj ho
        obtain ⟨_, h37, rfl⟩ := given_fed hg 37 (by decide +kernel)
        clear hg
        exact st_yield ho (wanted_none rfl) (.int .u8 yz) w6 (by simp [execOp, Act.eval, h37, go_sem, hyz]) ⟨_, rfl, Below.refl _ _, by rintro t' ⟨⟩; rfl⟩
      | 6, ho =>
        obtain rfl := Option.some.inj ho
        obtain ⟨_, h38, rfl⟩ := given_fed hg 38 (by decide +kernel)
        clear hg
        exact st_yield ho (wanted_none rfl) (.slice (some ⟨w6.heap.size, 0, none⟩) 1 1) (w6.alloc (.cells #[.int .u8 yz] 5)) (by simp [execOp, Act.eval, h38, go_sem]) ⟨_, rfl, (Below.refl _ _).alloc (Nat.le_refl _) _, by rintro t' ⟨⟩; exact RB.one _ _ _ _ hz⟩
      | 7, ho =>
        obtain rfl := Option.some.inj ho
        obtain ⟨v39, h39, p39⟩ := given_fed hg 39 (by decide +kernel)
        clear hg
        have cv := run_string_RB w6 30 5 9 Try.underlying30 Try.underlying5 Try.underlying9 v39 [z] p39
        rw [hG] at cv
        exact st_yield ho (wanted_none rfl) (.string G) w6 (by simp [execOp, Act.eval, h39, go_sem, cv]) ⟨_, rfl, Below.refl _ _, by rintro t' ⟨⟩; rfl⟩
      | 8, ho =>
        obtain rfl := Option.some.inj ho
        obtain ⟨_, h35, rfl⟩ := given_fed hg 35 (by decide +kernel)
        obtain ⟨_, h40, rfl⟩ := given_fed hg 40 (by decide +kernel)
        clear hg
        exact st_yield ho (wanted_none rfl) (.string sC) w6 (by simp [execOp, Act.eval, h35, h40, go_sem, hC, Nat.not_lt.2 hUG]) ⟨_, rfl, Below.refl _ _, by rintro t' ⟨⟩; rfl⟩
      | 9, ho =>
        obtain rfl := Option.some.inj ho
        have h0 := given_old hg 0 (by decide +kernel)
        clear hg
        exact st_yield ho (wanted_none rfl) (.string p) w6 (by simp [execOp, Act.eval, h0, go_sem]) ⟨_, rfl, Below.refl _ _, by rintro t' ⟨⟩; rfl⟩
      | 10, ho =>
        obtain rfl := Option.some.inj ho
        have h1 := given_old hg 1 (by decide +kernel)
        clear hg
        exact st_yield ho (wanted_none rfl) (.int .i64 (k : Int)) w6 (by simp [execOp, Act.eval, h1, go_sem]) ⟨_, rfl, Below.refl _ _, by rintro t' ⟨⟩; rfl⟩
      | 11, ho =>
        obtain rfl := Option.some.inj ho
        obtain ⟨_, h42, rfl⟩ := given_fed hg 42 (by decide +kernel)
        obtain ⟨_, h43, rfl⟩ := given_fed hg 43 (by decide +kernel)
        clear hg
        exact st_yield ho (wanted_none rfl) (.string V) w6 (by simp [execOp, Act.eval, h42, h43, go_sem, h31]) ⟨_, rfl, Below.refl _ _, by rintro t' ⟨⟩; rfl⟩
      | 12, ho =>
        obtain rfl := Option.some.inj ho
        obtain ⟨_, h41, rfl⟩ := given_fed hg 41 (by decide +kernel)
        obtain ⟨_, h44, rfl⟩ := given_fed hg 44 (by decide +kernel)
        clear hg
        exact st_yield ho (wanted_none rfl) (.string sD) w6 (by simp [execOp, Act.eval, h41, h44, go_sem, hD, Nat.not_lt.2 hCV]) ⟨_, rfl, Below.refl _ _, by rintro t' ⟨⟩; rfl⟩
      | 13, ho =>
        obtain rfl := Option.some.inj ho
        obtain ⟨_, h45, rfl⟩ := given_fed hg 45 (by decide +kernel)
        clear hg
        exact st_yield ho (wanted_none rfl) (.string sD) w6 (by simp [execOp, Act.eval, h45, go_sem]) ⟨_, rfl, Below.refl _ _, by rintro t' ⟨⟩; rfl⟩
      | n + 14, ho => simp at ho
    · intro f w7 hb7 hv
      have h9 := hv 9 (by decide)
      simp only [V8] at h9
      have hbb := hbb.trans (hb7.mono hbb.size)
      clear hv
      unfold putAll
      simp only [List.foldl]
      simp only [h9]
      go_simp
      go_wp2_with fail
      refine (C1.out _).mono ?_
      rintro e w8 ⟨rfl, hc⟩
      have hbb := hbb.trans (hc.mono hbb.size)
      clear hc
      go_wp2_with fail
      refine (C2.out _).mono ?_
      rintro e w9 ⟨rfl, hc⟩
      have hbb := hbb.trans (hc.mono hbb.size)
      clear hc
      go_wp2_with fail
      refine (C1.out _).mono ?_
      rintro e w10 ⟨rfl, hc⟩
      have hbb := hbb.trans (hc.mono hbb.size)
      clear hc
      go_wp2_with fail
      refine (R1.out _).mono ?_
      rintro e w11 ⟨rfl, hc⟩
      have hbb := hbb.trans (hc.mono hbb.size)
      clear hc
      go_wp2_with fail
      go_ret
      exact ⟨rfl, hbb⟩

/-! ### THE ROW's STEP: WRITTEN OUT: LEAVE IT -/
set_option maxRecDepth 100000 in
theorem lifted (os : Os) (started : os.Started) (H : Type) (enc : TypeId × Value → H) :
    ReturnsInHanded {} Try.checked os 5 .any (Rows.hashRunesSpec.pre6 enc Try.prog Try.f5 Rows.hashRunesRow.domain false) (Rows.hashRunesSpec.post enc Try.prog Try.f5 false true false false) := by
  refine returnsInHanded_of_change (C := Try.checked) own started (by kernel_rfl) Try.func5
    (ChangeSpec.witness6 (enc := enc) (C := Try.checked) false ⟨#[], #[.string ByteArray.empty, .int .i64 0, .int .u8 0], []⟩ 8 (by kernel_rfl) (by kernel_rfl) (by kernel_rfl) (by kernel_rfl)) ?_
  intro W base args ds gs before hval0 hW hcnd _
  have hval : ∀ (j : Nat) t v, Try.f5.params[j]? = some t → args[j]? = some v → Value.okWide Try.prog W .any base t v := hval0
  have hW' := hW
  obtain ⟨p, q, hA0, hV, rfl, hfz, hnd⟩ := hW
  have hA : DataW.TrodAll enc Try.prog W 0 (fun _ => true) true Try.f5.params.toList args.toList ds p := hA0
  rw [Try.params5] at hA hval
  obtain ⟨v0, vs0, d0, ds0, p0, q0, hargs, rfl, rfl, h0, r0⟩ := trodAll_cons hA
  obtain ⟨v1, vs1, d1, ds1, p1, q1, rfl, rfl, rfl, h1, r1⟩ := trodAll_cons r0
  obtain ⟨v2, vs2, d2, ds2, p2, q2, rfl, rfl, rfl, h2, r2⟩ := trodAll_cons r1
  obtain ⟨rfl, rfl, rfl⟩ := trodAll_nil r2
  obtain rfl : args = #[v0, v1, v2] := by cases args; simp_all
  obtain ⟨rfl, rfl⟩ := trodVars_none hV
  obtain ⟨a0, rfl, rfl, rfl, w0⟩ := open_string Try.underlying9 (hval 0 9 v0 rfl rfl) h0
  obtain ⟨a1, rfl, rfl, rfl, w1⟩ := open_int Try.underlying3 (hval 1 3 v1 rfl rfl) h1
  obtain ⟨a2, rfl, rfl, rfl, w2⟩ := open_int Try.underlying5 (hval 2 5 v2 rfl rfl) h2
  clear hA0 hval0
  refine (walk a0 a1 a2 w0 w1 w2 W).mono fun e W' ⟨he, hg⟩ => ?_
  subst he
  exact ⟨_, rfl, _, _, _, [], _, [], hW', (trodAll_cons_mk (shut_bool Try.underlying4 _) trodAll_mk0), (trodAll_cons_mk (shut_string Try.underlying9 w0) (trodAll_cons_mk (shut_int Try.underlying3 w1) (trodAll_cons_mk (shut_int Try.underlying5 w2) trodAll_mk0))), rfl, hg.frame _, fun h => by cases h⟩

theorem over : Rows.hashRunesRow.holds Try.pinned (OpenSpec.ofChange Rows.hashRunesSpec) :=
  OpenClaim.holds_of_wide 5 Try.f5 rfl rfl rfl rfl rfl rfl rfl ⟨rfl, rfl, rfl, rfl, rfl⟩ rfl rfl rfl rfl rfl (by kernel_rfl) Try.func5 (by kernel_rfl)
    (of_decide_eq_true (by kernel_rfl)) (by unfold Func.isWrapper; first | (rw [if_pos (by decide +kernel)]; kernel_rfl) | (rw [if_neg (by decide +kernel)]; exact ⟨rfl, rfl⟩))
    (fun os started H enc _ => lifted os started H enc)

/-- ████ THE STATEMENT ████ -/
theorem proved : Rows.HashRunesSaid :=
  over
#print axioms proved
end Go.Proofs.Ytlmfdpdcffnocaa.hashRunes
