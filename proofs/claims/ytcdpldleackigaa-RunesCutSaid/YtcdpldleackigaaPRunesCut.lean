/- RunesCut: the first runes of the first ones are the first ones, and what is cut off goes on: for every string and every two numbers the law returns true. -/
import Derived.Test.YtcdpldleackigaaRows
import Derived.WalkKit
import Derived.ProofKit
import Derived.OpenShut
import Derived.ShutString
import Derived.Test.YtcdpldleackigaaRunL
import Derived.Deep.DeepCutAuto
import Derived.Test.YtcdpldleackigaaDraw
namespace Go.Proofs.Ytcdpldleackigaa.runesCut
open Go.ChangeShapes Go.WideShapes Go.ChangeAt Go.RowKit
open Go.ChangeMaps (open_string shut_string)
set_option linter.unusedVariables false      -- a walk need not use every 'w<i>' (that an integer argument fits its kind)

theorem own : ownKnob Try.prog.godebug = none := by kernel_rfl

def VC (sS sA sD sX : ByteArray) (n m mn cA cD cS : Int) : Nat → World → Value → Prop
  | 26, _, v => v = .string sA
  | 27, _, v => v = .int .i64 m
  | 28, _, v => v = .string sX
  | 29, _, v => v = .string sS
  | 30, _, v => v = .int .i64 n
  | 31, _, v => v = .int .i64 m
  | 32, _, v => v = .int .i64 mn
  | 33, _, v => v = .string sX
  | 34, _, v => v = .bool true
  | 35, _, v => v = .bool true
  | 36, _, v => v = .string sS
  | 37, _, v => v = .string sA
  | 38, _, v => v = .int .i64 (sA.size : Int)
  | 39, _, v => v = .string sA
  | 40, _, v => v = .string sA
  | 41, _, v => v = .bool true
  | 42, _, v => v = .bool true
  | 43, _, v => v = .bool true
  | 44, _, v => v = .string sA
  | 45, _, v => v = .int .i64 cA
  | 46, _, v => v = .string sS
  | 47, _, v => v = .string sA
  | 48, _, v => v = .int .i64 (sA.size : Int)
  | 49, _, v => v = .string sD
  | 50, _, v => v = .int .i64 cD
  | 51, _, v => v = .int .i64 cS
  | 52, _, v => v = .string sS
  | 53, _, v => v = .int .i64 cS
  | 54, _, v => v = .bool true
  | 55, _, v => v = .bool true
  | 56, _, v => v = .bool true
  | 57, _, v => v = .string sA
  | 58, _, v => v = .int .i64 cA
  | 59, _, v => v = .int .i64 n
  | 60, _, v => v = .string sS
  | 61, _, v => v = .int .i64 cS
  | 62, _, v => v = .int .i64 cA
  | 63, _, v => v = .bool true
  | 64, _, v => v = .bool true
  | 6, _, v => v = .bool true
  | _, _, _ => True

theorem VC_below (sS sA sD sX : ByteArray) (n m mn cA cD cS : Int) : ∀ (i : Nat) (w w' : World) (v : Value), VC sS sA sD sX n m mn cA cD cS i w v → Below w.heap.size w w' → VC sS sA sD sX n m mn cA cD cS i w' v := by
  intro i w w' v h hb
  unfold VC at h ⊢
  split at h <;> first | exact h | trivial

set_option maxHeartbeats 2000000 in
set_option maxRecDepth 100000 in
theorem walk (a0 : ByteArray) (a1 : Int) (a2 : Int) (w0 : a0.size ≤ maxLen) (w1 : (Lit.int .i64 a1).wf = true) (w2 : (Lit.int .i64 a2).wf = true) (w : World) :
    Calls Try.prog 7 #[.string a0, .int .i64 a1, .int .i64 a2] w fun e w' => e = .returned (.bool true) ∧ Below w.heap.size w w' := by
  obtain ⟨-, b1⟩ := bounds_i64 w1
  obtain ⟨-, b2⟩ := bounds_i64 w2
  have b1 : a1 ≤ 9223372036854775807 := by omega
  have b2 : a2 ≤ 9223372036854775807 := by omega
  clear w1 w2
  have CB := Go.Lib.hid (begun_c w)
  have C0 := Go.Lib.hid fun W => lcut_c a0 60 W w0 (by omega)
  obtain ⟨S, hS⟩ : ∃ S, S = (bl a0).take 60 := ⟨_, rfl⟩
  have hSl : S.length ≤ 60 := by rw [hS, List.length_take]; omega
  rw [← hS] at C0
  clear hS w0
  go_enter Try.func7, Try.ntmps7
  go_wp2_with fail
  refine CB.out.mono ?_
  rintro e w1 ⟨rfl, hb1⟩
  go_wp2_with fail
  refine (C0.out _).mono ?_
  rintro e w2 ⟨rfl, rfl⟩
  clear CB C0
  by_cases hneg : a1 < 0 ∨ a2 < 0
  · have CC := cut_s S (-1) w1 (by omega)
    have e0 : str (cutl S (-1)) = ⟨#[]⟩ := by
      unfold cutl
      rw [if_pos (by decide)]
      rfl
    rw [e0] at CC
    have CC := Go.Lib.hid CC
    rcases hneg with h | h
    · go_wp2_with fail
      refine CC.out.mono ?_
      rintro e w2 ⟨rfl, hb2⟩
      go_wp2_with fail
      go_ret
      exact ⟨rfl, hb1.trans (hb2.mono hb1.size)⟩
    · by_cases h1 : a1 < 0
      · go_wp2_with fail
        refine CC.out.mono ?_
        rintro e w2 ⟨rfl, hb2⟩
        go_wp2_with fail
        go_ret
        exact ⟨rfl, hb1.trans (hb2.mono hb1.size)⟩
      · go_wp2_with fail
        refine CC.out.mono ?_
        rintro e w2 ⟨rfl, hb2⟩
        go_wp2_with fail
        go_ret
        exact ⟨rfl, hb1.trans (hb2.mono hb1.size)⟩
  · have n1 : 0 ≤ a1 := by omega
    have n2 : 0 ≤ a2 := by omega
    clear hneg
    have CA := Go.Lib.hid fun W => cut_s S a1 W (by omega)
    go_wp2_with fail
    refine (CA.out _).mono ?_
    rintro e w2 ⟨rfl, hb2⟩
    have hbb2 := hb1.trans (hb2.mono hb1.size)
    clear CA hb1 hb2
    go_wp2_with fail
    have e1 := cutl_cutl S a1 a2 n1 n2
    have hAl := cutl_length S a1
    have e2 := take_cutl S a1
    have e3 := drop_cutl S a1 n1
    have e4 := toks_cutl S a1 n1
    have c1 := fun W => cut_s (cutl S a1) a2 W (by omega)
    have c2 := fun W => cut_s S (min a1 a2) W (by omega)
    have c3 := fun W => count_s (cutl S a1) W (by omega)
    have c4 := fun W => count_s (S.drop (cutl S a1).length) W (by rw [List.length_drop]; omega)
    have c5 := fun W => count_s S W (by omega)
    rw [e1] at c1
    rw [e4, List.length_take] at c3
    rw [e3, List.length_drop] at c4
    have hT := toks_length S
    generalize (toks S).length = T at c3 c4 c5 hT
    generalize hX : cutl S (min a1 a2) = X at c1 c2
    generalize hA : cutl S a1 = A at *
    have h39 : (str S).extract 0 (str A).size = str A := by rw [take_bl, bl_str, str_size, e2]
    have h49 : (str S).extract (str A).size (str S).size = str (S.drop A.length) := by
      rw [← str_bl ((str S).extract (str A).size (str S).size), drop_bl, bl_str, str_size]
    have hle : (str A).size ≤ (str S).size := by rw [str_size, str_size]; omega
    generalize S.drop A.length = D at *
    obtain ⟨mn, hmn⟩ : ∃ mn, min a1 a2 = mn := ⟨_, rfl⟩
    rw [hmn] at c2
    obtain ⟨cA, hcA⟩ : ∃ c : Int, c = ((Nat.min a1.toNat T : Nat) : Int) := ⟨_, rfl⟩
    obtain ⟨cD, hcD⟩ : ∃ c : Int, c = ((T - a1.toNat : Nat) : Int) := ⟨_, rfl⟩
    obtain ⟨cS, hcS⟩ : ∃ c : Int, c = (T : Int) := ⟨_, rfl⟩
    have hsum : IntKind.i64.wrap (cA + cD) = cS := by
      have : cA + cD = cS := by
        rw [hcA, hcD, hcS]
        simp only [Nat.min_def]
        split <;> omega
      rw [this, IntKind.wrap_i64]
      omega
    have hmin : min a1 cS = cA := by
      rw [hcA, hcS]
      simp only [Nat.min_def, Int.min_def]
      split <;> split <;> omega
    rw [← hcS] at c5
    rw [show ((min a1.toNat T : Nat) : Int) = cA from hcA.symm] at c3
    rw [← hcD] at c4
    clear hcA hcD hcS e1 e2 e3 e4 hX hA hAl hT
    generalize hsS : str S = sS at *
    generalize hsA : str A = sA at *
    generalize hsD : str D = sD at *
    generalize hsX : str X = sX at *
    clear hsS hsA hsD hsX hSl
    have h39' : ∀ W, (Instr.slice 9 (.string sS) none (some (.int .i64 (sA.size : Int))) none).run Try.prog W = .ok (.string sA) W := fun W => by
      simp [go_sem, Try.underlying9, h39, hle]
    have h49' : ∀ W, (Instr.slice 9 (.string sS) (some (.int .i64 (sA.size : Int))) none none).run Try.prog W = .ok (.string sD) W := fun W => by
      simp [go_sem, Try.underlying9, h49, hle]
    have C1 := Go.Lib.hid c1; clear c1
    have C2 := Go.Lib.hid c2; clear c2
    have C3 := Go.Lib.hid c3; clear c3
    have C4 := Go.Lib.hid c4; clear c4
    have C5 := Go.Lib.hid c5; clear c5
    have Hmn := Go.Lib.hid hmn; clear hmn
    have H39 := Go.Lib.hid h39'; clear h39' h39
    have H49 := Go.Lib.hid h49'; clear h49' h49
    have H51 := Go.Lib.hid hsum; clear hsum
    have H62 := Go.Lib.hid hmin; clear hmin
    generalize a1 = n at *
    generalize a2 = m at *
    refine wp_region_each (by kernel_rfl) (VC sS sA sD sX n m mn cA cD cS) (VC_below _ _ _ _ _ _ _ _ _ _) (by decide +kernel) (by decide +kernel) (by rfl) [26, 27, 28, 29, 30, 31, 32, 33, 34, 35, 36, 37, 38, 39, 40, 41, 42, 43, 44, 45, 46, 47, 48, 49, 50, 51, 52, 53, 54, 55, 56, 57, 58, 59, 60, 61, 62, 63, 64, 6] (by rfl) ?_ ?_
    · intro i o ho a w6 hb6 hlen hg
      have hmn := Hmn.out
      have h39 := H39.out
      have h49 := H49.out
      have h51 := H51.out
      have h62 := H62.out
      match i, ho with
      | 0, ho =>
        obtain rfl := Option.some.inj ho
        simp [Given, Oper.looksAt, Op.operands, fedB, Region.binds, VC] at hg
        exact st_yield ho (by simp [Region.wanted]) (.string sA) w6 (by simp [execOp, Act.eval, hg, go_sem]) ⟨_, rfl, Below.refl _ _, by rintro t' ⟨⟩; rfl⟩
      | 1, ho =>
        obtain rfl := Option.some.inj ho
        simp [Given, Oper.looksAt, Op.operands, fedB, Region.binds, VC] at hg
        exact st_yield ho (by simp [Region.wanted]) (.int .i64 m) w6 (by simp [execOp, Act.eval, hg, go_sem]) ⟨_, rfl, Below.refl _ _, by rintro t' ⟨⟩; rfl⟩
      | 2, ho =>
        obtain rfl := Option.some.inj ho
        simp [Given, Oper.looksAt, Op.operands, Call.operands, fedB, Region.binds, VC] at hg
        exact st_enter (w1 := w6) ho (by simp [Region.wanted]) 17 #[.string sA, .int .i64 m] (by simp [execOp, Act.eval, hg, resolve, go_sem]) ((C1.out _).mono (by rintro e w7 ⟨rfl, hb7⟩; exact ⟨_, rfl, _, rfl, hb7, by rintro t' ⟨⟩; rfl⟩))
      | 3, ho =>
        obtain rfl := Option.some.inj ho
        simp [Given, Oper.looksAt, Op.operands, fedB, Region.binds, VC] at hg
        exact st_yield ho (by simp [Region.wanted]) (.string sS) w6 (by simp [execOp, Act.eval, hg, go_sem]) ⟨_, rfl, Below.refl _ _, by rintro t' ⟨⟩; rfl⟩
      | 4, ho =>
        obtain rfl := Option.some.inj ho
        simp [Given, Oper.looksAt, Op.operands, fedB, Region.binds, VC] at hg
        exact st_yield ho (by simp [Region.wanted]) (.int .i64 n) w6 (by simp [execOp, Act.eval, hg, go_sem]) ⟨_, rfl, Below.refl _ _, by rintro t' ⟨⟩; rfl⟩
      | 5, ho =>
        obtain rfl := Option.some.inj ho
        simp [Given, Oper.looksAt, Op.operands, fedB, Region.binds, VC] at hg
        exact st_yield ho (by simp [Region.wanted]) (.int .i64 m) w6 (by simp [execOp, Act.eval, hg, go_sem]) ⟨_, rfl, Below.refl _ _, by rintro t' ⟨⟩; rfl⟩
      | 6, ho =>
        obtain rfl := Option.some.inj ho
        simp [Given, Oper.looksAt, Op.operands, Call.operands, fedB, Region.binds, VC] at hg
        exact st_yield ho (by simp [Region.wanted]) (.int .i64 mn) w6 (by simp [execOp, Act.eval, hg, hmn, resolve, go_sem]) ⟨_, rfl, Below.refl _ _, by rintro t' ⟨⟩; rfl⟩
      | 7, ho =>
        obtain rfl := Option.some.inj ho
        simp [Given, Oper.looksAt, Op.operands, Call.operands, fedB, Region.binds, VC] at hg
        exact st_enter (w1 := w6) ho (by simp [Region.wanted]) 17 #[.string sS, .int .i64 mn] (by simp [execOp, Act.eval, hg, resolve, go_sem]) ((C2.out _).mono (by rintro e w7 ⟨rfl, hb7⟩; exact ⟨_, rfl, _, rfl, hb7, by rintro t' ⟨⟩; rfl⟩))
      | 8, ho =>
        obtain rfl := Option.some.inj ho
        simp [Given, Oper.looksAt, Op.operands, fedB, Region.binds, VC] at hg
        exact st_yield ho (by simp [Region.wanted]) (.bool true) w6 (by simp [execOp, Act.eval, hg, go_sem]) ⟨_, rfl, Below.refl _ _, by rintro t' ⟨⟩; rfl⟩
      | 9, ho =>
        obtain rfl := Option.some.inj ho
        simp [Given, Oper.looksAt, Op.operands, fedB, Region.binds, VC] at hg
        exact st_yield ho (by simp [Region.wanted]) (.bool true) w6 (by simp [execOp, Act.eval, hg, go_sem]) ⟨_, rfl, Below.refl _ _, by rintro t' ⟨⟩; rfl⟩
      | 10, ho =>
        obtain rfl := Option.some.inj ho
        simp [Given, Oper.looksAt, Op.operands, fedB, Region.binds, VC] at hg
        exact st_yield ho (by simp [Region.wanted, yielded, hg]) (.string sS) w6 (by simp [execOp, Act.eval, hg, go_sem]) ⟨_, rfl, Below.refl _ _, by rintro t' ⟨⟩; rfl⟩
      | 11, ho =>
        obtain rfl := Option.some.inj ho
        simp [Given, Oper.looksAt, Op.operands, fedB, Region.binds, VC] at hg
        exact st_yield ho (by simp [Region.wanted, yielded, hg]) (.string sA) w6 (by simp [execOp, Act.eval, hg, go_sem]) ⟨_, rfl, Below.refl _ _, by rintro t' ⟨⟩; rfl⟩
      | 12, ho =>
        obtain rfl := Option.some.inj ho
        simp [Given, Oper.looksAt, Op.operands, Call.operands, fedB, Region.binds, VC] at hg
        exact st_yield ho (by simp [Region.wanted, yielded, hg]) (.int .i64 (sA.size : Int)) w6 (by simp [execOp, Act.eval, hg, resolve, go_sem]) ⟨_, rfl, Below.refl _ _, by rintro t' ⟨⟩; rfl⟩
      | 13, ho =>
        obtain rfl := Option.some.inj ho
        simp [Given, Oper.looksAt, Op.operands, fedB, Region.binds, VC] at hg
        exact st_yield ho (by simp [Region.wanted, yielded, hg]) (.string sA) w6 (by simp [execOp, Act.eval, hg, h39, go_sem, Result.andThen]) ⟨_, rfl, Below.refl _ _, by rintro t' ⟨⟩; rfl⟩
      | 14, ho =>
        obtain rfl := Option.some.inj ho
        simp [Given, Oper.looksAt, Op.operands, fedB, Region.binds, VC] at hg
        exact st_yield ho (by simp [Region.wanted, yielded, hg]) (.string sA) w6 (by simp [execOp, Act.eval, hg, go_sem]) ⟨_, rfl, Below.refl _ _, by rintro t' ⟨⟩; rfl⟩
      | 15, ho =>
        obtain rfl := Option.some.inj ho
        simp [Given, Oper.looksAt, Op.operands, fedB, Region.binds, VC] at hg
        exact st_yield ho (by simp [Region.wanted, yielded, hg]) (.bool true) w6 (by simp [execOp, Act.eval, hg, go_sem]) ⟨_, rfl, Below.refl _ _, by rintro t' ⟨⟩; rfl⟩
      | 16, ho =>
        obtain rfl := Option.some.inj ho
        simp [Given, Oper.looksAt, Op.operands, fedB, Region.binds, VC] at hg
        exact st_yield ho (by simp [Region.wanted]) (.bool true) w6 (by simp [execOp, Act.eval, hg, go_sem]) ⟨_, rfl, Below.refl _ _, by rintro t' ⟨⟩; rfl⟩
      | 17, ho =>
        obtain rfl := Option.some.inj ho
        simp [Given, Oper.looksAt, Op.operands, fedB, Region.binds, VC] at hg
        exact st_yield ho (by simp [Region.wanted]) (.bool true) w6 (by simp [execOp, Act.eval, hg, go_sem]) ⟨_, rfl, Below.refl _ _, by rintro t' ⟨⟩; rfl⟩
      | 18, ho =>
        obtain rfl := Option.some.inj ho
        simp [Given, Oper.looksAt, Op.operands, fedB, Region.binds, VC] at hg
        exact st_yield ho (by simp [Region.wanted, yielded, hg]) (.string sA) w6 (by simp [execOp, Act.eval, hg, go_sem]) ⟨_, rfl, Below.refl _ _, by rintro t' ⟨⟩; rfl⟩
      | 19, ho =>
        obtain rfl := Option.some.inj ho
        simp [Given, Oper.looksAt, Op.operands, Call.operands, fedB, Region.binds, VC] at hg
        exact st_enter (w1 := w6) ho (by simp [Region.wanted, yielded, hg]) 13 #[.string sA] (by simp [execOp, Act.eval, hg, resolve, go_sem]) ((C3.out _).mono (by rintro e w7 ⟨rfl, hb7⟩; exact ⟨_, rfl, _, rfl, hb7, by rintro t' ⟨⟩; rfl⟩))
      | 20, ho =>
        obtain rfl := Option.some.inj ho
        simp [Given, Oper.looksAt, Op.operands, fedB, Region.binds, VC] at hg
        exact st_yield ho (by simp [Region.wanted, yielded, hg]) (.string sS) w6 (by simp [execOp, Act.eval, hg, go_sem]) ⟨_, rfl, Below.refl _ _, by rintro t' ⟨⟩; rfl⟩
      | 21, ho =>
        obtain rfl := Option.some.inj ho
        simp [Given, Oper.looksAt, Op.operands, fedB, Region.binds, VC] at hg
        exact st_yield ho (by simp [Region.wanted, yielded, hg]) (.string sA) w6 (by simp [execOp, Act.eval, hg, go_sem]) ⟨_, rfl, Below.refl _ _, by rintro t' ⟨⟩; rfl⟩
      | 22, ho =>
        obtain rfl := Option.some.inj ho
        simp [Given, Oper.looksAt, Op.operands, Call.operands, fedB, Region.binds, VC] at hg
        exact st_yield ho (by simp [Region.wanted, yielded, hg]) (.int .i64 (sA.size : Int)) w6 (by simp [execOp, Act.eval, hg, resolve, go_sem]) ⟨_, rfl, Below.refl _ _, by rintro t' ⟨⟩; rfl⟩
      | 23, ho =>
        obtain rfl := Option.some.inj ho
        simp [Given, Oper.looksAt, Op.operands, fedB, Region.binds, VC] at hg
        exact st_yield ho (by simp [Region.wanted, yielded, hg]) (.string sD) w6 (by simp [execOp, Act.eval, hg, h49, go_sem, Result.andThen]) ⟨_, rfl, Below.refl _ _, by rintro t' ⟨⟩; rfl⟩
      | 24, ho =>
        obtain rfl := Option.some.inj ho
        simp [Given, Oper.looksAt, Op.operands, Call.operands, fedB, Region.binds, VC] at hg
        exact st_enter (w1 := w6) ho (by simp [Region.wanted, yielded, hg]) 13 #[.string sD] (by simp [execOp, Act.eval, hg, resolve, go_sem]) ((C4.out _).mono (by rintro e w7 ⟨rfl, hb7⟩; exact ⟨_, rfl, _, rfl, hb7, by rintro t' ⟨⟩; rfl⟩))
      | 25, ho =>
        obtain rfl := Option.some.inj ho
        simp [Given, Oper.looksAt, Op.operands, fedB, Region.binds, VC] at hg
        exact st_yield ho (by simp [Region.wanted, yielded, hg]) (.int .i64 cS) w6 (by simp [execOp, Act.eval, hg, h51, go_sem, Result.andThen]) ⟨_, rfl, Below.refl _ _, by rintro t' ⟨⟩; rfl⟩
      | 26, ho =>
        obtain rfl := Option.some.inj ho
        simp [Given, Oper.looksAt, Op.operands, fedB, Region.binds, VC] at hg
        exact st_yield ho (by simp [Region.wanted, yielded, hg]) (.string sS) w6 (by simp [execOp, Act.eval, hg, go_sem]) ⟨_, rfl, Below.refl _ _, by rintro t' ⟨⟩; rfl⟩
      | 27, ho =>
        obtain rfl := Option.some.inj ho
        simp [Given, Oper.looksAt, Op.operands, Call.operands, fedB, Region.binds, VC] at hg
        exact st_enter (w1 := w6) ho (by simp [Region.wanted, yielded, hg]) 13 #[.string sS] (by simp [execOp, Act.eval, hg, resolve, go_sem]) ((C5.out _).mono (by rintro e w7 ⟨rfl, hb7⟩; exact ⟨_, rfl, _, rfl, hb7, by rintro t' ⟨⟩; rfl⟩))
      | 28, ho =>
        obtain rfl := Option.some.inj ho
        simp [Given, Oper.looksAt, Op.operands, fedB, Region.binds, VC] at hg
        exact st_yield ho (by simp [Region.wanted, yielded, hg]) (.bool true) w6 (by simp [execOp, Act.eval, hg, go_sem]) ⟨_, rfl, Below.refl _ _, by rintro t' ⟨⟩; rfl⟩
      | 29, ho =>
        obtain rfl := Option.some.inj ho
        simp [Given, Oper.looksAt, Op.operands, fedB, Region.binds, VC] at hg
        exact st_yield ho (by simp [Region.wanted]) (.bool true) w6 (by simp [execOp, Act.eval, hg, go_sem]) ⟨_, rfl, Below.refl _ _, by rintro t' ⟨⟩; rfl⟩
      | 30, ho =>
        obtain rfl := Option.some.inj ho
        simp [Given, Oper.looksAt, Op.operands, fedB, Region.binds, VC] at hg
        exact st_yield ho (by simp [Region.wanted]) (.bool true) w6 (by simp [execOp, Act.eval, hg, go_sem]) ⟨_, rfl, Below.refl _ _, by rintro t' ⟨⟩; rfl⟩
      | 31, ho =>
        obtain rfl := Option.some.inj ho
        simp [Given, Oper.looksAt, Op.operands, fedB, Region.binds, VC] at hg
        exact st_yield ho (by simp [Region.wanted, yielded, hg]) (.string sA) w6 (by simp [execOp, Act.eval, hg, go_sem]) ⟨_, rfl, Below.refl _ _, by rintro t' ⟨⟩; rfl⟩
      | 32, ho =>
        obtain rfl := Option.some.inj ho
        simp [Given, Oper.looksAt, Op.operands, Call.operands, fedB, Region.binds, VC] at hg
        exact st_enter (w1 := w6) ho (by simp [Region.wanted, yielded, hg]) 13 #[.string sA] (by simp [execOp, Act.eval, hg, resolve, go_sem]) ((C3.out _).mono (by rintro e w7 ⟨rfl, hb7⟩; exact ⟨_, rfl, _, rfl, hb7, by rintro t' ⟨⟩; rfl⟩))
      | 33, ho =>
        obtain rfl := Option.some.inj ho
        simp [Given, Oper.looksAt, Op.operands, fedB, Region.binds, VC] at hg
        exact st_yield ho (by simp [Region.wanted, yielded, hg]) (.int .i64 n) w6 (by simp [execOp, Act.eval, hg, go_sem]) ⟨_, rfl, Below.refl _ _, by rintro t' ⟨⟩; rfl⟩
      | 34, ho =>
        obtain rfl := Option.some.inj ho
        simp [Given, Oper.looksAt, Op.operands, fedB, Region.binds, VC] at hg
        exact st_yield ho (by simp [Region.wanted, yielded, hg]) (.string sS) w6 (by simp [execOp, Act.eval, hg, go_sem]) ⟨_, rfl, Below.refl _ _, by rintro t' ⟨⟩; rfl⟩
      | 35, ho =>
        obtain rfl := Option.some.inj ho
        simp [Given, Oper.looksAt, Op.operands, Call.operands, fedB, Region.binds, VC] at hg
        exact st_enter (w1 := w6) ho (by simp [Region.wanted, yielded, hg]) 13 #[.string sS] (by simp [execOp, Act.eval, hg, resolve, go_sem]) ((C5.out _).mono (by rintro e w7 ⟨rfl, hb7⟩; exact ⟨_, rfl, _, rfl, hb7, by rintro t' ⟨⟩; rfl⟩))
      | 36, ho =>
        obtain rfl := Option.some.inj ho
        simp [Given, Oper.looksAt, Op.operands, Call.operands, fedB, Region.binds, VC] at hg
        exact st_yield ho (by simp [Region.wanted, yielded, hg]) (.int .i64 cA) w6 (by simp [execOp, Act.eval, hg, h62, resolve, go_sem]) ⟨_, rfl, Below.refl _ _, by rintro t' ⟨⟩; rfl⟩
      | 37, ho =>
        obtain rfl := Option.some.inj ho
        simp [Given, Oper.looksAt, Op.operands, fedB, Region.binds, VC] at hg
        exact st_yield ho (by simp [Region.wanted, yielded, hg]) (.bool true) w6 (by simp [execOp, Act.eval, hg, go_sem]) ⟨_, rfl, Below.refl _ _, by rintro t' ⟨⟩; rfl⟩
      | 38, ho =>
        obtain rfl := Option.some.inj ho
        simp [Given, Oper.looksAt, Op.operands, fedB, Region.binds, VC] at hg
        exact st_yield ho (by simp [Region.wanted]) (.bool true) w6 (by simp [execOp, Act.eval, hg, go_sem]) ⟨_, rfl, Below.refl _ _, by rintro t' ⟨⟩; rfl⟩
      | 39, ho =>
        obtain rfl := Option.some.inj ho
        simp [Given, Oper.looksAt, Op.operands, fedB, Region.binds, VC] at hg
        exact st_yield ho (by simp [Region.wanted]) (.bool true) w6 (by simp [execOp, Act.eval, hg, go_sem]) ⟨_, rfl, Below.refl _ _, by rintro t' ⟨⟩; rfl⟩
      | n + 40, ho => simp at ho
    · intro f w6 hb6 hv
      have h6 := hv 6 (by simp)
      clear hv
      simp only [VC] at h6
      unfold putAll
      simp only [List.foldl]
      go_simp
      go_wp2
      go_ret
      exact ⟨rfl, hbb2.trans (hb6.mono hbb2.size)⟩

/-! ### THE ROW's STEP: WRITTEN OUT: LEAVE IT -/
set_option maxRecDepth 100000 in
theorem lifted (os : Os) (started : os.Started) (H : Type) (enc : TypeId × Value → H) :
    ReturnsInHanded {} Try.checked os 7 .any (Rows.runesCutSpec.pre6 enc Try.prog Try.f7 Rows.runesCutRow.domain false) (Rows.runesCutSpec.post enc Try.prog Try.f7 false true false false) := by
  refine returnsInHanded_of_change (C := Try.checked) own started (by kernel_rfl) Try.func7
    (ChangeSpec.witness6 (enc := enc) (C := Try.checked) false ⟨#[], #[.string ByteArray.empty, .int .i64 0, .int .i64 0], []⟩ 8 (by kernel_rfl) (by kernel_rfl) (by kernel_rfl) (by kernel_rfl)) ?_
  intro W base args ds gs before hval0 hW hcnd _
  have hval : ∀ (j : Nat) t v, Try.f7.params[j]? = some t → args[j]? = some v → Value.okWide Try.prog W .any base t v := hval0
  have hW' := hW
  obtain ⟨p, q, hA0, hV, rfl, hfz, hnd⟩ := hW
  have hA : DataW.TrodAll enc Try.prog W 0 (fun _ => true) true Try.f7.params.toList args.toList ds p := hA0
  rw [Try.params7] at hA hval
  obtain ⟨v0, vs0, d0, ds0, p0, q0, hargs, rfl, rfl, h0, r0⟩ := trodAll_cons hA
  obtain ⟨v1, vs1, d1, ds1, p1, q1, rfl, rfl, rfl, h1, r1⟩ := trodAll_cons r0
  obtain ⟨v2, vs2, d2, ds2, p2, q2, rfl, rfl, rfl, h2, r2⟩ := trodAll_cons r1
  obtain ⟨rfl, rfl, rfl⟩ := trodAll_nil r2
  obtain rfl : args = #[v0, v1, v2] := by cases args; simp_all
  obtain ⟨rfl, rfl⟩ := trodVars_none hV
  obtain ⟨a0, rfl, rfl, rfl, w0⟩ := open_string Try.underlying9 (hval 0 9 v0 rfl rfl) h0
  obtain ⟨a1, rfl, rfl, rfl, w1⟩ := open_int Try.underlying3 (hval 1 3 v1 rfl rfl) h1
  obtain ⟨a2, rfl, rfl, rfl, w2⟩ := open_int Try.underlying3 (hval 2 3 v2 rfl rfl) h2
  clear hA0 hval0
  refine (walk a0 a1 a2 w0 w1 w2 W).mono fun e W' ⟨he, hg⟩ => ?_
  subst he
  exact ⟨_, rfl, _, _, _, [], _, [], hW', (trodAll_cons_mk (shut_bool Try.underlying4 _) trodAll_mk0), (trodAll_cons_mk (shut_string Try.underlying9 w0) (trodAll_cons_mk (shut_int Try.underlying3 w1) (trodAll_cons_mk (shut_int Try.underlying3 w2) trodAll_mk0))), rfl, hg.frame _, fun h => by cases h⟩

theorem over : Rows.runesCutRow.holds Try.pinned (OpenSpec.ofChange Rows.runesCutSpec) :=
  OpenClaim.holds_of_wide 7 Try.f7 rfl rfl rfl rfl rfl rfl rfl ⟨rfl, rfl, rfl, rfl, rfl⟩ rfl rfl rfl rfl rfl (by kernel_rfl) Try.func7 (by kernel_rfl)
    (of_decide_eq_true (by kernel_rfl)) (by unfold Func.isWrapper; first | (rw [if_pos (by decide +kernel)]; kernel_rfl) | (rw [if_neg (by decide +kernel)]; exact ⟨rfl, rfl⟩))
    (fun os started H enc _ => lifted os started H enc)

/-- ████ THE STATEMENT ████ -/
theorem proved : Rows.RunesCutSaid :=
  over
#print axioms proved
end Go.Proofs.Ytcdpldleackigaa.runesCut
