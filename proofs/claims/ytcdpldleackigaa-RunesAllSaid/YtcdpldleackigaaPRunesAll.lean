/- RunesAll: any text's runes, where each begins, its first ones, against UTF-8's own definition: for every string and every number the law returns true. -/
import Derived.Test.YtcdpldleackigaaRows
import Derived.WalkKit
import Derived.ProofKit
import Derived.OpenShut
import Derived.ShutString
import Derived.Test.YtcdpldleackigaaRunL
import Derived.Deep.DeepCutAuto
import Derived.Test.YtcdpldleackigaaDraw
namespace Go.Proofs.Ytcdpldleackigaa.runesAll
open Go.ChangeShapes Go.WideShapes Go.ChangeAt Go.RowKit
open Go.ChangeMaps (open_string shut_string)
set_option linter.unusedVariables false      -- a walk need not use every 'w<i>' (that an integer argument fits its kind)

theorem own : ownKnob Try.prog.godebug = none := by kernel_rfl

def VA (b1 o1 c1 b2 o2 c2 b3 o3 c3 T q r p : Nat) (S : List UInt8) (sP : ByteArray) : Nat → World → Value → Prop
  | 61, _, v => v = .slice (some ⟨b3, o3, none⟩) T c3
  | 62, _, v => v = .int .i64 (q : Int)
  | 63, _, v => v = .pointer (some ⟨b3, o3 + q, none⟩)
  | 64, _, v => v = .int .i32 (r : Int)
  | 65, _, v => v = .slice (some ⟨b1, o1, none⟩) T c1
  | 66, _, v => v = .int .i64 (q : Int)
  | 67, _, v => v = .pointer (some ⟨b1, o1 + q, none⟩)
  | 68, _, v => v = .int .i32 (r : Int)
  | 69, _, v => v = .bool false
  | 70, _, v => v = .bool false
  | 71, _, v => v = .int .i32 (r : Int)
  | 72, _, v => v = .slice (some ⟨b1, o1, none⟩) T c1
  | 73, _, v => v = .int .i64 (q : Int)
  | 74, _, v => v = .pointer (some ⟨b1, o1 + q, none⟩)
  | 75, _, v => v = .int .i32 (r : Int)
  | 76, _, v => v = .bool false
  | 77, _, v => v = .bool false
  | 78, _, v => v = .bool false
  | 79, _, v => v = .int .i64 (p : Int)
  | 80, _, v => v = .slice (some ⟨b2, o2, none⟩) T c2
  | 81, _, v => v = .int .i64 (q : Int)
  | 82, _, v => v = .pointer (some ⟨b2, o2 + q, none⟩)
  | 83, _, v => v = .int .i64 (p : Int)
  | 84, _, v => v = .bool false
  | 85, _, v => v = .bool false
  | 86, _, v => v = .bool false
  | 87, _, v => v = .bool true
  | 88, _, v => v = .bool false
  | 89, _, v => v = .bool false
  | 90, _, v => v = .bool false
  | 91, _, v => v = .string (str S)
  | 92, _, v => v = .int .i64 (q : Int)
  | 93, _, v => v = .string sP
  | 94, _, v => v = .string (str S)
  | 95, _, v => v = .slice (some ⟨b2, o2, none⟩) T c2
  | 96, _, v => v = .int .i64 (q : Int)
  | 97, _, v => v = .pointer (some ⟨b2, o2 + q, none⟩)
  | 98, _, v => v = .int .i64 (p : Int)
  | 99, _, v => v = .string sP
  | 100, _, v => v = .bool false
  | 101, _, v => v = .bool false
  | _, _, _ => True

theorem VA_below (b1 o1 c1 b2 o2 c2 b3 o3 c3 T q r p : Nat) (S : List UInt8) (sP : ByteArray) : ∀ (i : Nat) (w w' : World) (v : Value), VA b1 o1 c1 b2 o2 c2 b3 o3 c3 T q r p S sP i w v → Below w.heap.size w w' → VA b1 o1 c1 b2 o2 c2 b3 o3 c3 T q r p S sP i w' v := by
  intro i w w' v h hb
  unfold VA at h ⊢
  split at h <;> first | exact h | trivial

theorem atv_get (l : List UInt8) (i : Nat) (h : i < (runesOf (toks l)).length) : atv l i = dv (runesOf (toks l))[i] (posOf l i) true := by
  have h' : i < (toks l).length := by rw [← runesOf_length]; exact h
  rw [atv_some l i h']
  have hg := congrArg Prod.fst (get_toks l i h')
  simp only at hg
  rw [← hg]
  simp [runesOf]

theorem cutl_at (l : List UInt8) (i : Nat) : cutl l i = l.take (posOf l i) := by
  unfold cutl
  rw [if_neg (by omega)]
  rfl

set_option maxHeartbeats 2000000 in
set_option maxRecDepth 100000 in
theorem walk (a0 : ByteArray) (a1 : Int) (w0 : a0.size ≤ maxLen) (w1 : (Lit.int .i64 a1).wf = true) (w : World) :
    Calls Try.prog 3 #[.string a0, .int .i64 a1] w fun e w' => e = .returned (.bool true) ∧ Below w.heap.size w w' := by
  clear w1
  have CB := Go.Lib.hid (begun_c w)
  have C0 := Go.Lib.hid fun W => lcut_c a0 100 W w0 (by omega)
  obtain ⟨S, hS⟩ : ∃ S, S = (bl a0).take 100 := ⟨_, rfl⟩
  have hSl : S.length ≤ 100 := by rw [hS, List.length_take]; omega
  rw [← hS] at C0
  clear hS w0
  have hTl : (toks S).length ≤ 100 := Nat.le_trans (toks_length S) hSl
  obtain ⟨T, hT⟩ : ∃ T, (toks S).length = T := ⟨_, rfl⟩
  have hRl : (zi .i32 (runesOf (toks S))).length = T := by rw [zi_length, runesOf_length, hT]
  have hPl : (zi .i64 (posl S)).length = T := by rw [zi_length, posl_length, hT]
  have cn := fun W => count_s S W (by omega)
  rw [hT] at cn hTl
  have CN := Go.Lib.hid cn; clear cn
  have CR := Go.Lib.hid fun W => rrunes_s S W (by omega)
  have CO := Go.Lib.hid fun W => of_s S W (by omega)
  have CV := Go.Lib.hid fun W => valid_s S W (by omega)
  have CW := Go.Lib.hid fun W => rvalid_s S W (by omega)
  have CA := Go.Lib.hid fun (n : Int) W => at_s S n W (by omega)
  have CK := Go.Lib.hid fun (n : Int) W => cut_s S n W (by omega)
  have HRl := Go.Lib.hid hRl; clear hRl
  have HPl := Go.Lib.hid hPl; clear hPl
  have HT := Go.Lib.hid hT; clear hT
  generalize wellB (toks S) = vb at CV CW
  go_enter Try.func3, Try.ntmps3
  go_wp2_with fail
  refine CB.out.mono ?_
  rintro e w1 ⟨rfl, hb1⟩
  go_wp2_with fail
  refine (C0.out _).mono ?_
  rintro e w2 ⟨rfl, rfl⟩
  clear CB C0
  go_wp2_with fail
  refine (CR.out _).mono ?_
  rintro e w2 ⟨v1, v2, rfl, hown1, hown2, hb2⟩
  have hv1 := hown1.rv
  have hv2 := hown2.rv
  have hbb2 := hb1.trans (hb2.mono hb1.size)
  clear hown1 hown2 hb1 hb2 CR
  obtain ⟨p1, c1, rfl, -⟩ := hv1.form
  obtain ⟨p2, c2, rfl, -⟩ := hv2.form
  rw [HRl.out, HPl.out]
  rw [HRl.out] at hv1
  rw [HPl.out] at hv2
  have Hv1 := Go.Lib.hid hv1; clear hv1
  have Hv2 := Go.Lib.hid hv2; clear hv2
  go_wp2_with fail
  refine (CO.out _).mono ?_
  rintro e w3 ⟨v3, rfl, hown3, hb3⟩
  have hv3 := hown3.rv
  have hbb3 := hbb2.trans (hb3.mono hbb2.size)
  obtain ⟨p3, c3, rfl, -⟩ := hv3.form
  rw [HRl.out]
  rw [HRl.out] at hv3
  have Hv3 := Go.Lib.hid hv3; clear hv3
  have Hv1b := Go.Lib.hid (Hv1.out.below hb3); clear Hv1
  have Hv2b := Go.Lib.hid (Hv2.out.below hb3); clear Hv2
  clear hown3 hb3 CO hbb2
  go_wp2_with fail
  refine (CN.out _).mono ?_
  rintro e w4 ⟨rfl, hb4⟩
  have hbb4 := hbb3.trans (hb4.mono hbb3.size)
  have Hv1c := Go.Lib.hid (Hv1b.out.below hb4); clear Hv1b
  have Hv2c := Go.Lib.hid (Hv2b.out.below hb4); clear Hv2b
  have Hv3c := Go.Lib.hid (Hv3.out.below hb4); clear Hv3
  clear hb4 hbb3 CN
  go_wp2_with fail
  refine (CV.out _).mono ?_
  rintro e w5 ⟨rfl, hb5⟩
  have hbb5 := hbb4.trans (hb5.mono hbb4.size)
  have Hv1 := Go.Lib.hid (Hv1c.out.below hb5); clear Hv1c
  have Hv2 := Go.Lib.hid (Hv2c.out.below hb5); clear Hv2c
  have Hv3 := Go.Lib.hid (Hv3c.out.below hb5); clear Hv3c
  clear hb5 hbb4 CV
  go_wp2_with fail
  refine (CW.out _).mono ?_
  rintro e w6 ⟨rfl, rfl⟩
  clear CW
  go_wp2_with fail
  go_loopw [9] (fun i wr => ∃ q : Nat, q ≤ T ∧ i = .int .i64 (q : Int) ∧ Below w5.heap.size w5 wr) (fun i _ => T - (intOf i).toNat)
  case atStart => exact ⟨0, by omega, rfl, Below.refl _ _⟩
  case round =>
    obtain ⟨q, hq, rfl, hbr⟩ := hrel
    by_cases hlt : q < T
    · obtain ⟨b1, o1, rfl, hc1, -⟩ := (Hv1.out.below hbr).at q (by rw [HRl.out]; exact hlt)
      obtain ⟨b2, o2, rfl, hc2, -⟩ := (Hv2.out.below hbr).at q (by rw [HPl.out]; exact hlt)
      obtain ⟨b3, o3, rfl, hc3, -⟩ := (Hv3.out.below hbr).at q (by rw [HRl.out]; exact hlt)
      have hRq : q < (runesOf (toks S)).length := by rw [runesOf_length, HT.out]; exact hlt
      have hPq : q < (posl S).length := by rw [posl_length, HT.out]; exact hlt
      rw [zi_at .i32 _ q hRq] at hc1 hc3
      rw [zi_at .i64 _ q hPq, posl_at] at hc2
      have ca := CA.out q wr
      have ck := fun W => CK.out q W
      rw [atv_get S q hRq] at ca
      rw [cutl_at] at ck
      have h99 : (str S).extract 0 (posOf S q) = str (S.take (posOf S q)) := by rw [take_bl, bl_str]
      have hple : posOf S q ≤ (str S).size := by rw [str_size]; exact posOf_le S q
      unfold dv at ca
      generalize (runesOf (toks S))[q] = r at hc1 hc3 ca
      generalize posOf S q = p at *
      have Ca := Go.Lib.hid ca; clear ca
      clear hRq hPq
      go_wp2_with fail
      refine Ca.out.mono ?_
      rintro e w7 ⟨rfl, hb7⟩
      have hbr7 := hbr.trans (hb7.mono hbr.size)
      have Hc1 := Go.Lib.hid ((hb7.cell (p := ⟨b1, o1 + q, none⟩) (World.block_lt_of_cell? wr _ hc1)).trans hc1); clear hc1
      have Hc2 := Go.Lib.hid ((hb7.cell (p := ⟨b2, o2 + q, none⟩) (World.block_lt_of_cell? wr _ hc2)).trans hc2); clear hc2
      have Hc3 := Go.Lib.hid ((hb7.cell (p := ⟨b3, o3 + q, none⟩) (World.block_lt_of_cell? wr _ hc3)).trans hc3); clear hc3
      have hl1 : b1 < w7.heap.size := World.block_lt_of_cell? w7 _ Hc1.out
      have hl2 : b2 < w7.heap.size := World.block_lt_of_cell? w7 _ Hc2.out
      have hl3 : b3 < w7.heap.size := World.block_lt_of_cell? w7 _ Hc3.out
      have h99' : ∀ W, (Instr.slice 9 (.string (str S)) none (some (.int .i64 (p : Int))) none).run Try.prog W = .ok (.string (str (S.take p))) W := fun W => by
        simp [go_sem, Try.underlying9, h99, hple]
      have Hix1 := Go.Lib.hid (run_idx (P := Try.prog) 24 21 (.int .i32 0) 4 Try.underlying24 info32 b1 o1 T c1 q hlt)
      have Hix2 := Go.Lib.hid (run_idx (P := Try.prog) 25 3 (.int .i64 0) 8 Try.underlying25 info64 b2 o2 T c2 q hlt)
      have Hix3 := Go.Lib.hid (run_idx (P := Try.prog) 24 21 (.int .i32 0) 4 Try.underlying24 info32 b3 o3 T c3 q hlt)
      generalize hsP : str (S.take p) = sP at *
      have H99 := Go.Lib.hid h99'
      have CK := Go.Lib.hid ck
      clear ck h99' h99 hsP
      go_upto_if 101 with (fail)
      refine wp_region_each (by kernel_rfl) (VA b1 o1 c1 b2 o2 c2 b3 o3 c3 T q r p S sP) (VA_below _ _ _ _ _ _ _ _ _ _ _ _ _ _ _) (by decide +kernel) (by decide +kernel) (by rfl) [61, 62, 63, 64, 65, 66, 67, 68, 69, 70, 71, 72, 73, 74, 75, 76, 77, 78, 79, 80, 81, 82, 83, 84, 85, 86, 87, 88, 89, 90, 91, 92, 93, 94, 95, 96, 97, 98, 99, 100, 101] (by rfl) ?_ ?_
      · intro i o ho a w6 hb6 hlen hg
        have hc1 := (hb6.cell (p := ⟨b1, o1 + q, none⟩) hl1).trans Hc1.out
        have hc2 := (hb6.cell (p := ⟨b2, o2 + q, none⟩) hl2).trans Hc2.out
        have hc3 := (hb6.cell (p := ⟨b3, o3 + q, none⟩) hl3).trans Hc3.out
        have hix1 := Hix1.out
        have hix2 := Hix2.out
        have hix3 := Hix3.out
        have h99 := H99.out
        match i, ho with
        | 0, ho =>
          obtain rfl := Option.some.inj ho
          simp [Given, Oper.looksAt, Op.operands, fedB, Region.binds, VA] at hg
          exact st_yield ho (by simp [Region.wanted]) (.slice (some ⟨b3, o3, none⟩) T c3) w6 (by simp [execOp, Act.eval, hg, go_sem]) ⟨_, rfl, Below.refl _ _, by rintro t' ⟨⟩; rfl⟩
        | 1, ho =>
          obtain rfl := Option.some.inj ho
          simp [Given, Oper.looksAt, Op.operands, fedB, Region.binds, VA] at hg
          exact st_yield ho (by simp [Region.wanted]) (.int .i64 (q : Int)) w6 (by simp [execOp, Act.eval, hg, go_sem]) ⟨_, rfl, Below.refl _ _, by rintro t' ⟨⟩; rfl⟩
        | 2, ho =>
          obtain rfl := Option.some.inj ho
          simp [Given, Oper.looksAt, Op.operands, fedB, Region.binds, VA] at hg
          exact st_yield ho (by simp [Region.wanted]) (.pointer (some ⟨b3, o3 + q, none⟩)) w6 (by simp [execOp, Act.eval, hg, hix3, go_sem, Result.andThen]) ⟨_, rfl, Below.refl _ _, by rintro t' ⟨⟩; rfl⟩
        | 3, ho =>
          obtain rfl := Option.some.inj ho
          simp [Given, Oper.looksAt, Op.operands, fedB, Region.binds, VA] at hg
          exact st_yield ho (by simp [Region.wanted]) (.int .i32 (r : Int)) w6 (by simp [execOp, Act.eval, hg, hc3, go_sem, Result.andThen]) ⟨_, rfl, Below.refl _ _, by rintro t' ⟨⟩; rfl⟩
        | 4, ho =>
          obtain rfl := Option.some.inj ho
          simp [Given, Oper.looksAt, Op.operands, fedB, Region.binds, VA] at hg
          exact st_yield ho (by simp [Region.wanted]) (.slice (some ⟨b1, o1, none⟩) T c1) w6 (by simp [execOp, Act.eval, hg, go_sem]) ⟨_, rfl, Below.refl _ _, by rintro t' ⟨⟩; rfl⟩
        | 5, ho =>
          obtain rfl := Option.some.inj ho
          simp [Given, Oper.looksAt, Op.operands, fedB, Region.binds, VA] at hg
          exact st_yield ho (by simp [Region.wanted]) (.int .i64 (q : Int)) w6 (by simp [execOp, Act.eval, hg, go_sem]) ⟨_, rfl, Below.refl _ _, by rintro t' ⟨⟩; rfl⟩
        | 6, ho =>
          obtain rfl := Option.some.inj ho
          simp [Given, Oper.looksAt, Op.operands, fedB, Region.binds, VA] at hg
          exact st_yield ho (by simp [Region.wanted]) (.pointer (some ⟨b1, o1 + q, none⟩)) w6 (by simp [execOp, Act.eval, hg, hix1, go_sem, Result.andThen]) ⟨_, rfl, Below.refl _ _, by rintro t' ⟨⟩; rfl⟩
        | 7, ho =>
          obtain rfl := Option.some.inj ho
          simp [Given, Oper.looksAt, Op.operands, fedB, Region.binds, VA] at hg
          exact st_yield ho (by simp [Region.wanted]) (.int .i32 (r : Int)) w6 (by simp [execOp, Act.eval, hg, hc1, go_sem, Result.andThen]) ⟨_, rfl, Below.refl _ _, by rintro t' ⟨⟩; rfl⟩
        | 8, ho =>
          obtain rfl := Option.some.inj ho
          simp [Given, Oper.looksAt, Op.operands, fedB, Region.binds, VA] at hg
          exact st_yield ho (by simp [Region.wanted]) (.bool false) w6 (by simp [execOp, Act.eval, hg, go_sem]) ⟨_, rfl, Below.refl _ _, by rintro t' ⟨⟩; rfl⟩
        | 9, ho =>
          obtain rfl := Option.some.inj ho
          simp [Given, Oper.looksAt, Op.operands, fedB, Region.binds, VA] at hg
          exact st_yield ho (by simp [Region.wanted]) (.bool false) w6 (by simp [execOp, Act.eval, hg, go_sem]) ⟨_, rfl, Below.refl _ _, by rintro t' ⟨⟩; rfl⟩
        | 10, ho =>
          obtain rfl := Option.some.inj ho
          simp [Given, Oper.looksAt, Op.operands, fedB, Region.binds, VA] at hg
          exact st_yield ho (by simp [Region.wanted, yielded, hg]) (.int .i32 (r : Int)) w6 (by simp [execOp, Act.eval, hg, go_sem]) ⟨_, rfl, Below.refl _ _, by rintro t' ⟨⟩; rfl⟩
        | 11, ho =>
          obtain rfl := Option.some.inj ho
          simp [Given, Oper.looksAt, Op.operands, fedB, Region.binds, VA] at hg
          exact st_yield ho (by simp [Region.wanted, yielded, hg]) (.slice (some ⟨b1, o1, none⟩) T c1) w6 (by simp [execOp, Act.eval, hg, go_sem]) ⟨_, rfl, Below.refl _ _, by rintro t' ⟨⟩; rfl⟩
        | 12, ho =>
          obtain rfl := Option.some.inj ho
          simp [Given, Oper.looksAt, Op.operands, fedB, Region.binds, VA] at hg
          exact st_yield ho (by simp [Region.wanted, yielded, hg]) (.int .i64 (q : Int)) w6 (by simp [execOp, Act.eval, hg, go_sem]) ⟨_, rfl, Below.refl _ _, by rintro t' ⟨⟩; rfl⟩
        | 13, ho =>
          obtain rfl := Option.some.inj ho
          simp [Given, Oper.looksAt, Op.operands, fedB, Region.binds, VA] at hg
          exact st_yield ho (by simp [Region.wanted, yielded, hg]) (.pointer (some ⟨b1, o1 + q, none⟩)) w6 (by simp [execOp, Act.eval, hg, hix1, go_sem, Result.andThen]) ⟨_, rfl, Below.refl _ _, by rintro t' ⟨⟩; rfl⟩
        | 14, ho =>
          obtain rfl := Option.some.inj ho
          simp [Given, Oper.looksAt, Op.operands, fedB, Region.binds, VA] at hg
          exact st_yield ho (by simp [Region.wanted, yielded, hg]) (.int .i32 (r : Int)) w6 (by simp [execOp, Act.eval, hg, hc1, go_sem, Result.andThen]) ⟨_, rfl, Below.refl _ _, by rintro t' ⟨⟩; rfl⟩
        | 15, ho =>
          obtain rfl := Option.some.inj ho
          simp [Given, Oper.looksAt, Op.operands, fedB, Region.binds, VA] at hg
          exact st_yield ho (by simp [Region.wanted, yielded, hg]) (.bool false) w6 (by simp [execOp, Act.eval, hg, go_sem]) ⟨_, rfl, Below.refl _ _, by rintro t' ⟨⟩; rfl⟩
        | 16, ho =>
          obtain rfl := Option.some.inj ho
          simp [Given, Oper.looksAt, Op.operands, fedB, Region.binds, VA] at hg
          exact st_yield ho (by simp [Region.wanted]) (.bool false) w6 (by simp [execOp, Act.eval, hg, go_sem]) ⟨_, rfl, Below.refl _ _, by rintro t' ⟨⟩; rfl⟩
        | 17, ho =>
          obtain rfl := Option.some.inj ho
          simp [Given, Oper.looksAt, Op.operands, fedB, Region.binds, VA] at hg
          exact st_yield ho (by simp [Region.wanted]) (.bool false) w6 (by simp [execOp, Act.eval, hg, go_sem]) ⟨_, rfl, Below.refl _ _, by rintro t' ⟨⟩; rfl⟩
        | 18, ho =>
          obtain rfl := Option.some.inj ho
          simp [Given, Oper.looksAt, Op.operands, fedB, Region.binds, VA] at hg
          exact st_yield ho (by simp [Region.wanted, yielded, hg]) (.int .i64 (p : Int)) w6 (by simp [execOp, Act.eval, hg, go_sem]) ⟨_, rfl, Below.refl _ _, by rintro t' ⟨⟩; rfl⟩
        | 19, ho =>
          obtain rfl := Option.some.inj ho
          simp [Given, Oper.looksAt, Op.operands, fedB, Region.binds, VA] at hg
          exact st_yield ho (by simp [Region.wanted, yielded, hg]) (.slice (some ⟨b2, o2, none⟩) T c2) w6 (by simp [execOp, Act.eval, hg, go_sem]) ⟨_, rfl, Below.refl _ _, by rintro t' ⟨⟩; rfl⟩
        | 20, ho =>
          obtain rfl := Option.some.inj ho
          simp [Given, Oper.looksAt, Op.operands, fedB, Region.binds, VA] at hg
          exact st_yield ho (by simp [Region.wanted, yielded, hg]) (.int .i64 (q : Int)) w6 (by simp [execOp, Act.eval, hg, go_sem]) ⟨_, rfl, Below.refl _ _, by rintro t' ⟨⟩; rfl⟩
        | 21, ho =>
          obtain rfl := Option.some.inj ho
          simp [Given, Oper.looksAt, Op.operands, fedB, Region.binds, VA] at hg
          exact st_yield ho (by simp [Region.wanted, yielded, hg]) (.pointer (some ⟨b2, o2 + q, none⟩)) w6 (by simp [execOp, Act.eval, hg, hix2, go_sem, Result.andThen]) ⟨_, rfl, Below.refl _ _, by rintro t' ⟨⟩; rfl⟩
        | 22, ho =>
          obtain rfl := Option.some.inj ho
          simp [Given, Oper.looksAt, Op.operands, fedB, Region.binds, VA] at hg
          exact st_yield ho (by simp [Region.wanted, yielded, hg]) (.int .i64 (p : Int)) w6 (by simp [execOp, Act.eval, hg, hc2, go_sem, Result.andThen]) ⟨_, rfl, Below.refl _ _, by rintro t' ⟨⟩; rfl⟩
        | 23, ho =>
          obtain rfl := Option.some.inj ho
          simp [Given, Oper.looksAt, Op.operands, fedB, Region.binds, VA] at hg
          exact st_yield ho (by simp [Region.wanted, yielded, hg]) (.bool false) w6 (by simp [execOp, Act.eval, hg, go_sem]) ⟨_, rfl, Below.refl _ _, by rintro t' ⟨⟩; rfl⟩
        | 24, ho =>
          obtain rfl := Option.some.inj ho
          simp [Given, Oper.looksAt, Op.operands, fedB, Region.binds, VA] at hg
          exact st_yield ho (by simp [Region.wanted]) (.bool false) w6 (by simp [execOp, Act.eval, hg, go_sem]) ⟨_, rfl, Below.refl _ _, by rintro t' ⟨⟩; rfl⟩
        | 25, ho =>
          obtain rfl := Option.some.inj ho
          simp [Given, Oper.looksAt, Op.operands, fedB, Region.binds, VA] at hg
          exact st_yield ho (by simp [Region.wanted]) (.bool false) w6 (by simp [execOp, Act.eval, hg, go_sem]) ⟨_, rfl, Below.refl _ _, by rintro t' ⟨⟩; rfl⟩
        | 26, ho =>
          obtain rfl := Option.some.inj ho
          simp [Given, Oper.looksAt, Op.operands, fedB, Region.binds, VA] at hg
          exact st_yield ho (by simp [Region.wanted, yielded, hg]) (.bool true) w6 (by simp [execOp, Act.eval, hg, go_sem]) ⟨_, rfl, Below.refl _ _, by rintro t' ⟨⟩; rfl⟩
        | 27, ho =>
          obtain rfl := Option.some.inj ho
          simp [Given, Oper.looksAt, Op.operands, fedB, Region.binds, VA] at hg
          exact st_yield ho (by simp [Region.wanted, yielded, hg]) (.bool false) w6 (by simp [execOp, Act.eval, hg, go_sem]) ⟨_, rfl, Below.refl _ _, by rintro t' ⟨⟩; rfl⟩
        | 28, ho =>
          obtain rfl := Option.some.inj ho
          simp [Given, Oper.looksAt, Op.operands, fedB, Region.binds, VA] at hg
          exact st_yield ho (by simp [Region.wanted]) (.bool false) w6 (by simp [execOp, Act.eval, hg, go_sem]) ⟨_, rfl, Below.refl _ _, by rintro t' ⟨⟩; rfl⟩
        | 29, ho =>
          obtain rfl := Option.some.inj ho
          simp [Given, Oper.looksAt, Op.operands, fedB, Region.binds, VA] at hg
          exact st_yield ho (by simp [Region.wanted]) (.bool false) w6 (by simp [execOp, Act.eval, hg, go_sem]) ⟨_, rfl, Below.refl _ _, by rintro t' ⟨⟩; rfl⟩
        | 30, ho =>
          obtain rfl := Option.some.inj ho
          simp [Given, Oper.looksAt, Op.operands, fedB, Region.binds, VA] at hg
          exact st_yield ho (by simp [Region.wanted, yielded, hg]) (.string (str S)) w6 (by simp [execOp, Act.eval, hg, go_sem]) ⟨_, rfl, Below.refl _ _, by rintro t' ⟨⟩; rfl⟩
        | 31, ho =>
          obtain rfl := Option.some.inj ho
          simp [Given, Oper.looksAt, Op.operands, fedB, Region.binds, VA] at hg
          exact st_yield ho (by simp [Region.wanted, yielded, hg]) (.int .i64 (q : Int)) w6 (by simp [execOp, Act.eval, hg, go_sem]) ⟨_, rfl, Below.refl _ _, by rintro t' ⟨⟩; rfl⟩
        | 32, ho =>
          obtain rfl := Option.some.inj ho
          simp [Given, Oper.looksAt, Op.operands, Call.operands, fedB, Region.binds, VA] at hg
          exact st_enter (w1 := w6) ho (by simp [Region.wanted, yielded, hg]) 17 #[.string (str S), .int .i64 (q : Int)] (by simp [execOp, Act.eval, hg, resolve, go_sem]) ((CK.out _).mono (by rintro e w7 ⟨rfl, hb7⟩; exact ⟨_, rfl, _, rfl, hb7, by rintro t' ⟨⟩; rfl⟩))
        | 33, ho =>
          obtain rfl := Option.some.inj ho
          simp [Given, Oper.looksAt, Op.operands, fedB, Region.binds, VA] at hg
          exact st_yield ho (by simp [Region.wanted, yielded, hg]) (.string (str S)) w6 (by simp [execOp, Act.eval, hg, go_sem]) ⟨_, rfl, Below.refl _ _, by rintro t' ⟨⟩; rfl⟩
        | 34, ho =>
          obtain rfl := Option.some.inj ho
          simp [Given, Oper.looksAt, Op.operands, fedB, Region.binds, VA] at hg
          exact st_yield ho (by simp [Region.wanted, yielded, hg]) (.slice (some ⟨b2, o2, none⟩) T c2) w6 (by simp [execOp, Act.eval, hg, go_sem]) ⟨_, rfl, Below.refl _ _, by rintro t' ⟨⟩; rfl⟩
        | 35, ho =>
          obtain rfl := Option.some.inj ho
          simp [Given, Oper.looksAt, Op.operands, fedB, Region.binds, VA] at hg
          exact st_yield ho (by simp [Region.wanted, yielded, hg]) (.int .i64 (q : Int)) w6 (by simp [execOp, Act.eval, hg, go_sem]) ⟨_, rfl, Below.refl _ _, by rintro t' ⟨⟩; rfl⟩
        | 36, ho =>
          obtain rfl := Option.some.inj ho
          simp [Given, Oper.looksAt, Op.operands, fedB, Region.binds, VA] at hg
          exact st_yield ho (by simp [Region.wanted, yielded, hg]) (.pointer (some ⟨b2, o2 + q, none⟩)) w6 (by simp [execOp, Act.eval, hg, hix2, go_sem, Result.andThen]) ⟨_, rfl, Below.refl _ _, by rintro t' ⟨⟩; rfl⟩
        | 37, ho =>
          obtain rfl := Option.some.inj ho
          simp [Given, Oper.looksAt, Op.operands, fedB, Region.binds, VA] at hg
          exact st_yield ho (by simp [Region.wanted, yielded, hg]) (.int .i64 (p : Int)) w6 (by simp [execOp, Act.eval, hg, hc2, go_sem, Result.andThen]) ⟨_, rfl, Below.refl _ _, by rintro t' ⟨⟩; rfl⟩
        | 38, ho =>
          obtain rfl := Option.some.inj ho
          simp [Given, Oper.looksAt, Op.operands, fedB, Region.binds, VA] at hg
          exact st_yield ho (by simp [Region.wanted, yielded, hg]) (.string sP) w6 (by simp [execOp, Act.eval, hg, h99, go_sem, Result.andThen]) ⟨_, rfl, Below.refl _ _, by rintro t' ⟨⟩; rfl⟩
        | 39, ho =>
          obtain rfl := Option.some.inj ho
          simp [Given, Oper.looksAt, Op.operands, fedB, Region.binds, VA] at hg
          exact st_yield ho (by simp [Region.wanted, yielded, hg]) (.bool false) w6 (by simp [execOp, Act.eval, hg, go_sem]) ⟨_, rfl, Below.refl _ _, by rintro t' ⟨⟩; rfl⟩
        | 40, ho =>
          obtain rfl := Option.some.inj ho
          simp [Given, Oper.looksAt, Op.operands, fedB, Region.binds, VA] at hg
          exact st_yield ho (by simp [Region.wanted]) (.bool false) w6 (by simp [execOp, Act.eval, hg, go_sem]) ⟨_, rfl, Below.refl _ _, by rintro t' ⟨⟩; rfl⟩
        | n + 41, ho => simp at ho
      · intro f w8 hb8 hv
        have h101 := hv 101 (by simp)
        clear hv
        simp only [VA] at h101
        unfold putAll
        simp only [List.foldl]
        go_simp
        have hbr8 := hbr7.trans (hb8.mono hbr7.size)
        go_wp2
        go_roundw
        case rel => exact ⟨q + 1, by omega, by go_num, hbr8⟩
        case measure => simp [intOf]; omega
    · obtain rfl : q = T := by omega
      have hbb := hbb5.trans (hbr.mono hbb5.size)
      have Hv2r := Go.Lib.hid (Hv2.out.below hbr)
      clear hlt hq Hv1 Hv3
      rcases Int.lt_or_le a1 0 with n0 | n0
      · have ca := CA.out a1 wr
        rw [atv_none S a1 (.inl n0)] at ca
        unfold dv at ca
        have ck := fun W => CK.out a1 W
        have e0 : str (cutl S a1) = ⟨#[]⟩ := by
          unfold cutl
          rw [if_pos n0]
          rfl
        rw [e0] at ck
        have Ca := Go.Lib.hid ca; clear ca
        have Ck := Go.Lib.hid ck; clear ck
        clear CA CK e0
        go_wp2_with fail
        refine Ca.out.mono ?_
        rintro e w8 ⟨rfl, hb8⟩
        have hbb8 := hbb.trans (hb8.mono hbb.size)
        go_wp2_with fail
        refine (Ck.out _).mono ?_
        rintro e w9 ⟨rfl, hb9⟩
        have hbb9 := hbb8.trans (hb9.mono hbb8.size)
        go_wp2_with fail
        go_ret
        exact ⟨rfl, hbb9⟩
      rcases Int.lt_or_le a1 (q : Int) with n1 | n1
      · obtain ⟨i, rfl⟩ : ∃ i : Nat, a1 = (i : Int) := ⟨a1.toNat, by omega⟩
        have hi : i < q := by omega
        have ca := CA.out i wr
        rw [atv_get S i (by rw [runesOf_length, HT.out]; exact hi)] at ca
        unfold dv at ca
        have ck := fun W => CK.out i W
        rw [cutl_at] at ck
        have h99 : (str S).extract 0 (posOf S i) = str (S.take (posOf S i)) := by rw [take_bl, bl_str]
        have hple : posOf S i ≤ (str S).size := by rw [str_size]; exact posOf_le S i
        have hPi : i < (posl S).length := by rw [posl_length, HT.out]; exact hi
        obtain ⟨b2, o2, rfl, hc2, -⟩ := Hv2r.out.at i (by rw [HPl.out]; exact hi)
        rw [zi_at .i64 _ i hPi, posl_at] at hc2
        generalize (runesOf (toks S))[i]'(by rw [runesOf_length, HT.out]; exact hi) = r at ca
        generalize posOf S i = p at *
        have Ca := Go.Lib.hid ca; clear ca
        have Ck := Go.Lib.hid ck; clear ck
        clear CA CK hPi
        go_wp2_with fail
        refine Ca.out.mono ?_
        rintro e w8 ⟨rfl, hb8⟩
        have hbb8 := hbb.trans (hb8.mono hbb.size)
        have hc8 := (hb8.cell (p := ⟨b2, o2 + i, none⟩) (World.block_lt_of_cell? wr _ hc2)).trans hc2
        clear hc2
        go_wp2_with fail
        refine (Ck.out _).mono ?_
        rintro e w9 ⟨rfl, hb9⟩
        have hbb9 := hbb8.trans (hb9.mono hbb8.size)
        have hc9 := (hb9.cell (p := ⟨b2, o2 + i, none⟩) (World.block_lt_of_cell? w8 _ hc8)).trans hc8
        have hb9' := hb9
        clear hc8 hb9 hb8
        go_wp2_with fail
        go_ret
        exact ⟨rfl, hbb8.trans (hb9'.mono hbb8.size)⟩
      · have ca := CA.out a1 wr
        rw [atv_none S a1 (.inr (by rw [HT.out]; exact n1))] at ca
        unfold dv at ca
        have ck := fun W => CK.out a1 W
        have e0 : cutl S a1 = S := by
          unfold cutl
          rw [if_neg (by omega), posOf_all S _ (by rw [HT.out]; omega), List.take_length]
        rw [e0] at ck
        have Ca := Go.Lib.hid ca; clear ca
        have Ck := Go.Lib.hid ck; clear ck
        clear CA CK e0
        go_wp2_with fail
        refine Ca.out.mono ?_
        rintro e w8 ⟨rfl, hb8⟩
        have hbb8 := hbb.trans (hb8.mono hbb.size)
        go_wp2_with fail
        refine (Ck.out _).mono ?_
        rintro e w9 ⟨rfl, hb9⟩
        have hbb9 := hbb8.trans (hb9.mono hbb8.size)
        go_wp2_with fail
        go_ret
        exact ⟨rfl, hbb9⟩

/-! ### THE ROW's STEP: WRITTEN OUT: LEAVE IT -/
set_option maxRecDepth 100000 in
theorem lifted (os : Os) (started : os.Started) (H : Type) (enc : TypeId × Value → H) :
    ReturnsInHanded {} Try.checked os 3 .any (Rows.runesAllSpec.pre6 enc Try.prog Try.f3 Rows.runesAllRow.domain false) (Rows.runesAllSpec.post enc Try.prog Try.f3 false true false false) := by
  refine returnsInHanded_of_change (C := Try.checked) own started (by kernel_rfl) Try.func3
    (ChangeSpec.witness6 (enc := enc) (C := Try.checked) false ⟨#[], #[.string ByteArray.empty, .int .i64 0], []⟩ 8 (by kernel_rfl) (by kernel_rfl) (by kernel_rfl) (by kernel_rfl)) ?_
  intro W base args ds gs before hval0 hW hcnd _
  have hval : ∀ (j : Nat) t v, Try.f3.params[j]? = some t → args[j]? = some v → Value.okWide Try.prog W .any base t v := hval0
  have hW' := hW
  obtain ⟨p, q, hA0, hV, rfl, hfz, hnd⟩ := hW
  have hA : DataW.TrodAll enc Try.prog W 0 (fun _ => true) true Try.f3.params.toList args.toList ds p := hA0
  rw [Try.params3] at hA hval
  obtain ⟨v0, vs0, d0, ds0, p0, q0, hargs, rfl, rfl, h0, r0⟩ := trodAll_cons hA
  obtain ⟨v1, vs1, d1, ds1, p1, q1, rfl, rfl, rfl, h1, r1⟩ := trodAll_cons r0
  obtain ⟨rfl, rfl, rfl⟩ := trodAll_nil r1
  obtain rfl : args = #[v0, v1] := by cases args; simp_all
  obtain ⟨rfl, rfl⟩ := trodVars_none hV
  obtain ⟨a0, rfl, rfl, rfl, w0⟩ := open_string Try.underlying9 (hval 0 9 v0 rfl rfl) h0
  obtain ⟨a1, rfl, rfl, rfl, w1⟩ := open_int Try.underlying3 (hval 1 3 v1 rfl rfl) h1
  clear hA0 hval0
  refine (walk a0 a1 w0 w1 W).mono fun e W' ⟨he, hg⟩ => ?_
  subst he
  exact ⟨_, rfl, _, _, _, [], _, [], hW', (trodAll_cons_mk (shut_bool Try.underlying4 _) trodAll_mk0), (trodAll_cons_mk (shut_string Try.underlying9 w0) (trodAll_cons_mk (shut_int Try.underlying3 w1) trodAll_mk0)), rfl, hg.frame _, fun h => by cases h⟩

theorem over : Rows.runesAllRow.holds Try.pinned (OpenSpec.ofChange Rows.runesAllSpec) :=
  OpenClaim.holds_of_wide 3 Try.f3 rfl rfl rfl rfl rfl rfl rfl ⟨rfl, rfl, rfl, rfl, rfl⟩ rfl rfl rfl rfl rfl (by kernel_rfl) Try.func3 (by kernel_rfl)
    (of_decide_eq_true (by kernel_rfl)) (by unfold Func.isWrapper; first | (rw [if_pos (by decide +kernel)]; kernel_rfl) | (rw [if_neg (by decide +kernel)]; exact ⟨rfl, rfl⟩))
    (fun os started H enc _ => lifted os started H enc)

/-- ████ THE STATEMENT ████ -/
theorem proved : Rows.RunesAllSaid :=
  over
#print axioms proved
end Go.Proofs.Ytcdpldleackigaa.runesAll
