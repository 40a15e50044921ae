/- NumBack: any number and text go to their bytes and back, whatever stands ahead and behind: for every input the law returns true. -/
import Derived.Test.YtdgdaaojiljceaaRows
import Derived.WalkKit
import Derived.ProofKit
import Derived.OpenShut
import Derived.ShutString
import Derived.ChangeOld
import Derived.Below
import Derived.Test.YtdgdaaojiljceaaNumB
import Derived.Deep.DeepCutAuto
import Derived.Test.YtdgdaaojiljceaaDraw
namespace Go.Proofs.Ytdgdaaojiljceaa.numBack
open Go.ChangeShapes Go.WideShapes Go.ChangeAt Go.RowKit
open Go.ChangeMaps (open_string shut_string)
set_option linter.unusedVariables false

theorem own : ownKnob Try.prog.godebug = none := by kernel_rfl
theorem laidOut : laidOutB Try.prog = true := by kernel_rfl

/-- WHAT THE WALK IS TOLD OF A SLICE OF INTEGERS THAT CAME IN: it is nil; or it leads to a row of 'cap' cells, the numbers 'zs' (the first 'len' are its elements, the rest its spare room), each fitting its kind. -/
def IsRow (k : IntKind) (w : World) (a : Option Addr) (len cap : Nat) (zs : List Int) : Prop :=
  (a = none ∧ len = 0 ∧ cap = 0 ∧ zs = []) ∨
  ∃ x, a = some x ∧ len ≤ cap ∧ cap ≤ maxLen ∧ zs.length = cap ∧ (∀ i, i < zs.length → w.cell? (x.add i) = some (.int k (zs.getD i 0))) ∧ ∀ n ∈ zs, (Lit.int k n).wf = true

open Go.Lib (uvarint zigzag)

def V7 (A p t q : List UInt8) (va v3 v5 : Value) (n : Int) : Nat → World → Value → Prop
  | 35, _, v => v = v3
  | 36, _, v => v = .string (str A ++ str p)
  | 37, _, v => v = va
  | 38, _, v => v = .string (str A)
  | 39, _, v => v = .int .i64 n
  | 40, w, v => RB w v p
  | 41, _, v => v = .string (str p)
  | 42, _, v => v = .string (str A ++ str p)
  | 43, _, v => v = .bool false
  | 44, _, v => v = .bool false
  | 45, _, v => v = v5
  | 46, _, v => v = .string (str A ++ str q)
  | 47, _, v => v = va
  | 48, _, v => v = .string (str A)
  | 49, _, v => v = .string (str t)
  | 50, w, v => RB w v q
  | 51, _, v => v = .string (str q)
  | 52, _, v => v = .string (str A ++ str q)
  | 53, _, v => v = .bool false
  | 54, _, v => v = .bool false
  | _, _, _ => True

theorem V7_below (A p t q : List UInt8) (va v3 v5 : Value) (n : Int) : ∀ (i : Nat) (w w' : World) (v : Value), V7 A p t q va v3 v5 n i w v → Below w.heap.size w w' → V7 A p t q va v3 v5 n i w' v := by
  intro i w w' v h hb
  unfold V7 at h ⊢
  split at h <;> first | exact h | exact h.below hb | trivial

set_option maxRecDepth 100000 in
set_option maxHeartbeats 2000000 in
theorem walk (a0 : Option Addr) (len0 cap0 : Nat) (z0 : List Int) (a1 : Option Addr) (len1 cap1 : Nat) (z1 : List Int) (a2 : Int) (a3 : ByteArray) (w : World) (w0 : IsRow .u8 w a0 len0 cap0 z0) (w1 : IsRow .u8 w a1 len1 cap1 z1) (w2 : (Lit.int .i64 a2).wf = true) (w3 : a3.size ≤ maxLen) :
    Calls Try.prog 3 #[.slice a0 len0 cap0, .slice a1 len1 cap1, .int .i64 a2, .string a3] w fun e w' => e = .returned (.bool true) ∧ Below w.heap.size w w' := by
  obtain ⟨b1, b2⟩ := bounds_i64 w2
  have b2 : a2 ≤ 9223372036854775807 := by omega
  clear w2
  obtain ⟨la, hla⟩ := rb_of_row w0
  obtain ⟨lr, hlr⟩ := rb_of_row w1
  clear w0 w1
  go_enter Try.func3, Try.ntmps3
  go_wp2_with fail
  refine (begun_c _).mono ?_
  rintro e w1 ⟨rfl, hb1⟩
  go_wp2_with fail
  refine (short_c _ la 20 _ (hla.below hb1) (by omega)).mono ?_
  rintro e w2 ⟨⟨va, rfl, hva⟩, rfl⟩
  go_wp2_with fail
  refine (short_c _ lr 20 _ (hlr.below hb1) (by omega)).mono ?_
  rintro e w2 ⟨⟨vr, rfl, hvr⟩, rfl⟩
  have hl20 : (la.take 20).length ≤ 20 := List.length_take_le _ _
  have hr20 : (lr.take 20).length ≤ 20 := List.length_take_le _ _
  generalize la.take 20 = A at hva hl20
  generalize lr.take 20 = R at hvr hr20
  go_wp2_with fail
  refine (cut_c a3 100 _ w3 (by omega)).mono ?_
  rintro e w2 ⟨rfl, rfl⟩
  have hl100 : (a3.data.toList.take 100).length ≤ 100 := List.length_take_le _ _
  generalize a3.data.toList.take 100 = t at hl100
  go_wp2_with (first
    | (at_builtin; go_loud (refine wpList_append_RB rfl (.const (.slice none 0 0)) (.tmp 27) 22 rfl w1.heap.size 5 Try.underlying22 info8 (.slice none 0 0) va [] A rfl rfl (Own.nil _ _ _) hva (by simp; omega) (Nat.le_refl _) ?_); intro v2 w2 hown2 hg2)
    | fail)
  have hb12 := grown_below hg2 (Nat.le_refl _) (by simp [Value.ownBlock])
  have hva2 := hva.below hb12
  have hvr2 := hvr.below hb12
  have hb2 := hb1.trans (hb12.mono hb1.size)
  rw [List.nil_append] at hown2
  have hrb2 := hown2.rb
  clear hva hvr hb12 hb1 hg2 hown2 hla hlr
  refine (put_c v2 A a2 _ hrb2 b1 b2 (by omega)).mono ?_
  rintro e w3 ⟨v3, rfl, hown3, hb3⟩
  have hva3 := hva2.below hb3
  have hvr3 := hvr2.below hb3
  have hrb3 := hown3.rb
  have hbb := hb2.trans (hb3.mono hb2.size)
  clear hva2 hvr2 hb3 hb2 hown3 hrb2
  go_wp2_with (first
    | (at_builtin; go_loud (refine wpList_append_RB rfl (.const (.slice none 0 0)) (.tmp 31) 22 rfl w3.heap.size 5 Try.underlying22 info8 (.slice none 0 0) va [] A rfl rfl (Own.nil _ _ _) hva3 (by simp; omega) (Nat.le_refl _) ?_); intro v4 w4 hown4 hg4)
    | fail)
  have hb34 := grown_below hg4 (Nat.le_refl _) (by simp [Value.ownBlock])
  have hva4 := hva3.below hb34
  have hvr4 := hvr3.below hb34
  have hrb34 := hrb3.below hb34
  have hb4 := hbb.trans (hb34.mono hbb.size)
  rw [List.nil_append] at hown4
  have hrb4 := hown4.rb
  clear hva3 hvr3 hb34 hbb hg4 hown4 hrb3
  refine (putText_c v4 A (str t) _ hrb4 (by rw [str_size]; omega)).mono ?_
  rintro e w5 ⟨v5, rfl, hown5, hb5⟩
  have hva5 := hva4.below hb5
  have hvr5 := hvr4.below hb5
  have hrb35 := hrb34.below hb5
  have hrb5 := hown5.rb
  have hbb5 := hb4.trans (hb5.mono hb4.size)
  clear hva4 hvr4 hrb34 hb4 hb5 hown5 hrb4
  rw [show (str t).data.toList = t from by simp [str]] at hrb5
  have cE : ∀ (W : World) (v : Value) (l : List UInt8), RB W v l → (convert 22 9 v).run Try.prog W = .ok (.string (str l)) W := fun W v l h => run_string_RB W _ 5 _ Try.underlying22 Try.underlying5 Try.underlying9 v l h
  have CE := Go.Lib.hid cE; clear cE
  have hap : ∀ l m : List UInt8, str (l ++ m) = str l ++ str m := fun l m => by
    apply ByteArray.ext; simp [str]
  have c3 : ∀ W, Below w5.heap.size w5 W → (convert 22 9 v3).run Try.prog W = .ok (.string (str A ++ str (uvarint (zigzag a2)))) W := fun W h => by rw [CE.out _ _ _ (hrb35.below h), hap]
  have c5 : ∀ W, Below w5.heap.size w5 W → (convert 22 9 v5).run Try.prog W = .ok (.string (str A ++ str (putT t))) W := fun W h => by rw [CE.out _ _ _ (hrb5.below h), hap]
  have ca : ∀ W, Below w5.heap.size w5 W → (convert 22 9 va).run Try.prog W = .ok (.string (str A)) W := fun W h => CE.out _ _ _ (hva5.below h)
  have C3 := Go.Lib.hid c3; clear c3
  have C5 := Go.Lib.hid c5; clear c5
  have CA := Go.Lib.hid ca; clear ca hap
  have hs1 : ¬ 9223372036854775807 < (str A).size + (str (uvarint (zigzag a2))).size := by
    rw [str_size, str_size]; have := Go.Lib.uvarint_length64 (Go.Lib.zigzag_lt b1 b2); omega
  have hs2 : ¬ 9223372036854775807 < (str A).size + (str (putT t)).size := by
    rw [str_size, str_size, putT, List.length_append]; have := Go.Lib.uvarint_length64 (Go.Lib.zigzag_lt (x := (t.length : Int)) (by omega) (by omega)); omega
  have Hs1 := Go.Lib.hid hs1; clear hs1
  have Hs2 := Go.Lib.hid hs2; clear hs2
  go_upto_if 54 with (fail)
  go_cut [54] (fun s wx => s = .bool false ∧ Below w5.heap.size w5 wx)
  case first =>
    refine wp_region_each (by kernel_rfl) (V7 A (uvarint (zigzag a2)) t (putT t) va v3 v5 a2) (V7_below _ _ _ _ _ _ _ _) (by decide +kernel) (by decide +kernel) (by rfl) [35, 36, 37, 38, 39, 40, 41, 42, 43, 44, 45, 46, 47, 48, 49, 50, 51, 52, 53, 54] (by rfl) ?_ ?_
    · intro i o ho a w6 hb6 hlen hg
      have C3' := C3.out w6 hb6
      have C5' := C5.out w6 hb6
      have CA' := CA.out w6 hb6
      have hs1 := Hs1.out
      have hs2 := Hs2.out
      match i, ho with
      | 0, ho =>
        obtain rfl := Option.some.inj ho
        simp [Given, Oper.looksAt, Op.operands, fedB, Region.binds, V7] at hg
        exact st_yield ho (by simp [Region.wanted]) (v3) w6 (by simp [execOp, Act.eval, hg, go_sem]) ⟨_, rfl, Below.refl _ _, by rintro t' ⟨⟩; rfl⟩
      | 1, ho =>
        obtain rfl := Option.some.inj ho
        simp [Given, Oper.looksAt, Op.operands, fedB, Region.binds, V7] at hg
        exact st_yield ho (by simp [Region.wanted]) (.string (str A ++ str (uvarint (zigzag a2)))) w6 (by simp [execOp, Act.eval, hg, C3', go_sem, Result.andThen]) ⟨_, rfl, Below.refl _ _, by rintro t' ⟨⟩; rfl⟩
      | 2, ho =>
        obtain rfl := Option.some.inj ho
        simp [Given, Oper.looksAt, Op.operands, fedB, Region.binds, V7] at hg
        exact st_yield ho (by simp [Region.wanted]) (va) w6 (by simp [execOp, Act.eval, hg, go_sem]) ⟨_, rfl, Below.refl _ _, by rintro t' ⟨⟩; rfl⟩
      | 3, ho =>
        obtain rfl := Option.some.inj ho
        simp [Given, Oper.looksAt, Op.operands, fedB, Region.binds, V7] at hg
        exact st_yield ho (by simp [Region.wanted]) (.string (str A)) w6 (by simp [execOp, Act.eval, hg, CA', go_sem, Result.andThen]) ⟨_, rfl, Below.refl _ _, by rintro t' ⟨⟩; rfl⟩
      | 4, ho =>
        obtain rfl := Option.some.inj ho
        simp [Given, Oper.looksAt, Op.operands, fedB, Region.binds, V7] at hg
        exact st_yield ho (by simp [Region.wanted]) (.int .i64 a2) w6 (by simp [execOp, Act.eval, hg, go_sem]) ⟨_, rfl, Below.refl _ _, by rintro t' ⟨⟩; rfl⟩
      | 5, ho =>
        obtain rfl := Option.some.inj ho
        simp [Given, Oper.looksAt, Op.operands, Call.operands, fedB, Region.binds, V7] at hg
        exact st_enter ho (by simp [Region.wanted]) 14 #[.int .i64 a2] (by simp [execOp, Act.eval, hg, resolve, go_sem]) ((rput_c a2 w6 b1 b2).mono (by rintro e w7 ⟨v7, rfl, hown7, hb7⟩; exact ⟨v7, rfl, v7, rfl, hb7, by rintro t' ⟨⟩; exact hown7.rb⟩))
      | 6, ho =>
        obtain rfl := Option.some.inj ho
        simp [Given, Oper.looksAt, Op.operands, fedB, Region.binds, V7] at hg
        obtain ⟨v7, hv7, hr7⟩ := hg
        exact st_yield ho (by simp [Region.wanted]) (.string (str (uvarint (zigzag a2)))) w6 (by simp [execOp, Act.eval, hv7, CE.out w6 v7 _ hr7, Result.andThen]) ⟨_, rfl, Below.refl _ _, by rintro t' ⟨⟩; rfl⟩
      | 7, ho =>
        obtain rfl := Option.some.inj ho
        simp [Given, Oper.looksAt, Op.operands, fedB, Region.binds, V7] at hg
        exact st_yield ho (by simp [Region.wanted]) (.string (str A ++ str (uvarint (zigzag a2)))) w6 (by simp [execOp, Act.eval, hg, hs1, go_sem, Result.andThen]) ⟨_, rfl, Below.refl _ _, by rintro t' ⟨⟩; rfl⟩
      | 8, ho =>
        obtain rfl := Option.some.inj ho
        simp [Given, Oper.looksAt, Op.operands, fedB, Region.binds, V7] at hg
        exact st_yield ho (by simp [Region.wanted]) (.bool false) w6 (by simp [execOp, Act.eval, hg, go_sem]) ⟨_, rfl, Below.refl _ _, by rintro t' ⟨⟩; rfl⟩
      | 9, ho =>
        obtain rfl := Option.some.inj ho
        simp [Given, Oper.looksAt, Op.operands, fedB, Region.binds, V7] at hg
        exact st_yield ho (by simp [Region.wanted]) (.bool false) w6 (by simp [execOp, Act.eval, hg, go_sem]) ⟨_, rfl, Below.refl _ _, by rintro t' ⟨⟩; rfl⟩
      | 10, ho =>
        obtain rfl := Option.some.inj ho
        simp [Given, Oper.looksAt, Op.operands, fedB, Region.binds, V7] at hg
        exact st_yield ho (by simp [Region.wanted, yielded, hg]) (v5) w6 (by simp [execOp, Act.eval, hg, go_sem]) ⟨_, rfl, Below.refl _ _, by rintro t' ⟨⟩; rfl⟩
      | 11, ho =>
        obtain rfl := Option.some.inj ho
        simp [Given, Oper.looksAt, Op.operands, fedB, Region.binds, V7] at hg
        exact st_yield ho (by simp [Region.wanted, yielded, hg]) (.string (str A ++ str (putT t))) w6 (by simp [execOp, Act.eval, hg, C5', go_sem, Result.andThen]) ⟨_, rfl, Below.refl _ _, by rintro t' ⟨⟩; rfl⟩
      | 12, ho =>
        obtain rfl := Option.some.inj ho
        simp [Given, Oper.looksAt, Op.operands, fedB, Region.binds, V7] at hg
        exact st_yield ho (by simp [Region.wanted, yielded, hg]) (va) w6 (by simp [execOp, Act.eval, hg, go_sem]) ⟨_, rfl, Below.refl _ _, by rintro t' ⟨⟩; rfl⟩
      | 13, ho =>
        obtain rfl := Option.some.inj ho
        simp [Given, Oper.looksAt, Op.operands, fedB, Region.binds, V7] at hg
        exact st_yield ho (by simp [Region.wanted, yielded, hg]) (.string (str A)) w6 (by simp [execOp, Act.eval, hg, CA', go_sem, Result.andThen]) ⟨_, rfl, Below.refl _ _, by rintro t' ⟨⟩; rfl⟩
      | 14, ho =>
        obtain rfl := Option.some.inj ho
        simp [Given, Oper.looksAt, Op.operands, fedB, Region.binds, V7] at hg
        exact st_yield ho (by simp [Region.wanted, yielded, hg]) (.string (str t)) w6 (by simp [execOp, Act.eval, hg, go_sem]) ⟨_, rfl, Below.refl _ _, by rintro t' ⟨⟩; rfl⟩
      | 15, ho =>
        obtain rfl := Option.some.inj ho
        simp [Given, Oper.looksAt, Op.operands, Call.operands, fedB, Region.binds, V7] at hg
        exact st_enter ho (by simp [Region.wanted, yielded, hg]) 15 #[.string (str t)] (by simp [execOp, Act.eval, hg, resolve, go_sem]) ((rputText_c (str t) w6 (by rw [str_size]; omega)).mono (by rintro e w7 ⟨v7, rfl, hown7, hb7⟩; exact ⟨v7, rfl, v7, rfl, hb7, by rintro t' ⟨⟩; exact hown7.rb⟩))
      | 16, ho =>
        obtain rfl := Option.some.inj ho
        simp [Given, Oper.looksAt, Op.operands, fedB, Region.binds, V7] at hg
        obtain ⟨⟨v7, hv7, hr7⟩, hg2⟩ := hg
        exact st_yield ho (by simp [Region.wanted, yielded, hg2]) (.string (str (putT t))) w6 (by simp [execOp, Act.eval, hv7, CE.out w6 v7 _ hr7, Result.andThen]) ⟨_, rfl, Below.refl _ _, by rintro t' ⟨⟩; rfl⟩
      | 17, ho =>
        obtain rfl := Option.some.inj ho
        simp [Given, Oper.looksAt, Op.operands, fedB, Region.binds, V7] at hg
        exact st_yield ho (by simp [Region.wanted, yielded, hg]) (.string (str A ++ str (putT t))) w6 (by simp [execOp, Act.eval, hg, hs2, go_sem, Result.andThen]) ⟨_, rfl, Below.refl _ _, by rintro t' ⟨⟩; rfl⟩
      | 18, ho =>
        obtain rfl := Option.some.inj ho
        simp [Given, Oper.looksAt, Op.operands, fedB, Region.binds, V7] at hg
        exact st_yield ho (by simp [Region.wanted, yielded, hg]) (.bool false) w6 (by simp [execOp, Act.eval, hg, go_sem]) ⟨_, rfl, Below.refl _ _, by rintro t' ⟨⟩; rfl⟩
      | 19, ho =>
        obtain rfl := Option.some.inj ho
        simp [Given, Oper.looksAt, Op.operands, fedB, Region.binds, V7] at hg
        exact st_yield ho (by simp [Region.wanted]) (.bool false) w6 (by simp [execOp, Act.eval, hg, go_sem]) ⟨_, rfl, Below.refl _ _, by rintro t' ⟨⟩; rfl⟩
      | n + 20, ho => simp at ho
    · intro f w6 hb6 hv
      have h54 := hv 54 (by simp)
      clear hv
      simp only [V7] at h54
      unfold putAll
      simp only [List.foldl]
      go_simp
      go_wp2
      go_meet
      exact ⟨rfl, hb6⟩
  case rest =>
    obtain ⟨rfl, hcut⟩ := hcut
    have hva6 := hva5.below hcut
    have hvr6 := hvr5.below hcut
    have hrb36 := hrb35.below hcut
    have hrb6 := hrb5.below hcut
    have hbb6 := hbb5.trans (hcut.mono hbb5.size)
    clear hva5 hvr5 hrb35 hrb5 hbb5 hcut C3 C5 CA CE
    have hg1 := getB_put a2 b1 b2 R
    have hg2 := textB_put t R (by omega)
    have hp10 := Go.Lib.uvarint_length64 (Go.Lib.zigzag_lt b1 b2)
    have hq110 : (putT t).length ≤ 110 := by
      rw [putT, List.length_append]; have := Go.Lib.uvarint_length64 (Go.Lib.zigzag_lt (x := (t.length : Int)) (by omega) (by omega)); omega
    have hqs : (str t).data.toList = t := by simp [str]
    generalize uvarint (zigzag a2) = p at hrb36 hg1 hp10
    generalize putT t = q at hrb6 hg2 hq110
    have hlp : (A ++ p).length = A.length + p.length := List.length_append
    have hlq : (A ++ q).length = A.length + q.length := List.length_append
    have Hg1 := Go.Lib.hid hg1; clear hg1
    have Hg2 := Go.Lib.hid hg2; clear hg2
    obtain ⟨aa, ca, rfl, -, -, -, -⟩ := id hva6
    obtain ⟨a3', c3', rfl, hc3, hm3, -, -⟩ := id hrb36
    obtain ⟨a5', c5', rfl, hc5, hm5, -, -⟩ := id hrb6
    rw [hlp] at hrb36
    rw [hlq] at hrb6
    clear hc3 hc5 hm3 hm5
    rw [hlp, hlq]
    clear hqs Hs1 Hs2 hlp hlq
    go_wp2_with (first
      | (with_reducible show wpList _ _ _ (⟨some 59, _, _, _, _, _⟩ :: _) _ _; go_loud (refine wpList_slice_l rfl (.tmp 56) (.tmp 58) 22 rfl 5 Try.underlying22 info8 (.slice a3' (A.length + p.length) c3') (A ++ p) .i64 _ A.length rfl rfl rfl hrb36 (by simp) ?_); intro v6 hv6; rw [List.drop_left] at hv6)
      | (with_reducible show wpList _ _ _ (⟨some 60, _, _, _, _, _⟩ :: _) _ _; go_loud (refine wpList_append_RB rfl (.const (.slice none 0 0)) (.tmp 59) 22 rfl wc.heap.size 5 Try.underlying22 info8 (.slice none 0 0) v6 [] p rfl rfl (Own.nil _ _ _) hv6 (by simp; omega) (Nat.le_refl _) ?_); intro v7 w7 hown7 hg7; have hb7 := grown_below hg7 (Nat.le_refl _) (by simp [Value.ownBlock]))
      | (with_reducible show wpList _ _ _ (⟨some 62, _, _, _, _, _⟩ :: _) _ _; go_loud (refine wpList_append_RB rfl (.tmp 60) (.tmp 61) 22 rfl wc.heap.size 5 Try.underlying22 info8 v7 vr ([] ++ p) R rfl rfl hown7 (hvr6.below hb7) (by simp; omega) hb7.size ?_); intro v8 w8 hown8 hg8; have hb8 := hb7.grown hg8 hb7.size hown7.row)
      | fail)
    rw [List.nil_append] at hown8
    refine (get_c v8 _ _ hown8.rb).mono ?_
    rintro e w9 ⟨rfl, rfl⟩
    rw [Hg1.out]; unfold gv
    have hvr8 := hvr6.below hb8
    have hrb8 := hrb6.below hb8
    have hbb8 := hbb6.trans (hb8.mono hbb6.size)
    clear hvr6 hrb6 hbb6 hb7 hb8 hown7 hown8 hg7 hg8 hv6 hrb36 hva6
    go_wp2_with (first
      | (with_reducible show wpList _ _ _ (⟨some 71, _, _, _, _, _⟩ :: _) _ _; go_loud (refine wpList_slice_l rfl (.tmp 68) (.tmp 70) 22 rfl 5 Try.underlying22 info8 (.slice a5' (A.length + q.length) c5') (A ++ q) .i64 _ A.length rfl rfl rfl hrb8 (by simp) ?_); intro v10 hv10; rw [List.drop_left] at hv10)
      | (with_reducible show wpList _ _ _ (⟨some 72, _, _, _, _, _⟩ :: _) _ _; go_loud (refine wpList_append_RB rfl (.const (.slice none 0 0)) (.tmp 71) 22 rfl w8.heap.size 5 Try.underlying22 info8 (.slice none 0 0) v10 [] q rfl rfl (Own.nil _ _ _) hv10 (by simp; omega) (Nat.le_refl _) ?_); intro v11 w11 hown11 hg11; have hb11 := grown_below hg11 (Nat.le_refl _) (by simp [Value.ownBlock]))
      | (with_reducible show wpList _ _ _ (⟨some 74, _, _, _, _, _⟩ :: _) _ _; go_loud (refine wpList_append_RB rfl (.tmp 72) (.tmp 73) 22 rfl w8.heap.size 5 Try.underlying22 info8 v11 vr ([] ++ q) R rfl rfl hown11 (hvr8.below hb11) (by simp; omega) hb11.size ?_); intro v12 w12 hown12 hg12; have hb12 := hb11.grown hg12 hb11.size hown11.row)
      | fail)
    rw [List.nil_append] at hown12
    refine (getText_c v12 _ _ hown12.rb).mono ?_
    rintro e w13 ⟨rfl, rfl⟩
    rw [Hg2.out]; unfold tv
    have hbb12 := hbb8.trans (hb12.mono hbb8.size)
    clear hvr8 hrb8 hbb8 hb11 hb12 hown11 hown12 hg11 hg12 hv10
    clear Hg1 Hg2 hr20
    generalize A.length = na at *
    generalize p.length = np at *
    generalize q.length = nq at *
    have hB1 : ((np : Int) == (na : Int) + (np : Int) - (na : Int)) = true := by simp; omega
    have hB2 : ((nq : Int) == (na : Int) + (nq : Int) - (na : Int)) = true := by simp; omega
    go_wp2
    go_ret
    exact ⟨rfl, hbb12⟩

/-! ### THE ROW's STEP: WRITTEN OUT: LEAVE IT -/
set_option maxRecDepth 100000 in
theorem lifted (os : Os) (started : os.Started) (H : Type) (enc : TypeId × Value → H) :
    ReturnsInHanded {} Try.checked os 3 .any (Rows.numBackSpec.pre6 enc Try.prog Try.f3 Rows.numBackRow.domain false) (Rows.numBackSpec.post enc Try.prog Try.f3 false true false false) := by
  refine returnsInHanded_of_change (C := Try.checked) own started (by kernel_rfl) Try.func3
    (ChangeSpec.witness6 (enc := enc) (C := Try.checked) false ⟨#[], #[.slice none 0 0, .slice none 0 0, .int .i64 0, .string ByteArray.empty], []⟩ 8 (by kernel_rfl) (by kernel_rfl) (by kernel_rfl) (by kernel_rfl)) ?_
  intro W base args ds gs before hval0 hW hcnd _
  have hval : ∀ (j : Nat) t v, Try.f3.params[j]? = some t → args[j]? = some v → Value.okWide Try.prog W .any base t v := hval0
  have hW' := hW
  obtain ⟨p, q, hA0, hV, rfl, hfz, hnd⟩ := hW
  have hA : DataW.TrodAll enc Try.prog W 0 (fun _ => true) true Try.f3.params.toList args.toList ds p := hA0
  rw [Try.params3] at hA hval
  obtain ⟨v0, vs0, d0, ds0, p0, q0, hargs, rfl, rfl, h0, r0⟩ := trodAll_cons hA
  obtain ⟨v1, vs1, d1, ds1, p1, q1, rfl, rfl, rfl, h1, r1⟩ := trodAll_cons r0
  obtain ⟨v2, vs2, d2, ds2, p2, q2, rfl, rfl, rfl, h2, r2⟩ := trodAll_cons r1
  obtain ⟨v3, vs3, d3, ds3, p3, q3, rfl, rfl, rfl, h3, r3⟩ := trodAll_cons r2
  obtain ⟨rfl, rfl, rfl⟩ := trodAll_nil r3
  obtain rfl : args = #[v0, v1, v2, v3] := by cases args; simp_all
  obtain ⟨rfl, rfl⟩ := trodVars_none hV
  obtain ⟨a0, len0, cap0, rfl⟩ := okWide_slice Try.underlying22 (hval 0 22 v0 rfl rfl)
  have k0 := h0
  have lt0 : ∀ x ∈ p0, x.block < W.heap.size := by obtain ⟨m, hm⟩ := k0; exact DataW.trod_lt m _ _ _ hm
  obtain ⟨z0, w0⟩ : ∃ zs, IsRow .u8 W a0 len0 cap0 zs := by
    obtain ⟨fuel, hf⟩ := h0
    rcases open_ints Try.underlying22 Try.underlying5 (by kernel_rfl) hf with ⟨hcs, _⟩ | ⟨x, l, c, zs, hcs, _, hl, hm, hz, _, hcell, hwz⟩
    · simp [Value.cells] at hcs
      obtain ⟨rfl, rfl, rfl⟩ := hcs
      exact ⟨[], .inl ⟨rfl, rfl, rfl, rfl⟩⟩
    · simp [Value.cells] at hcs
      obtain ⟨rfl, rfl, rfl⟩ := hcs
      exact ⟨zs, .inr ⟨_, rfl, hl, hm, by simpa using hz, hcell, hwz⟩⟩
  obtain ⟨a1, len1, cap1, rfl⟩ := okWide_slice Try.underlying22 (hval 1 22 v1 rfl rfl)
  have k1 := h1
  have lt1 : ∀ x ∈ p1, x.block < W.heap.size := by obtain ⟨m, hm⟩ := k1; exact DataW.trod_lt m _ _ _ hm
  obtain ⟨z1, w1⟩ : ∃ zs, IsRow .u8 W a1 len1 cap1 zs := by
    obtain ⟨fuel, hf⟩ := h1
    rcases open_ints Try.underlying22 Try.underlying5 (by kernel_rfl) hf with ⟨hcs, _⟩ | ⟨x, l, c, zs, hcs, _, hl, hm, hz, _, hcell, hwz⟩
    · simp [Value.cells] at hcs
      obtain ⟨rfl, rfl, rfl⟩ := hcs
      exact ⟨[], .inl ⟨rfl, rfl, rfl, rfl⟩⟩
    · simp [Value.cells] at hcs
      obtain ⟨rfl, rfl, rfl⟩ := hcs
      exact ⟨zs, .inr ⟨_, rfl, hl, hm, by simpa using hz, hcell, hwz⟩⟩
  obtain ⟨a2, rfl, rfl, rfl, w2⟩ := open_int Try.underlying2 (hval 2 2 v2 rfl rfl) h2
  obtain ⟨a3, rfl, rfl, rfl, w3⟩ := open_string Try.underlying9 (hval 3 9 v3 rfl rfl) h3
  clear hA0 hval0
  refine (walk a0 len0 cap0 z0 a1 len1 cap1 z1 a2 a3 W w0 w1 w2 w3).mono fun e W' ⟨he, bel⟩ => ?_
  subst he
  exact ⟨_, rfl, _, _, _, [], _, [], hW', trodAll_mk1 (shut_bool Try.underlying4 _), (trodAll_cons_mk (Below.trod laidOut (by kernel_rfl) (of_decide_eq_true (by kernel_rfl)) k0 bel lt0) (trodAll_cons_mk (Below.trod laidOut (by kernel_rfl) (of_decide_eq_true (by kernel_rfl)) k1 bel lt1) (trodAll_cons_mk (shut_int Try.underlying2 w2) (trodAll_cons_mk (shut_string Try.underlying9 w3) trodAll_mk0)))), rfl, bel.frame _, fun h => by cases h⟩

theorem over : Rows.numBackRow.holds Try.pinned (OpenSpec.ofChange Rows.numBackSpec) :=
  OpenClaim.holds_of_wide 3 Try.f3 rfl rfl rfl rfl rfl rfl rfl ⟨rfl, rfl, rfl, rfl, rfl⟩ rfl rfl rfl rfl rfl (by kernel_rfl) Try.func3 (by kernel_rfl)
    (of_decide_eq_true (by kernel_rfl)) (by unfold Func.isWrapper; first | (rw [if_pos (by decide +kernel)]; kernel_rfl) | (rw [if_neg (by decide +kernel)]; exact ⟨rfl, rfl⟩))
    (fun os started H enc _ => lifted os started H enc)

/-- ████ THE STATEMENT ████ -/
theorem proved : Rows.NumBackSaid := over
#print axioms proved
end Go.Proofs.Ytdgdaaojiljceaa.numBack
