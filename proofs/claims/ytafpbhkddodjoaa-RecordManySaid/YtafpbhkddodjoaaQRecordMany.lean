/- RecordMany: records one behind the other are told one by one: for every slice of records the law returns true. -/
import Derived.Test.YtafpbhkddodjoaaRows
import Derived.WalkKit
import Derived.ProofKit
import Derived.OpenShut
import Derived.ShutString
import Derived.ChangeOld
import Derived.Below
import Derived.Test.YtafpbhkddodjoaaM01
import Derived.Test.YtafpbhkddodjoaaM18
import Derived.Test.YtafpbhkddodjoaaM19
import Derived.Test.YtafpbhkddodjoaaM13
import Derived.LoopTactic
import Derived.Deep.DeepCutAuto
namespace Go.Proofs.Ytafpbhkddodjoaa.recordMany
open Go.ChangeShapes Go.WideShapes Go.ChangeAt Go.RowKit
open Go.ChangeMaps (open_string shut_string)
set_option linter.unusedVariables false

theorem own : ownKnob Try.prog.godebug = none := by kernel_rfl
theorem laidOut : laidOutB Try.prog = true := by kernel_rfl

def encR (l : List RecT) : List UInt8 := l.flatMap fun x => recB (bl x.1) x.2.1 x.2.2.1 x.2.2.2.1 (bl x.2.2.2.2)
theorem encR_snoc (l : List RecT) (x : RecT) : encR (l ++ [x]) = encR l ++ recB (bl x.1) x.2.1 x.2.2.1 x.2.2.2.1 (bl x.2.2.2.2) := by simp [encR]
theorem encR_cons (l : List RecT) (x : RecT) : encR (x :: l) = recB (bl x.1) x.2.1 x.2.2.1 x.2.2.2.1 (bl x.2.2.2.2) ++ encR l := by simp [encR]
def GoodRec (x : RecT) : Prop := mayRec x.1 x.2.1 x.2.2.1 x.2.2.2.1 x.2.2.2.2 = true ∧ -9223372036854775808 ≤ x.2.2.2.1 ∧ x.2.2.2.1 ≤ 9223372036854775807
theorem encR_len (l : List RecT) (h : ∀ x ∈ l, GoodRec x) : (encR l).length ≤ 200 * l.length := by
  induction l with
  | nil => simp [encR]
  | cons x t ih =>
    obtain ⟨h1, h2, h3⟩ := h x (List.mem_cons_self ..)
    have := (recB_len (key := bl x.1) (s := bl x.2.2.2.2) (by rw [str_bl, str_bl]; exact h1) h2 h3).2
    have := ih fun y hy => h y (List.mem_cons_of_mem _ hy)
    rw [encR_cons, List.length_append, List.length_cons]
    omega
def FitRec (x : RecT) : Prop := x.1.size ≤ 20 ∧ -9223372036854775808 ≤ x.2.2.2.1 ∧ x.2.2.2.1 ≤ 9223372036854775807 ∧ x.2.2.2.2.size ≤ 30
theorem fit_cut (x : RecT) (h : RecOk x) : FitRec (cutR x) := by
  obtain ⟨-, -, h3, -⟩ := h
  obtain ⟨b1, b2⟩ := bounds_i64 h3
  refine ⟨?_, b1, by show x.2.2.2.1 ≤ _; omega, ?_⟩
  · show (str _).size ≤ 20
    rw [str_size]
    exact List.length_take_le _ _
  · show (str _).size ≤ 30
    rw [str_size]
    exact List.length_take_le _ _
theorem own_ne {w : World} {B B' : Nat} {v u : Value} {l : List RecT} {q : List UInt8} (h : OwnRec w B v l) (g : Own 5 w B' u q) : u.ownBlock = none ∨ u.ownBlock ≠ v.ownBlock := by
  rcases g.2 with ⟨rfl, -⟩ | ⟨b, cap, cur, rfl, -, hg, -⟩
  · exact .inl rfl
  · refine .inr fun e => ?_
    rcases h.2 with ⟨rfl, -⟩ | ⟨b', cap', cur', rfl, -, hg', -⟩
    · cases e
    · simp only [Value.ownBlock, Option.some.injEq] at e
      subst e
      rw [hg] at hg'
      simp only [Option.some.injEq, Obj.cells.injEq] at hg'
      exact absurd hg'.2.1 (by decide)

def VM (xk : ByteArray) (xg : Bool) (xa xn : Int) (xs : ByteArray) (g o nm cap j : Nat) : Nat → World → Value → Prop
  | 52, _, v => v = .int .i64 0
  | 53, _, v => v = .bool false
  | 54, _, v => v = .bool false
  | 55, _, v => v = .agg #[.string xk, .bool xg, .int .i64 xa, .int .i64 xn, .string xs]
  | 56, _, v => v = .slice (some ⟨g, o, none⟩) nm cap
  | 57, _, v => v = .int .i64 (j : Int)
  | 58, _, v => v = .pointer (some ⟨g, o + j * 5, none⟩)
  | 59, _, v => v = .agg #[.string xk, .bool xg, .int .i64 xa, .int .i64 xn, .string xs]
  | 60, _, v => v = .bool true
  | 61, _, v => v = .bool false
  | 62, _, v => v = .bool false
  | _, _, _ => True

theorem VM_below (xk : ByteArray) (xg : Bool) (xa xn : Int) (xs : ByteArray) (g o nm cap j : Nat) : ∀ (i : Nat) (w w' : World) (v : Value), VM xk xg xa xn xs g o nm cap j i w v → Below w.heap.size w w' → VM xk xg xa xn xs g o nm cap j i w' v := by
  intro i w w' v h hb
  unfold VM at h ⊢
  split at h <;> first | exact h | trivial | exact RB.below h hb | exact Own.below h hb

set_option maxHeartbeats 4000000 in
set_option maxRecDepth 100000 in
theorem walk (w : World) (a0 : Option Addr) (len0 cap0 : Nat) (l0 : List RecT) (w0 : RRec w (.slice a0 len0 cap0) l0) :
    Calls Try.prog 6 #[.slice a0 len0 cap0] w fun e w' => e = .returned (.bool true) ∧ Below w.heap.size w w' := by
  have C1 := Go.Lib.hid fun W (h : RRec W (.slice a0 len0 cap0) l0) => recs_c (.slice a0 len0 cap0) l0 20 W h (by omega)
  have hlm : ((l0.take 20).map cutR).length ≤ 20 := by rw [List.length_map, List.length_take]; omega
  have hfit : ∀ x ∈ (l0.take 20).map cutR, FitRec x := by
    intro x hx
    obtain ⟨y, hy, rfl⟩ := List.mem_map.1 hx
    exact fit_cut y (w0.ok y (List.mem_of_mem_take hy))
  generalize (l0.take 20).map cutR = l at *
  have Hfit := Go.Lib.hid hfit; clear hfit
  have Hlm := Go.Lib.hid hlm; clear hlm
  go_enter Try.func6, Try.ntmps6
  go_wp2_with fail
  refine (begun_c _).mono ?_
  rintro e w1 ⟨rfl, hbb⟩
  go_wp2_with fail
  refine (C1.out _ (w0.below hbb)).mono ?_
  rintro e w2 ⟨v2, rfl, own2, hc⟩
  have hbb := hbb.trans (hc.mono hbb.size)
  have HR := Go.Lib.hid own2.rs
  obtain ⟨a2, cl, rfl, hm2⟩ := own2.rs.form
  have Hbb := Go.Lib.hid hbb
  clear hc own2 w0 hbb
  go_wp2_with fail
  go_loopw [4, 5, 6] (fun vb vm i wr => ∃ (k : Nat) (m : List RecT), k ≤ l.length ∧ m.length ≤ k ∧ i = .int .i64 (k : Int) ∧ OwnRec wr w2.heap.size vm m ∧ Own 5 wr w2.heap.size vb (encR m) ∧ (∀ x ∈ m, GoodRec x) ∧ Below w2.heap.size w2 wr) (fun _ _ i _ => l.length - (intOf i).toNat)
  case atStart => exact ⟨0, [], by omega, by simp, rfl, OwnRec.nil _ _, Own.nil _ _ _, by simp, Below.refl _ _⟩
  case round =>
    obtain ⟨k, m, hk, hmk, rfl, hown, hob, hgood, hbc⟩ := hrel
    have Hgood := Go.Lib.hid hgood; clear hgood
    by_cases hlt : k < l.length
    · obtain ⟨b, o, rfl, -, -, c0, c1, c2, c3, c4⟩ := (HR.out.below hbc).at k hlt
      have Hix := Go.Lib.hid (run_idx5 b o l.length cl k hlt)
      have HC := Go.Lib.hid fun W (h : Below w2.heap.size w2 W) => (HR.out.below h).at k hlt
      have hft := Hfit.out l[k] (List.getElem_mem hlt)
      generalize l[k] = x at *
      obtain ⟨kx, gx, ax, nx, sx⟩ := x
      obtain ⟨f1, f2, f3, f4⟩ := hft
      simp only [] at c0 c1 c2 c3 c4 f1 f2 f3 f4 HC
      have cm := fun W => rmayrec_c kx gx ax nx sx W (by unfold maxLen; omega) (by unfold maxLen; omega)
      unfold recV at cm
      have CM := Go.Lib.hid cm; clear cm f1 f4
      have F2 := Go.Lib.hid f2; clear f2
      have F3 := Go.Lib.hid f3; clear f3
      have hix := fun W => Hix.out W
      go_wp2_with fail
      refine (CM.out _).mono ?_
      rintro e w3 ⟨rfl, hc⟩
      have hbc3 := hbc.trans (hc.mono hbc.size)
      have hown3 := hown.below hc
      have hob3 := hob.below hc
      clear hc hbc hown hob c0 c1 c2 c3 c4 CM
      cases hmay : mayRec kx gx ax nx sx with
      | false =>
        clear hix
        go_wp2_with fail
        go_roundw
        case rel => exact ⟨k + 1, m, by omega, by omega, by go_num, hown3, hob3, Hgood.out, hbc3⟩
        case measure => simp only [intOf]; omega
      | true =>
        obtain ⟨b9, o9, e9, -, -, c0, c1, c2, c3, c4⟩ := HC.out _ hbc3
        cases e9
        have hel := encR_len m Hgood.out
        have hm20 : m.length + 1 ≤ 1000000 := by have := Hlm.out; omega
        have cp := fun v' W (h : RB W v' (encR m)) => pput_c v' (encR m) (bl kx) gx ax nx (bl sx) W h (by rw [str_bl, str_bl]; exact hmay) F2.out F3.out (by have := Hlm.out; omega)
        rw [str_bl, str_bl] at cp
        unfold recV at cp
        have CP := Go.Lib.hid cp; clear cp
        have Hnew := Go.Lib.hid (show GoodRec (kx, gx, ax, nx, sx) from ⟨hmay, F2.out, F3.out⟩)
        have hsn := encR_snoc m (kx, gx, ax, nx, sx)
        simp only [] at hsn
        have Hsn := Go.Lib.hid hsn
        clear hsn hmay F2 F3 hel
        have hownA := OwnRec.below hown3 (below_one w3 (.cells #[.string kx, .bool gx, .int .i64 ax, .int .i64 nx, .string sx] 25))
        have hobA := hob3.alloc (.cells #[.string kx, .bool gx, .int .i64 ax, .int .i64 nx, .string sx] 25)
        have hone := RS.one w3 (kx, gx, ax, nx, sx)
        simp only [] at hone
        have hbcA := hbc3.trans ((below_one w3 (.cells #[.string kx, .bool gx, .int .i64 ax, .int .i64 nx, .string sx] 25)).mono hbc3.size)
        have hbs := hbcA.size
        have Hm20 := Go.Lib.hid hm20; clear hm20
        go_wp2_with (first
          | (with_reducible show wpList _ _ _ (⟨some 33, _, _, _, _, _⟩ :: _) _ _; go_loud (refine wpList_append_recs rfl (.tmp 27) (.tmp 32) rfl w2.heap.size u5 (.slice (some ⟨w3.heap.size, 0, none⟩) 1 1) m [(kx, gx, ax, nx, sx)] rfl rfl hownA hone (by simpa using Hm20.out) hbs ?_); intro v4 w4 hown4 hg4; have hob4 := hobA.kept hg4 (own_ne hownA hobA); have hbc4 := hbcA.grown hg4 hbs hownA.row; clear c0 c1 c2 c3 c4; obtain ⟨b9, o9, e9, -, -, c0, c1, c2, c3, c4⟩ := HC.out _ hbc4; cases e9; clear hg4 hownA hobA hbcA hbs hone hown3 hob3 hbc3)
          | fail)
        refine (CP.out _ _ hob4.rb).mono ?_
        rintro e w5 ⟨v5, rfl, hob5, hc⟩
        have hob5 := hob5.mono hbc4.size
        rw [← Hsn.out] at hob5
        have hown5 := hown4.below hc
        have hbc5 := hbc4.trans (hc.mono hbc4.size)
        have hgood5 : Hid (∀ x ∈ m ++ [(kx, gx, ax, nx, sx)], GoodRec x) := by
          intro x hx
          rcases List.mem_append.1 hx with h | h
          · exact Hgood.out x h
          · rw [List.mem_singleton.1 h]; exact Hnew.out
        clear hc c0 c1 c2 c3 c4 hob4 hown4 hbc4 CP Hgood Hnew Hsn hix
        go_wp2_with fail
        go_roundw
        case rel => exact ⟨k + 1, m ++ [(kx, gx, ax, nx, sx)], by omega, by simp; omega, by go_num, hown5, hob5, hgood5.out, hbc5⟩
        case measure => simp only [intOf]; omega
    · have hrb := hob.rb
      have HM := Go.Lib.hid hown.rs
      obtain ⟨am, cm, rfl, hm1⟩ := hown.rs.form
      have Hbw := Go.Lib.hid (Hbb.out.trans (hbc.mono Hbb.out.size))
      clear hob hown hbc Hfit
      go_wp2_with fail
      go_loopw [4, 7] (fun vb i w2 => ∃ j : Nat, j ≤ m.length ∧ i = .int .i64 (j : Int) ∧ RB w2 vb (encR (m.drop j)) ∧ Below wr.heap.size wr w2) (fun _ i _ => m.length - (intOf i).toNat)
      case atStart => exact ⟨0, by omega, rfl, hrb, Below.refl _ _⟩
      case round =>
        obtain ⟨j, hj, rfl, hrb, hbc⟩ := hrel
        by_cases hlt : j < m.length
        · obtain ⟨g, o, rfl, -, -, c0, c1, c2, c3, c4⟩ := (HM.out.below hbc).at j hlt
          have hg := Hgood.out m[j] (List.getElem_mem hlt)
          have hsn : encR (m.drop j) = recB (bl m[j].1) m[j].2.1 m[j].2.2.1 m[j].2.2.2.1 (bl m[j].2.2.2.2) ++ encR (m.drop (j + 1)) := by rw [List.drop_eq_getElem_cons hlt, encR_cons]
          have Hix := Go.Lib.hid (run_idx5 g o m.length cm j hlt)
          generalize m[j] = x at c0 c1 c2 c3 c4 hg hsn
          obtain ⟨xk, xg, xa, xn, xs⟩ := x
          obtain ⟨g1, g2, g3⟩ := hg
          simp only [] at c0 c1 c2 c3 c4 hsn g1 g2 g3
          have hv := readB_put (bl xk) xg xa xn (bl xs) (encR (m.drop (j + 1))) (by rw [str_bl, str_bl]; exact g1) g2 g3
          rw [hsn] at hrb
          have cg := fun W (h : RB W u4 (recB (bl xk) xg xa xn (bl xs) ++ encR (m.drop (j + 1)))) => pget_c u4 _ W h
          rw [hv] at cg
          unfold rr recV at cg
          simp only [str_bl] at cg
          have ce := fun W => reqrec_c xk xg xa xn xs xk xg xa xn xs W
          have h3 := eqRec_iff (xk, xg, xa, xn, xs) (xk, xg, xa, xn, xs)
          simp only [decide_true] at h3
          rw [h3] at ce
          unfold recV at ce
          clear hv hsn g1 g2 g3 h3
          generalize recB (bl xk) xg xa xn (bl xs) = p at cg hrb
          have CG := Go.Lib.hid cg; clear cg
          have CE := Go.Lib.hid ce; clear ce
          go_wp2_with fail
          refine (CG.out _ hrb).mono ?_
          rintro e w5 ⟨rfl, hc⟩
          have hb2 := hc.trans ((below_one w5 (.cells #[.string xk, .bool xg, .int .i64 xa, .int .i64 xn, .string xs] 25)).mono hc.size)
          have c0 := cell_kept c0 hb2
          have c1 := cell_kept c1 hb2
          have c2 := cell_kept c2 hb2
          have c3 := cell_kept c3 hb2
          have c4 := cell_kept c4 hb2
          have hrb5 := hrb.below hb2
          have hbc5 := hbc.trans (hb2.mono hbc.size)
          obtain ⟨p0, p1, p2, p3, p4⟩ := row5 (heap_alloc_new w5 (.cells #[.string xk, .bool xg, .int .i64 xa, .int .i64 xn, .string xs] 25))
          clear hc CG hb2
          go_upto_if 62 with (fail)
          refine wp_region_each (by kernel_rfl) (VM xk xg xa xn xs g o m.length cm j) (VM_below xk xg xa xn xs g o m.length cm j) (by decide +kernel) (by decide +kernel) (by rfl) [52, 53, 54, 55, 56, 57, 58, 59, 60, 61, 62] (by rfl) ?_ ?_
          · intro i o ho a w6 hb6 hlen hg
            have p0 := cell_kept p0 hb6
            have p1 := cell_kept p1 hb6
            have p2 := cell_kept p2 hb6
            have p3 := cell_kept p3 hb6
            have p4 := cell_kept p4 hb6
            have c0 := cell_kept c0 hb6
            have c1 := cell_kept c1 hb6
            have c2 := cell_kept c2 hb6
            have c3 := cell_kept c3 hb6
            have c4 := cell_kept c4 hb6
            have hix := fun W => Hix.out W
            match i, ho with
            | 0, ho =>
              obtain rfl := Option.some.inj ho
              have h10 := given_old hg 10 (by decide +kernel)
              clear hg
              exact st_yield ho (wanted_none rfl) (.int .i64 0) w6 (by simp [execOp, Act.eval, h10, go_sem]) ⟨_, rfl, Below.refl _ _, by rintro t' ⟨⟩; rfl⟩
            | 1, ho =>
              obtain rfl := Option.some.inj ho
              obtain ⟨_, h52, rfl⟩ := given_fed hg 52 (by decide +kernel)
              clear hg
              exact st_yield ho (wanted_none rfl) (.bool false) w6 (by simp [execOp, Act.eval, h52, go_sem]) ⟨_, rfl, Below.refl _ _, by rintro t' ⟨⟩; rfl⟩
            | 2, ho =>
              obtain rfl := Option.some.inj ho
              obtain ⟨_, h53, rfl⟩ := given_fed hg 53 (by decide +kernel)
              clear hg
              exact st_yield ho (wanted_none rfl) (.bool false) w6 (by simp [execOp, Act.eval, h53, go_sem]) ⟨_, rfl, Below.refl _ _, by rintro t' ⟨⟩; rfl⟩
            | 3, ho =>
              obtain rfl := Option.some.inj ho
              have h8 := given_old hg 8 (by decide +kernel)
              obtain ⟨_, h54, rfl⟩ := given_fed hg 54 (by decide +kernel)
              clear hg
              exact st_yield ho (wanted_some rfl rfl h54 rfl) (.agg #[.string xk, .bool xg, .int .i64 xa, .int .i64 xn, .string xs]) w6 (by simp [execOp, Act.eval, h8, go_sem, p0, p1, p2, p3, p4]) ⟨_, rfl, Below.refl _ _, by rintro t' ⟨⟩; rfl⟩
            | 4, ho =>
              obtain rfl := Option.some.inj ho
              have h5 := given_old hg 5 (by decide +kernel)
              obtain ⟨_, h54, rfl⟩ := given_fed hg 54 (by decide +kernel)
              clear hg
              exact st_yield ho (wanted_some rfl rfl h54 rfl) (.slice (some ⟨g, o, none⟩) m.length cm) w6 (by simp [execOp, Act.eval, h5, go_sem]) ⟨_, rfl, Below.refl _ _, by rintro t' ⟨⟩; rfl⟩
            | 5, ho =>
              obtain rfl := Option.some.inj ho
              have h7 := given_old hg 7 (by decide +kernel)
              obtain ⟨_, h54, rfl⟩ := given_fed hg 54 (by decide +kernel)
              clear hg
              exact st_yield ho (wanted_some rfl rfl h54 rfl) (.int .i64 (j : Int)) w6 (by simp [execOp, Act.eval, h7, go_sem]) ⟨_, rfl, Below.refl _ _, by rintro t' ⟨⟩; rfl⟩
            | 6, ho =>
              obtain rfl := Option.some.inj ho
              obtain ⟨_, h56, rfl⟩ := given_fed hg 56 (by decide +kernel)
              obtain ⟨_, h57, rfl⟩ := given_fed hg 57 (by decide +kernel)
              obtain ⟨_, h54, rfl⟩ := given_fed hg 54 (by decide +kernel)
              clear hg
              exact st_yield ho (wanted_some rfl rfl h54 rfl) (.pointer (some ⟨g, o + j * 5, none⟩)) w6 (by simp [execOp, Act.eval, h56, h57, go_sem, hix]) ⟨_, rfl, Below.refl _ _, by rintro t' ⟨⟩; rfl⟩
            | 7, ho =>
              obtain rfl := Option.some.inj ho
              obtain ⟨_, h58, rfl⟩ := given_fed hg 58 (by decide +kernel)
              obtain ⟨_, h54, rfl⟩ := given_fed hg 54 (by decide +kernel)
              clear hg
              exact st_yield ho (wanted_some rfl rfl h54 rfl) (.agg #[.string xk, .bool xg, .int .i64 xa, .int .i64 xn, .string xs]) w6 (by simp [execOp, Act.eval, h58, go_sem, c0, c1, c2, c3, c4]) ⟨_, rfl, Below.refl _ _, by rintro t' ⟨⟩; rfl⟩
            | 8, ho =>
              obtain rfl := Option.some.inj ho
              obtain ⟨_, h55, rfl⟩ := given_fed hg 55 (by decide +kernel)
              obtain ⟨_, h59, rfl⟩ := given_fed hg 59 (by decide +kernel)
              obtain ⟨_, h54, rfl⟩ := given_fed hg 54 (by decide +kernel)
              clear hg
              exact st_enter (w1 := w6) ho (wanted_some rfl rfl h54 rfl) 14 #[.agg #[.string xk, .bool xg, .int .i64 xa, .int .i64 xn, .string xs], .agg #[.string xk, .bool xg, .int .i64 xa, .int .i64 xn, .string xs]] (by simp [execOp, Act.eval, h55, h59, resolve, go_sem]) ((CE.out _).mono (by rintro e w7 ⟨rfl, hb7⟩; exact ⟨_, rfl, _, rfl, hb7, by rintro t' ⟨⟩; rfl⟩))
            | 9, ho =>
              obtain rfl := Option.some.inj ho
              obtain ⟨_, h60, rfl⟩ := given_fed hg 60 (by decide +kernel)
              obtain ⟨_, h54, rfl⟩ := given_fed hg 54 (by decide +kernel)
              clear hg
              exact st_yield ho (wanted_some rfl rfl h54 rfl) (.bool false) w6 (by simp [execOp, Act.eval, h60, go_sem]) ⟨_, rfl, Below.refl _ _, by rintro t' ⟨⟩; rfl⟩
            | 10, ho =>
              obtain rfl := Option.some.inj ho
              obtain ⟨_, h54, rfl⟩ := given_fed hg 54 (by decide +kernel)
              obtain ⟨_, h61, rfl⟩ := given_fed hg 61 (by decide +kernel)
              clear hg
              exact st_yield ho (wanted_none rfl) (.bool false) w6 (by simp [execOp, Act.eval, h54, h61, go_sem]) ⟨_, rfl, Below.refl _ _, by rintro t' ⟨⟩; rfl⟩
            | n + 11, ho => simp at ho
          · intro f w6 hb6 hv
            have h62 := hv 62 (by simp)
            clear hv
            simp only [VM] at h62
            have hrb6 := hrb5.below hb6
            have hbc6 := hbc5.trans (hb6.mono hbc5.size)
            clear hrb5 hbc5 hb6 p0 p1 p2 p3 p4 c0 c1 c2 c3 c4 Hix CE
            unfold putAll
            simp only [List.foldl]
            go_simp
            go_wp2_with (first
              | (with_reducible show wpList _ _ _ (⟨some 65, _, _, _, _, _⟩ :: _) _ _; go_loud (refine wpList_slice_l rfl (.tmp 63) (.tmp 64) 26 rfl 5 Try.underlying26 info8 u4 (p ++ encR (m.drop (j + 1))) .i64 _ p.length rfl rfl rfl hrb6 (by simp) ?_); intro v3 hv3)
              | fail)
            rw [List.drop_left] at hv3
            go_roundw
            case rel => exact ⟨j + 1, by omega, by go_num, hv3, hbc6⟩
            case measure => simp only [intOf]; omega
        · have hnil : encR (m.drop j) = [] := by rw [List.drop_of_length_le (by omega)]; rfl
          rw [hnil] at hrb
          clear hnil
          obtain ⟨a3, cap3, rfl, -, -, -, -⟩ := hrb
          have hbw2 := Hbw.out.trans (hbc.mono Hbw.out.size)
          go_wp2
          go_ret
          exact ⟨rfl, hbw2⟩

/-! ### THE ROW -/
set_option maxRecDepth 100000 in
theorem lifted (os : Os) (started : os.Started) (H : Type) (enc : TypeId × Value → H) :
    ReturnsInHanded {} Try.checked os 6 .any (Rows.recordManySpec.pre6 enc Try.prog Try.f6 Rows.recordManyRow.domain false) (Rows.recordManySpec.post enc Try.prog Try.f6 false true false false) := by
  refine returnsInHanded_of_change (C := Try.checked) own started (by kernel_rfl) Try.func6
    (ChangeSpec.witness6 (enc := enc) (C := Try.checked) false ⟨#[], #[.slice none 0 0], []⟩ 8 (by kernel_rfl) (by kernel_rfl) (by kernel_rfl) (by kernel_rfl)) ?_
  intro W base args ds gs before hval0 hW hcnd _
  have hval : ∀ (j : Nat) t v, Try.f6.params[j]? = some t → args[j]? = some v → Value.okWide Try.prog W .any base t v := hval0
  have hW' := hW
  obtain ⟨p, q, hA0, hV, rfl, hfz, hnd⟩ := hW
  have hA : DataW.TrodAll enc Try.prog W 0 (fun _ => true) true Try.f6.params.toList args.toList ds p := hA0
  rw [Try.params6] at hA hval
  obtain ⟨v0, vs0, d0, ds0, p0, q0, hargs, rfl, rfl, h0, r0⟩ := trodAll_cons hA
  obtain ⟨rfl, rfl, rfl⟩ := trodAll_nil r0
  obtain rfl : args = #[v0] := by cases args; simp_all
  obtain ⟨rfl, rfl⟩ := trodVars_none hV
  have kk0 := h0
  have lt0 : ∀ x ∈ p0, x.block < W.heap.size := by obtain ⟨m, hm⟩ := kk0; exact DataW.trod_lt m _ _ _ hm
  obtain ⟨a0, len0, cap0, rfl⟩ := okWide_slice Try.underlying40 (hval 0 40 v0 rfl rfl)
  obtain ⟨l0, w0⟩ := open_recs h0
  clear hA0 hval0
  refine (walk W a0 len0 cap0 l0 w0).mono fun e W' ⟨he, bel⟩ => ?_
  subst he
  exact ⟨_, rfl, _, _, _, [], _, [], hW', trodAll_mk1 (shut_bool Try.underlying4 _), (trodAll_cons_mk (Below.trod laidOut (by kernel_rfl) (of_decide_eq_true (by kernel_rfl)) kk0 bel lt0) trodAll_mk0), rfl, bel.frame _, fun h => by cases h⟩

theorem over : Rows.recordManyRow.holds Try.pinned (OpenSpec.ofChange Rows.recordManySpec) :=
  OpenClaim.holds_of_wide 6 Try.f6 rfl rfl rfl rfl rfl rfl rfl ⟨rfl, rfl, rfl, rfl, rfl⟩ rfl rfl rfl rfl rfl (by kernel_rfl) Try.func6 (by kernel_rfl)
    (of_decide_eq_true (by kernel_rfl)) (by unfold Func.isWrapper; first | (rw [if_pos (by decide +kernel)]; kernel_rfl) | (rw [if_neg (by decide +kernel)]; exact ⟨rfl, rfl⟩))
    (fun os started H enc _ => lifted os started H enc)

theorem proved : Rows.RecordManySaid := over
#print axioms proved
end Go.Proofs.Ytafpbhkddodjoaa.recordMany
