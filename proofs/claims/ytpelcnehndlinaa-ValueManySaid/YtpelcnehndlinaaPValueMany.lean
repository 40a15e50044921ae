/- ValueMany: values one behind the other are told one by one: for every slice of raw values the law returns true. -/
import Derived.Test.YtpelcnehndlinaaRows
import Derived.WalkKit
import Derived.ProofKit
import Derived.OpenShut
import Derived.ShutString
import Derived.ChangeOld
import Derived.Below
import Derived.Test.YtpelcnehndlinaaRaw
import Derived.Test.YtpelcnehndlinaaRaws
import Derived.LoopTactic
import Derived.Deep.DeepCutAuto
namespace Go.Proofs.Ytpelcnehndlinaa.valueMany
open Go.ChangeShapes Go.WideShapes Go.ChangeAt Go.RowKit
open Go.ChangeMaps (open_string shut_string)
set_option linter.unusedVariables false

theorem own : ownKnob Try.prog.godebug = none := by kernel_rfl
theorem laidOut : laidOutB Try.prog = true := by kernel_rfl

theorem own_ne {w : World} {B B' : Nat} {v u : Value} {l : List (Int × Int × ByteArray)} {q : List UInt8} (h : OwnR w B v l) (g : Own 5 w B' u q) : u.ownBlock = none ∨ u.ownBlock ≠ v.ownBlock := by
  rcases g.2 with ⟨rfl, -⟩ | ⟨b, cap, cur, rfl, -, hg, -⟩
  · exact .inl rfl
  · refine .inr fun e => ?_
    rcases h.2 with ⟨rfl, -⟩ | ⟨b', cap', cur', rfl, -, hg', -⟩
    · cases e
    · simp only [Value.ownBlock, Option.some.injEq] at e
      subst e
      rw [hg] at hg'
      simp only [Option.some.injEq, Obj.cells.injEq] at hg'
      exact absurd hg'.2.1 (by decide)
theorem ownR_lt {w : World} {B : Nat} {v : Value} {l : List (Int × Int × ByteArray)} (h : OwnR w B v l) : ∀ k, v.ownBlock = some k → k < w.heap.size := fun k hk => (World.ownsRow.lt h k hk).2

def VM (xk xn : Int) (xs : ByteArray) (g nm cap j : Nat) : Nat → World → Value → Prop
  | 51, _, v => v = .int .i64 0
  | 52, _, v => v = .bool false
  | 53, _, v => v = .bool false
  | 54, _, v => v = .agg #[.int .i64 xk, .int .i64 xn, .string xs]
  | 55, _, v => v = .slice (some ⟨g, 0, none⟩) nm cap
  | 56, _, v => v = .int .i64 (j : Int)
  | 57, _, v => v = .pointer (some ⟨g, j * 3, none⟩)
  | 58, _, v => v = .agg #[.int .i64 xk, .int .i64 xn, .string xs]
  | 59, _, v => v = .bool true
  | 60, _, v => v = .bool false
  | 61, _, v => v = .bool false
  | _, _, _ => True

theorem VM_below (xk xn : Int) (xs : ByteArray) (g nm cap j : Nat) : ∀ (i : Nat) (w w' : World) (v : Value), VM xk xn xs g nm cap j i w v → Below w.heap.size w w' → VM xk xn xs g nm cap j i w' v := by
  intro i w w' v h hb
  unfold VM at h ⊢
  split at h <;> first | exact h | trivial | exact RB.below h hb | exact Own.below h hb

set_option maxHeartbeats 4000000 in
set_option maxRecDepth 100000 in
theorem walk (w : World) (a0 : Option Addr) (len0 cap0 : Nat) (l0 : List (Int × Int × ByteArray)) (w0 : RRaw w (.slice a0 len0 cap0) l0) :
    Calls Try.prog 9 #[.slice a0 len0 cap0] w fun e w' => e = .returned (.bool true) ∧ Below w.heap.size w w' := by
  have hlc : len0 = l0.length ∧ len0 ≤ 9223372036854775807 ∧ ∀ x ∈ l0, RawOk x := by
    obtain ⟨a, cap, hv, h1, h2, h3, h4, h5⟩ := w0
    simp only [Value.slice.injEq] at hv
    obtain ⟨-, rfl, rfl⟩ := hv
    exact ⟨rfl, by unfold maxLen at h2; omega, h4⟩
  obtain ⟨hlen, hlm, hok⟩ := hlc
  have Hok := Go.Lib.hid hok; clear hok
  go_enter Try.func9, Try.ntmps9
  go_wp2_with fail
  refine (begun_c _).mono ?_
  rintro e w1 ⟨rfl, hb1⟩
  have hA := Go.Lib.hid (w0.below hb1)
  clear w0
  go_wp2_with fail
  go_loopw [4, 5, 6] (fun vb vm i wr => ∃ (k : Nat) (m : List (Int × Int × ByteArray)), k ≤ 20 ∧ m.length ≤ k ∧ i = .int .i64 (k : Int) ∧ OwnR wr w1.heap.size vm m ∧ Own 5 wr w1.heap.size vb (encV m) ∧ (∀ x ∈ m, GoodR x) ∧ Below w1.heap.size w1 wr) (fun _ _ i _ => 20 - (intOf i).toNat)
  case atStart => exact ⟨0, [], by omega, by simp, rfl, OwnR.nil _ _, Own.nil _ _ _, by simp, Below.refl _ _⟩
  case round =>
    obtain ⟨k, m, hk, hmk, rfl, hown, hob, hgood, hbc⟩ := hrel
    by_cases hlt : k < len0 ∧ k < 20
    · obtain ⟨hl1, hl2⟩ := hlt
      have hAt := hA.out.below hbc
      obtain ⟨a, cap, hv, -, -, -, -, h5⟩ := hAt
      simp only [Value.slice.injEq] at hv
      obtain ⟨rfl, -, rfl⟩ := hv
      obtain ⟨b, o, rfl, hc⟩ := h5 (by intro e; subst e; simp at hlen; omega)
      obtain ⟨x0, x1, x2⟩ := hc k (by omega)
      have hokk := Hok.out l0[k] (List.getElem_mem _)
      generalize l0[k] = r at x0 x1 x2 hokk
      obtain ⟨kk, nn, ss⟩ := r
      obtain ⟨wk, wn, ws⟩ := hokk
      simp only [] at x0 x1 x2 wk wn ws
      have C1 := Go.Lib.hid fun W => vcut_c kk nn ss W ws
      have ht30 : ((bl ss).take 30).length ≤ 30 := by rw [List.length_take]; omega
      generalize (bl ss).take 30 = T at *
      obtain ⟨f0, f1⟩ := bounds_i64 wn
      have f1 : nn ≤ 9223372036854775807 := by omega
      clear hc h5 wk wn ws
      unfold rawV at C1
      have C2 := Go.Lib.hid fun W => mayval_c kk nn (str T) W (by rw [str_size]; unfold maxLen; omega)
      unfold rawV at C2
      have Hgood := Go.Lib.hid hgood; clear hgood
      have F0 := Go.Lib.hid f0; clear f0
      have F1 := Go.Lib.hid f1; clear f1
      have HT30 := Go.Lib.hid ht30; clear ht30
      go_wp2_with fail
      refine (C1.out _).mono ?_
      rintro e w2 ⟨rfl, hc⟩
      have hown2 := hown.below hc
      have hob2 := hob.below hc
      have hbc2 := hbc.trans (hc.mono hbc.size)
      have hne7 : some w2.heap.size ≠ u5.ownBlock := by intro e; have := ownR_lt hown2 _ e.symm; omega
      clear hc x0 x1 x2 C1 hown hob hbc
      go_wp2_with fail
      refine (C2.out _).mono ?_
      rintro e w3 ⟨rfl, hc⟩
      obtain ⟨y0, y1, y2⟩ := box_cells _ _ _ _ _ _ hc
      have hown3 := (OwnR.below hown2 (below_one w2 (.cells #[.int .i64 kk, .int .i64 nn, .string (str T)] 23))).below hc
      have hob3 := (hob2.alloc (.cells #[.int .i64 kk, .int .i64 nn, .string (str T)] 23)).below hc
      have hbc3 := (hbc2.trans ((below_one w2 (.cells #[.int .i64 kk, .int .i64 nn, .string (str T)] 23)).mono hbc2.size)).trans (hc.mono (Nat.le_trans hbc2.size (below_one w2 _).size))
      clear hc hown2 hob2 hbc2 C2
      cases hmay : mayR kk nn (str T) with
      | false =>
        clear y0 y1 y2 hne7
        go_wp2_with fail
        go_roundw
        case rel => exact ⟨k + 1, m, by omega, by omega, by go_num, hown3, hob3, Hgood.out, hbc3⟩
        case measure => simp [intOf]; omega
      | true =>
        have hel := encV_len m Hgood.out
        have C3 := Go.Lib.hid fun v' W (h : RB W v' (encV m)) => vput_c v' (encV m) kk nn T W h hmay F0.out F1.out (by omega)
        unfold rawV at C3
        have Hnew := Go.Lib.hid (show GoodR (kk, nn, str T) from ⟨hmay, F0.out, F1.out⟩)
        have hsn := encV_snoc m (kk, nn, str T)
        simp only [bl_str] at hsn
        have Hsn := Go.Lib.hid hsn
        clear hsn hmay F0 F1 HT30 hel
        have q0 := cell_of_row _ _ 0 _ _ _ (heap_alloc_new w3 (.cells #[.int .i64 kk, .int .i64 nn, .string (str T)] 23))
        have q1 := cell_of_row _ _ 1 _ _ _ (heap_alloc_new w3 (.cells #[.int .i64 kk, .int .i64 nn, .string (str T)] 23))
        have q2 := cell_of_row _ _ 2 _ _ _ (heap_alloc_new w3 (.cells #[.int .i64 kk, .int .i64 nn, .string (str T)] 23))
        simp only [List.getElem?_toArray, List.getElem?_cons_zero, List.getElem?_cons_succ] at q0 q1 q2
        have y0' := cell_kept y0 (below_one w3 (.cells #[.int .i64 kk, .int .i64 nn, .string (str T)] 23))
        have y1' := cell_kept y1 (below_one w3 (.cells #[.int .i64 kk, .int .i64 nn, .string (str T)] 23))
        have y2' := cell_kept y2 (below_one w3 (.cells #[.int .i64 kk, .int .i64 nn, .string (str T)] 23))
        have hownA : OwnR (w3.alloc (.cells #[.int .i64 kk, .int .i64 nn, .string (str T)] 23)) w1.heap.size u5 m := OwnR.below hown3 (below_one w3 _)
        have hobA := hob3.alloc (.cells #[.int .i64 kk, .int .i64 nn, .string (str T)] 23)
        have hbcA := hbc3.trans ((below_one w3 (.cells #[.int .i64 kk, .int .i64 nn, .string (str T)] 23)).mono hbc3.size)
        have hbs := hbcA.size
        have hm20 : m.length ≤ 1000 := by omega
        go_wp2_with (first
          | (with_reducible show wpList _ _ _ (⟨some 35, _, _, _, _, _⟩ :: _) _ _; go_loud (refine wpList_append_raw rfl (.tmp 32) (.tmp 34) rfl w1.heap.size u5 m w3.heap.size (kk, nn, str T) rfl rfl hownA q0 q1 q2 hm20 hbs ?_); intro v4 w4 hown4 hg4; have z0 := hg4.cell y0' hne7; have z1 := hg4.cell y1' hne7; have z2 := hg4.cell y2' hne7; have hob4 := hobA.kept hg4 (own_ne hownA hobA); have hbc4 := hbcA.grown hg4 hbs hownA.row)
          | fail)
        clear q0 q1 q2 y0 y1 y2 y0' y1' y2' hownA hobA hbcA hg4 hown3 hob3 hbc3
        refine (C3.out _ _ hob4.rb).mono ?_
        rintro e w5 ⟨v5, rfl, hob5, hc⟩
        have hob5 := hob5.mono hbc4.size
        rw [← Hsn.out] at hob5
        have hown5 := hown4.below hc
        have hbc5 := hbc4.trans (hc.mono hbc4.size)
        have hgood5 : Hid (∀ x ∈ m ++ [(kk, nn, str T)], GoodR x) := by
          intro x hx
          rcases List.mem_append.1 hx with h | h
          · exact Hgood.out x h
          · rw [List.mem_singleton.1 h]; exact Hnew.out
        clear hc z0 z1 z2 hob4 hown4 hbc4 C3 Hgood Hnew Hsn
        go_wp2_with fail
        go_roundw
        case rel => exact ⟨k + 1, m ++ [(kk, nn, str T)], by omega, by simp; omega, by go_num, hown5, hob5, hgood5.out, hbc5⟩
        case measure => simp [intOf]; omega
    · have Hgood := Go.Lib.hid hgood; clear hgood
      have hrb := hob.rb
      obtain ⟨am, cm, rfl, hm1, hm2⟩ := hown.form
      have hm3 : m.length ≤ 9223372036854775807 := by omega
      have hbw := hb1.trans (hbc.mono hb1.size)
      clear hob hm1 hm2 hb1 hbc hA Hok
      have hstop : len0 ≤ k ∨ 20 ≤ k := by omega
      clear hlt
      by_cases hk1 : k < len0
      · have hk2 : ¬ k < 20 := by omega
        clear hstop
        go_wp2_with fail
        go_loopw [4, 8] (fun vb i w2 => ∃ j : Nat, j ≤ m.length ∧ i = .int .i64 (j : Int) ∧ RB w2 vb (encV (m.drop j)) ∧ Below wr.heap.size wr w2) (fun _ i _ => m.length - (intOf i).toNat)
        case atStart => exact ⟨0, by omega, rfl, hrb, Below.refl _ _⟩
        case round =>
          obtain ⟨j, hj, rfl, hrb, hbc⟩ := hrel
          by_cases hlt : j < m.length
          · have hownC := hown.below hbc
            obtain ⟨g, rfl, -, c0, c1, c2⟩ := hownC.at j hlt
            have hg := Hgood.out m[j] (List.getElem_mem hlt)
            have hsn : encV (m.drop j) = putV m[j].1 m[j].2.1 (bl m[j].2.2) ++ encV (m.drop (j + 1)) := by rw [List.drop_eq_getElem_cons hlt, encV_cons]
            generalize m[j] = x at c0 c1 c2 hg hsn
            obtain ⟨xk, xn, xs⟩ := x
            obtain ⟨g1, g2, g3⟩ := hg
            simp only [] at c0 c1 c2 hsn g1 g2 g3
            have hv := valB_put xk xn (bl xs) (encV (m.drop (j + 1))) (by rw [str_bl]; exact g1) g2 g3
            rw [hsn] at hrb
            have cg := fun W (h : RB W u4 (putV xk xn (bl xs) ++ encV (m.drop (j + 1)))) => vget_c u4 _ W h
            rw [hv] at cg
            unfold vv rawV at cg
            simp only [str_bl] at cg
            have ce := fun W => eqval_c xk xn xs xk xn xs W
            rw [eqR_refl] at ce
            unfold rawV at ce
            clear hv hsn g1 g2 g3 hownC
            generalize putV xk xn (bl xs) = p at cg hrb
            have CG := Go.Lib.hid cg; clear cg
            have CE := Go.Lib.hid ce; clear ce
            have Hix := Go.Lib.hid (run_idxR g m.length cm j hlt)
            go_wp2_with fail
            refine (CG.out _ hrb).mono ?_
            rintro e w5 ⟨rfl, hc⟩
            have c0 := cell_kept (cell_kept c0 hc) (below_one w5 (.cells #[.int .i64 xk, .int .i64 xn, .string xs] 23))
            have c1 := cell_kept (cell_kept c1 hc) (below_one w5 (.cells #[.int .i64 xk, .int .i64 xn, .string xs] 23))
            have c2 := cell_kept (cell_kept c2 hc) (below_one w5 (.cells #[.int .i64 xk, .int .i64 xn, .string xs] 23))
            have hrb5 := (hrb.below hc).below (below_one w5 (.cells #[.int .i64 xk, .int .i64 xn, .string xs] 23))
            have hbc4 := hbc.trans (hc.mono hbc.size)
            have hbc5 := hbc4.trans ((below_one w5 (.cells #[.int .i64 xk, .int .i64 xn, .string xs] 23)).mono hbc4.size)
            have p0 := cell_of_row _ _ 0 _ _ _ (heap_alloc_new w5 (.cells #[.int .i64 xk, .int .i64 xn, .string xs] 23))
            have p1 := cell_of_row _ _ 1 _ _ _ (heap_alloc_new w5 (.cells #[.int .i64 xk, .int .i64 xn, .string xs] 23))
            have p2 := cell_of_row _ _ 2 _ _ _ (heap_alloc_new w5 (.cells #[.int .i64 xk, .int .i64 xn, .string xs] 23))
            simp only [List.getElem?_toArray, List.getElem?_cons_zero, List.getElem?_cons_succ] at p0 p1 p2
            clear hc CG hbc4
            go_upto_if 61 with (fail)
            refine wp_region_each (by kernel_rfl) (VM xk xn xs g m.length cm j) (VM_below xk xn xs g m.length cm j) (by decide +kernel) (by decide +kernel) (by rfl) [51, 52, 53, 54, 55, 56, 57, 58, 59, 60, 61] (by rfl) ?_ ?_
            · intro i o ho a w6 hb6 hlen hg
              have p0 := cell_kept p0 hb6
              have p1 := cell_kept p1 hb6
              have p2 := cell_kept p2 hb6
              have c0 := cell_kept c0 hb6
              have c1 := cell_kept c1 hb6
              have c2 := cell_kept c2 hb6
              have hix := fun W => Hix.out W
              match i, ho with
              | 0, ho =>
                obtain rfl := Option.some.inj ho
                have h11 := given_old hg 11 (by decide +kernel)
                clear hg
                exact st_yield ho (wanted_none rfl) (.int .i64 0) w6 (by simp [execOp, Act.eval, h11, go_sem]) ⟨_, rfl, Below.refl _ _, by rintro t' ⟨⟩; rfl⟩
              | 1, ho =>
                obtain rfl := Option.some.inj ho
                obtain ⟨_, h51, rfl⟩ := given_fed hg 51 (by decide +kernel)
                clear hg
                exact st_yield ho (wanted_none rfl) (.bool false) w6 (by simp [execOp, Act.eval, h51, go_sem]) ⟨_, rfl, Below.refl _ _, by rintro t' ⟨⟩; rfl⟩
              | 2, ho =>
                obtain rfl := Option.some.inj ho
                obtain ⟨_, h52, rfl⟩ := given_fed hg 52 (by decide +kernel)
                clear hg
                exact st_yield ho (wanted_none rfl) (.bool false) w6 (by simp [execOp, Act.eval, h52, go_sem]) ⟨_, rfl, Below.refl _ _, by rintro t' ⟨⟩; rfl⟩
              | 3, ho =>
                obtain rfl := Option.some.inj ho
                have h9 := given_old hg 9 (by decide +kernel)
                obtain ⟨_, h53, rfl⟩ := given_fed hg 53 (by decide +kernel)
                clear hg
                exact st_yield ho (wanted_some rfl rfl h53 rfl) (.agg #[.int .i64 xk, .int .i64 xn, .string xs]) w6 (by simp [execOp, Act.eval, h9, go_sem, p0, p1, p2]) ⟨_, rfl, Below.refl _ _, by rintro t' ⟨⟩; rfl⟩
              | 4, ho =>
                obtain rfl := Option.some.inj ho
                have h5 := given_old hg 5 (by decide +kernel)
                obtain ⟨_, h53, rfl⟩ := given_fed hg 53 (by decide +kernel)
                clear hg
                exact st_yield ho (wanted_some rfl rfl h53 rfl) (.slice (some ⟨g, 0, none⟩) m.length cm) w6 (by simp [execOp, Act.eval, h5, go_sem]) ⟨_, rfl, Below.refl _ _, by rintro t' ⟨⟩; rfl⟩
              | 5, ho =>
                obtain rfl := Option.some.inj ho
                have h8 := given_old hg 8 (by decide +kernel)
                obtain ⟨_, h53, rfl⟩ := given_fed hg 53 (by decide +kernel)
                clear hg
                exact st_yield ho (wanted_some rfl rfl h53 rfl) (.int .i64 (j : Int)) w6 (by simp [execOp, Act.eval, h8, go_sem]) ⟨_, rfl, Below.refl _ _, by rintro t' ⟨⟩; rfl⟩
              | 6, ho =>
                obtain rfl := Option.some.inj ho
                obtain ⟨_, h55, rfl⟩ := given_fed hg 55 (by decide +kernel)
                obtain ⟨_, h56, rfl⟩ := given_fed hg 56 (by decide +kernel)
                obtain ⟨_, h53, rfl⟩ := given_fed hg 53 (by decide +kernel)
                clear hg
                exact st_yield ho (wanted_some rfl rfl h53 rfl) (.pointer (some ⟨g, j * 3, none⟩)) w6 (by simp [execOp, Act.eval, h55, h56, go_sem, hix]) ⟨_, rfl, Below.refl _ _, by rintro t' ⟨⟩; rfl⟩
              | 7, ho =>
                obtain rfl := Option.some.inj ho
                obtain ⟨_, h57, rfl⟩ := given_fed hg 57 (by decide +kernel)
                obtain ⟨_, h53, rfl⟩ := given_fed hg 53 (by decide +kernel)
                clear hg
                exact st_yield ho (wanted_some rfl rfl h53 rfl) (.agg #[.int .i64 xk, .int .i64 xn, .string xs]) w6 (by simp [execOp, Act.eval, h57, go_sem, c0, c1, c2]) ⟨_, rfl, Below.refl _ _, by rintro t' ⟨⟩; rfl⟩
              | 8, ho =>
                obtain rfl := Option.some.inj ho
                obtain ⟨_, h54, rfl⟩ := given_fed hg 54 (by decide +kernel)
                obtain ⟨_, h58, rfl⟩ := given_fed hg 58 (by decide +kernel)
                obtain ⟨_, h53, rfl⟩ := given_fed hg 53 (by decide +kernel)
                clear hg
                exact st_enter (w1 := w6) ho (wanted_some rfl rfl h53 rfl) 20 #[.agg #[.int .i64 xk, .int .i64 xn, .string xs], .agg #[.int .i64 xk, .int .i64 xn, .string xs]] (by simp [execOp, Act.eval, h54, h58, resolve, go_sem]) ((CE.out _).mono (by rintro e w7 ⟨rfl, hb7⟩; exact ⟨_, rfl, _, rfl, hb7, by rintro t' ⟨⟩; rfl⟩))
              | 9, ho =>
                obtain rfl := Option.some.inj ho
                obtain ⟨_, h59, rfl⟩ := given_fed hg 59 (by decide +kernel)
                obtain ⟨_, h53, rfl⟩ := given_fed hg 53 (by decide +kernel)
                clear hg
                exact st_yield ho (wanted_some rfl rfl h53 rfl) (.bool false) w6 (by simp [execOp, Act.eval, h59, go_sem]) ⟨_, rfl, Below.refl _ _, by rintro t' ⟨⟩; rfl⟩
              | 10, ho =>
                obtain rfl := Option.some.inj ho
                obtain ⟨_, h53, rfl⟩ := given_fed hg 53 (by decide +kernel)
                obtain ⟨_, h60, rfl⟩ := given_fed hg 60 (by decide +kernel)
                clear hg
                exact st_yield ho (wanted_none rfl) (.bool false) w6 (by simp [execOp, Act.eval, h53, h60, go_sem]) ⟨_, rfl, Below.refl _ _, by rintro t' ⟨⟩; rfl⟩
              | n + 11, ho => simp at ho
            · intro f w6 hb6 hv
              have h61 := hv 61 (by simp)
              clear hv
              simp only [VM] at h61
              have hrb6 := hrb5.below hb6
              have hbc6 := hbc5.trans (hb6.mono hbc5.size)
              clear hrb5 hbc5 hb6 p0 p1 p2 c0 c1 c2 Hix CE
              unfold putAll
              simp only [List.foldl]
              go_simp
              go_wp2_with (first
                | (with_reducible show wpList _ _ _ (⟨some 64, _, _, _, _, _⟩ :: _) _ _; go_loud (refine wpList_slice_l rfl (.tmp 62) (.tmp 63) 39 rfl 5 Try.underlying39 info8 u4 (p ++ encV (m.drop (j + 1))) .i64 _ p.length rfl rfl rfl hrb6 (by simp) ?_); intro v3 hv3)
                | fail)
              rw [List.drop_left] at hv3
              go_roundw
              case rel => exact ⟨j + 1, by omega, by go_num, hv3, hbc6⟩
              case measure => simp [intOf]; omega
          · have hnil : encV (m.drop j) = [] := by rw [List.drop_of_length_le (by omega)]; rfl
            rw [hnil] at hrb
            clear hnil
            obtain ⟨a3, cap3, rfl, -, -, -, -⟩ := hrb
            have hbw2 := hbw.trans (hbc.mono hbw.size)
            go_wp2
            go_ret
            exact ⟨rfl, hbw2⟩
      · clear hstop
        go_wp2_with fail
        go_loopw [4, 8] (fun vb i w2 => ∃ j : Nat, j ≤ m.length ∧ i = .int .i64 (j : Int) ∧ RB w2 vb (encV (m.drop j)) ∧ Below wr.heap.size wr w2) (fun _ i _ => m.length - (intOf i).toNat)
        case atStart => exact ⟨0, by omega, rfl, hrb, Below.refl _ _⟩
        case round =>
          obtain ⟨j, hj, rfl, hrb, hbc⟩ := hrel
          by_cases hlt : j < m.length
          · have hownC := hown.below hbc
            obtain ⟨g, rfl, -, c0, c1, c2⟩ := hownC.at j hlt
            have hg := Hgood.out m[j] (List.getElem_mem hlt)
            have hsn : encV (m.drop j) = putV m[j].1 m[j].2.1 (bl m[j].2.2) ++ encV (m.drop (j + 1)) := by rw [List.drop_eq_getElem_cons hlt, encV_cons]
            generalize m[j] = x at c0 c1 c2 hg hsn
            obtain ⟨xk, xn, xs⟩ := x
            obtain ⟨g1, g2, g3⟩ := hg
            simp only [] at c0 c1 c2 hsn g1 g2 g3
            have hv := valB_put xk xn (bl xs) (encV (m.drop (j + 1))) (by rw [str_bl]; exact g1) g2 g3
            rw [hsn] at hrb
            have cg := fun W (h : RB W u4 (putV xk xn (bl xs) ++ encV (m.drop (j + 1)))) => vget_c u4 _ W h
            rw [hv] at cg
            unfold vv rawV at cg
            simp only [str_bl] at cg
            have ce := fun W => eqval_c xk xn xs xk xn xs W
            rw [eqR_refl] at ce
            unfold rawV at ce
            clear hv hsn g1 g2 g3 hownC
            generalize putV xk xn (bl xs) = p at cg hrb
            have CG := Go.Lib.hid cg; clear cg
            have CE := Go.Lib.hid ce; clear ce
            have Hix := Go.Lib.hid (run_idxR g m.length cm j hlt)
            go_wp2_with fail
            refine (CG.out _ hrb).mono ?_
            rintro e w5 ⟨rfl, hc⟩
            have c0 := cell_kept (cell_kept c0 hc) (below_one w5 (.cells #[.int .i64 xk, .int .i64 xn, .string xs] 23))
            have c1 := cell_kept (cell_kept c1 hc) (below_one w5 (.cells #[.int .i64 xk, .int .i64 xn, .string xs] 23))
            have c2 := cell_kept (cell_kept c2 hc) (below_one w5 (.cells #[.int .i64 xk, .int .i64 xn, .string xs] 23))
            have hrb5 := (hrb.below hc).below (below_one w5 (.cells #[.int .i64 xk, .int .i64 xn, .string xs] 23))
            have hbc4 := hbc.trans (hc.mono hbc.size)
            have hbc5 := hbc4.trans ((below_one w5 (.cells #[.int .i64 xk, .int .i64 xn, .string xs] 23)).mono hbc4.size)
            have p0 := cell_of_row _ _ 0 _ _ _ (heap_alloc_new w5 (.cells #[.int .i64 xk, .int .i64 xn, .string xs] 23))
            have p1 := cell_of_row _ _ 1 _ _ _ (heap_alloc_new w5 (.cells #[.int .i64 xk, .int .i64 xn, .string xs] 23))
            have p2 := cell_of_row _ _ 2 _ _ _ (heap_alloc_new w5 (.cells #[.int .i64 xk, .int .i64 xn, .string xs] 23))
            simp only [List.getElem?_toArray, List.getElem?_cons_zero, List.getElem?_cons_succ] at p0 p1 p2
            clear hc CG hbc4
            go_upto_if 61 with (fail)
            refine wp_region_each (by kernel_rfl) (VM xk xn xs g m.length cm j) (VM_below xk xn xs g m.length cm j) (by decide +kernel) (by decide +kernel) (by rfl) [51, 52, 53, 54, 55, 56, 57, 58, 59, 60, 61] (by rfl) ?_ ?_
            · intro i o ho a w6 hb6 hlen hg
              have p0 := cell_kept p0 hb6
              have p1 := cell_kept p1 hb6
              have p2 := cell_kept p2 hb6
              have c0 := cell_kept c0 hb6
              have c1 := cell_kept c1 hb6
              have c2 := cell_kept c2 hb6
              have hix := fun W => Hix.out W
              match i, ho with
              | 0, ho =>
                obtain rfl := Option.some.inj ho
                have h11 := given_old hg 11 (by decide +kernel)
                clear hg
                exact st_yield ho (wanted_none rfl) (.int .i64 0) w6 (by simp [execOp, Act.eval, h11, go_sem]) ⟨_, rfl, Below.refl _ _, by rintro t' ⟨⟩; rfl⟩
              | 1, ho =>
                obtain rfl := Option.some.inj ho
                obtain ⟨_, h51, rfl⟩ := given_fed hg 51 (by decide +kernel)
                clear hg
                exact st_yield ho (wanted_none rfl) (.bool false) w6 (by simp [execOp, Act.eval, h51, go_sem]) ⟨_, rfl, Below.refl _ _, by rintro t' ⟨⟩; rfl⟩
              | 2, ho =>
                obtain rfl := Option.some.inj ho
                obtain ⟨_, h52, rfl⟩ := given_fed hg 52 (by decide +kernel)
                clear hg
                exact st_yield ho (wanted_none rfl) (.bool false) w6 (by simp [execOp, Act.eval, h52, go_sem]) ⟨_, rfl, Below.refl _ _, by rintro t' ⟨⟩; rfl⟩
              | 3, ho =>
                obtain rfl := Option.some.inj ho
                have h9 := given_old hg 9 (by decide +kernel)
                obtain ⟨_, h53, rfl⟩ := given_fed hg 53 (by decide +kernel)
                clear hg
                exact st_yield ho (wanted_some rfl rfl h53 rfl) (.agg #[.int .i64 xk, .int .i64 xn, .string xs]) w6 (by simp [execOp, Act.eval, h9, go_sem, p0, p1, p2]) ⟨_, rfl, Below.refl _ _, by rintro t' ⟨⟩; rfl⟩
              | 4, ho =>
                obtain rfl := Option.some.inj ho
                have h5 := given_old hg 5 (by decide +kernel)
                obtain ⟨_, h53, rfl⟩ := given_fed hg 53 (by decide +kernel)
                clear hg
                exact st_yield ho (wanted_some rfl rfl h53 rfl) (.slice (some ⟨g, 0, none⟩) m.length cm) w6 (by simp [execOp, Act.eval, h5, go_sem]) ⟨_, rfl, Below.refl _ _, by rintro t' ⟨⟩; rfl⟩
              | 5, ho =>
                obtain rfl := Option.some.inj ho
                have h8 := given_old hg 8 (by decide +kernel)
                obtain ⟨_, h53, rfl⟩ := given_fed hg 53 (by decide +kernel)
                clear hg
                exact st_yield ho (wanted_some rfl rfl h53 rfl) (.int .i64 (j : Int)) w6 (by simp [execOp, Act.eval, h8, go_sem]) ⟨_, rfl, Below.refl _ _, by rintro t' ⟨⟩; rfl⟩
              | 6, ho =>
                obtain rfl := Option.some.inj ho
                obtain ⟨_, h55, rfl⟩ := given_fed hg 55 (by decide +kernel)
                obtain ⟨_, h56, rfl⟩ := given_fed hg 56 (by decide +kernel)
                obtain ⟨_, h53, rfl⟩ := given_fed hg 53 (by decide +kernel)
                clear hg
                exact st_yield ho (wanted_some rfl rfl h53 rfl) (.pointer (some ⟨g, j * 3, none⟩)) w6 (by simp [execOp, Act.eval, h55, h56, go_sem, hix]) ⟨_, rfl, Below.refl _ _, by rintro t' ⟨⟩; rfl⟩
              | 7, ho =>
                obtain rfl := Option.some.inj ho
                obtain ⟨_, h57, rfl⟩ := given_fed hg 57 (by decide +kernel)
                obtain ⟨_, h53, rfl⟩ := given_fed hg 53 (by decide +kernel)
                clear hg
                exact st_yield ho (wanted_some rfl rfl h53 rfl) (.agg #[.int .i64 xk, .int .i64 xn, .string xs]) w6 (by simp [execOp, Act.eval, h57, go_sem, c0, c1, c2]) ⟨_, rfl, Below.refl _ _, by rintro t' ⟨⟩; rfl⟩
              | 8, ho =>
                obtain rfl := Option.some.inj ho
                obtain ⟨_, h54, rfl⟩ := given_fed hg 54 (by decide +kernel)
                obtain ⟨_, h58, rfl⟩ := given_fed hg 58 (by decide +kernel)
                obtain ⟨_, h53, rfl⟩ := given_fed hg 53 (by decide +kernel)
                clear hg
                exact st_enter (w1 := w6) ho (wanted_some rfl rfl h53 rfl) 20 #[.agg #[.int .i64 xk, .int .i64 xn, .string xs], .agg #[.int .i64 xk, .int .i64 xn, .string xs]] (by simp [execOp, Act.eval, h54, h58, resolve, go_sem]) ((CE.out _).mono (by rintro e w7 ⟨rfl, hb7⟩; exact ⟨_, rfl, _, rfl, hb7, by rintro t' ⟨⟩; rfl⟩))
              | 9, ho =>
                obtain rfl := Option.some.inj ho
                obtain ⟨_, h59, rfl⟩ := given_fed hg 59 (by decide +kernel)
                obtain ⟨_, h53, rfl⟩ := given_fed hg 53 (by decide +kernel)
                clear hg
                exact st_yield ho (wanted_some rfl rfl h53 rfl) (.bool false) w6 (by simp [execOp, Act.eval, h59, go_sem]) ⟨_, rfl, Below.refl _ _, by rintro t' ⟨⟩; rfl⟩
              | 10, ho =>
                obtain rfl := Option.some.inj ho
                obtain ⟨_, h53, rfl⟩ := given_fed hg 53 (by decide +kernel)
                obtain ⟨_, h60, rfl⟩ := given_fed hg 60 (by decide +kernel)
                clear hg
                exact st_yield ho (wanted_none rfl) (.bool false) w6 (by simp [execOp, Act.eval, h53, h60, go_sem]) ⟨_, rfl, Below.refl _ _, by rintro t' ⟨⟩; rfl⟩
              | n + 11, ho => simp at ho
            · intro f w6 hb6 hv
              have h61 := hv 61 (by simp)
              clear hv
              simp only [VM] at h61
              have hrb6 := hrb5.below hb6
              have hbc6 := hbc5.trans (hb6.mono hbc5.size)
              clear hrb5 hbc5 hb6 p0 p1 p2 c0 c1 c2 Hix CE
              unfold putAll
              simp only [List.foldl]
              go_simp
              go_wp2_with (first
                | (with_reducible show wpList _ _ _ (⟨some 64, _, _, _, _, _⟩ :: _) _ _; go_loud (refine wpList_slice_l rfl (.tmp 62) (.tmp 63) 39 rfl 5 Try.underlying39 info8 u4 (p ++ encV (m.drop (j + 1))) .i64 _ p.length rfl rfl rfl hrb6 (by simp) ?_); intro v3 hv3)
                | fail)
              rw [List.drop_left] at hv3
              go_roundw
              case rel => exact ⟨j + 1, by omega, by go_num, hv3, hbc6⟩
              case measure => simp [intOf]; omega
          · have hnil : encV (m.drop j) = [] := by rw [List.drop_of_length_le (by omega)]; rfl
            rw [hnil] at hrb
            clear hnil
            obtain ⟨a3, cap3, rfl, -, -, -, -⟩ := hrb
            have hbw2 := hbw.trans (hbc.mono hbw.size)
            go_wp2
            go_ret
            exact ⟨rfl, hbw2⟩

/-! ### THE ROW -/
set_option maxRecDepth 100000 in
theorem lifted (os : Os) (started : os.Started) (H : Type) (enc : TypeId × Value → H) :
    ReturnsInHanded {} Try.checked os 9 .any (Rows.valueManySpec.pre6 enc Try.prog Try.f9 Rows.valueManyRow.domain false) (Rows.valueManySpec.post enc Try.prog Try.f9 false true false false) := by
  refine returnsInHanded_of_change (C := Try.checked) own started (by kernel_rfl) Try.func9
    (ChangeSpec.witness6 (enc := enc) (C := Try.checked) false ⟨#[], #[.slice none 0 0], []⟩ 8 (by kernel_rfl) (by kernel_rfl) (by kernel_rfl) (by kernel_rfl)) ?_
  intro W base args ds gs before hval0 hW hcnd _
  have hval : ∀ (j : Nat) t v, Try.f9.params[j]? = some t → args[j]? = some v → Value.okWide Try.prog W .any base t v := hval0
  have hW' := hW
  obtain ⟨p, q, hA0, hV, rfl, hfz, hnd⟩ := hW
  have hA : DataW.TrodAll enc Try.prog W 0 (fun _ => true) true Try.f9.params.toList args.toList ds p := hA0
  rw [Try.params9] at hA hval
  obtain ⟨v0, vs0, d0, ds0, p0, q0, hargs, rfl, rfl, h0, r0⟩ := trodAll_cons hA
  obtain ⟨rfl, rfl, rfl⟩ := trodAll_nil r0
  obtain rfl : args = #[v0] := by cases args; simp_all
  obtain ⟨rfl, rfl⟩ := trodVars_none hV
  have kk0 := h0
  have lt0 : ∀ x ∈ p0, x.block < W.heap.size := by obtain ⟨m, hm⟩ := kk0; exact DataW.trod_lt m _ _ _ hm
  obtain ⟨a0, len0, cap0, rfl⟩ := okWide_slice Try.underlying52 (hval 0 52 v0 rfl rfl)
  obtain ⟨l0, w0⟩ := open_raws h0
  clear hA0 hval0
  refine (walk W a0 len0 cap0 l0 w0).mono fun e W' ⟨he, bel⟩ => ?_
  subst he
  exact ⟨_, rfl, _, _, _, [], _, [], hW', trodAll_mk1 (shut_bool Try.underlying4 _), (trodAll_cons_mk (Below.trod laidOut (by kernel_rfl) (of_decide_eq_true (by kernel_rfl)) kk0 bel lt0) trodAll_mk0), rfl, bel.frame _, fun h => by cases h⟩

theorem over : Rows.valueManyRow.holds Try.pinned (OpenSpec.ofChange Rows.valueManySpec) :=
  OpenClaim.holds_of_wide 9 Try.f9 rfl rfl rfl rfl rfl rfl rfl ⟨rfl, rfl, rfl, rfl, rfl⟩ rfl rfl rfl rfl rfl (by kernel_rfl) Try.func9 (by kernel_rfl)
    (of_decide_eq_true (by kernel_rfl)) (by unfold Func.isWrapper; first | (rw [if_pos (by decide +kernel)]; kernel_rfl) | (rw [if_neg (by decide +kernel)]; exact ⟨rfl, rfl⟩))
    (fun os started H enc _ => lifted os started H enc)

theorem proved : Rows.ValueManySaid := over
#print axioms proved
end Go.Proofs.Ytpelcnehndlinaa.valueMany
