/- ValueAll: any raw value is one, or none; what is one is told again, as what it is: for every raw value the law returns true. -/
import Derived.Test.YtpelcnehndlinaaRows
import Derived.WalkKit
import Derived.ProofKit
import Derived.OpenShut
import Derived.ShutString
import Derived.ChangeOld
import Derived.Below
import Derived.Test.YtpelcnehndlinaaRaw
import Derived.Test.YtpelcnehndlinaaBegun4
namespace Go.Proofs.Ytpelcnehndlinaa.valueAll
open Go.ChangeShapes Go.WideShapes Go.ChangeAt Go.RowKit
open Go.ChangeMaps (open_string shut_string)
set_option linter.unusedVariables false

theorem own : ownKnob Try.prog.godebug = none := by kernel_rfl
theorem laidOut : laidOutB Try.prog = true := by kernel_rfl

theorem may_vi {k n : Int} {s : ByteArray} (h : mayR k n s = true) : ∃ (x : VI) (bn : Bool), ofV k n s = .tuple #[.agg #[x.v], .int .i64 0] ∧ x.k = k ∧ x.n = n ∧ x.s = s ∧ x.isN = bn ∧ x.isT = (!bn) ∧ (k == 1) = bn ∧ s.size ≤ 24 := by
  have h0 := h
  rw [← str_toList s] at h
  rcases mayR_cases h with ⟨rfl, hs⟩ | ⟨rfl, rfl, hs⟩
  · obtain rfl : s = ⟨#[]⟩ := by rw [← str_toList s, hs]; rfl
    exact ⟨.num n, true, of_num h0, rfl, rfl, rfl, rfl, rfl, rfl, by show 0 ≤ 24; omega⟩
  · exact ⟨.text s, false, of_text h0, rfl, rfl, rfl, rfl, rfl, rfl, by rw [Go.Lib.size_eq]; exact hs⟩

def VAt (xv : Value) (k0 n0 : Int) (q : ByteArray) (bR : Nat) : Nat → World → Value → Prop
  | 61, _, v => v = .int .i64 0
  | 62, _, v => v = .bool true
  | 63, _, v => v = .bool true
  | 64, _, v => v = .agg #[xv]
  | 65, _, v => v = .int .i64 k0
  | 66, _, v => v = .pointer (some ⟨bR, 0, none⟩)
  | 67, _, v => v = .int .i64 k0
  | 68, _, v => v = .bool true
  | 69, _, v => v = .bool true
  | 70, _, v => v = .bool true
  | 71, _, v => v = .agg #[xv]
  | 72, _, v => v = .agg #[.int .i64 k0, .int .i64 n0, .string q]
  | 73, _, v => v = .agg #[.int .i64 k0, .int .i64 n0, .string q]
  | 74, _, v => v = .bool true
  | 75, _, v => v = .bool true
  | 76, _, v => v = .bool true
  | 77, _, v => v = .bool true
  | 78, _, v => v = .bool true
  | 79, _, v => v = .bool true
  | 80, _, v => v = .bool true
  | 81, _, v => v = .bool true
  | 82, _, v => v = .bool false
  | 83, _, v => v = .bool true
  | 84, _, v => v = .bool false
  | 85, _, v => v = .bool true
  | 86, _, v => v = .bool true
  | 87, _, v => v = .bool true
  | 88, _, v => v = .int .i64 n0
  | 89, _, v => v = .pointer (some ⟨bR, 1, none⟩)
  | 90, _, v => v = .int .i64 n0
  | 91, _, v => v = .bool true
  | 92, _, v => v = .bool true
  | 93, _, v => v = .bool true
  | 94, _, v => v = .string q
  | 95, _, v => v = .pointer (some ⟨bR, 2, none⟩)
  | 96, _, v => v = .string q
  | 97, _, v => v = .bool true
  | 98, _, v => v = .bool true
  | 99, _, v => v = .bool true
  | 100, _, v => v = .bool true
  | 101, _, v => v = .bool true
  | 102, _, v => v = .bool true
  | 103, _, v => v = .bool true
  | 104, _, v => v = .bool true
  | 105, _, v => v = .bool true
  | 106, _, v => v = .bool false
  | 107, _, v => v = .bool false
  | 108, _, v => v = .int .i64 n0
  | 109, _, v => v = .pointer (some ⟨bR, 1, none⟩)
  | 110, _, v => v = .int .i64 n0
  | 111, _, v => v = .bool true
  | 112, _, v => v = .bool true
  | 113, _, v => v = .bool true
  | 2, _, v => v = .bool true
  | _, _, _ => True

theorem VAt_below (xv : Value) (k0 n0 : Int) (q : ByteArray) (bR : Nat) : ∀ (i : Nat) (w w' : World) (v : Value), VAt xv k0 n0 q bR i w v → Below w.heap.size w w' → VAt xv k0 n0 q bR i w' v := by
  intro i w w' v h hb
  unfold VAt at h ⊢
  split at h <;> first | exact h | trivial

def VAf (xv : Value) (k0 n0 : Int) (q : ByteArray) (bR : Nat) : Nat → World → Value → Prop
  | 61, _, v => v = .int .i64 0
  | 62, _, v => v = .bool true
  | 63, _, v => v = .bool true
  | 64, _, v => v = .agg #[xv]
  | 65, _, v => v = .int .i64 k0
  | 66, _, v => v = .pointer (some ⟨bR, 0, none⟩)
  | 67, _, v => v = .int .i64 k0
  | 68, _, v => v = .bool true
  | 69, _, v => v = .bool true
  | 70, _, v => v = .bool true
  | 71, _, v => v = .agg #[xv]
  | 72, _, v => v = .agg #[.int .i64 k0, .int .i64 n0, .string q]
  | 73, _, v => v = .agg #[.int .i64 k0, .int .i64 n0, .string q]
  | 74, _, v => v = .bool true
  | 75, _, v => v = .bool true
  | 76, _, v => v = .bool true
  | 77, _, v => v = .bool false
  | 78, _, v => v = .bool false
  | 79, _, v => v = .bool true
  | 80, _, v => v = .bool true
  | 81, _, v => v = .bool true
  | 82, _, v => v = .bool true
  | 83, _, v => v = .bool false
  | 84, _, v => v = .bool true
  | 85, _, v => v = .bool true
  | 86, _, v => v = .bool true
  | 87, _, v => v = .bool true
  | 88, _, v => v = .int .i64 n0
  | 89, _, v => v = .pointer (some ⟨bR, 1, none⟩)
  | 90, _, v => v = .int .i64 n0
  | 91, _, v => v = .bool true
  | 92, _, v => v = .bool true
  | 93, _, v => v = .bool true
  | 94, _, v => v = .string q
  | 95, _, v => v = .pointer (some ⟨bR, 2, none⟩)
  | 96, _, v => v = .string q
  | 97, _, v => v = .bool true
  | 98, _, v => v = .bool true
  | 99, _, v => v = .bool true
  | 100, _, v => v = .bool false
  | 101, _, v => v = .bool false
  | 102, _, v => v = .bool true
  | 103, _, v => v = .bool true
  | 104, _, v => v = .bool true
  | 105, _, v => v = .bool false
  | 106, _, v => v = .bool true
  | 107, _, v => v = .bool true
  | 108, _, v => v = undef
  | 109, _, v => v = undef
  | 110, _, v => v = undef
  | 111, _, v => v = undef
  | 112, _, v => v = .bool true
  | 113, _, v => v = .bool true
  | 2, _, v => v = .bool true
  | _, _, _ => True

theorem VAf_below (xv : Value) (k0 n0 : Int) (q : ByteArray) (bR : Nat) : ∀ (i : Nat) (w w' : World) (v : Value), VAf xv k0 n0 q bR i w v → Below w.heap.size w w' → VAf xv k0 n0 q bR i w' v := by
  intro i w w' v h hb
  unfold VAf at h ⊢
  split at h <;> first | exact h | trivial

set_option maxHeartbeats 4000000 in
set_option maxRecDepth 100000 in
theorem walk (w : World) (k0 n0 : Int) (s0 : ByteArray) (wk0 : (Lit.int .i64 k0).wf = true) (wn0 : (Lit.int .i64 n0).wf = true) (ws0 : s0.size ≤ maxLen) :
    Calls Try.prog 3 #[rawV k0 n0 s0] w fun e w' => e = .returned (.bool true) ∧ Below w.heap.size w w' := by
  clear wk0 wn0
  have C0 := Go.Lib.hid fun W => vcut_c k0 n0 s0 W ws0
  have ht30 : ((bl s0).take 30).length ≤ 30 := by rw [List.length_take]; omega
  generalize htt : (bl s0).take 30 = t at *
  clear htt
  unfold rawV at C0 ⊢
  go_enter Try.func3, Try.ntmps3
  go_wp2_with fail
  refine (begun_c _).mono ?_
  rintro e w1 ⟨rfl, hc⟩
  obtain ⟨x0, x1, x2⟩ := box_cells _ _ _ _ _ _ hc
  have hA := (hc.block _ (Array.getElem?_eq_some_iff.1 (heap_alloc_new w (.cells #[.int .i64 k0, .int .i64 n0, .string s0] 23))).1).trans (heap_alloc_new w _)
  have hbb := (below_one w (.cells #[.int .i64 k0, .int .i64 n0, .string s0] 23)).trans (hc.mono (below_one w _).size)
  clear hc
  have HA := Go.Lib.hid hA; clear hA
  go_wp2_with fail
  refine (C0.out _).mono ?_
  rintro e w2 ⟨rfl, hc⟩
  have hA2 := (hc.block _ (Array.getElem?_eq_some_iff.1 HA.out).1).trans HA.out
  have hbb := hbb.trans (hc.mono hbb.size)
  clear hc x0 x1 x2 HA C0
  have hS := setRow_heap w2 w.heap.size #[.int .i64 k0, .int .i64 n0, .string s0] #[.int .i64 k0, .int .i64 n0, .string (str t)] 23 (0, 0) hA2
  have y0 := cell_of_row _ _ 0 _ _ _ hS
  have y1 := cell_of_row _ _ 1 _ _ _ hS
  have y2 := cell_of_row _ _ 2 _ _ _ hS
  simp only [List.getElem?_toArray, List.getElem?_cons_zero, List.getElem?_cons_succ] at y0 y1 y2
  have hbb := setRow_below #[.int .i64 k0, .int .i64 n0, .string (str t)] hbb (Nat.le_refl _)
  clear hS
  have HA2 := Go.Lib.hid hA2; clear hA2
  go_wp2_with (first
    | (with_reducible show wpList _ _ _ (⟨none, Op.store 23 (.tmp 1) (.tmp 17), _, _, _, _⟩ :: _) _ _; go_loud (refine wpList_store_row rfl 23 (.tmp 1) (.tmp 17) rfl w.heap.size #[.int .i64 k0, .int .i64 n0, .string (str t)] rfl rfl 23 _ HA2.out (by kernel_rfl) rfl (raw_cells_one ..) ?_))
    | fail)
  clear HA2
  generalize w2.setRow w.heap.size #[.int .i64 k0, .int .i64 n0, .string (str t)] = u at *
  have C4 := Go.Lib.hid fun W => mayval_c k0 n0 (str t) W (by rw [str_size]; unfold maxLen; omega)
  have ce := fun W => eqval_c k0 n0 (str t) k0 n0 (str t) W
  rw [eqR_refl] at ce
  have CE := Go.Lib.hid ce; clear ce
  clear ht30
  cases hmay : mayR k0 n0 (str t) with
  | false =>
    have c1 := of_k k0 n0 (str t) _ (of_bad hmay)
    have c2 := fun W => must_c .none W
    have c5 := fun W => kind_c .none W z0
    have c6 := fun W => raw_c .none W z0
    simp only [VI.val, VI.v, VI.k, VI.n, VI.s, VI.isN, VI.raw, rawV] at c1 c2 c5 c6
    have hf := field_k 0 0 ⟨#[]⟩
    rw [hmay] at C4
    have C1 := Go.Lib.hid c1; clear c1
    have C2 := Go.Lib.hid c2; clear c2
    have C5 := Go.Lib.hid c5; clear c5
    have C6 := Go.Lib.hid c6; clear c6
    clear hmay CE
    generalize str t = q at *
    unfold rawV at C4
    refine (C1.out _).mono ?_
    rintro e w21 ⟨rfl, hc21⟩
    have y0 := cell_kept y0 hc21
    have y1 := cell_kept y1 hc21
    have y2 := cell_kept y2 hc21
    have hbb := hbb.trans (hc21.mono hbb.size)
    clear hc21 
    go_wp2_with fail
    have y0 := cell_kept y0 (below_one w21 (.cells #[.nilIface] 27))
    have y1 := cell_kept y1 (below_one w21 (.cells #[.nilIface] 27))
    have y2 := cell_kept y2 (below_one w21 (.cells #[.nilIface] 27))
    have x4 := cell_new w21 (.nilIface) 27
    have hbb := hbb.trans ((below_one w21 (.cells #[.nilIface] 27)).mono hbb.size)
    generalize w21.alloc (.cells #[.nilIface] 27) = u2 at *
    generalize w21.heap.size = bx4 at *
    refine (C2.out _).mono ?_
    rintro e w22 ⟨rfl, hc22⟩
    have y0 := cell_kept y0 hc22
    have y1 := cell_kept y1 hc22
    have y2 := cell_kept y2 hc22
    have x4 := cell_kept x4 hc22
    have hbb := hbb.trans (hc22.mono hbb.size)
    clear hc22 
    go_wp2_with fail
    refine (C4.out _).mono ?_
    rintro e w23 ⟨rfl, hc23⟩
    have y0 := cell_kept y0 hc23
    have y1 := cell_kept y1 hc23
    have y2 := cell_kept y2 hc23
    have x4 := cell_kept x4 hc23
    have hbb := hbb.trans (hc23.mono hbb.size)
    clear hc23 
    go_wp2_with fail
    refine (C5.out _).mono ?_
    rintro e w24 ⟨rfl, hc24⟩
    have y0 := cell_kept y0 hc24
    have y1 := cell_kept y1 hc24
    have y2 := cell_kept y2 hc24
    have x4 := cell_kept x4 hc24
    have hbb := hbb.trans (hc24.mono hbb.size)
    clear hc24 
    go_wp2_with fail
    refine (C6.out _).mono ?_
    rintro e w25 ⟨rfl, hc25⟩
    have y0 := cell_kept y0 hc25
    have y1 := cell_kept y1 hc25
    have y2 := cell_kept y2 hc25
    have x4 := cell_kept x4 hc25
    have hbb := hbb.trans (hc25.mono hbb.size)
    clear hc25 
    go_wp2_with fail
    go_ret
    exact ⟨rfl, hbb⟩
  | true =>
    obtain ⟨x, bn, ho, e1, e2, e3, e4, e5, e6, e7⟩ := may_vi hmay
    have c1 := of_k k0 n0 (str t) _ ho
    have c2 := fun W => must_c x W
    have c3 := fun W => num_c x W
    have c7 := fun W => text_c x W (by rw [e3]; omega)
    have c5 := fun W => kind_c x W (by rw [e3]; omega)
    have c6 := fun W => raw_c x W (by rw [e3]; omega)
    have hst := store_vi x
    rw [hmay] at C4
    rw [e2, e4] at c2 c3
    rw [e3, e5] at c7
    rw [e1] at c5
    unfold VI.raw at c6
    rw [e1, e2, e3] at c6
    clear e1 e2 e3 e4 e5 e7 ho hmay
    simp only [VI.val] at c2 c3 c5 c6 c7
    have C1 := Go.Lib.hid c1; clear c1
    have C2 := Go.Lib.hid c2; clear c2
    have C3 := Go.Lib.hid c3; clear c3
    have C5 := Go.Lib.hid c5; clear c5
    have C6 := Go.Lib.hid c6; clear c6
    have C7 := Go.Lib.hid c7; clear c7
    generalize str t = q at *
    unfold rawV at C1 C4 C6 CE
    refine (C1.out _).mono ?_
    rintro e w21 ⟨rfl, hc21⟩
    have y0 := cell_kept y0 hc21
    have y1 := cell_kept y1 hc21
    have y2 := cell_kept y2 hc21
    have hbb := hbb.trans (hc21.mono hbb.size)
    clear hc21 
    go_wp2_with fail
    have y0 := cell_kept y0 (below_one w21 (.cells #[x.v] 27))
    have y1 := cell_kept y1 (below_one w21 (.cells #[x.v] 27))
    have y2 := cell_kept y2 (below_one w21 (.cells #[x.v] 27))
    have x4 := cell_new w21 (x.v) 27
    have hbb := hbb.trans ((below_one w21 (.cells #[x.v] 27)).mono hbb.size)
    generalize w21.alloc (.cells #[x.v] 27) = u2 at *
    generalize w21.heap.size = bx4 at *
    refine (C2.out _).mono ?_
    rintro e w22 ⟨rfl, hc22⟩
    have y0 := cell_kept y0 hc22
    have y1 := cell_kept y1 hc22
    have y2 := cell_kept y2 hc22
    have x4 := cell_kept x4 hc22
    have hbb := hbb.trans (hc22.mono hbb.size)
    clear hc22 
    go_wp2_with fail
    refine (C4.out _).mono ?_
    rintro e w23 ⟨rfl, hc23⟩
    have y0 := cell_kept y0 hc23
    have y1 := cell_kept y1 hc23
    have y2 := cell_kept y2 hc23
    have x4 := cell_kept x4 hc23
    have hbb := hbb.trans (hc23.mono hbb.size)
    clear hc23 
    go_wp2_with fail
    refine (C3.out _).mono ?_
    rintro e w24 ⟨rfl, hc24⟩
    have y0 := cell_kept y0 hc24
    have y1 := cell_kept y1 hc24
    have y2 := cell_kept y2 hc24
    have x4 := cell_kept x4 hc24
    have hbb := hbb.trans (hc24.mono hbb.size)
    clear hc24 
    go_wp2_with fail
    refine (C7.out _).mono ?_
    rintro e w25 ⟨rfl, hc25⟩
    have y0 := cell_kept y0 hc25
    have y1 := cell_kept y1 hc25
    have y2 := cell_kept y2 hc25
    have x4 := cell_kept x4 hc25
    have hbb := hbb.trans (hc25.mono hbb.size)
    clear hc25 
    go_upto_if 113 with (fail)
    generalize x.v = xv at *
    clear hst e6
    cases bn with
    | true =>
      refine wp_region_each (by kernel_rfl) (VAt xv k0 n0 q w.heap.size) (VAt_below xv k0 n0 q w.heap.size) (by decide +kernel) (by decide +kernel) (by rfl) [61, 62, 63, 64, 65, 66, 67, 68, 69, 70, 71, 72, 73, 74, 75, 76, 77, 78, 79, 80, 81, 82, 83, 84, 85, 86, 87, 88, 89, 90, 91, 92, 93, 94, 95, 96, 97, 98, 99, 100, 101, 102, 103, 104, 105, 106, 107, 108, 109, 110, 111, 112, 113, 2] (by rfl) ?_ ?_
      · intro i o ho a w6 hb6 hlen hg
        have x4 := cell_kept x4 hb6
        have y0 := cell_kept y0 hb6
        have y1 := cell_kept y1 hb6
        have y2 := cell_kept y2 hb6
        match i, ho with
        | 0, ho =>
          obtain rfl := Option.some.inj ho
          have h5 := given_old hg 5 (by decide +kernel)
          clear hg
          exact st_yield ho (wanted_none rfl) (.int .i64 0) w6 (by simp [execOp, Act.eval, h5, go_sem]) ⟨_, rfl, Below.refl _ _, by rintro t' ⟨⟩; rfl⟩
        | 1, ho =>
          obtain rfl := Option.some.inj ho
          obtain ⟨_, h61, rfl⟩ := given_fed hg 61 (by decide +kernel)
          clear hg
          exact st_yield ho (wanted_none rfl) (.bool true) w6 (by simp [execOp, Act.eval, h61, go_sem]) ⟨_, rfl, Below.refl _ _, by rintro t' ⟨⟩; rfl⟩
        | 2, ho =>
          obtain rfl := Option.some.inj ho
          obtain ⟨_, h62, rfl⟩ := given_fed hg 62 (by decide +kernel)
          clear hg
          exact st_yield ho (wanted_none rfl) (.bool true) w6 (by simp [execOp, Act.eval, h62, go_sem]) ⟨_, rfl, Below.refl _ _, by rintro t' ⟨⟩; rfl⟩
        | 3, ho =>
          obtain rfl := Option.some.inj ho
          have h4 := given_old hg 4 (by decide +kernel)
          obtain ⟨_, h63, rfl⟩ := given_fed hg 63 (by decide +kernel)
          clear hg
          exact st_yield ho (wanted_some rfl rfl h63 rfl) (.agg #[xv]) w6 (by simp [execOp, Act.eval, h4, go_sem, x4]) ⟨_, rfl, Below.refl _ _, by rintro t' ⟨⟩; rfl⟩
        | 4, ho =>
          obtain rfl := Option.some.inj ho
          obtain ⟨_, h64, rfl⟩ := given_fed hg 64 (by decide +kernel)
          obtain ⟨_, h63, rfl⟩ := given_fed hg 63 (by decide +kernel)
          clear hg
          exact st_enter (w1 := w6) ho (wanted_some rfl rfl h63 rfl) 16 #[.agg #[xv]] (by simp [execOp, Act.eval, h64, resolve, go_sem]) ((C5.out _).mono (by rintro e w7 ⟨rfl, hb7⟩; exact ⟨_, rfl, _, rfl, hb7, by rintro t' ⟨⟩; rfl⟩))
        | 5, ho =>
          obtain rfl := Option.some.inj ho
          have h1 := given_old hg 1 (by decide +kernel)
          obtain ⟨_, h63, rfl⟩ := given_fed hg 63 (by decide +kernel)
          clear hg
          exact st_yield ho (wanted_some rfl rfl h63 rfl) (.pointer (some ⟨w.heap.size, 0, none⟩)) w6 (by simp [execOp, Act.eval, h1, go_sem]) ⟨_, rfl, Below.refl _ _, by rintro t' ⟨⟩; rfl⟩
        | 6, ho =>
          obtain rfl := Option.some.inj ho
          obtain ⟨_, h66, rfl⟩ := given_fed hg 66 (by decide +kernel)
          obtain ⟨_, h63, rfl⟩ := given_fed hg 63 (by decide +kernel)
          clear hg
          exact st_yield ho (wanted_some rfl rfl h63 rfl) (.int .i64 k0) w6 (by simp [execOp, Act.eval, h66, go_sem, y0]) ⟨_, rfl, Below.refl _ _, by rintro t' ⟨⟩; rfl⟩
        | 7, ho =>
          obtain rfl := Option.some.inj ho
          obtain ⟨_, h65, rfl⟩ := given_fed hg 65 (by decide +kernel)
          obtain ⟨_, h67, rfl⟩ := given_fed hg 67 (by decide +kernel)
          obtain ⟨_, h63, rfl⟩ := given_fed hg 63 (by decide +kernel)
          clear hg
          exact st_yield ho (wanted_some rfl rfl h63 rfl) (.bool true) w6 (by simp [execOp, Act.eval, h65, h67, go_sem]) ⟨_, rfl, Below.refl _ _, by rintro t' ⟨⟩; rfl⟩
        | 8, ho =>
          obtain rfl := Option.some.inj ho
          obtain ⟨_, h63, rfl⟩ := given_fed hg 63 (by decide +kernel)
          obtain ⟨_, h68, rfl⟩ := given_fed hg 68 (by decide +kernel)
          clear hg
          exact st_yield ho (wanted_none rfl) (.bool true) w6 (by simp [execOp, Act.eval, h63, h68, go_sem]) ⟨_, rfl, Below.refl _ _, by rintro t' ⟨⟩; rfl⟩
        | 9, ho =>
          obtain rfl := Option.some.inj ho
          obtain ⟨_, h69, rfl⟩ := given_fed hg 69 (by decide +kernel)
          clear hg
          exact st_yield ho (wanted_none rfl) (.bool true) w6 (by simp [execOp, Act.eval, h69, go_sem]) ⟨_, rfl, Below.refl _ _, by rintro t' ⟨⟩; rfl⟩
        | 10, ho =>
          obtain rfl := Option.some.inj ho
          have h4 := given_old hg 4 (by decide +kernel)
          obtain ⟨_, h70, rfl⟩ := given_fed hg 70 (by decide +kernel)
          clear hg
          exact st_yield ho (wanted_some rfl rfl h70 rfl) (.agg #[xv]) w6 (by simp [execOp, Act.eval, h4, go_sem, x4]) ⟨_, rfl, Below.refl _ _, by rintro t' ⟨⟩; rfl⟩
        | 11, ho =>
          obtain rfl := Option.some.inj ho
          obtain ⟨_, h71, rfl⟩ := given_fed hg 71 (by decide +kernel)
          obtain ⟨_, h70, rfl⟩ := given_fed hg 70 (by decide +kernel)
          clear hg
          exact st_enter (w1 := w6) ho (wanted_some rfl rfl h70 rfl) 17 #[.agg #[xv]] (by simp [execOp, Act.eval, h71, resolve, go_sem]) ((C6.out _).mono (by rintro e w7 ⟨rfl, hb7⟩; exact ⟨_, rfl, _, rfl, hb7, by rintro t' ⟨⟩; rfl⟩))
        | 12, ho =>
          obtain rfl := Option.some.inj ho
          have h1 := given_old hg 1 (by decide +kernel)
          obtain ⟨_, h70, rfl⟩ := given_fed hg 70 (by decide +kernel)
          clear hg
          exact st_yield ho (wanted_some rfl rfl h70 rfl) (.agg #[.int .i64 k0, .int .i64 n0, .string q]) w6 (by simp [execOp, Act.eval, h1, go_sem, y0, y1, y2]) ⟨_, rfl, Below.refl _ _, by rintro t' ⟨⟩; rfl⟩
        | 13, ho =>
          obtain rfl := Option.some.inj ho
          obtain ⟨_, h72, rfl⟩ := given_fed hg 72 (by decide +kernel)
          obtain ⟨_, h73, rfl⟩ := given_fed hg 73 (by decide +kernel)
          obtain ⟨_, h70, rfl⟩ := given_fed hg 70 (by decide +kernel)
          clear hg
          exact st_enter (w1 := w6) ho (wanted_some rfl rfl h70 rfl) 20 #[.agg #[.int .i64 k0, .int .i64 n0, .string q], .agg #[.int .i64 k0, .int .i64 n0, .string q]] (by simp [execOp, Act.eval, h72, h73, resolve, go_sem]) ((CE.out _).mono (by rintro e w7 ⟨rfl, hb7⟩; exact ⟨_, rfl, _, rfl, hb7, by rintro t' ⟨⟩; rfl⟩))
        | 14, ho =>
          obtain rfl := Option.some.inj ho
          obtain ⟨_, h70, rfl⟩ := given_fed hg 70 (by decide +kernel)
          obtain ⟨_, h74, rfl⟩ := given_fed hg 74 (by decide +kernel)
          clear hg
          exact st_yield ho (wanted_none rfl) (.bool true) w6 (by simp [execOp, Act.eval, h70, h74, go_sem]) ⟨_, rfl, Below.refl _ _, by rintro t' ⟨⟩; rfl⟩
        | 15, ho =>
          obtain rfl := Option.some.inj ho
          obtain ⟨_, h75, rfl⟩ := given_fed hg 75 (by decide +kernel)
          clear hg
          exact st_yield ho (wanted_none rfl) (.bool true) w6 (by simp [execOp, Act.eval, h75, go_sem]) ⟨_, rfl, Below.refl _ _, by rintro t' ⟨⟩; rfl⟩
        | 16, ho =>
          obtain rfl := Option.some.inj ho
          have h9 := given_old hg 9 (by decide +kernel)
          obtain ⟨_, h76, rfl⟩ := given_fed hg 76 (by decide +kernel)
          clear hg
          exact st_yield ho (wanted_some rfl rfl h76 rfl) (.bool true) w6 (by simp [execOp, Act.eval, h9, go_sem]) ⟨_, rfl, Below.refl _ _, by rintro t' ⟨⟩; rfl⟩
        | 17, ho =>
          obtain rfl := Option.some.inj ho
          have h12 := given_old hg 12 (by decide +kernel)
          obtain ⟨_, h76, rfl⟩ := given_fed hg 76 (by decide +kernel)
          clear hg
          exact st_yield ho (wanted_some rfl rfl h76 rfl) (.bool true) w6 (by simp [execOp, Act.eval, h12, go_sem]) ⟨_, rfl, Below.refl _ _, by rintro t' ⟨⟩; rfl⟩
        | 18, ho =>
          obtain rfl := Option.some.inj ho
          obtain ⟨_, h77, rfl⟩ := given_fed hg 77 (by decide +kernel)
          obtain ⟨_, h78, rfl⟩ := given_fed hg 78 (by decide +kernel)
          obtain ⟨_, h76, rfl⟩ := given_fed hg 76 (by decide +kernel)
          clear hg
          exact st_yield ho (wanted_some rfl rfl h76 rfl) (.bool true) w6 (by simp [execOp, Act.eval, h77, h78, go_sem]) ⟨_, rfl, Below.refl _ _, by rintro t' ⟨⟩; rfl⟩
        | 19, ho =>
          obtain rfl := Option.some.inj ho
          obtain ⟨_, h76, rfl⟩ := given_fed hg 76 (by decide +kernel)
          obtain ⟨_, h79, rfl⟩ := given_fed hg 79 (by decide +kernel)
          clear hg
          exact st_yield ho (wanted_none rfl) (.bool true) w6 (by simp [execOp, Act.eval, h76, h79, go_sem]) ⟨_, rfl, Below.refl _ _, by rintro t' ⟨⟩; rfl⟩
        | 20, ho =>
          obtain rfl := Option.some.inj ho
          obtain ⟨_, h80, rfl⟩ := given_fed hg 80 (by decide +kernel)
          clear hg
          exact st_yield ho (wanted_none rfl) (.bool true) w6 (by simp [execOp, Act.eval, h80, go_sem]) ⟨_, rfl, Below.refl _ _, by rintro t' ⟨⟩; rfl⟩
        | 21, ho =>
          obtain rfl := Option.some.inj ho
          have h11 := given_old hg 11 (by decide +kernel)
          obtain ⟨_, h81, rfl⟩ := given_fed hg 81 (by decide +kernel)
          clear hg
          exact st_yield ho (wanted_some rfl rfl h81 rfl) (.bool false) w6 (by simp [execOp, Act.eval, h11, go_sem]) ⟨_, rfl, Below.refl _ _, by rintro t' ⟨⟩; rfl⟩
        | 22, ho =>
          obtain rfl := Option.some.inj ho
          have h12 := given_old hg 12 (by decide +kernel)
          obtain ⟨_, h81, rfl⟩ := given_fed hg 81 (by decide +kernel)
          clear hg
          exact st_yield ho (wanted_some rfl rfl h81 rfl) (.bool true) w6 (by simp [execOp, Act.eval, h12, go_sem]) ⟨_, rfl, Below.refl _ _, by rintro t' ⟨⟩; rfl⟩
        | 23, ho =>
          obtain rfl := Option.some.inj ho
          obtain ⟨_, h83, rfl⟩ := given_fed hg 83 (by decide +kernel)
          obtain ⟨_, h81, rfl⟩ := given_fed hg 81 (by decide +kernel)
          clear hg
          exact st_yield ho (wanted_some rfl rfl h81 rfl) (.bool false) w6 (by simp [execOp, Act.eval, h83, go_sem]) ⟨_, rfl, Below.refl _ _, by rintro t' ⟨⟩; rfl⟩
        | 24, ho =>
          obtain rfl := Option.some.inj ho
          obtain ⟨_, h82, rfl⟩ := given_fed hg 82 (by decide +kernel)
          obtain ⟨_, h84, rfl⟩ := given_fed hg 84 (by decide +kernel)
          obtain ⟨_, h81, rfl⟩ := given_fed hg 81 (by decide +kernel)
          clear hg
          exact st_yield ho (wanted_some rfl rfl h81 rfl) (.bool true) w6 (by simp [execOp, Act.eval, h82, h84, go_sem]) ⟨_, rfl, Below.refl _ _, by rintro t' ⟨⟩; rfl⟩
        | 25, ho =>
          obtain rfl := Option.some.inj ho
          obtain ⟨_, h81, rfl⟩ := given_fed hg 81 (by decide +kernel)
          obtain ⟨_, h85, rfl⟩ := given_fed hg 85 (by decide +kernel)
          clear hg
          exact st_yield ho (wanted_none rfl) (.bool true) w6 (by simp [execOp, Act.eval, h81, h85, go_sem]) ⟨_, rfl, Below.refl _ _, by rintro t' ⟨⟩; rfl⟩
        | 26, ho =>
          obtain rfl := Option.some.inj ho
          obtain ⟨_, h86, rfl⟩ := given_fed hg 86 (by decide +kernel)
          clear hg
          exact st_yield ho (wanted_none rfl) (.bool true) w6 (by simp [execOp, Act.eval, h86, go_sem]) ⟨_, rfl, Below.refl _ _, by rintro t' ⟨⟩; rfl⟩
        | 27, ho =>
          obtain rfl := Option.some.inj ho
          have h8 := given_old hg 8 (by decide +kernel)
          obtain ⟨_, h87, rfl⟩ := given_fed hg 87 (by decide +kernel)
          clear hg
          exact st_yield ho (wanted_some rfl rfl h87 rfl) (.int .i64 n0) w6 (by simp [execOp, Act.eval, h8, go_sem]) ⟨_, rfl, Below.refl _ _, by rintro t' ⟨⟩; rfl⟩
        | 28, ho =>
          obtain rfl := Option.some.inj ho
          have h1 := given_old hg 1 (by decide +kernel)
          obtain ⟨_, h87, rfl⟩ := given_fed hg 87 (by decide +kernel)
          clear hg
          exact st_yield ho (wanted_some rfl rfl h87 rfl) (.pointer (some ⟨w.heap.size, 1, none⟩)) w6 (by simp [execOp, Act.eval, h1, go_sem]) ⟨_, rfl, Below.refl _ _, by rintro t' ⟨⟩; rfl⟩
        | 29, ho =>
          obtain rfl := Option.some.inj ho
          obtain ⟨_, h89, rfl⟩ := given_fed hg 89 (by decide +kernel)
          obtain ⟨_, h87, rfl⟩ := given_fed hg 87 (by decide +kernel)
          clear hg
          exact st_yield ho (wanted_some rfl rfl h87 rfl) (.int .i64 n0) w6 (by simp [execOp, Act.eval, h89, go_sem, y1]) ⟨_, rfl, Below.refl _ _, by rintro t' ⟨⟩; rfl⟩
        | 30, ho =>
          obtain rfl := Option.some.inj ho
          obtain ⟨_, h88, rfl⟩ := given_fed hg 88 (by decide +kernel)
          obtain ⟨_, h90, rfl⟩ := given_fed hg 90 (by decide +kernel)
          obtain ⟨_, h87, rfl⟩ := given_fed hg 87 (by decide +kernel)
          clear hg
          exact st_yield ho (wanted_some rfl rfl h87 rfl) (.bool true) w6 (by simp [execOp, Act.eval, h88, h90, go_sem]) ⟨_, rfl, Below.refl _ _, by rintro t' ⟨⟩; rfl⟩
        | 31, ho =>
          obtain rfl := Option.some.inj ho
          obtain ⟨_, h87, rfl⟩ := given_fed hg 87 (by decide +kernel)
          obtain ⟨_, h91, rfl⟩ := given_fed hg 91 (by decide +kernel)
          clear hg
          exact st_yield ho (wanted_none rfl) (.bool true) w6 (by simp [execOp, Act.eval, h87, h91, go_sem]) ⟨_, rfl, Below.refl _ _, by rintro t' ⟨⟩; rfl⟩
        | 32, ho =>
          obtain rfl := Option.some.inj ho
          obtain ⟨_, h92, rfl⟩ := given_fed hg 92 (by decide +kernel)
          clear hg
          exact st_yield ho (wanted_none rfl) (.bool true) w6 (by simp [execOp, Act.eval, h92, go_sem]) ⟨_, rfl, Below.refl _ _, by rintro t' ⟨⟩; rfl⟩
        | 33, ho =>
          obtain rfl := Option.some.inj ho
          have h10 := given_old hg 10 (by decide +kernel)
          obtain ⟨_, h93, rfl⟩ := given_fed hg 93 (by decide +kernel)
          clear hg
          exact st_yield ho (wanted_some rfl rfl h93 rfl) (.string q) w6 (by simp [execOp, Act.eval, h10, go_sem]) ⟨_, rfl, Below.refl _ _, by rintro t' ⟨⟩; rfl⟩
        | 34, ho =>
          obtain rfl := Option.some.inj ho
          have h1 := given_old hg 1 (by decide +kernel)
          obtain ⟨_, h93, rfl⟩ := given_fed hg 93 (by decide +kernel)
          clear hg
          exact st_yield ho (wanted_some rfl rfl h93 rfl) (.pointer (some ⟨w.heap.size, 2, none⟩)) w6 (by simp [execOp, Act.eval, h1, go_sem]) ⟨_, rfl, Below.refl _ _, by rintro t' ⟨⟩; rfl⟩
        | 35, ho =>
          obtain rfl := Option.some.inj ho
          obtain ⟨_, h95, rfl⟩ := given_fed hg 95 (by decide +kernel)
          obtain ⟨_, h93, rfl⟩ := given_fed hg 93 (by decide +kernel)
          clear hg
          exact st_yield ho (wanted_some rfl rfl h93 rfl) (.string q) w6 (by simp [execOp, Act.eval, h95, go_sem, y2]) ⟨_, rfl, Below.refl _ _, by rintro t' ⟨⟩; rfl⟩
        | 36, ho =>
          obtain rfl := Option.some.inj ho
          obtain ⟨_, h94, rfl⟩ := given_fed hg 94 (by decide +kernel)
          obtain ⟨_, h96, rfl⟩ := given_fed hg 96 (by decide +kernel)
          obtain ⟨_, h93, rfl⟩ := given_fed hg 93 (by decide +kernel)
          clear hg
          exact st_yield ho (wanted_some rfl rfl h93 rfl) (.bool true) w6 (by simp [execOp, Act.eval, h94, h96, go_sem]) ⟨_, rfl, Below.refl _ _, by rintro t' ⟨⟩; rfl⟩
        | 37, ho =>
          obtain rfl := Option.some.inj ho
          obtain ⟨_, h93, rfl⟩ := given_fed hg 93 (by decide +kernel)
          obtain ⟨_, h97, rfl⟩ := given_fed hg 97 (by decide +kernel)
          clear hg
          exact st_yield ho (wanted_none rfl) (.bool true) w6 (by simp [execOp, Act.eval, h93, h97, go_sem]) ⟨_, rfl, Below.refl _ _, by rintro t' ⟨⟩; rfl⟩
        | 38, ho =>
          obtain rfl := Option.some.inj ho
          obtain ⟨_, h98, rfl⟩ := given_fed hg 98 (by decide +kernel)
          clear hg
          exact st_yield ho (wanted_none rfl) (.bool true) w6 (by simp [execOp, Act.eval, h98, go_sem]) ⟨_, rfl, Below.refl _ _, by rintro t' ⟨⟩; rfl⟩
        | 39, ho =>
          obtain rfl := Option.some.inj ho
          have h7 := given_old hg 7 (by decide +kernel)
          obtain ⟨_, h99, rfl⟩ := given_fed hg 99 (by decide +kernel)
          clear hg
          exact st_yield ho (wanted_some rfl rfl h99 rfl) (.bool true) w6 (by simp [execOp, Act.eval, h7, go_sem]) ⟨_, rfl, Below.refl _ _, by rintro t' ⟨⟩; rfl⟩
        | 40, ho =>
          obtain rfl := Option.some.inj ho
          have h12 := given_old hg 12 (by decide +kernel)
          obtain ⟨_, h99, rfl⟩ := given_fed hg 99 (by decide +kernel)
          clear hg
          exact st_yield ho (wanted_some rfl rfl h99 rfl) (.bool true) w6 (by simp [execOp, Act.eval, h12, go_sem]) ⟨_, rfl, Below.refl _ _, by rintro t' ⟨⟩; rfl⟩
        | 41, ho =>
          obtain rfl := Option.some.inj ho
          obtain ⟨_, h100, rfl⟩ := given_fed hg 100 (by decide +kernel)
          obtain ⟨_, h101, rfl⟩ := given_fed hg 101 (by decide +kernel)
          obtain ⟨_, h99, rfl⟩ := given_fed hg 99 (by decide +kernel)
          clear hg
          exact st_yield ho (wanted_some rfl rfl h99 rfl) (.bool true) w6 (by simp [execOp, Act.eval, h100, h101, go_sem]) ⟨_, rfl, Below.refl _ _, by rintro t' ⟨⟩; rfl⟩
        | 42, ho =>
          obtain rfl := Option.some.inj ho
          obtain ⟨_, h99, rfl⟩ := given_fed hg 99 (by decide +kernel)
          obtain ⟨_, h102, rfl⟩ := given_fed hg 102 (by decide +kernel)
          clear hg
          exact st_yield ho (wanted_none rfl) (.bool true) w6 (by simp [execOp, Act.eval, h99, h102, go_sem]) ⟨_, rfl, Below.refl _ _, by rintro t' ⟨⟩; rfl⟩
        | 43, ho =>
          obtain rfl := Option.some.inj ho
          obtain ⟨_, h103, rfl⟩ := given_fed hg 103 (by decide +kernel)
          clear hg
          exact st_yield ho (wanted_none rfl) (.bool true) w6 (by simp [execOp, Act.eval, h103, go_sem]) ⟨_, rfl, Below.refl _ _, by rintro t' ⟨⟩; rfl⟩
        | 44, ho =>
          obtain rfl := Option.some.inj ho
          have h12 := given_old hg 12 (by decide +kernel)
          obtain ⟨_, h104, rfl⟩ := given_fed hg 104 (by decide +kernel)
          clear hg
          exact st_yield ho (wanted_some rfl rfl h104 rfl) (.bool true) w6 (by simp [execOp, Act.eval, h12, go_sem]) ⟨_, rfl, Below.refl _ _, by rintro t' ⟨⟩; rfl⟩
        | 45, ho =>
          obtain rfl := Option.some.inj ho
          obtain ⟨_, h105, rfl⟩ := given_fed hg 105 (by decide +kernel)
          obtain ⟨_, h104, rfl⟩ := given_fed hg 104 (by decide +kernel)
          clear hg
          exact st_yield ho (wanted_some rfl rfl h104 rfl) (.bool false) w6 (by simp [execOp, Act.eval, h105, go_sem]) ⟨_, rfl, Below.refl _ _, by rintro t' ⟨⟩; rfl⟩
        | 46, ho =>
          obtain rfl := Option.some.inj ho
          obtain ⟨_, h106, rfl⟩ := given_fed hg 106 (by decide +kernel)
          obtain ⟨_, h104, rfl⟩ := given_fed hg 104 (by decide +kernel)
          clear hg
          exact st_yield ho (wanted_some rfl rfl h104 rfl) (.bool false) w6 (by simp [execOp, Act.eval, h106, go_sem]) ⟨_, rfl, Below.refl _ _, by rintro t' ⟨⟩; rfl⟩
        | 47, ho =>
          obtain rfl := Option.some.inj ho
          have h6 := given_old hg 6 (by decide +kernel)
          obtain ⟨_, h107, rfl⟩ := given_fed hg 107 (by decide +kernel)
          clear hg
          exact st_yield ho (wanted_some rfl rfl h107 rfl) (.int .i64 n0) w6 (by simp [execOp, Act.eval, h6, go_sem]) ⟨_, rfl, Below.refl _ _, by rintro t' ⟨⟩; rfl⟩
        | 48, ho =>
          obtain rfl := Option.some.inj ho
          have h1 := given_old hg 1 (by decide +kernel)
          obtain ⟨_, h107, rfl⟩ := given_fed hg 107 (by decide +kernel)
          clear hg
          exact st_yield ho (wanted_some rfl rfl h107 rfl) (.pointer (some ⟨w.heap.size, 1, none⟩)) w6 (by simp [execOp, Act.eval, h1, go_sem]) ⟨_, rfl, Below.refl _ _, by rintro t' ⟨⟩; rfl⟩
        | 49, ho =>
          obtain rfl := Option.some.inj ho
          obtain ⟨_, h109, rfl⟩ := given_fed hg 109 (by decide +kernel)
          obtain ⟨_, h107, rfl⟩ := given_fed hg 107 (by decide +kernel)
          clear hg
          exact st_yield ho (wanted_some rfl rfl h107 rfl) (.int .i64 n0) w6 (by simp [execOp, Act.eval, h109, go_sem, y1]) ⟨_, rfl, Below.refl _ _, by rintro t' ⟨⟩; rfl⟩
        | 50, ho =>
          obtain rfl := Option.some.inj ho
          obtain ⟨_, h108, rfl⟩ := given_fed hg 108 (by decide +kernel)
          obtain ⟨_, h110, rfl⟩ := given_fed hg 110 (by decide +kernel)
          obtain ⟨_, h107, rfl⟩ := given_fed hg 107 (by decide +kernel)
          clear hg
          exact st_yield ho (wanted_some rfl rfl h107 rfl) (.bool true) w6 (by simp [execOp, Act.eval, h108, h110, go_sem]) ⟨_, rfl, Below.refl _ _, by rintro t' ⟨⟩; rfl⟩
        | 51, ho =>
          obtain rfl := Option.some.inj ho
          obtain ⟨_, h107, rfl⟩ := given_fed hg 107 (by decide +kernel)
          obtain ⟨_, h111, rfl⟩ := given_fed hg 111 (by decide +kernel)
          obtain ⟨_, h104, rfl⟩ := given_fed hg 104 (by decide +kernel)
          clear hg
          exact st_yield ho (wanted_some rfl rfl h104 rfl) (.bool true) w6 (by simp [execOp, Act.eval, h107, h111, go_sem]) ⟨_, rfl, Below.refl _ _, by rintro t' ⟨⟩; rfl⟩
        | 52, ho =>
          obtain rfl := Option.some.inj ho
          obtain ⟨_, h104, rfl⟩ := given_fed hg 104 (by decide +kernel)
          obtain ⟨_, h112, rfl⟩ := given_fed hg 112 (by decide +kernel)
          clear hg
          exact st_yield ho (wanted_none rfl) (.bool true) w6 (by simp [execOp, Act.eval, h104, h112, go_sem]) ⟨_, rfl, Below.refl _ _, by rintro t' ⟨⟩; rfl⟩
        | 53, ho =>
          obtain rfl := Option.some.inj ho
          obtain ⟨_, h113, rfl⟩ := given_fed hg 113 (by decide +kernel)
          clear hg
          exact st_yield ho (wanted_none rfl) (.bool true) w6 (by simp [execOp, Act.eval, h113, go_sem]) ⟨_, rfl, Below.refl _ _, by rintro t' ⟨⟩; rfl⟩
        | n + 54, ho => simp at ho
      · intro f w6 hb6 hv
        have h2 := hv 2 (by simp)
        clear hv
        simp only [VAt] at h2
        unfold putAll
        simp only [List.foldl]
        go_simp
        go_wp2
        go_ret
        exact ⟨rfl, hbb.trans (hb6.mono hbb.size)⟩
    | false =>
      refine wp_region_each (by kernel_rfl) (VAf xv k0 n0 q w.heap.size) (VAf_below xv k0 n0 q w.heap.size) (by decide +kernel) (by decide +kernel) (by rfl) [61, 62, 63, 64, 65, 66, 67, 68, 69, 70, 71, 72, 73, 74, 75, 76, 77, 78, 79, 80, 81, 82, 83, 84, 85, 86, 87, 88, 89, 90, 91, 92, 93, 94, 95, 96, 97, 98, 99, 100, 101, 102, 103, 104, 105, 106, 107, 108, 109, 110, 111, 112, 113, 2] (by rfl) ?_ ?_
      · intro i o ho a w6 hb6 hlen hg
        have x4 := cell_kept x4 hb6
        have y0 := cell_kept y0 hb6
        have y1 := cell_kept y1 hb6
        have y2 := cell_kept y2 hb6
        match i, ho with
        | 0, ho =>
          obtain rfl := Option.some.inj ho
          have h5 := given_old hg 5 (by decide +kernel)
          clear hg
          exact st_yield ho (wanted_none rfl) (.int .i64 0) w6 (by simp [execOp, Act.eval, h5, go_sem]) ⟨_, rfl, Below.refl _ _, by rintro t' ⟨⟩; rfl⟩
        | 1, ho =>
          obtain rfl := Option.some.inj ho
          obtain ⟨_, h61, rfl⟩ := given_fed hg 61 (by decide +kernel)
          clear hg
          exact st_yield ho (wanted_none rfl) (.bool true) w6 (by simp [execOp, Act.eval, h61, go_sem]) ⟨_, rfl, Below.refl _ _, by rintro t' ⟨⟩; rfl⟩
        | 2, ho =>
          obtain rfl := Option.some.inj ho
          obtain ⟨_, h62, rfl⟩ := given_fed hg 62 (by decide +kernel)
          clear hg
          exact st_yield ho (wanted_none rfl) (.bool true) w6 (by simp [execOp, Act.eval, h62, go_sem]) ⟨_, rfl, Below.refl _ _, by rintro t' ⟨⟩; rfl⟩
        | 3, ho =>
          obtain rfl := Option.some.inj ho
          have h4 := given_old hg 4 (by decide +kernel)
          obtain ⟨_, h63, rfl⟩ := given_fed hg 63 (by decide +kernel)
          clear hg
          exact st_yield ho (wanted_some rfl rfl h63 rfl) (.agg #[xv]) w6 (by simp [execOp, Act.eval, h4, go_sem, x4]) ⟨_, rfl, Below.refl _ _, by rintro t' ⟨⟩; rfl⟩
        | 4, ho =>
          obtain rfl := Option.some.inj ho
          obtain ⟨_, h64, rfl⟩ := given_fed hg 64 (by decide +kernel)
          obtain ⟨_, h63, rfl⟩ := given_fed hg 63 (by decide +kernel)
          clear hg
          exact st_enter (w1 := w6) ho (wanted_some rfl rfl h63 rfl) 16 #[.agg #[xv]] (by simp [execOp, Act.eval, h64, resolve, go_sem]) ((C5.out _).mono (by rintro e w7 ⟨rfl, hb7⟩; exact ⟨_, rfl, _, rfl, hb7, by rintro t' ⟨⟩; rfl⟩))
        | 5, ho =>
          obtain rfl := Option.some.inj ho
          have h1 := given_old hg 1 (by decide +kernel)
          obtain ⟨_, h63, rfl⟩ := given_fed hg 63 (by decide +kernel)
          clear hg
          exact st_yield ho (wanted_some rfl rfl h63 rfl) (.pointer (some ⟨w.heap.size, 0, none⟩)) w6 (by simp [execOp, Act.eval, h1, go_sem]) ⟨_, rfl, Below.refl _ _, by rintro t' ⟨⟩; rfl⟩
        | 6, ho =>
          obtain rfl := Option.some.inj ho
          obtain ⟨_, h66, rfl⟩ := given_fed hg 66 (by decide +kernel)
          obtain ⟨_, h63, rfl⟩ := given_fed hg 63 (by decide +kernel)
          clear hg
          exact st_yield ho (wanted_some rfl rfl h63 rfl) (.int .i64 k0) w6 (by simp [execOp, Act.eval, h66, go_sem, y0]) ⟨_, rfl, Below.refl _ _, by rintro t' ⟨⟩; rfl⟩
        | 7, ho =>
          obtain rfl := Option.some.inj ho
          obtain ⟨_, h65, rfl⟩ := given_fed hg 65 (by decide +kernel)
          obtain ⟨_, h67, rfl⟩ := given_fed hg 67 (by decide +kernel)
          obtain ⟨_, h63, rfl⟩ := given_fed hg 63 (by decide +kernel)
          clear hg
          exact st_yield ho (wanted_some rfl rfl h63 rfl) (.bool true) w6 (by simp [execOp, Act.eval, h65, h67, go_sem]) ⟨_, rfl, Below.refl _ _, by rintro t' ⟨⟩; rfl⟩
        | 8, ho =>
          obtain rfl := Option.some.inj ho
          obtain ⟨_, h63, rfl⟩ := given_fed hg 63 (by decide +kernel)
          obtain ⟨_, h68, rfl⟩ := given_fed hg 68 (by decide +kernel)
          clear hg
          exact st_yield ho (wanted_none rfl) (.bool true) w6 (by simp [execOp, Act.eval, h63, h68, go_sem]) ⟨_, rfl, Below.refl _ _, by rintro t' ⟨⟩; rfl⟩
        | 9, ho =>
          obtain rfl := Option.some.inj ho
          obtain ⟨_, h69, rfl⟩ := given_fed hg 69 (by decide +kernel)
          clear hg
          exact st_yield ho (wanted_none rfl) (.bool true) w6 (by simp [execOp, Act.eval, h69, go_sem]) ⟨_, rfl, Below.refl _ _, by rintro t' ⟨⟩; rfl⟩
        | 10, ho =>
          obtain rfl := Option.some.inj ho
          have h4 := given_old hg 4 (by decide +kernel)
          obtain ⟨_, h70, rfl⟩ := given_fed hg 70 (by decide +kernel)
          clear hg
          exact st_yield ho (wanted_some rfl rfl h70 rfl) (.agg #[xv]) w6 (by simp [execOp, Act.eval, h4, go_sem, x4]) ⟨_, rfl, Below.refl _ _, by rintro t' ⟨⟩; rfl⟩
        | 11, ho =>
          obtain rfl := Option.some.inj ho
          obtain ⟨_, h71, rfl⟩ := given_fed hg 71 (by decide +kernel)
          obtain ⟨_, h70, rfl⟩ := given_fed hg 70 (by decide +kernel)
          clear hg
          exact st_enter (w1 := w6) ho (wanted_some rfl rfl h70 rfl) 17 #[.agg #[xv]] (by simp [execOp, Act.eval, h71, resolve, go_sem]) ((C6.out _).mono (by rintro e w7 ⟨rfl, hb7⟩; exact ⟨_, rfl, _, rfl, hb7, by rintro t' ⟨⟩; rfl⟩))
        | 12, ho =>
          obtain rfl := Option.some.inj ho
          have h1 := given_old hg 1 (by decide +kernel)
          obtain ⟨_, h70, rfl⟩ := given_fed hg 70 (by decide +kernel)
          clear hg
          exact st_yield ho (wanted_some rfl rfl h70 rfl) (.agg #[.int .i64 k0, .int .i64 n0, .string q]) w6 (by simp [execOp, Act.eval, h1, go_sem, y0, y1, y2]) ⟨_, rfl, Below.refl _ _, by rintro t' ⟨⟩; rfl⟩
        | 13, ho =>
          obtain rfl := Option.some.inj ho
          obtain ⟨_, h72, rfl⟩ := given_fed hg 72 (by decide +kernel)
          obtain ⟨_, h73, rfl⟩ := given_fed hg 73 (by decide +kernel)
          obtain ⟨_, h70, rfl⟩ := given_fed hg 70 (by decide +kernel)
          clear hg
          exact st_enter (w1 := w6) ho (wanted_some rfl rfl h70 rfl) 20 #[.agg #[.int .i64 k0, .int .i64 n0, .string q], .agg #[.int .i64 k0, .int .i64 n0, .string q]] (by simp [execOp, Act.eval, h72, h73, resolve, go_sem]) ((CE.out _).mono (by rintro e w7 ⟨rfl, hb7⟩; exact ⟨_, rfl, _, rfl, hb7, by rintro t' ⟨⟩; rfl⟩))
        | 14, ho =>
          obtain rfl := Option.some.inj ho
          obtain ⟨_, h70, rfl⟩ := given_fed hg 70 (by decide +kernel)
          obtain ⟨_, h74, rfl⟩ := given_fed hg 74 (by decide +kernel)
          clear hg
          exact st_yield ho (wanted_none rfl) (.bool true) w6 (by simp [execOp, Act.eval, h70, h74, go_sem]) ⟨_, rfl, Below.refl _ _, by rintro t' ⟨⟩; rfl⟩
        | 15, ho =>
          obtain rfl := Option.some.inj ho
          obtain ⟨_, h75, rfl⟩ := given_fed hg 75 (by decide +kernel)
          clear hg
          exact st_yield ho (wanted_none rfl) (.bool true) w6 (by simp [execOp, Act.eval, h75, go_sem]) ⟨_, rfl, Below.refl _ _, by rintro t' ⟨⟩; rfl⟩
        | 16, ho =>
          obtain rfl := Option.some.inj ho
          have h9 := given_old hg 9 (by decide +kernel)
          obtain ⟨_, h76, rfl⟩ := given_fed hg 76 (by decide +kernel)
          clear hg
          exact st_yield ho (wanted_some rfl rfl h76 rfl) (.bool false) w6 (by simp [execOp, Act.eval, h9, go_sem]) ⟨_, rfl, Below.refl _ _, by rintro t' ⟨⟩; rfl⟩
        | 17, ho =>
          obtain rfl := Option.some.inj ho
          have h12 := given_old hg 12 (by decide +kernel)
          obtain ⟨_, h76, rfl⟩ := given_fed hg 76 (by decide +kernel)
          clear hg
          exact st_yield ho (wanted_some rfl rfl h76 rfl) (.bool false) w6 (by simp [execOp, Act.eval, h12, go_sem]) ⟨_, rfl, Below.refl _ _, by rintro t' ⟨⟩; rfl⟩
        | 18, ho =>
          obtain rfl := Option.some.inj ho
          obtain ⟨_, h77, rfl⟩ := given_fed hg 77 (by decide +kernel)
          obtain ⟨_, h78, rfl⟩ := given_fed hg 78 (by decide +kernel)
          obtain ⟨_, h76, rfl⟩ := given_fed hg 76 (by decide +kernel)
          clear hg
          exact st_yield ho (wanted_some rfl rfl h76 rfl) (.bool true) w6 (by simp [execOp, Act.eval, h77, h78, go_sem]) ⟨_, rfl, Below.refl _ _, by rintro t' ⟨⟩; rfl⟩
        | 19, ho =>
          obtain rfl := Option.some.inj ho
          obtain ⟨_, h76, rfl⟩ := given_fed hg 76 (by decide +kernel)
          obtain ⟨_, h79, rfl⟩ := given_fed hg 79 (by decide +kernel)
          clear hg
          exact st_yield ho (wanted_none rfl) (.bool true) w6 (by simp [execOp, Act.eval, h76, h79, go_sem]) ⟨_, rfl, Below.refl _ _, by rintro t' ⟨⟩; rfl⟩
        | 20, ho =>
          obtain rfl := Option.some.inj ho
          obtain ⟨_, h80, rfl⟩ := given_fed hg 80 (by decide +kernel)
          clear hg
          exact st_yield ho (wanted_none rfl) (.bool true) w6 (by simp [execOp, Act.eval, h80, go_sem]) ⟨_, rfl, Below.refl _ _, by rintro t' ⟨⟩; rfl⟩
        | 21, ho =>
          obtain rfl := Option.some.inj ho
          have h11 := given_old hg 11 (by decide +kernel)
          obtain ⟨_, h81, rfl⟩ := given_fed hg 81 (by decide +kernel)
          clear hg
          exact st_yield ho (wanted_some rfl rfl h81 rfl) (.bool true) w6 (by simp [execOp, Act.eval, h11, go_sem]) ⟨_, rfl, Below.refl _ _, by rintro t' ⟨⟩; rfl⟩
        | 22, ho =>
          obtain rfl := Option.some.inj ho
          have h12 := given_old hg 12 (by decide +kernel)
          obtain ⟨_, h81, rfl⟩ := given_fed hg 81 (by decide +kernel)
          clear hg
          exact st_yield ho (wanted_some rfl rfl h81 rfl) (.bool false) w6 (by simp [execOp, Act.eval, h12, go_sem]) ⟨_, rfl, Below.refl _ _, by rintro t' ⟨⟩; rfl⟩
        | 23, ho =>
          obtain rfl := Option.some.inj ho
          obtain ⟨_, h83, rfl⟩ := given_fed hg 83 (by decide +kernel)
          obtain ⟨_, h81, rfl⟩ := given_fed hg 81 (by decide +kernel)
          clear hg
          exact st_yield ho (wanted_some rfl rfl h81 rfl) (.bool true) w6 (by simp [execOp, Act.eval, h83, go_sem]) ⟨_, rfl, Below.refl _ _, by rintro t' ⟨⟩; rfl⟩
        | 24, ho =>
          obtain rfl := Option.some.inj ho
          obtain ⟨_, h82, rfl⟩ := given_fed hg 82 (by decide +kernel)
          obtain ⟨_, h84, rfl⟩ := given_fed hg 84 (by decide +kernel)
          obtain ⟨_, h81, rfl⟩ := given_fed hg 81 (by decide +kernel)
          clear hg
          exact st_yield ho (wanted_some rfl rfl h81 rfl) (.bool true) w6 (by simp [execOp, Act.eval, h82, h84, go_sem]) ⟨_, rfl, Below.refl _ _, by rintro t' ⟨⟩; rfl⟩
        | 25, ho =>
          obtain rfl := Option.some.inj ho
          obtain ⟨_, h81, rfl⟩ := given_fed hg 81 (by decide +kernel)
          obtain ⟨_, h85, rfl⟩ := given_fed hg 85 (by decide +kernel)
          clear hg
          exact st_yield ho (wanted_none rfl) (.bool true) w6 (by simp [execOp, Act.eval, h81, h85, go_sem]) ⟨_, rfl, Below.refl _ _, by rintro t' ⟨⟩; rfl⟩
        | 26, ho =>
          obtain rfl := Option.some.inj ho
          obtain ⟨_, h86, rfl⟩ := given_fed hg 86 (by decide +kernel)
          clear hg
          exact st_yield ho (wanted_none rfl) (.bool true) w6 (by simp [execOp, Act.eval, h86, go_sem]) ⟨_, rfl, Below.refl _ _, by rintro t' ⟨⟩; rfl⟩
        | 27, ho =>
          obtain rfl := Option.some.inj ho
          have h8 := given_old hg 8 (by decide +kernel)
          obtain ⟨_, h87, rfl⟩ := given_fed hg 87 (by decide +kernel)
          clear hg
          exact st_yield ho (wanted_some rfl rfl h87 rfl) (.int .i64 n0) w6 (by simp [execOp, Act.eval, h8, go_sem]) ⟨_, rfl, Below.refl _ _, by rintro t' ⟨⟩; rfl⟩
        | 28, ho =>
          obtain rfl := Option.some.inj ho
          have h1 := given_old hg 1 (by decide +kernel)
          obtain ⟨_, h87, rfl⟩ := given_fed hg 87 (by decide +kernel)
          clear hg
          exact st_yield ho (wanted_some rfl rfl h87 rfl) (.pointer (some ⟨w.heap.size, 1, none⟩)) w6 (by simp [execOp, Act.eval, h1, go_sem]) ⟨_, rfl, Below.refl _ _, by rintro t' ⟨⟩; rfl⟩
        | 29, ho =>
          obtain rfl := Option.some.inj ho
          obtain ⟨_, h89, rfl⟩ := given_fed hg 89 (by decide +kernel)
          obtain ⟨_, h87, rfl⟩ := given_fed hg 87 (by decide +kernel)
          clear hg
          exact st_yield ho (wanted_some rfl rfl h87 rfl) (.int .i64 n0) w6 (by simp [execOp, Act.eval, h89, go_sem, y1]) ⟨_, rfl, Below.refl _ _, by rintro t' ⟨⟩; rfl⟩
        | 30, ho =>
          obtain rfl := Option.some.inj ho
          obtain ⟨_, h88, rfl⟩ := given_fed hg 88 (by decide +kernel)
          obtain ⟨_, h90, rfl⟩ := given_fed hg 90 (by decide +kernel)
          obtain ⟨_, h87, rfl⟩ := given_fed hg 87 (by decide +kernel)
          clear hg
          exact st_yield ho (wanted_some rfl rfl h87 rfl) (.bool true) w6 (by simp [execOp, Act.eval, h88, h90, go_sem]) ⟨_, rfl, Below.refl _ _, by rintro t' ⟨⟩; rfl⟩
        | 31, ho =>
          obtain rfl := Option.some.inj ho
          obtain ⟨_, h87, rfl⟩ := given_fed hg 87 (by decide +kernel)
          obtain ⟨_, h91, rfl⟩ := given_fed hg 91 (by decide +kernel)
          clear hg
          exact st_yield ho (wanted_none rfl) (.bool true) w6 (by simp [execOp, Act.eval, h87, h91, go_sem]) ⟨_, rfl, Below.refl _ _, by rintro t' ⟨⟩; rfl⟩
        | 32, ho =>
          obtain rfl := Option.some.inj ho
          obtain ⟨_, h92, rfl⟩ := given_fed hg 92 (by decide +kernel)
          clear hg
          exact st_yield ho (wanted_none rfl) (.bool true) w6 (by simp [execOp, Act.eval, h92, go_sem]) ⟨_, rfl, Below.refl _ _, by rintro t' ⟨⟩; rfl⟩
        | 33, ho =>
          obtain rfl := Option.some.inj ho
          have h10 := given_old hg 10 (by decide +kernel)
          obtain ⟨_, h93, rfl⟩ := given_fed hg 93 (by decide +kernel)
          clear hg
          exact st_yield ho (wanted_some rfl rfl h93 rfl) (.string q) w6 (by simp [execOp, Act.eval, h10, go_sem]) ⟨_, rfl, Below.refl _ _, by rintro t' ⟨⟩; rfl⟩
        | 34, ho =>
          obtain rfl := Option.some.inj ho
          have h1 := given_old hg 1 (by decide +kernel)
          obtain ⟨_, h93, rfl⟩ := given_fed hg 93 (by decide +kernel)
          clear hg
          exact st_yield ho (wanted_some rfl rfl h93 rfl) (.pointer (some ⟨w.heap.size, 2, none⟩)) w6 (by simp [execOp, Act.eval, h1, go_sem]) ⟨_, rfl, Below.refl _ _, by rintro t' ⟨⟩; rfl⟩
        | 35, ho =>
          obtain rfl := Option.some.inj ho
          obtain ⟨_, h95, rfl⟩ := given_fed hg 95 (by decide +kernel)
          obtain ⟨_, h93, rfl⟩ := given_fed hg 93 (by decide +kernel)
          clear hg
          exact st_yield ho (wanted_some rfl rfl h93 rfl) (.string q) w6 (by simp [execOp, Act.eval, h95, go_sem, y2]) ⟨_, rfl, Below.refl _ _, by rintro t' ⟨⟩; rfl⟩
        | 36, ho =>
          obtain rfl := Option.some.inj ho
          obtain ⟨_, h94, rfl⟩ := given_fed hg 94 (by decide +kernel)
          obtain ⟨_, h96, rfl⟩ := given_fed hg 96 (by decide +kernel)
          obtain ⟨_, h93, rfl⟩ := given_fed hg 93 (by decide +kernel)
          clear hg
          exact st_yield ho (wanted_some rfl rfl h93 rfl) (.bool true) w6 (by simp [execOp, Act.eval, h94, h96, go_sem]) ⟨_, rfl, Below.refl _ _, by rintro t' ⟨⟩; rfl⟩
        | 37, ho =>
          obtain rfl := Option.some.inj ho
          obtain ⟨_, h93, rfl⟩ := given_fed hg 93 (by decide +kernel)
          obtain ⟨_, h97, rfl⟩ := given_fed hg 97 (by decide +kernel)
          clear hg
          exact st_yield ho (wanted_none rfl) (.bool true) w6 (by simp [execOp, Act.eval, h93, h97, go_sem]) ⟨_, rfl, Below.refl _ _, by rintro t' ⟨⟩; rfl⟩
        | 38, ho =>
          obtain rfl := Option.some.inj ho
          obtain ⟨_, h98, rfl⟩ := given_fed hg 98 (by decide +kernel)
          clear hg
          exact st_yield ho (wanted_none rfl) (.bool true) w6 (by simp [execOp, Act.eval, h98, go_sem]) ⟨_, rfl, Below.refl _ _, by rintro t' ⟨⟩; rfl⟩
        | 39, ho =>
          obtain rfl := Option.some.inj ho
          have h7 := given_old hg 7 (by decide +kernel)
          obtain ⟨_, h99, rfl⟩ := given_fed hg 99 (by decide +kernel)
          clear hg
          exact st_yield ho (wanted_some rfl rfl h99 rfl) (.bool false) w6 (by simp [execOp, Act.eval, h7, go_sem]) ⟨_, rfl, Below.refl _ _, by rintro t' ⟨⟩; rfl⟩
        | 40, ho =>
          obtain rfl := Option.some.inj ho
          have h12 := given_old hg 12 (by decide +kernel)
          obtain ⟨_, h99, rfl⟩ := given_fed hg 99 (by decide +kernel)
          clear hg
          exact st_yield ho (wanted_some rfl rfl h99 rfl) (.bool false) w6 (by simp [execOp, Act.eval, h12, go_sem]) ⟨_, rfl, Below.refl _ _, by rintro t' ⟨⟩; rfl⟩
        | 41, ho =>
          obtain rfl := Option.some.inj ho
          obtain ⟨_, h100, rfl⟩ := given_fed hg 100 (by decide +kernel)
          obtain ⟨_, h101, rfl⟩ := given_fed hg 101 (by decide +kernel)
          obtain ⟨_, h99, rfl⟩ := given_fed hg 99 (by decide +kernel)
          clear hg
          exact st_yield ho (wanted_some rfl rfl h99 rfl) (.bool true) w6 (by simp [execOp, Act.eval, h100, h101, go_sem]) ⟨_, rfl, Below.refl _ _, by rintro t' ⟨⟩; rfl⟩
        | 42, ho =>
          obtain rfl := Option.some.inj ho
          obtain ⟨_, h99, rfl⟩ := given_fed hg 99 (by decide +kernel)
          obtain ⟨_, h102, rfl⟩ := given_fed hg 102 (by decide +kernel)
          clear hg
          exact st_yield ho (wanted_none rfl) (.bool true) w6 (by simp [execOp, Act.eval, h99, h102, go_sem]) ⟨_, rfl, Below.refl _ _, by rintro t' ⟨⟩; rfl⟩
        | 43, ho =>
          obtain rfl := Option.some.inj ho
          obtain ⟨_, h103, rfl⟩ := given_fed hg 103 (by decide +kernel)
          clear hg
          exact st_yield ho (wanted_none rfl) (.bool true) w6 (by simp [execOp, Act.eval, h103, go_sem]) ⟨_, rfl, Below.refl _ _, by rintro t' ⟨⟩; rfl⟩
        | 44, ho =>
          obtain rfl := Option.some.inj ho
          have h12 := given_old hg 12 (by decide +kernel)
          obtain ⟨_, h104, rfl⟩ := given_fed hg 104 (by decide +kernel)
          clear hg
          exact st_yield ho (wanted_some rfl rfl h104 rfl) (.bool false) w6 (by simp [execOp, Act.eval, h12, go_sem]) ⟨_, rfl, Below.refl _ _, by rintro t' ⟨⟩; rfl⟩
        | 45, ho =>
          obtain rfl := Option.some.inj ho
          obtain ⟨_, h105, rfl⟩ := given_fed hg 105 (by decide +kernel)
          obtain ⟨_, h104, rfl⟩ := given_fed hg 104 (by decide +kernel)
          clear hg
          exact st_yield ho (wanted_some rfl rfl h104 rfl) (.bool true) w6 (by simp [execOp, Act.eval, h105, go_sem]) ⟨_, rfl, Below.refl _ _, by rintro t' ⟨⟩; rfl⟩
        | 46, ho =>
          obtain rfl := Option.some.inj ho
          obtain ⟨_, h106, rfl⟩ := given_fed hg 106 (by decide +kernel)
          obtain ⟨_, h104, rfl⟩ := given_fed hg 104 (by decide +kernel)
          clear hg
          exact st_yield ho (wanted_some rfl rfl h104 rfl) (.bool true) w6 (by simp [execOp, Act.eval, h106, go_sem]) ⟨_, rfl, Below.refl _ _, by rintro t' ⟨⟩; rfl⟩
        | 47, ho =>
          obtain rfl := Option.some.inj ho
          obtain ⟨_, h107, rfl⟩ := given_fed hg 107 (by decide +kernel)
          clear hg
          exact st_skip ho (wanted_not rfl rfl h107 (by decide)) ⟨_, rfl, Below.refl _ _, by rintro t' ⟨⟩; rfl⟩
        | 48, ho =>
          obtain rfl := Option.some.inj ho
          obtain ⟨_, h107, rfl⟩ := given_fed hg 107 (by decide +kernel)
          clear hg
          exact st_skip ho (wanted_not rfl rfl h107 (by decide)) ⟨_, rfl, Below.refl _ _, by rintro t' ⟨⟩; rfl⟩
        | 49, ho =>
          obtain rfl := Option.some.inj ho
          obtain ⟨_, h107, rfl⟩ := given_fed hg 107 (by decide +kernel)
          clear hg
          exact st_skip ho (wanted_not rfl rfl h107 (by decide)) ⟨_, rfl, Below.refl _ _, by rintro t' ⟨⟩; rfl⟩
        | 50, ho =>
          obtain rfl := Option.some.inj ho
          obtain ⟨_, h107, rfl⟩ := given_fed hg 107 (by decide +kernel)
          clear hg
          exact st_skip ho (wanted_not rfl rfl h107 (by decide)) ⟨_, rfl, Below.refl _ _, by rintro t' ⟨⟩; rfl⟩
        | 51, ho =>
          obtain rfl := Option.some.inj ho
          obtain ⟨_, h107, rfl⟩ := given_fed hg 107 (by decide +kernel)
          obtain ⟨_, h111, rfl⟩ := given_fed hg 111 (by decide +kernel)
          obtain ⟨_, h104, rfl⟩ := given_fed hg 104 (by decide +kernel)
          clear hg
          exact st_yield ho (wanted_some rfl rfl h104 rfl) (.bool true) w6 (by simp [execOp, Act.eval, h107, h111, go_sem]) ⟨_, rfl, Below.refl _ _, by rintro t' ⟨⟩; rfl⟩
        | 52, ho =>
          obtain rfl := Option.some.inj ho
          obtain ⟨_, h104, rfl⟩ := given_fed hg 104 (by decide +kernel)
          obtain ⟨_, h112, rfl⟩ := given_fed hg 112 (by decide +kernel)
          clear hg
          exact st_yield ho (wanted_none rfl) (.bool true) w6 (by simp [execOp, Act.eval, h104, h112, go_sem]) ⟨_, rfl, Below.refl _ _, by rintro t' ⟨⟩; rfl⟩
        | 53, ho =>
          obtain rfl := Option.some.inj ho
          obtain ⟨_, h113, rfl⟩ := given_fed hg 113 (by decide +kernel)
          clear hg
          exact st_yield ho (wanted_none rfl) (.bool true) w6 (by simp [execOp, Act.eval, h113, go_sem]) ⟨_, rfl, Below.refl _ _, by rintro t' ⟨⟩; rfl⟩
        | n + 54, ho => simp at ho
      · intro f w6 hb6 hv
        have h2 := hv 2 (by simp)
        clear hv
        simp only [VAf] at h2
        unfold putAll
        simp only [List.foldl]
        go_simp
        go_wp2
        go_ret
        exact ⟨rfl, hbb.trans (hb6.mono hbb.size)⟩

/-! ### THE ROW -/
set_option maxRecDepth 100000 in
theorem lifted (os : Os) (started : os.Started) (H : Type) (enc : TypeId × Value → H) :
    ReturnsInHanded {} Try.checked os 3 .any (Rows.valueAllSpec.pre6 enc Try.prog Try.f3 Rows.valueAllRow.domain false) (Rows.valueAllSpec.post enc Try.prog Try.f3 false true false false) := by
  refine returnsInHanded_of_change (C := Try.checked) own started (by kernel_rfl) Try.func3
    (ChangeSpec.witness6 (enc := enc) (C := Try.checked) false ⟨#[], #[.agg #[.int .i64 0, .int .i64 0, .string ByteArray.empty]], []⟩ 8 (by kernel_rfl) (by kernel_rfl) (by kernel_rfl) (by kernel_rfl)) ?_
  intro W base args ds gs before hval0 hW hcnd _
  have hval : ∀ (j : Nat) t v, Try.f3.params[j]? = some t → args[j]? = some v → Value.okWide Try.prog W .any base t v := hval0
  have hW' := hW
  obtain ⟨p, q, hA0, hV, rfl, hfz, hnd⟩ := hW
  have hA : DataW.TrodAll enc Try.prog W 0 (fun _ => true) true Try.f3.params.toList args.toList ds p := hA0
  rw [Try.params3] at hA hval
  obtain ⟨v0, vs0, d0, ds0, p0, q0, hargs, rfl, rfl, h0, r0⟩ := trodAll_cons hA
  obtain ⟨rfl, rfl, rfl⟩ := trodAll_nil r0
  obtain rfl : args = #[v0] := by cases args; simp_all
  obtain ⟨rfl, rfl⟩ := trodVars_none hV
  have kk0 := h0
  have lt0 : ∀ x ∈ p0, x.block < W.heap.size := by obtain ⟨m, hm⟩ := kk0; exact DataW.trod_lt m _ _ _ hm
  obtain ⟨k0, n0, s0, rfl, wk0, wn0, ws0⟩ := open_raw (hval 0 23 v0 rfl rfl) h0
  clear hA0 hval0
  refine (walk W k0 n0 s0 wk0 wn0 ws0).mono fun e W' ⟨he, bel⟩ => ?_
  subst he
  exact ⟨_, rfl, _, _, _, [], _, [], hW', trodAll_mk1 (shut_bool Try.underlying4 _), (trodAll_cons_mk (Below.trod laidOut (by kernel_rfl) (of_decide_eq_true (by kernel_rfl)) kk0 bel lt0) trodAll_mk0), rfl, bel.frame _, fun h => by cases h⟩

theorem over : Rows.valueAllRow.holds Try.pinned (OpenSpec.ofChange Rows.valueAllSpec) :=
  OpenClaim.holds_of_wide 3 Try.f3 rfl rfl rfl rfl rfl rfl rfl ⟨rfl, rfl, rfl, rfl, rfl⟩ rfl rfl rfl rfl rfl (by kernel_rfl) Try.func3 (by kernel_rfl)
    (of_decide_eq_true (by kernel_rfl)) (by unfold Func.isWrapper; first | (rw [if_pos (by decide +kernel)]; kernel_rfl) | (rw [if_neg (by decide +kernel)]; exact ⟨rfl, rfl⟩))
    (fun os started H enc _ => lifted os started H enc)

theorem proved : Rows.ValueAllSaid := over
#print axioms proved
end Go.Proofs.Ytpelcnehndlinaa.valueAll
