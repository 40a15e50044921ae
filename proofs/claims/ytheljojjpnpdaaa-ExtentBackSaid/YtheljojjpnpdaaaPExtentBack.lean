/- ExtentBack: all that was taken, given back in any order, is one row again: for every input the law returns true. -/
import Derived.Test.YtheljojjpnpdaaaRows
import Derived.WalkKit
import Derived.ProofKit
import Derived.OpenShut
import Derived.ShutString
import Derived.ChangeOld
import Derived.Below
import Derived.Test.YtheljojjpnpdaaaExtR
import Derived.Test.YtheljojjpnpdaaaRow
namespace Go.Proofs.Ytheljojjpnpdaaa.extentBack
open Go.ChangeShapes Go.WideShapes Go.ChangeAt Go.RowKit
open Go.ChangeMaps (open_string shut_string)
set_option linter.unusedVariables false

theorem own : ownKnob Try.prog.godebug = none := by kernel_rfl
theorem laidOut : laidOutB Try.prog = true := by kernel_rfl

/-- WHAT THE WALK IS TOLD OF A SLICE OF INTEGERS THAT CAME IN: it is nil; or it leads to a row of 'cap' cells, the numbers 'zs' (the first 'len' are its elements, the rest its spare room), each fitting its kind. -/
def IsRow (k : IntKind) (w : World) (a : Option Addr) (len cap : Nat) (zs : List Int) : Prop :=
  (a = none ∧ len = 0 ∧ cap = 0 ∧ zs = []) ∨
  ∃ x, a = some x ∧ len ≤ cap ∧ cap ≤ maxLen ∧ zs.length = cap ∧ (∀ i, i < zs.length → w.cell? (x.add i) = some (.int k (zs.getD i 0))) ∧ ∀ n ∈ zs, (Lit.int k n).wf = true

theorem modN (z : Int) (N : Nat) (h0 : 0 < N) (hN : N ≤ 1000000) (h1 : -9223372036854775808 ≤ z) (h2 : z ≤ 9223372036854775807) : (wrap64 (z.tmod (N : Int) + (N : Int))).tmod (N : Int) = z % (N : Int) := by
  have hN1 : (0 : Int) < (N : Int) := by omega
  have h : z.tmod (N : Int) = z % (N : Int) ∨ z.tmod (N : Int) = -((-z) % (N : Int)) := by
    by_cases h0 : 0 ≤ z
    · exact .inl (Int.tmod_eq_emod_of_nonneg h0)
    · right
      have h3 := Int.neg_tmod (-z) (N : Int)
      rw [Int.neg_neg] at h3
      rw [h3, Int.tmod_eq_emod_of_nonneg (by omega)]
  have b1 := Int.emod_nonneg z (Int.ne_of_gt hN1)
  have b2 := Int.emod_lt_of_pos z hN1
  have b3 := Int.emod_nonneg (-z) (Int.ne_of_gt hN1)
  have b4 := Int.emod_lt_of_pos (-z) hN1
  have hw : wrap64 (z.tmod (N : Int) + (N : Int)) = z.tmod (N : Int) + (N : Int) := by
    unfold wrap64
    omega
  have b5 : 0 ≤ z.tmod (N : Int) + (N : Int) := by omega
  rw [hw, Int.tmod_eq_emod_of_nonneg b5, Int.add_emod_right]
  rcases h with h | h
  · rw [h, Int.emod_emod_of_dvd _ (Int.dvd_refl _)]
  · have h3 := Int.neg_tmod (-z) (N : Int)
    rw [Int.neg_neg] at h3
    have := Int.mul_tdiv_add_tmod z (N : Int)
    have e : z % (N : Int) = (z.tmod (N : Int)) % (N : Int) := by
      conv => lhs; rw [← this]
      rw [Int.add_comm, Int.add_mul_emod_self_left]
    exact e.symm
/-- Does a span of L hold k? -/
def covL (L : List (Nat × Nat)) (k : Nat) : Bool := L.any fun s => decide (s.1 ≤ k ∧ k < s.1 + s.2)
/-- What is free while L is out. -/
def gL (L : List (Nat × Nat)) : Nat → Bool := fun k => iv 5 205 k && !covL L k
structure Held (L : List (Nat × Nat)) : Prop where
  each : ∀ s ∈ L, 0 < s.2 ∧ 5 ≤ s.1 ∧ s.1 + s.2 ≤ 205
  apart : L.Pairwise fun x y => x.1 + x.2 ≤ y.1 ∨ y.1 + y.2 ≤ x.1
theorem covL_append (L M : List (Nat × Nat)) (k : Nat) : covL (L ++ M) k = (covL L k || covL M k) := by unfold covL; rw [List.any_append]
theorem covL_one (s : Nat × Nat) (k : Nat) : covL [s] k = decide (s.1 ≤ k ∧ k < s.1 + s.2) := by simp [covL]
theorem gL_nil : gL [] = iv 5 205 := by funext k; simp [gL, covL]
theorem gL_take {L : List (Nat × Nat)} {p m : Nat} (hp : 5 ≤ p) (h : gL L = iv p 205) (hm : p + m ≤ 205) : gL (L ++ [(p, m)]) = iv (p + m) 205 := by
  funext k
  have e := congrFun h k
  unfold gL at e ⊢
  rw [covL_append, covL_one, Bool.not_or, ← Bool.and_assoc, e]
  simp only []
  unfold iv
  by_cases h1 : p ≤ k ∧ k < 205
  · by_cases h2 : p + m ≤ k
    · rw [decide_eq_true h1, decide_eq_true (p := p + m ≤ k ∧ k < 205) ⟨h2, h1.2⟩, decide_eq_false (p := p ≤ k ∧ k < p + m) (by omega)]
      rfl
    · rw [decide_eq_true h1, decide_eq_false (p := p + m ≤ k ∧ k < 205) (by omega), decide_eq_true (p := p ≤ k ∧ k < p + m) (by omega)]
      rfl
  · rw [decide_eq_false h1, decide_eq_false (p := p + m ≤ k ∧ k < 205) (by omega)]
    rfl
theorem Held.take {L : List (Nat × Nat)} {p m : Nat} (h : Held L) (hp : 5 ≤ p) (hm0 : 0 < m) (hm : p + m ≤ 205) (hl : ∀ s ∈ L, s.1 + s.2 ≤ p) : Held (L ++ [(p, m)]) := by
  refine ⟨fun s hs => ?_, ?_⟩
  · rcases List.mem_append.1 hs with hs | hs
    · exact h.each s hs
    · simp only [List.mem_singleton] at hs
      subst hs
      exact ⟨hm0, hp, hm⟩
  · rw [List.pairwise_append]
    refine ⟨h.apart, List.pairwise_singleton _ _, fun x hx y hy => ?_⟩
    simp only [List.mem_singleton] at hy
    subst hy
    exact .inl (hl x hx)
theorem Held.less {A B : List (Nat × Nat)} {s : Nat × Nat} (h : Held (A ++ s :: B)) : Held (A ++ B) := by
  refine ⟨fun x hx => h.each x ?_, ?_⟩
  · rcases List.mem_append.1 hx with hx | hx
    · exact List.mem_append_left _ hx
    · exact List.mem_append_right _ (List.mem_cons_of_mem _ hx)
  · have := h.apart
    rw [List.pairwise_append] at this ⊢
    obtain ⟨h1, h2, h3⟩ := this
    rw [List.pairwise_cons] at h2
    exact ⟨h1, h2.2, fun x hx y hy => h3 x hx y (List.mem_cons_of_mem _ hy)⟩
theorem Held.free {A B : List (Nat × Nat)} {s : Nat × Nat} (h : Held (A ++ s :: B)) {k : Nat} (h1 : s.1 ≤ k) (h2 : k < s.1 + s.2) : covL (A ++ B) k = false := by
  have hp := h.apart
  rw [List.pairwise_append, List.pairwise_cons] at hp
  obtain ⟨-, ⟨hp2, -⟩, hp3⟩ := hp
  unfold covL
  rw [List.any_eq_false]
  intro x hx
  simp only [decide_eq_true_eq]
  rintro ⟨q1, q2⟩
  rcases List.mem_append.1 hx with hx | hx
  · rcases hp3 x hx s (by simp) with h3 | h3 <;> omega
  · rcases hp2 x hx with h3 | h3 <;> omega
theorem gL_out {A B : List (Nat × Nat)} {s : Nat × Nat} {k : Nat} (h1 : s.1 ≤ k) (h2 : k < s.1 + s.2) : gL (A ++ s :: B) k = false := by
  unfold gL covL
  rw [List.any_append, List.any_cons, decide_eq_true (p := s.1 ≤ k ∧ k < s.1 + s.2) ⟨h1, h2⟩]
  simp
theorem gL_in {A B : List (Nat × Nat)} {s : Nat × Nat} (h : Held (A ++ s :: B)) {k : Nat} (h1 : s.1 ≤ k) (h2 : k < s.1 + s.2) : gL (A ++ B) k = true := by
  obtain ⟨-, e1, e2⟩ := h.each s (by simp)
  unfold gL
  rw [h.free h1 h2, iv_in (by omega) (by omega)]
  rfl
theorem gL_give {A B : List (Nat × Nat)} {s : Nat × Nat} (h : Held (A ++ s :: B)) : setF (gL (A ++ s :: B)) s.1 s.2 true = gL (A ++ B) := by
  funext k
  by_cases h1 : s.1 ≤ k ∧ k < s.1 + s.2
  · rw [setF_in h1.1 h1.2, gL_in h h1.1 h1.2]
  · rw [setF_out (by omega)]
    unfold gL covL
    rw [List.any_append, List.any_cons, List.any_append, decide_eq_false (p := s.1 ≤ k ∧ k < s.1 + s.2) h1]
    simp
theorem gL_no {A B : List (Nat × Nat)} {s : Nat × Nat} (h : Held (A ++ s :: B)) : ¬ mayTurn (gL (A ++ B)) 5 200 (s.1 : Int) (s.2 : Int) true := by
  rintro ⟨h1, -, -, h2⟩
  have := h2 s.1 (Int.le_refl _) (by omega)
  rw [gL_in h (Nat.le_refl _) (by omega)] at this
  cases this
def sliceLen : Value → Nat
  | .slice _ n _ => n
  | _ => 0
theorem load_x (l : List (Nat × Nat)) (k : Nat) (hk : k < l.length) : l = l.take k ++ l[k] :: l.drop (k + 1) := by simp

def VE (b o N uc k : Nat) (D : Int) (A M : List (Nat × Nat)) : Nat → World → Value → Prop
  | 83, _, v => v = .slice (some ⟨b, o, none⟩) N uc
  | 84, _, v => v = .int .i64 (k : Int)
  | 85, _, v => v = .int .i64 (k : Int)
  | 86, _, v => v = .slice (some ⟨b, o, none⟩) k k
  | 87, _, v => v = .slice (some ⟨b, o, none⟩) N uc
  | 88, _, v => v = .int .i64 (k : Int)
  | 89, _, v => v = .int .i64 D
  | 90, w, v => RS w v M
  | 91, w, v => RS w v (A ++ M)
  | 7, w, v => RS w v (A ++ M)
  | _, _, _ => True

theorem VE_below (b o N uc k : Nat) (D : Int) (A M : List (Nat × Nat)) : ∀ (i : Nat) (w w' : World) (v : Value), VE b o N uc k D A M i w v → Below w.heap.size w w' → VE b o N uc k D A M i w' v := by
  intro i w w' v h hb
  unfold VE at h ⊢
  split at h <;> first | exact h | trivial | exact RS.below h hb

set_option maxHeartbeats 2000000 in
set_option maxRecDepth 100000 in
theorem walk (a0 : Option Addr) (len0 cap0 : Nat) (z0 : List Int) (a1 : Option Addr) (len1 cap1 : Nat) (z1 : List Int) (w : World) (w0 : IsRow .i64 w a0 len0 cap0 z0) (w1 : IsRow .i64 w a1 len1 cap1 z1) :
    Calls Try.prog 4 #[.slice a0 len0 cap0, .slice a1 len1 cap1] w fun e w' => e = .returned (.bool true) ∧ Below w.heap.size w w' := by
  obtain ⟨X, hX0, hX, hX63, hXf⟩ := rv_of_row w0
  obtain ⟨Y, hY0, hY, hY63, hYf⟩ := rv_of_row w1
  clear w0 w1
  have HX := Go.Lib.hid hX
  have HX0 := Go.Lib.hid hX0
  have HXf := Go.Lib.hid hXf
  have HY := Go.Lib.hid hY
  have HY0 := Go.Lib.hid hY0
  have HYf := Go.Lib.hid hYf
  clear hX hX0 hXf hY hY0 hYf
  go_enter Try.func4, Try.ntmps4
  go_wp2_with fail
  refine (begun_c _).mono ?_
  rintro e w2 ⟨rfl, k2⟩
  have C1 := Go.Lib.hid (new_q w2 5 200 5 200 (iv 5 205) rfl rfl (by decide) (by decide) rfl)
  have K2 := Go.Lib.hid k2; clear k2
  go_wp2_with fail
  refine C1.out.mono ?_
  rintro e w3 ⟨r, v, rfl, hr3, hb3⟩
  have HR3 := Go.Lib.hid (hr3.mono K2.out.size)
  have HB3 := Go.Lib.hid (below_on K2.out hb3)
  clear C1 hr3 hb3 K2
  go_wp2_with fail
  go_loopw [7, 8] (fun lv iv' wr => ∃ (i p : Nat) (u : Value) (L : List (Nat × Nat)), u = lv ∧ i ≤ 30 ∧ i ≤ len0 ∧ iv' = .int .i64 (i : Int) ∧ OwnS wr w.heap.size u L ∧ Hid (L.length ≤ i) ∧ Hid (5 ≤ p ∧ p ≤ 205) ∧ Hid (Held L) ∧ Hid (∀ s ∈ L, s.1 + s.2 ≤ p) ∧ Hid (gL L = iv p 205) ∧ RM wr w.heap.size r 5 200 v (iv p 205) ∧ Below w.heap.size w wr) (fun _ iv' _ => 30 - (intOf iv').toNat)
  case atStart => exact ⟨0, 5, _, [], rfl, by omega, by omega, rfl, OwnS.nil _ _, Go.Lib.hid (by simp), Go.Lib.hid (by omega), Go.Lib.hid ⟨fun s hs => by simp at hs, List.Pairwise.nil⟩, Go.Lib.hid (fun s hs => by simp at hs), Go.Lib.hid gL_nil, HR3.out, HB3.out⟩
  case round =>
    obtain ⟨i, p, u, L, rfl, hi30, hil, rfl, hown, hLi, hp, hH, hend, hgL, hr, hb⟩ := hrel
    clear HR3 HB3
    by_cases hin : i < len0 ∧ i < 30
    · obtain ⟨hi2, hi⟩ := hin
      have hiI : (i : Int) < (len0 : Int) := by omega
      have hiI2 : (i : Int) < 30 := by omega
      obtain ⟨b, o, rfl, hc, hbl⟩ := HX.out.at i (by rw [List.length_map, HX0.out]; exact hi2)
      rw [List.getElem_map] at hc
      have hz := HXf.out (X[i]'(by rw [HX0.out]; exact hi2)) (List.getElem_mem _)
      obtain ⟨z, hzd⟩ : ∃ z, z = X[i]'(by rw [HX0.out]; exact hi2) := ⟨_, rfl⟩
      rw [← hzd] at hc hz
      have hc := (hb.cell (p := ⟨b, o + i, none⟩) hbl).trans hc
      have hzb := bounds_i64 hz
      obtain ⟨q, hq⟩ : ∃ q : Nat, (q : Int) = z % 20 := ⟨(z % 20).toNat, by omega⟩
      have hmod : (wrap64 (z.tmod 20 + 20)).tmod 20 = (q : Int) := by
        have := modN z 20 (by decide) (by decide) (by omega) (by omega)
        rw [show ((20 : Nat) : Int) = 20 from rfl] at this
        rw [this, hq]
      have hq20 : q < 20 := by omega
      obtain ⟨m, hm⟩ : ∃ m, m = q + 1 := ⟨_, rfl⟩
      have hm1 : IntKind.i64.wrap (1 + (q : Int)) = (m : Int) := by rw [IntKind.wrap_i64, hm]; omega
      have hmr := Go.Lib.hid (show 0 < m ∧ m ≤ 20 by omega)
      have HR := Go.Lib.hid hr
      have HB := Go.Lib.hid hb
      have HO := Go.Lib.hid hown
      have HI := Go.Lib.hid hi
      have HI2 := Go.Lib.hid hi2
      clear hzd hz hq hm hq20 hzb hil hi30 hi hi2 hbl hb hown
      by_cases hpm : p + m ≤ 205
      · have C2 := Go.Lib.hid (take_q hr m (m : Int) (p : Int) (p, 205 - p) (iv (p + m) 205) rfl rfl hmr.out.1 (iv_fit (Nat.le_refl _) hpm hmr.out.1) (iv_take hpm))
        have HP := Go.Lib.hid hpm
        clear hr hpm
        go_wp2_with fail
        refine C2.out.mono ?_
        rintro e w4 ⟨rfl, hr4, hg4⟩
        have hb4 := below_gr HB.out HR.out hg4
        have ho4 : OwnS w4 w.heap.size u L := by
          refine HO.out.kept hg4 ?_
          rcases HO.out.2 with ⟨e, -⟩ | ⟨g, cap, cur, e, -, hg2, -⟩
          · rw [e]; exact .inl rfl
          · rw [e]
            exact .inr (HR.out.notBlk hg2 (by decide))
        have hal := below_alloc w4 (.cells #[.int .i64 (p : Int), .int .i64 (m : Int)] 30)
        have hal2 := below_on hal (below_alloc (w4.alloc (.cells #[.int .i64 (p : Int), .int .i64 (m : Int)] 30)) (.cells #[.int .i64 (p : Int), .int .i64 (m : Int)] 30))
        have hk5 := heap_alloc_new (w4.alloc (.cells #[.int .i64 (p : Int), .int .i64 (m : Int)] 30)) (.cells #[.int .i64 (p : Int), .int .i64 (m : Int)] 30)
        rw [show (w4.alloc (.cells #[.int .i64 (p : Int), .int .i64 (m : Int)] 30)).heap.size = w4.heap.size + 1 from by simp] at hk5
        have N0 := Go.Lib.hid (show ((w4.alloc (.cells #[.int .i64 (p : Int), .int .i64 (m : Int)] 30)).alloc (.cells #[.int .i64 (p : Int), .int .i64 (m : Int)] 30)).cell? ⟨w4.heap.size + 1, 0, none⟩ = some (.int .i64 ((p, m).1 : Int)) from by rw [cell_of_row _ _ 0 _ _ _ hk5]; rfl)
        have N1 := Go.Lib.hid (show ((w4.alloc (.cells #[.int .i64 (p : Int), .int .i64 (m : Int)] 30)).alloc (.cells #[.int .i64 (p : Int), .int .i64 (m : Int)] 30)).cell? ⟨w4.heap.size + 1, 1, none⟩ = some (.int .i64 ((p, m).2 : Int)) from by rw [cell_of_row _ _ 1 _ _ _ hk5]; rfl)
        have HO5 := Go.Lib.hid (ho4.below hal2)
        have HR5 := Go.Lib.hid (hr4.below hal2)
        have HB5 := Go.Lib.hid (below_on hb4 hal2)
        have HLn := Go.Lib.hid (show L.length ≤ 100000 by have := hLi.out; have := HI.out; omega)
        clear hr4 hg4 hb4 ho4 hal hal2 hk5 C2 HR HB HO
        go_wp2_with (first
          | (with_reducible show wpList _ _ _ (⟨some 45, _, _, _, _, _⟩ :: _) _ _; go_loud (refine wpList_append_span rfl (.tmp 42) (.tmp 44) rfl w.heap.size u L (w4.heap.size + 1) (p, m) rfl rfl HO5.out N0.out N1.out HLn.out HB5.out.size ?_); intro v6 w6 hown6 hg6; have HR6 := Go.Lib.hid (HR5.out.keptS HO5.out hg6); have HB6 := Go.Lib.hid (HB5.out.grown hg6 HB5.out.size HO5.out.row); clear hg6)
          | fail)
        go_roundw
        case rel => exact ⟨i + 1, p + m, _, _, rfl, by have := HI.out; omega, by have := HI2.out; omega, by go_num, hown6, Go.Lib.hid (by rw [List.length_append]; have := hLi.out; simp; omega), Go.Lib.hid (by have := HP.out; have := hp.out; omega), Go.Lib.hid (hH.out.take hp.out.1 hmr.out.1 HP.out hend.out), Go.Lib.hid (fun s hs => by
            rcases List.mem_append.1 hs with hs | hs
            · have := hend.out s hs; omega
            · simp only [List.mem_singleton] at hs; subst hs; exact Nat.le_refl _), Go.Lib.hid (gL_take hp.out.1 hgL.out HP.out), HR6.out, HB6.out⟩
        case measure => simp only [intOf]; have := HI.out; omega
      · have C2 := Go.Lib.hid (takeno_q hr m (m : Int) rfl hmr.out.1 (iv_fit_none (Nat.le_refl _) (by omega) hmr.out.1))
        clear hr hpm
        go_wp2_with fail
        refine C2.out.mono ?_
        rintro e w4 ⟨rfl, hb4⟩
        have hal := below_on hb4 (below_alloc w4 (.cells #[.int .i64 0, .int .i64 0] 30))
        have HO5 := Go.Lib.hid (HO.out.below hal)
        have HR5 := Go.Lib.hid (HR.out.below hal)
        have HB5 := Go.Lib.hid (below_on HB.out hal)
        clear hb4 hal C2 HR HB HO
        go_wp2_with fail
        go_roundw
        case rel => exact ⟨i + 1, p, _, _, rfl, by have := HI.out; omega, by have := HI2.out; omega, by go_num, HO5.out, Go.Lib.hid (by have := hLi.out; omega), hp, hH, hend, hgL, HR5.out, HB5.out⟩
        case measure => simp only [intOf]; have := HI.out; omega
    · have hnin : ¬ ((i : Int) < (len0 : Int) ∧ (i : Int) < 30) := by omega
      have HO := Go.Lib.hid (RS.ofOwn hown)
      have HR := Go.Lib.hid (show RM wr w.heap.size r 5 200 v (gL L) by rw [hgL.out]; exact hr)
      have HB := Go.Lib.hid hb
      have HLn := Go.Lib.hid (show L.length ≤ 30 by have := hLi.out; omega)
      clear hown hr hb hend hgL hp hin
      go_upto_region 7 with (fail)
      go_cut [25] (fun xv wx => xv = .bool false ∧ wx = wr)
      case first =>
        by_cases hi2 : (i : Int) < (len0 : Int)
        · have hi : ¬ (i : Int) < 30 := fun h => hnin ⟨hi2, h⟩
          clear hnin
          go_wp2_with fail
          go_meet
          exact ⟨rfl, rfl⟩
        · clear hnin
          go_wp2_with fail
          go_meet
          exact ⟨rfl, rfl⟩
      case rest =>
        obtain ⟨rfl, rfl⟩ := hcut
        clear hi30 hil hnin hLi
        go_wp2_with fail
        go_loopw [7, 11] (fun lv iv' wr => ∃ (i : Nat) (u : Value) (L : List (Nat × Nat)), u = lv ∧ iv' = .int .i64 (i : Int) ∧ Hid (i + L.length ≤ 30) ∧ Hid (RS wr u L) ∧ Hid (Held L) ∧ Hid (RM wr w.heap.size r 5 200 v (gL L)) ∧ Hid (Below w.heap.size w wr)) (fun lv _ _ => sliceLen lv)
        case atStart => exact ⟨0, _, L, rfl, rfl, Go.Lib.hid (by have := HLn.out; omega), HO, hH, HR, HB⟩
        case round =>
          clear HO HR HB HLn hH
          obtain ⟨i, u, L, rfl, rfl, hi30, hRS, hH, hR, hB⟩ := hrel
          by_cases hN : 0 < L.length
          · obtain ⟨ua, uc, rfl⟩ := hRS.out.form
            obtain ⟨b, o, rfl, -, hNc, hcm, -, -⟩ := hRS.out.at 0 hN
            obtain ⟨N, hNd⟩ : ∃ N, N = L.length := ⟨_, rfl⟩
            rw [← hNd] at hN hNc hRS hi30 ⊢
            have HNd := Go.Lib.hid hNd
            have hNI : (0 : Int) < (N : Int) := by omega
            have hN30 := Go.Lib.hid (show N ≤ 30 by have := hi30.out; omega)
            have HNc := Go.Lib.hid hNc
            clear hNd hcm hNc
            go_upto_if 54 with (fail)
            go_cut [12] (fun kv wx => ∃ k : Nat, Hid (k < N) ∧ kv = .int .i64 (k : Int) ∧ wx = wr)
            case first =>
              by_cases hi : i < len1
              · have hiI : (i : Int) < (len1 : Int) := by omega
                obtain ⟨b1, o1, rfl, hc, hbl⟩ := HY.out.at i (by rw [List.length_map, HY0.out]; exact hi)
                rw [List.getElem_map] at hc
                have hz := HYf.out (Y[i]'(by rw [HY0.out]; exact hi)) (List.getElem_mem _)
                obtain ⟨z, hzd⟩ : ∃ z, z = Y[i]'(by rw [HY0.out]; exact hi) := ⟨_, rfl⟩
                rw [← hzd] at hc hz
                have hc := (hB.out.cell (p := ⟨b1, o1 + i, none⟩) hbl).trans hc
                have hzb := bounds_i64 hz
                have hz0 := Int.emod_nonneg z (show (N : Int) ≠ 0 by omega)
                have hz1 := Int.emod_lt_of_pos z hNI
                obtain ⟨k, hk⟩ : ∃ k : Nat, (k : Int) = z % (N : Int) := ⟨(z % (N : Int)).toNat, by omega⟩
                have hmod : (wrap64 (z.tmod (N : Int) + (N : Int))).tmod (N : Int) = (k : Int) := by rw [modN z N hN (by have := hN30.out; omega) (by omega) (by omega), hk]
                have HK := Go.Lib.hid (show k < N by omega)
                have hNz : ((N : Int) == 0) = false := by simp; omega
                have hNz2 : ¬ (N : Int) = 0 := by omega
                clear hzd hz hzb hz0 hz1 hk hbl
                go_wp2_with fail
                go_meet
                exact ⟨k, HK, rfl, rfl⟩
              · have HK := Go.Lib.hid (show 0 < N from hN)
                go_wp2_with fail
                go_meet
                exact ⟨0, HK, rfl, rfl⟩
            case rest =>
              obtain ⟨k, hk, rfl, rfl⟩ := hcut
              have hkL : k < L.length := by rw [← HNd.out]; exact hk.out
              obtain ⟨x, hx⟩ : ∃ x, x = L[k] := ⟨_, rfl⟩
              obtain ⟨A, hA⟩ : ∃ A, A = L.take k := ⟨_, rfl⟩
              obtain ⟨M, hM⟩ : ∃ M, M = L.drop (k + 1) := ⟨_, rfl⟩
              have hsplit : L = A ++ x :: M := by rw [hA, hM, hx]; exact load_x L k hkL
              obtain ⟨_, _, e', -, -, -, e0, e1⟩ := hRS.out.at k hkL
              cases e'
              rw [← hx] at e0 e1
              have hH2 := hH.out
              rw [hsplit] at hH2
              obtain ⟨g1, g2, g3⟩ := hH2.each x (by simp)
              have hr := hR.out
              rw [hsplit] at hr
              have C5 := Go.Lib.hid (give_q hr x.1 x.2 (x.1 : Int) (x.2 : Int) (gL (A ++ M)) rfl rfl g1 g2 (by omega) (fun j j1 j2 => gL_out j1 j2) (gL_give hH2))
              have HRr := Go.Lib.hid hr
              have H2 := Go.Lib.hid hH2
              have HS := Go.Lib.hid hsplit
              have hkI : (k : Int) < (N : Int) := by have := hk.out; omega
              have HX1 := Go.Lib.hid hx
              have HA1 := Go.Lib.hid hA
              have HM1 := Go.Lib.hid hM
              have HG := Go.Lib.hid (show x.1 ≤ 205 ∧ x.2 ≤ 205 by omega)
              clear hr hH2 hsplit hR g1 g2 g3 hx hA hM
              go_wp2_with fail
              refine C5.out.mono ?_
              rintro e w5 ⟨rfl, hr5, hg5⟩
              have HRS5 := Go.Lib.hid (hRS.out.kept HRr.out hg5)
              have HB5 := Go.Lib.hid (below_gr hB.out HRr.out hg5)
              have C6 := Go.Lib.hid (giveno_q hr5 (x.1 : Int) (x.2 : Int) (by have := HG.out; omega) (by have := HG.out; omega) (gL_no H2.out))
              have HR5 := Go.Lib.hid hr5
              obtain ⟨_, _, e', -, -, -, e0, e1⟩ := HRS5.out.at k hkL
              cases e'
              rw [← HX1.out] at e0 e1
              clear hr5 hg5 C5 HRr hB hRS
              go_wp2_with fail
              refine C6.out.mono ?_
              rintro e wz ⟨rfl, hbz⟩
              have HRS6 := Go.Lib.hid (HRS5.out.below hbz)
              have HB6 := Go.Lib.hid (below_on HB5.out hbz)
              have HR6 := Go.Lib.hid (HR5.out.below hbz)
              clear hbz C6 HRS5 HB5 HR5 e0 e1
              obtain ⟨D, hD⟩ : ∃ D : Int, D = (k : Int) + 1 := ⟨_, rfl⟩
              have kD : IntKind.i64.wrap ((k : Int) + 1) = D := by rw [hD, IntKind.wrap_i64]; have := hk.out; have := hN30.out; omega
              obtain ⟨xv, hxv⟩ : ∃ xv, xv = sliced (some ⟨b, o, none⟩) (k + 1) N uc 2 := ⟨_, rfl⟩
              have q1 := cutS_l (some ⟨b, o, none⟩) N uc (k + 1) hk.out
              rw [← hxv, show ((k + 1 : Nat) : Int) = D by rw [hD]; rfl] at q1
              have q2 := cutS_hm b o N uc k (by have := hk.out; have := HNc.out; omega)
              have HXV := Go.Lib.hid (show ∀ W, RS W (.slice (some ⟨b, o, none⟩) N uc) L → RS W xv M from fun W h => by rw [hxv, HM1.out]; exact h.drop (k + 1) (by omega))
              have HAV := Go.Lib.hid (show ∀ W, RS W (.slice (some ⟨b, o, none⟩) N uc) L → RS W (.slice (some ⟨b, o, none⟩) k k) A from fun W h => by rw [HA1.out]; exact h.first k (by omega))
              have HLen := Go.Lib.hid (show A.length + M.length + 1 = N by have h1 := congrArg List.length HS.out; rw [HNd.out, h1]; simp; omega)
              have HLn := Go.Lib.hid (show A.length + M.length ≤ 100000 by have h1 := HLen.out; have := hN30.out; omega)
              clear hD hxv hkI
              go_upto_region 20 with (fail)
              refine wp_region_each (by kernel_rfl) (VE b o N uc k D A M) (VE_below b o N uc k D A M) (by decide +kernel) (by decide +kernel) (by rfl) [83, 84, 85, 86, 87, 88, 89, 90, 91, 7] (by rfl) ?_ ?_
              · intro i o ho a w6 hb6 hlen hg
                match i, ho with
                | 0, ho =>
                  obtain rfl := Option.some.inj ho
                  have h7 := given_old hg 7 (by decide +kernel)
                  clear hg
                  exact st_yield ho (wanted_none rfl) (.slice (some ⟨b, o, none⟩) N uc) w6 (by simp [execOp, Act.eval, h7, go_sem]) ⟨_, rfl, Below.refl _ _, by rintro t' ⟨⟩; rfl⟩
                | 1, ho =>
                  obtain rfl := Option.some.inj ho
                  have h12 := given_old hg 12 (by decide +kernel)
                  clear hg
                  exact st_yield ho (wanted_none rfl) (.int .i64 (k : Int)) w6 (by simp [execOp, Act.eval, h12, go_sem]) ⟨_, rfl, Below.refl _ _, by rintro t' ⟨⟩; rfl⟩
                | 2, ho =>
                  obtain rfl := Option.some.inj ho
                  have h12 := given_old hg 12 (by decide +kernel)
                  clear hg
                  exact st_yield ho (wanted_none rfl) (.int .i64 (k : Int)) w6 (by simp [execOp, Act.eval, h12, go_sem]) ⟨_, rfl, Below.refl _ _, by rintro t' ⟨⟩; rfl⟩
                | 3, ho =>
                  obtain rfl := Option.some.inj ho
                  obtain ⟨_, h83, rfl⟩ := given_fed hg 83 (by decide +kernel)
                  obtain ⟨_, h84, rfl⟩ := given_fed hg 84 (by decide +kernel)
                  obtain ⟨_, h85, rfl⟩ := given_fed hg 85 (by decide +kernel)
                  clear hg
                  exact st_yield ho (wanted_none rfl) (.slice (some ⟨b, o, none⟩) k k) w6 (by simp [execOp, Act.eval, h83, h84, h85, run_sliceAt_slice w6 37 _ _ _ _ elemS, q2, Result.andThen]) ⟨_, rfl, Below.refl _ _, by rintro t' ⟨⟩; rfl⟩
                | 4, ho =>
                  obtain rfl := Option.some.inj ho
                  have h7 := given_old hg 7 (by decide +kernel)
                  clear hg
                  exact st_yield ho (wanted_none rfl) (.slice (some ⟨b, o, none⟩) N uc) w6 (by simp [execOp, Act.eval, h7, go_sem]) ⟨_, rfl, Below.refl _ _, by rintro t' ⟨⟩; rfl⟩
                | 5, ho =>
                  obtain rfl := Option.some.inj ho
                  have h12 := given_old hg 12 (by decide +kernel)
                  clear hg
                  exact st_yield ho (wanted_none rfl) (.int .i64 (k : Int)) w6 (by simp [execOp, Act.eval, h12, go_sem]) ⟨_, rfl, Below.refl _ _, by rintro t' ⟨⟩; rfl⟩
                | 6, ho =>
                  obtain rfl := Option.some.inj ho
                  obtain ⟨_, h88, rfl⟩ := given_fed hg 88 (by decide +kernel)
                  clear hg
                  exact st_yield ho (wanted_none rfl) (.int .i64 D) w6 (by simp [execOp, Act.eval, h88, go_sem, kD]) ⟨_, rfl, Below.refl _ _, by rintro t' ⟨⟩; rfl⟩
                | 7, ho =>
                  obtain rfl := Option.some.inj ho
                  obtain ⟨_, h87, rfl⟩ := given_fed hg 87 (by decide +kernel)
                  obtain ⟨_, h89, rfl⟩ := given_fed hg 89 (by decide +kernel)
                  clear hg
                  exact st_yield ho (wanted_none rfl) xv w6 (by simp [execOp, Act.eval, h87, h89, run_sliceAt_slice w6 37 _ _ _ _ elemS, q1, Result.andThen]) ⟨_, rfl, Below.refl _ _, by rintro t' ⟨⟩; exact HXV.out w6 (HRS6.out.below hb6)⟩
                | 8, ho =>
                  obtain rfl := Option.some.inj ho
                  obtain ⟨_, h86, rfl⟩ := given_fed hg 86 (by decide +kernel)
                  obtain ⟨v90, h90, p90⟩ := given_fed hg 90 (by decide +kernel)
                  clear hg
                  exact st_list ho (wanted_none rfl) fun Q' hQ => wpList_append_RS rfl (.tmp 86) (.tmp 90) rfl b o k v90 A M (by simp [Act.eval, h86]) (by simp [Act.eval, h90]) (HAV.out w6 (HRS6.out.below hb6)) p90 HLn.out (fun v' w' hr hb => wpList_nil (hQ _ _ ⟨v', rfl, hb, by rintro t' ⟨⟩; exact hr⟩))
                | 9, ho =>
                  obtain rfl := Option.some.inj ho
                  obtain ⟨v91, h91, p91⟩ := given_fed hg 91 (by decide +kernel)
                  clear hg
                  exact st_yield ho (wanted_none rfl) v91 w6 (by simp [execOp, Act.eval, h91, go_sem]) ⟨_, rfl, Below.refl _ _, by rintro t' ⟨⟩; exact p91⟩
                | n + 10, ho => simp at ho
              · intro f w7 hb7 hv
                have h7 := hv 7 (by decide)
                simp only [VE] at h7
                obtain ⟨fa, fc, hf7⟩ := h7.form
                rw [List.length_append] at hf7
                have hi31 : i ≤ 30 := by have := hi30.out; omega
                have HR7 := Go.Lib.hid h7
                rw [hf7] at HR7
                have HE := Go.Lib.hid (HR6.out.below hb7)
                have HB7 := Go.Lib.hid (below_on HB6.out hb7)
                clear hv h7 q1 q2 HR6 HB6 HRS6
                unfold putAll
                simp only [List.foldl]
                simp only [hf7]
                clear hf7 hb7
                go_simp
                go_wp2_with fail
                go_roundw
                case rel => exact ⟨i + 1, _, A ++ M, rfl, by go_num, Go.Lib.hid (by rw [List.length_append]; have := HLen.out; have := hi30.out; omega), HR7, Go.Lib.hid H2.out.less, HE, HB7⟩
                case measure => simp only [sliceLen]; have := HLen.out; omega
          · obtain ⟨ua, uc, rfl⟩ := hRS.out.form
            obtain rfl : L = [] := List.eq_nil_of_length_eq_zero (by omega)
            rw [show ([] : List (Nat × Nat)).length = 0 from rfl]
            have hr := hR.out
            rw [gL_nil] at hr
            have C7 := Go.Lib.hid (spans_q hr [(5, 200)] (iv_spans (by decide) (by decide)))
            have HRr := Go.Lib.hid hr
            clear hr hN
            go_wp2_with fail
            refine C7.out.mono ?_
            rintro e w8 ⟨sa, sc', rfl, ho8, hb8⟩
            rw [show ([(5, 200)] : List (Nat × Nat)).length = 1 from rfl] at ho8 ⊢
            obtain ⟨g, rfl, -, s0, s1, -, -⟩ := ho8.at 0 (by decide)
            have s0 : w8.cell? ⟨g, 0, none⟩ = some (.int .i64 5) := s0
            have s1 : w8.cell? ⟨g, 1, none⟩ = some (.int .i64 200) := s1
            have C8 := Go.Lib.hid (free_q (HRr.out.below hb8) 200 (by rw [show (5 + 200 : Nat) = 205 from rfl, iv_cnt (by decide) (Nat.le_refl _)]; rfl))
            have HB8 := Go.Lib.hid (below_on hB.out hb8)
            clear ho8 hb8 C7
            go_wp2_with fail
            refine C8.out.mono ?_
            rintro e w9 ⟨rfl, rfl⟩
            go_wp2_with fail
            go_ret
            exact ⟨rfl, HB8.out⟩

/-! ### THE ROW's STEP: WRITTEN OUT: LEAVE IT -/
set_option maxRecDepth 100000 in
theorem lifted (os : Os) (started : os.Started) (H : Type) (enc : TypeId × Value → H) :
    ReturnsInHanded {} Try.checked os 4 .any (Rows.extentBackSpec.pre6 enc Try.prog Try.f4 Rows.extentBackRow.domain false) (Rows.extentBackSpec.post enc Try.prog Try.f4 false true false false) := by
  refine returnsInHanded_of_change (C := Try.checked) own started (by kernel_rfl) Try.func4
    (ChangeSpec.witness6 (enc := enc) (C := Try.checked) false ⟨#[], #[.slice none 0 0, .slice none 0 0], []⟩ 8 (by kernel_rfl) (by kernel_rfl) (by kernel_rfl) (by kernel_rfl)) ?_
  intro W base args ds gs before hval0 hW hcnd _
  have hval : ∀ (j : Nat) t v, Try.f4.params[j]? = some t → args[j]? = some v → Value.okWide Try.prog W .any base t v := hval0
  have hW' := hW
  obtain ⟨p, q, hA0, hV, rfl, hfz, hnd⟩ := hW
  have hA : DataW.TrodAll enc Try.prog W 0 (fun _ => true) true Try.f4.params.toList args.toList ds p := hA0
  rw [Try.params4] at hA hval
  obtain ⟨v0, vs0, d0, ds0, p0, q0, hargs, rfl, rfl, h0, r0⟩ := trodAll_cons hA
  obtain ⟨v1, vs1, d1, ds1, p1, q1, rfl, rfl, rfl, h1, r1⟩ := trodAll_cons r0
  obtain ⟨rfl, rfl, rfl⟩ := trodAll_nil r1
  obtain rfl : args = #[v0, v1] := by cases args; simp_all
  obtain ⟨rfl, rfl⟩ := trodVars_none hV
  obtain ⟨a0, len0, cap0, rfl⟩ := okWide_slice Try.underlying36 (hval 0 36 v0 rfl rfl)
  have k0 := h0
  have lt0 : ∀ x ∈ p0, x.block < W.heap.size := by obtain ⟨m, hm⟩ := k0; exact DataW.trod_lt m _ _ _ hm
  obtain ⟨z0, w0⟩ : ∃ zs, IsRow .i64 W a0 len0 cap0 zs := by
    obtain ⟨fuel, hf⟩ := h0
    rcases open_ints Try.underlying36 Try.underlying3 (by kernel_rfl) hf with ⟨hcs, _⟩ | ⟨x, l, c, zs, hcs, _, hl, hm, hz, _, hcell, hwz⟩
    · simp [Value.cells] at hcs
      obtain ⟨rfl, rfl, rfl⟩ := hcs
      exact ⟨[], .inl ⟨rfl, rfl, rfl, rfl⟩⟩
    · simp [Value.cells] at hcs
      obtain ⟨rfl, rfl, rfl⟩ := hcs
      exact ⟨zs, .inr ⟨_, rfl, hl, hm, by simpa using hz, hcell, hwz⟩⟩
  obtain ⟨a1, len1, cap1, rfl⟩ := okWide_slice Try.underlying36 (hval 1 36 v1 rfl rfl)
  have k1 := h1
  have lt1 : ∀ x ∈ p1, x.block < W.heap.size := by obtain ⟨m, hm⟩ := k1; exact DataW.trod_lt m _ _ _ hm
  obtain ⟨z1, w1⟩ : ∃ zs, IsRow .i64 W a1 len1 cap1 zs := by
    obtain ⟨fuel, hf⟩ := h1
    rcases open_ints Try.underlying36 Try.underlying3 (by kernel_rfl) hf with ⟨hcs, _⟩ | ⟨x, l, c, zs, hcs, _, hl, hm, hz, _, hcell, hwz⟩
    · simp [Value.cells] at hcs
      obtain ⟨rfl, rfl, rfl⟩ := hcs
      exact ⟨[], .inl ⟨rfl, rfl, rfl, rfl⟩⟩
    · simp [Value.cells] at hcs
      obtain ⟨rfl, rfl, rfl⟩ := hcs
      exact ⟨zs, .inr ⟨_, rfl, hl, hm, by simpa using hz, hcell, hwz⟩⟩
  clear hA0 hval0
  refine (walk a0 len0 cap0 z0 a1 len1 cap1 z1 W w0 w1).mono fun e W' ⟨he, bel⟩ => ?_
  subst he
  exact ⟨_, rfl, _, _, _, [], _, [], hW', trodAll_mk1 (shut_bool Try.underlying4 _), (trodAll_cons_mk (Below.trod laidOut (by kernel_rfl) (of_decide_eq_true (by kernel_rfl)) k0 bel lt0) (trodAll_cons_mk (Below.trod laidOut (by kernel_rfl) (of_decide_eq_true (by kernel_rfl)) k1 bel lt1) trodAll_mk0)), rfl, bel.frame _, fun h => by cases h⟩

theorem over : Rows.extentBackRow.holds Try.pinned (OpenSpec.ofChange Rows.extentBackSpec) :=
  OpenClaim.holds_of_wide 4 Try.f4 rfl rfl rfl rfl rfl rfl rfl ⟨rfl, rfl, rfl, rfl, rfl⟩ rfl rfl rfl rfl rfl (by kernel_rfl) Try.func4 (by kernel_rfl)
    (of_decide_eq_true (by kernel_rfl)) (by unfold Func.isWrapper; first | (rw [if_pos (by decide +kernel)]; kernel_rfl) | (rw [if_neg (by decide +kernel)]; exact ⟨rfl, rfl⟩))
    (fun os started H enc _ => lifted os started H enc)

/-- ████ THE STATEMENT ████ -/
theorem proved : Rows.ExtentBackSaid := over
#print axioms proved
end Go.Proofs.Ytheljojjpnpdaaa.extentBack
