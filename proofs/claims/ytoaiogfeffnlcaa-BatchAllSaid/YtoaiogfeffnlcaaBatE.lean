/-
  Package batch: contracts of slices.EqualFunc over records, of Eq.
-/
import Derived.Test.YtoaiogfeffnlcaaBatM
import Derived.Test.YtoaiogfeffnlcaaBatP
import Derived.Test.YtoaiogfeffnlcaaPMay
import Derived.Test.YtoaiogfeffnlcaaRecBox
import Derived.LoopTactic
namespace Go.Proofs.Ytoaiogfeffnlcaa
open Go.RowKit

theorem list_eq_of {l m : List RecT} (hn : l.length = m.length) (h : ∀ (j : Nat) (hj : j < l.length) (hm : j < m.length), l[j] = m[j]) : l = m := List.ext_getElem hn h

set_option maxHeartbeats 1000000 in
set_option maxRecDepth 100000 in
theorem equalfunc_c (u v : Value) (l m : List RecT) (w : World) (hu : RS w u l) (hv : RS w v m) :
    Calls Try.prog 25 #[u, v, .func (.func 26) #[] #[]] w fun e w' => e = .returned (.bool (decide (l = m))) ∧ Below w.heap.size w w' := by
  obtain ⟨a, cap, rfl, hm1⟩ := hu.form
  obtain ⟨a2, cap2, rfl, hm2⟩ := hv.form
  have HU := Go.Lib.hid hu
  clear hu
  by_cases hn : l.length = m.length
  · have Hn := Go.Lib.hid hn
    rw [← hn] at hv ⊢
    have HV := Go.Lib.hid hv
    clear hv hn
    go_enter Try.func25, Try.ntmps25
    go_wp2_with fail
    go_loopw [17] (fun i wr => ∃ k : Nat, k ≤ l.length ∧ i = .int .i64 (k : Int) ∧ Hid (∀ (j : Nat) (hj : j < l.length) (hm : j < m.length), j < k → l[j] = m[j]) ∧ Below w.heap.size w wr) (fun i _ => l.length - (intOf i).toNat)
    case atStart => exact ⟨0, by omega, rfl, Go.Lib.hid (fun j hj hm h => by omega), Below.refl _ _⟩
    case round =>
      obtain ⟨k, hk, rfl, hall, hbc⟩ := hrel
      by_cases hlt : k < l.length
      · have hlt2 : k < m.length := by have := Hn.out; omega
        obtain ⟨b, o, rfl, -, hbs, c0, c1, c2, c3, c4⟩ := (HU.out.below hbc).at k hlt
        obtain ⟨b2, o2, rfl, -, hbs2, d0, d1, d2, d3, d4⟩ := (HV.out.below hbc).at k hlt2
        have Hyes := Go.Lib.hid (fun (h : l[k] = m[k]) => show ∀ (j : Nat) (hj : j < l.length) (hm : j < m.length), j < k + 1 → l[j] = m[j] from fun j hj hm h1 => by
          rcases Nat.lt_or_ge j k with h2 | h2
          · exact hall.out j hj hm h2
          · obtain rfl : j = k := by omega
            exact h)
        have Hnot := Go.Lib.hid (fun (h : l[k] ≠ m[k]) => show decide (l = m) = false from decide_eq_false (fun e => h (by simp only [e])))
        have hix := run_idx5 b o l.length cap k hlt
        have hix2 := run_idx5 b2 o2 l.length cap2 k hlt
        generalize l[k] = x at *
        generalize m[k] = y at *
        have C1 := fun W => peq_c x.1 x.2.1 x.2.2.1 x.2.2.2.1 x.2.2.2.2 y.1 y.2.1 y.2.2.1 y.2.2.2.1 y.2.2.2.2 W
        rw [eqRec_iff] at C1
        obtain ⟨kx, gx, ax, nx, sx⟩ := x
        obtain ⟨ky, gy, ay, ny, sy⟩ := y
        simp only [] at c0 c1 c2 c3 c4 d0 d1 d2 d3 d4 C1
        have hb1 := below_one wr (.cells #[.string kx, .bool gx, .int .i64 ax, .int .i64 nx, .string sx] 38)
        have hb2 := below_two wr (.cells #[.string kx, .bool gx, .int .i64 ax, .int .i64 nx, .string sx] 38) (.cells #[.string ky, .bool gy, .int .i64 ay, .int .i64 ny, .string sy] 38)
        have d0 := cell_kept d0 hb1
        have d1 := cell_kept d1 hb1
        have d2 := cell_kept d2 hb1
        have d3 := cell_kept d3 hb1
        have d4 := cell_kept d4 hb1
        obtain ⟨p0, p1, p2, p3, p4⟩ := row5 (two_first wr (.cells #[.string kx, .bool gx, .int .i64 ax, .int .i64 nx, .string sx] 38) (.cells #[.string ky, .bool gy, .int .i64 ay, .int .i64 ny, .string sy] 38))
        have HB1 := Go.Lib.hid (below_to hbc (Nat.le_refl _) hb2)
        have Hlt := Go.Lib.hid hlt
        unfold recV at C1
        by_cases hp : (kx, gx, ax, nx, sx) = (ky, gy, ay, ny, sy)
        · rw [decide_eq_true hp] at C1
          have CM := Go.Lib.hid C1
          have HY := Go.Lib.hid (Hyes.out hp)
          clear C1 hp Hyes Hnot hall hbc hb1 hb2 hlt hlt2
          go_wp2_with fail
          refine (CM.out _).mono ?_
          rintro e w2 ⟨rfl, hb3⟩
          go_wp2_with fail
          go_roundw
          case rel => exact ⟨k + 1, by have := Hlt.out; omega, by go_num, HY, below_to HB1.out (Nat.le_refl _) hb3⟩
          case measure => simp only [intOf]; have := Hlt.out; omega
        · rw [decide_eq_false hp] at C1
          have CM := Go.Lib.hid C1
          have HN := Go.Lib.hid (Hnot.out hp)
          clear C1 hp Hyes Hnot hall hbc hb1 hb2 hlt hlt2
          go_wp2_with fail
          refine (CM.out _).mono ?_
          rintro e w2 ⟨rfl, hb3⟩
          go_wp2_with fail
          go_ret
          exact ⟨ret_of (congrArg Value.bool HN.out.symm), below_to HB1.out (Nat.le_refl _) hb3⟩
      · obtain rfl : k = l.length := by omega
        have K := Go.Lib.hid (show decide (l = m) = true from decide_eq_true (list_eq_of Hn.out (fun j hj hm => hall.out j hj hm hj)))
        clear hall hlt
        go_wp2_with fail
        go_ret
        exact ⟨ret_of (congrArg Value.bool K.out.symm), hbc⟩
  · have K := Go.Lib.hid (show decide (l = m) = false from decide_eq_false (fun e => hn (by rw [e])))
    have hI : ((l.length : Int) == (m.length : Int)) = false := by simp only [beq_eq_false_iff_ne, ne_eq]; omega
    clear hn
    go_enter Try.func25, Try.ntmps25
    go_wp2_with fail
    go_ret
    exact ⟨ret_of (congrArg Value.bool K.out.symm), Below.refl _ _⟩

set_option maxHeartbeats 1000000 in
set_option maxRecDepth 100000 in
theorem beq_c (u v : Value) (l m : List RecT) (w : World) (hu : RS w u l) (hv : RS w v m) :
    Calls Try.prog 13 #[u, v] w fun e w' => e = .returned (.bool (decide (l = m))) ∧ Below w.heap.size w w' := by
  have HC := Go.Lib.hid (equalfunc_c u v l m w hu hv)
  obtain ⟨a, cap, rfl, hm1⟩ := hu.form
  obtain ⟨a2, cap2, rfl, hm2⟩ := hv.form
  clear hu hv
  go_enter Try.func13, Try.ntmps13
  go_wp2_with fail
  refine HC.out.mono ?_
  rintro e w2 ⟨rfl, hb2⟩
  have HB2 := Go.Lib.hid hb2
  clear hb2
  go_wp2_with fail
  go_ret
  exact ⟨rfl, HB2.out⟩

end Go.Proofs.Ytoaiogfeffnlcaa
