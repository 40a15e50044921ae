/-
  The contracts of extent's turn, Use and Give.
-/
import Derived.Test.YtheljojjpnpdaaaExtS
namespace Go.Proofs.Ytheljojjpnpdaaa
open Go.RowKit

set_option maxRecDepth 100000
theorem turn_nil (w : World) (a b : Int) (x : Bool) : Calls Try.prog 19 #[.pointer none, spanV a b, .bool x] w fun e w' => e = .returned (.bool false) ∧ Below w.heap.size w w' := by
  have C := Go.Lib.hid (part_nil (w.alloc (.cells #[.int .i64 a, .int .i64 b] 30)) a b)
  unfold spanV at C ⊢
  go_enter Try.func19, Try.ntmps19
  go_wp2_with fail
  refine C.out.mono ?_
  rintro e w1 ⟨rfl, hb⟩
  go_wp2_with fail
  go_ret
  exact ⟨rfl, (below_alloc w _).trans (hb.mono (below_alloc w _).size)⟩

/-- May these sectors all be turned to x? -/
def mayTurn (G : Nat → Bool) (at_ n : Nat) (a b : Int) (x : Bool) : Prop := 1 ≤ b ∧ (at_ : Int) ≤ a ∧ a + b ≤ (at_ : Int) + (n : Int) ∧ ∀ k : Nat, a ≤ (k : Int) → (k : Int) < a + b → G k = !x

section
variable {w : World} {B r at_ n : Nat} {v : Value} {G : Nat → Bool}
theorem turn_no (h : RM w B r at_ n v G) (a b : Int) (ha : -9223372036854775808 ≤ a ∧ a ≤ 9223372036854775807) (hb : -9223372036854775808 ≤ b ∧ b ≤ 9223372036854775807) (x : Bool) (hno : ¬ mayTurn G at_ n a b x) : Calls Try.prog 19 #[.pointer (some ⟨r, 0, none⟩), spanV a b, .bool x] w fun e w' => e = .returned (.bool false) ∧ Below w.heap.size w w' := by
  have hb1 := below_alloc w (.cells #[.int .i64 a, .int .i64 b] 30)
  by_cases hin : b < 1 ∨ a < at_ ∨ (n : Int) - b < a - at_
  · have C := Go.Lib.hid (part_no (h.below hb1) a b ha hb hin)
    have HB := Go.Lib.hid hb1
    unfold spanV at C ⊢
    clear h ha hb hin hno hb1
    go_enter Try.func19, Try.ntmps19
    go_wp2_with fail
    refine C.out.mono ?_
    rintro e w1 ⟨rfl, hb⟩
    go_wp2_with fail
    go_ret
    exact ⟨rfl, HB.out.trans (hb.mono HB.out.size)⟩
  · obtain ⟨o, ho⟩ : ∃ o : Nat, (o : Int) = a - at_ := ⟨(a - at_).toNat, by omega⟩
    obtain ⟨m, hm⟩ : ∃ m : Nat, (m : Int) = b := ⟨b.toNat, by omega⟩
    have hs := h.small
    have hm0 : 0 < m := by omega
    have hom : o + m ≤ n := by omega
    obtain ⟨g, c, rfl⟩ := h.row.fform (by omega)
    have C := Go.Lib.hid (part_in (h.below hb1) o m hm0 hom a b (by omega) hm.symm)
    have hk : firstF m (fun i => G (at_ + (o + i))) x < m := by
      have hle := firstF_le m (fun i => G (at_ + (o + i))) x
      rcases Nat.lt_or_ge (firstF m (fun i => G (at_ + (o + i))) x) m with h1 | h1
      · exact h1
      · exfalso
        refine hno ⟨by omega, by omega, by omega, fun k k1 k2 => ?_⟩
        have := firstF_full.1 (show firstF m (fun i => G (at_ + (o + i))) x = m by omega) (k - (at_ + o)) (by omega)
        simpa [show at_ + (o + (k - (at_ + o))) = k from by omega] using this
    have K := fun w2 (hb2 : Below w.heap.size w w2) => contains_c (w := w2) (g := g) (o := o) (m := m) (cap := c - o) (f := fun i => G (at_ + (o + i))) (fun i hi => (h.below hb2).row.fcell (o + i) (by omega)) (by omega) x
    simp only [hk, decide_true] at K
    have K := Go.Lib.hid K
    have HB := Go.Lib.hid hb1
    have hmz : ((m : Int) == 0) = false := by simp; omega
    unfold spanV at C ⊢
    clear h ha hb hin hno hb1 ho hm hs hk hm0 hom
    go_enter Try.func19, Try.ntmps19
    go_wp2_with fail
    refine C.out.mono ?_
    rintro e w1 ⟨rfl, hb⟩
    have hbb := HB.out.trans (hb.mono HB.out.size)
    have K1 := Go.Lib.hid (K.out w1 hbb)
    have HBB := Go.Lib.hid hbb
    clear K hb hbb
    go_wp2_with fail
    refine K1.out.mono ?_
    rintro e w2 ⟨rfl, rfl⟩
    go_wp2_with fail
    go_ret
    exact ⟨rfl, HBB.out⟩
theorem turn_yes (h : RM w B r at_ n v G) (o m : Nat) (hm : 0 < m) (ho : o + m ≤ n) (a b : Int) (ha : a = (at_ : Int) + (o : Int)) (hb : b = (m : Int)) (x : Bool) (hall : ∀ k, at_ + o ≤ k → k < at_ + o + m → G k = !x) : Calls Try.prog 19 #[.pointer (some ⟨r, 0, none⟩), spanV a b, .bool x] w fun e w' => e = .returned (.bool true) ∧ RM w' B r at_ n v (setF G (at_ + o) m x) ∧ w.grownBy w' v.ownBlock := by
  have hb1 := below_alloc w (.cells #[.int .i64 a, .int .i64 b] 30)
  have hs := h.small
  obtain ⟨g, c, rfl⟩ := h.row.fform (by omega)
  have C := Go.Lib.hid (part_in (h.below hb1) o m hm ho a b ha hb)
  have hk : firstF m (fun i => G (at_ + (o + i))) x = m := firstF_full.2 fun j hj => hall _ (by omega) (by omega)
  have K := fun w2 (hb2 : Below w.heap.size w w2) => contains_c (w := w2) (g := g) (o := o) (m := m) (cap := c - o) (f := fun i => G (at_ + (o + i))) (fun i hi => (h.below hb2).row.fcell (o + i) (by omega)) (by omega) x
  simp only [hk, Nat.lt_irrefl, decide_false] at K
  have S := Go.Lib.hid fun w2 (hb2 : Below w.heap.size w w2) => set_c (w := w2) (cap := c - o) (m := m) (o := o) (h.below hb2).row ho (by omega) x
  have K := Go.Lib.hid K
  have HB := Go.Lib.hid hb1
  have hmz : ((m : Int) == 0) = false := by simp; omega
  have H := Go.Lib.hid h
  have HO := Go.Lib.hid ho
  have hsf : (fun i => setF G (at_ + o) m x (at_ + i)) = setF (fun i => G (at_ + i)) o m x := by
    funext i
    unfold setF
    by_cases h1 : o ≤ i ∧ i < o + m
    · rw [if_pos h1, if_pos (by omega)]
    · rw [if_neg h1, if_neg (by omega)]
  have HSF := Go.Lib.hid hsf
  unfold spanV at C ⊢
  clear h ha hb hall hb1 hs hk hm ho hsf
  go_enter Try.func19, Try.ntmps19
  go_wp2_with fail
  refine C.out.mono ?_
  rintro e w1 ⟨rfl, hb⟩
  have hbb := HB.out.trans (hb.mono HB.out.size)
  have K1 := Go.Lib.hid (K.out w1 hbb)
  have S1 := Go.Lib.hid (S.out w1 hbb)
  have HBB := Go.Lib.hid hbb
  clear K hb hbb S
  go_wp2_with fail
  refine K1.out.mono ?_
  rintro e w2 ⟨rfl, rfl⟩
  go_wp2_with fail
  refine S1.out.mono ?_
  rintro e w3 ⟨rfl, ho3, hg3⟩
  have HG := Go.Lib.hid (grow_trans (grow_below HBB.out) hg3)
  have HO3 := Go.Lib.hid ho3
  clear ho3 hg3
  go_wp2_with fail
  go_ret
  refine ⟨rfl, H.out.rowTo HG.out (by rw [HSF.out]; exact HO3.out) (fun k hk => ?_), HG.out⟩
  rw [setF_out (by have := HO.out; omega)]
  exact H.out.out k hk

theorem use_nil (w : World) (a b : Int) : Calls Try.prog 12 #[.pointer none, spanV a b] w fun e w' => e = .returned (.bool false) ∧ Below w.heap.size w w' := by
  have C := Go.Lib.hid (turn_nil (w.alloc (.cells #[.int .i64 a, .int .i64 b] 30)) a b false)
  have hb1 := Go.Lib.hid (below_alloc w (.cells #[.int .i64 a, .int .i64 b] 30))
  unfold spanV at C ⊢
  go_enter Try.func12, Try.ntmps12
  go_wp2_with fail
  refine C.out.mono ?_
  rintro e w1 ⟨rfl, hb⟩
  go_wp2_with fail
  go_ret
  exact ⟨rfl, hb1.out.trans (hb.mono hb1.out.size)⟩
theorem give_nil (w : World) (a b : Int) : Calls Try.prog 13 #[.pointer none, spanV a b] w fun e w' => e = .returned (.bool false) ∧ Below w.heap.size w w' := by
  have C := Go.Lib.hid (turn_nil (w.alloc (.cells #[.int .i64 a, .int .i64 b] 30)) a b true)
  have hb1 := Go.Lib.hid (below_alloc w (.cells #[.int .i64 a, .int .i64 b] 30))
  unfold spanV at C ⊢
  go_enter Try.func13, Try.ntmps13
  go_wp2_with fail
  refine C.out.mono ?_
  rintro e w1 ⟨rfl, hb⟩
  go_wp2_with fail
  go_ret
  exact ⟨rfl, hb1.out.trans (hb.mono hb1.out.size)⟩
theorem use_no (h : RM w B r at_ n v G) (a b : Int) (ha : -9223372036854775808 ≤ a ∧ a ≤ 9223372036854775807) (hb : -9223372036854775808 ≤ b ∧ b ≤ 9223372036854775807) (hno : ¬ mayTurn G at_ n a b false) : Calls Try.prog 12 #[.pointer (some ⟨r, 0, none⟩), spanV a b] w fun e w' => e = .returned (.bool false) ∧ Below w.heap.size w w' := by
  have hb1 := Go.Lib.hid (below_alloc w (.cells #[.int .i64 a, .int .i64 b] 30))
  have C := Go.Lib.hid (turn_no (h.below hb1.out) a b ha hb false hno)
  unfold spanV at C ⊢
  clear h ha hb hno
  go_enter Try.func12, Try.ntmps12
  go_wp2_with fail
  refine C.out.mono ?_
  rintro e w1 ⟨rfl, hb⟩
  go_wp2_with fail
  go_ret
  exact ⟨rfl, hb1.out.trans (hb.mono hb1.out.size)⟩
theorem give_no (h : RM w B r at_ n v G) (a b : Int) (ha : -9223372036854775808 ≤ a ∧ a ≤ 9223372036854775807) (hb : -9223372036854775808 ≤ b ∧ b ≤ 9223372036854775807) (hno : ¬ mayTurn G at_ n a b true) : Calls Try.prog 13 #[.pointer (some ⟨r, 0, none⟩), spanV a b] w fun e w' => e = .returned (.bool false) ∧ Below w.heap.size w w' := by
  have hb1 := Go.Lib.hid (below_alloc w (.cells #[.int .i64 a, .int .i64 b] 30))
  have C := Go.Lib.hid (turn_no (h.below hb1.out) a b ha hb true hno)
  unfold spanV at C ⊢
  clear h ha hb hno
  go_enter Try.func13, Try.ntmps13
  go_wp2_with fail
  refine C.out.mono ?_
  rintro e w1 ⟨rfl, hb⟩
  go_wp2_with fail
  go_ret
  exact ⟨rfl, hb1.out.trans (hb.mono hb1.out.size)⟩
/-- All are free: they are given out. -/
theorem use_yes (h : RM w B r at_ n v G) (p m : Nat) (hm : 0 < m) (hall : allF G p m) (a b : Int) (ha : a = (p : Int)) (hb : b = (m : Int)) : Calls Try.prog 12 #[.pointer (some ⟨r, 0, none⟩), spanV a b] w fun e w' => e = .returned (.bool true) ∧ RM w' B r at_ n v (setF G p m false) ∧ w.grownBy w' v.ownBlock := by
  have hp : at_ ≤ p := by
    rcases Nat.lt_or_ge p at_ with h1 | h1
    · have := hall p (Nat.le_refl _) (by omega)
      rw [h.out p (.inl h1)] at this; cases this
    · exact h1
  have hp2 : p + m ≤ at_ + n := by
    rcases Nat.lt_or_ge (at_ + n) (p + m) with h1 | h1
    · have := hall (p + m - 1) (by omega) (by omega)
      rw [h.out (p + m - 1) (.inr (by omega))] at this; cases this
    · exact h1
  have hb1 := Go.Lib.hid (below_alloc w (.cells #[.int .i64 a, .int .i64 b] 30))
  have C := turn_yes (h.below hb1.out) (p - at_) m hm (by omega) a b (by omega) hb false (fun k k1 k2 => hall k (by omega) (by omega))
  rw [show at_ + (p - at_) = p from by omega] at C
  have C := Go.Lib.hid C
  unfold spanV at C ⊢
  clear h ha hb hm hp hp2 hall
  go_enter Try.func12, Try.ntmps12
  go_wp2_with fail
  refine C.out.mono ?_
  rintro e w1 ⟨rfl, hr, hg⟩
  have HR := Go.Lib.hid hr
  have HG := Go.Lib.hid (grow_trans (grow_below hb1.out) hg)
  clear hr hg
  go_wp2_with fail
  go_ret
  exact ⟨rfl, HR.out, HG.out⟩
/-- None is free: they are taken back. -/
theorem give_yes (h : RM w B r at_ n v G) (p m : Nat) (hm : 0 < m) (hp : at_ ≤ p) (hp2 : p + m ≤ at_ + n) (hall : ∀ k, p ≤ k → k < p + m → G k = false) (a b : Int) (ha : a = (p : Int)) (hb : b = (m : Int)) : Calls Try.prog 13 #[.pointer (some ⟨r, 0, none⟩), spanV a b] w fun e w' => e = .returned (.bool true) ∧ RM w' B r at_ n v (setF G p m true) ∧ w.grownBy w' v.ownBlock := by
  have hb1 := Go.Lib.hid (below_alloc w (.cells #[.int .i64 a, .int .i64 b] 30))
  have C := turn_yes (h.below hb1.out) (p - at_) m hm (by omega) a b (by omega) hb true (fun k k1 k2 => hall k (by omega) (by omega))
  rw [show at_ + (p - at_) = p from by omega] at C
  have C := Go.Lib.hid C
  unfold spanV at C ⊢
  clear h ha hb hm hp hp2 hall
  go_enter Try.func13, Try.ntmps13
  go_wp2_with fail
  refine C.out.mono ?_
  rintro e w1 ⟨rfl, hr, hg⟩
  have HR := Go.Lib.hid hr
  have HG := Go.Lib.hid (grow_trans (grow_below hb1.out) hg)
  clear hr hg
  go_wp2_with fail
  go_ret
  exact ⟨rfl, HR.out, HG.out⟩
end

end Go.Proofs.Ytheljojjpnpdaaa
