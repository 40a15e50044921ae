/-
  Package value: the contract of Eq.
-/
import Derived.Test.YtpelcnehndlinaaValR
import Derived.Test.YtpelcnehndlinaaDraw
import Derived.Deep.DeepCutAuto
namespace Go.Proofs.Ytpelcnehndlinaa
open Go.RowKit

theorem ite_eqR (k1 n1 : Int) (s1 : ByteArray) (k2 n2 : Int) (s2 : ByteArray) (W : World) :
    (if k1 = k2 then
      if n1 = n2 then
        if s1.toList = s2.toList then Result.ok (Next.value (Value.bool true)) W
        else Result.ok (Next.value (Value.bool false)) W
      else Result.ok (Next.value (Value.bool false)) W
    else Result.ok (Next.value (Value.bool false)) W) =
    Result.ok (Next.value (Value.bool (eqR k1 n1 s1 k2 n2 s2))) W := by
  unfold eqR
  by_cases h1 : k1 = k2 <;> by_cases h2 : n1 = n2 <;> by_cases h3 : s1.toList = s2.toList <;> simp [h1, h2, h3]

def VE (x y : VI) (t : Bool) : Nat → World → Value → Prop
  | 5, _, v => v = .agg #[x.v]
  | 6, _, v => v = x.raw
  | 7, _, v => v = .agg #[y.v]
  | 8, _, v => v = y.raw
  | 9, _, v => v = .bool t
  | 4, _, v => v = .bool t
  | _, _, _ => True

theorem VE_below (x y : VI) (t : Bool) : ∀ (i : Nat) (w w' : World) (v : Value), VE x y t i w v → Below w.heap.size w w' → VE x y t i w' v := by
  intro i w w' v h hb
  unfold VE at h ⊢
  split at h <;> first | exact h | trivial

set_option maxRecDepth 100000 in
theorem veq_c (x y : VI) (w : World) (hx : x.s.size ≤ 1000) (hy : y.s.size ≤ 1000) :
    Calls Try.prog 25 #[x.val, y.val] w fun e w' => e = .returned (.bool (eqR x.k x.n x.s y.k y.n y.s)) ∧ Below w.heap.size w w' := by
  have C1 := Go.Lib.hid fun W => raw_c x W hx
  have C2 := Go.Lib.hid fun W => raw_c y W hy
  clear hx hy
  obtain ⟨t, ht⟩ : ∃ t, t = eqR x.k x.n x.s y.k y.n y.s := ⟨_, rfl⟩
  have h9 := Go.Lib.hid fun W => ite_eqR x.k x.n x.s y.k y.n y.s W
  rw [← ht] at h9 ⊢
  clear ht
  unfold VI.val at C1 C2 ⊢
  have hb2 := Go.Lib.hid (below_two w (.cells #[x.v] 27) (.cells #[y.v] 27))
  have hr1 := Go.Lib.hid (two_first w (.cells #[x.v] 27) (.cells #[y.v] 27))
  have hr2 := Go.Lib.hid (heap_alloc2_new w (.cells #[x.v] 27) (.cells #[y.v] 27))
  go_enter Try.func25, Try.ntmps25
  go_upto_if 9 with (fail)
  refine wp_region_each (by kernel_rfl) (VE x y t) (VE_below x y t) (by decide +kernel) (by decide +kernel) (by rfl) [5, 6, 7, 8, 9, 4] (by rfl) ?_ ?_
  · intro i o ho a w6 hb6 hlen hg
    have g1 := (hb6.block _ (Array.getElem?_eq_some_iff.1 hr1.out).1).trans hr1.out
    have g2 := (hb6.block _ (Array.getElem?_eq_some_iff.1 hr2.out).1).trans hr2.out
    have x1 := cell_of_row w6 _ 0 _ _ _ g1
    have x2 := cell_of_row w6 _ 0 _ _ _ g2
    simp only [List.getElem?_toArray, List.getElem?_cons_zero] at x1 x2
    match i, ho with
    | 0, ho =>
      obtain rfl := Option.some.inj ho
      simp [Given, Oper.looksAt, Op.operands, fedB, Region.binds, VE] at hg
      exact st_yield ho (by simp [Region.wanted]) (.agg #[x.v]) w6 (by simp [execOp, Act.eval, hg, go_sem, x1]) ⟨_, rfl, Below.refl _ _, by rintro t' ⟨⟩; rfl⟩
    | 1, ho =>
      obtain rfl := Option.some.inj ho
      simp [Given, Oper.looksAt, Op.operands, Call.operands, fedB, Region.binds, VE] at hg
      exact st_enter (w1 := w6) ho (by simp [Region.wanted]) 17 #[.agg #[x.v]] (by simp [execOp, Act.eval, hg, resolve, go_sem]) ((C1.out _).mono (by rintro e w7 ⟨rfl, hb7⟩; exact ⟨_, rfl, _, rfl, hb7, by rintro t' ⟨⟩; rfl⟩))
    | 2, ho =>
      obtain rfl := Option.some.inj ho
      simp [Given, Oper.looksAt, Op.operands, fedB, Region.binds, VE] at hg
      exact st_yield ho (by simp [Region.wanted]) (.agg #[y.v]) w6 (by simp [execOp, Act.eval, hg, go_sem, x2]) ⟨_, rfl, Below.refl _ _, by rintro t' ⟨⟩; rfl⟩
    | 3, ho =>
      obtain rfl := Option.some.inj ho
      simp [Given, Oper.looksAt, Op.operands, Call.operands, fedB, Region.binds, VE] at hg
      exact st_enter (w1 := w6) ho (by simp [Region.wanted]) 17 #[.agg #[y.v]] (by simp [execOp, Act.eval, hg, resolve, go_sem]) ((C2.out _).mono (by rintro e w7 ⟨rfl, hb7⟩; exact ⟨_, rfl, _, rfl, hb7, by rintro t' ⟨⟩; rfl⟩))
    | 4, ho =>
      obtain rfl := Option.some.inj ho
      simp [Given, Oper.looksAt, Op.operands, fedB, Region.binds, VE] at hg
      have h9' := h9.out
      exact st_yield ho (by simp [Region.wanted]) (.bool t) w6 (by simp [execOp, Act.eval, hg, VI.raw, rawV, go_sem, h9']) ⟨_, rfl, Below.refl _ _, by rintro t' ⟨⟩; rfl⟩
    | 5, ho =>
      obtain rfl := Option.some.inj ho
      simp [Given, Oper.looksAt, Op.operands, fedB, Region.binds, VE] at hg
      exact st_yield ho (by simp [Region.wanted]) (.bool t) w6 (by simp [execOp, Act.eval, hg, go_sem]) ⟨_, rfl, Below.refl _ _, by rintro t' ⟨⟩; rfl⟩
    | n + 6, ho => simp at ho
  · intro f w6 hb6 hv
    have h6 := hv 4 (by simp)
    clear hv
    simp only [VE] at h6
    unfold putAll
    simp only [List.foldl]
    go_simp
    go_wp2
    go_ret
    exact ⟨rfl, hb2.out.trans (hb6.mono hb2.out.size)⟩

end Go.Proofs.Ytpelcnehndlinaa
