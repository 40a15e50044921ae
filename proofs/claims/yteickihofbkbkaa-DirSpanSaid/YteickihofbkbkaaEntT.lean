/-
  The law's tells.
-/
import Derived.Test.YteickihofbkbkaaEntE
import Derived.Test.YteickihofbkbkaaEntS
import Derived.Test.YteickihofbkbkaaEntB
import Derived.Test.YteickihofbkbkaaEntQ
namespace Go.Proofs.Yteickihofbkbkaa
open Go.RowKit

theorem MayL.each {l : List EntT} (h : MayL l) : ∀ x ∈ l, mayE x := fun x hx => by
  obtain ⟨i, hi, rfl⟩ := List.mem_iff_getElem.1 hx
  obtain ⟨_, hm, _⟩ := h.2 i hi
  exact hm
def VTl (u : Value) (l : List EntT) (b : List UInt8) (ad : Option Addr) (n c : Nat) : Nat → World → Value → Prop
  | 2, _, v => v = .bool true
  | 19, _, v => v = u
  | 20, _, v => v = .bool true
  | 21, _, v => v = .bool true
  | 22, _, v => v = u
  | 23, w, v => RB w v (lstB l)
  | 24, _, v => v = .string (str (lstB l))
  | 25, _, v => v = .slice ad n c
  | 26, _, v => v = .string (str b)
  | 27, _, v => v = .bool true
  | 28, _, v => v = .bool true
  | _, _, _ => True

theorem VTl_below (u : Value) (l : List EntT) (b : List UInt8) (ad : Option Addr) (n c : Nat) : ∀ (i : Nat) (w w' : World) (v : Value), VTl u l b ad n c i w v → Below w.heap.size w w' → VTl u l b ad n c i w' v := by
  intro i w w' v h hb
  unfold VTl at h ⊢
  split at h <;> first | exact h | trivial | exact RB.below h hb | exact Own.below h hb

set_option maxHeartbeats 1000000 in
set_option maxRecDepth 100000 in
theorem tells_c (v : Value) (b : List UInt8) (w : World) (hv : RB w v b) :
    Calls Try.prog 18 #[v] w fun e w' => e = .returned (.bool true) ∧ Below w.heap.size w w' := by
  obtain ⟨ad, n, c, rfl⟩ := hv.sl
  cases hd : decB b with
  | none =>
    have C := Go.Lib.hid (decode_no hv hd)
    clear hv hd
    go_enter Try.func18, Try.ntmps18
    go_wp2_with fail
    refine C.out.mono ?_
    rintro e w1 ⟨rfl, hb⟩
    have HB := Go.Lib.hid hb
    clear hb C
    go_wp2_with fail
    go_ret
    exact ⟨rfl, HB.out⟩
  | some l =>
    have C := Go.Lib.hid (decode_c hv hd)
    obtain ⟨hm, hb⟩ := decB_ok hd
    have hml := mayL_iff.1 hm
    have CM0 := Go.Lib.hid (fun u W (h : RE W u l) => by have := rmay_c u l W h; rw [hm] at this; exact this)
    have CB0 := Go.Lib.hid (fun u W (h : RE W u l) => rbytes_c u l W h (fun x hx => putE_of (hml.each x hx)) (by have := hml.1; omega))
    have Heq := Go.Lib.hid (show ((str (lstB l)).toList == (str b).toList) = true by rw [hb]; simp)
    have HV0 := Go.Lib.hid hv
    clear hv hd hm hml hb
    go_enter Try.func18, Try.ntmps18
    go_wp2_with fail
    refine C.out.mono ?_
    rintro e w1 ⟨u, rfl, hown, hb1⟩
    have CM := Go.Lib.hid (fun W (h : RE W u l) => CM0.out u W h)
    have CB := Go.Lib.hid (fun W (h : RE W u l) => CB0.out u W h)
    have HU := Go.Lib.hid hown.re
    have HV := Go.Lib.hid (HV0.out.below hb1)
    have HB := Go.Lib.hid hb1
    clear hown hb1 C CM0 CB0 HV0
    go_upto_region 4 with (fail)
    refine wp_region_each (by kernel_rfl) (VTl u l b ad n c) (VTl_below u l b ad n c) (by decide +kernel) (by decide +kernel) (by rfl) [19, 20, 21, 22, 23, 24, 25, 26, 27, 28, 2] (by rfl) ?_ ?_
    · intro i o ho a w6 hb6 hlen hg
      match i, ho with
      | 0, ho =>
        obtain rfl := Option.some.inj ho
        have h3 := given_old hg 3 (by decide +kernel)
        clear hg
        exact st_yield ho (wanted_none rfl) (u) w6 (by simp [execOp, Act.eval, h3, go_sem]) ⟨_, rfl, Below.refl _ _, by rintro t' ⟨⟩; rfl⟩
      | 1, ho =>
        obtain rfl := Option.some.inj ho
        obtain ⟨v19', h19, p19⟩ := given_fed hg 19 (by decide +kernel)
        have p19 : v19' = u := p19
        rw [p19] at h19
        clear hg
        exact st_enter (w1 := w6) ho (wanted_none rfl) 12 #[u] (by simp [execOp, Act.eval, h19, resolve, go_sem]) (((CM.out _ (HU.out.below hb6))).mono (by rintro e w7 ⟨rfl, hb7⟩; exact ⟨_, rfl, _, rfl, hb7, by rintro t' ⟨⟩; rfl⟩))
      | 2, ho =>
        obtain rfl := Option.some.inj ho
        obtain ⟨_, h20, rfl⟩ := given_fed hg 20 (by decide +kernel)
        clear hg
        exact st_yield ho (wanted_none rfl) (.bool true) w6 (by simp [execOp, Act.eval, h20, go_sem]) ⟨_, rfl, Below.refl _ _, by rintro t' ⟨⟩; rfl⟩
      | 3, ho =>
        obtain rfl := Option.some.inj ho
        have h3 := given_old hg 3 (by decide +kernel)
        obtain ⟨_, h21, rfl⟩ := given_fed hg 21 (by decide +kernel)
        clear hg
        exact st_yield ho (wanted_some rfl rfl h21 rfl) (u) w6 (by simp [execOp, Act.eval, h3, go_sem]) ⟨_, rfl, Below.refl _ _, by rintro t' ⟨⟩; rfl⟩
      | 4, ho =>
        obtain rfl := Option.some.inj ho
        obtain ⟨v22', h22, p22⟩ := given_fed hg 22 (by decide +kernel)
        have p22 : v22' = u := p22
        rw [p22] at h22
        obtain ⟨_, h21, rfl⟩ := given_fed hg 21 (by decide +kernel)
        clear hg
        exact st_enter (w1 := w6) ho (wanted_some rfl rfl h21 rfl) 14 #[u] (by simp [execOp, Act.eval, h22, resolve, go_sem]) ((CB.out _ (HU.out.below hb6)).mono (by rintro e w7 ⟨v, rfl, hown, hb7⟩; exact ⟨v, rfl, _, rfl, hb7, by rintro t' ⟨⟩; exact hown.rb⟩))
      | 5, ho =>
        obtain rfl := Option.some.inj ho
        obtain ⟨v23, h23, p23⟩ := given_fed hg 23 (by decide +kernel)
        obtain ⟨_, h21, rfl⟩ := given_fed hg 21 (by decide +kernel)
        clear hg
        have cv := run_string_RB w6 26 5 9 Try.underlying26 Try.underlying5 Try.underlying9 v23 _ p23
        exact st_yield ho (wanted_some rfl rfl h21 rfl) (.string (str (lstB l))) w6 (by simp [execOp, Act.eval, h23, go_sem, cv, Result.andThen]) ⟨_, rfl, Below.refl _ _, by rintro t' ⟨⟩; rfl⟩
      | 6, ho =>
        obtain rfl := Option.some.inj ho
        have h0 := given_old hg 0 (by decide +kernel)
        obtain ⟨_, h21, rfl⟩ := given_fed hg 21 (by decide +kernel)
        clear hg
        exact st_yield ho (wanted_some rfl rfl h21 rfl) (.slice ad n c) w6 (by simp [execOp, Act.eval, h0, go_sem]) ⟨_, rfl, Below.refl _ _, by rintro t' ⟨⟩; rfl⟩
      | 7, ho =>
        obtain rfl := Option.some.inj ho
        obtain ⟨_, h25, rfl⟩ := given_fed hg 25 (by decide +kernel)
        obtain ⟨_, h21, rfl⟩ := given_fed hg 21 (by decide +kernel)
        clear hg
        have cv := run_string_RB w6 26 5 9 Try.underlying26 Try.underlying5 Try.underlying9 (.slice ad n c) b (HV.out.below hb6)
        exact st_yield ho (wanted_some rfl rfl h21 rfl) (.string (str b)) w6 (by simp [execOp, Act.eval, h25, go_sem, cv, Result.andThen]) ⟨_, rfl, Below.refl _ _, by rintro t' ⟨⟩; rfl⟩
      | 8, ho =>
        obtain rfl := Option.some.inj ho
        obtain ⟨_, h24, rfl⟩ := given_fed hg 24 (by decide +kernel)
        obtain ⟨_, h26, rfl⟩ := given_fed hg 26 (by decide +kernel)
        obtain ⟨_, h21, rfl⟩ := given_fed hg 21 (by decide +kernel)
        clear hg
        exact st_yield ho (wanted_some rfl rfl h21 rfl) (.bool true) w6 (by simp [execOp, Act.eval, h24, h26, go_sem, Heq.out]) ⟨_, rfl, Below.refl _ _, by rintro t' ⟨⟩; rfl⟩
      | 9, ho =>
        obtain rfl := Option.some.inj ho
        obtain ⟨_, h21, rfl⟩ := given_fed hg 21 (by decide +kernel)
        obtain ⟨_, h27, rfl⟩ := given_fed hg 27 (by decide +kernel)
        clear hg
        exact st_yield ho (wanted_none rfl) (.bool true) w6 (by simp [execOp, Act.eval, h21, h27, go_sem]) ⟨_, rfl, Below.refl _ _, by rintro t' ⟨⟩; rfl⟩
      | 10, ho =>
        obtain rfl := Option.some.inj ho
        obtain ⟨_, h28, rfl⟩ := given_fed hg 28 (by decide +kernel)
        clear hg
        exact st_yield ho (wanted_none rfl) (.bool true) w6 (by simp [execOp, Act.eval, h28, go_sem]) ⟨_, rfl, Below.refl _ _, by rintro t' ⟨⟩; rfl⟩
      | n + 11, ho => simp at ho
    · intro f w6 hb6 hv
      have h2 := hv 2 (by decide)
      simp only [VTl] at h2
      have HB6 := Go.Lib.hid (HB.out.trans (hb6.mono HB.out.size))
      clear hv hb6
      unfold putAll
      simp only [List.foldl]
      simp only [h2]
      go_simp
      go_wp2_with fail
      go_ret
      exact ⟨rfl, HB6.out⟩

end Go.Proofs.Yteickihofbkbkaa
