/-
  The law's tells.
-/
import Derived.Test.YtoaiogfeffnlcaaBatD
import Derived.Test.YtoaiogfeffnlcaaBatE
import Derived.Test.YtoaiogfeffnlcaaDraw
namespace Go.Proofs.Ytoaiogfeffnlcaa
open Go.RowKit

theorem sliceB {w : World} {v : Value} {l : List UInt8} (h : RB w v l) : ∃ a n c, v = .slice a n c := by
  obtain ⟨a, c, rfl, -⟩ := h
  exact ⟨_, _, _, rfl⟩
def VTb (u : Value) (b : List UInt8) (ad : Option Addr) (n c : Nat) : Nat → World → Value → Prop
  | 2, _, v => v = .bool true
  | 19, _, v => v = u
  | 20, w, v => RB w v b
  | 21, _, v => v = .string (str b)
  | 22, _, v => v = .slice ad n c
  | 23, _, v => v = .string (str b)
  | 24, _, v => v = .bool true
  | _, _, _ => True

theorem VTb_below (u : Value) (b : List UInt8) (ad : Option Addr) (n c : Nat) : ∀ (i : Nat) (w w' : World) (v : Value), VTb u b ad n c i w v → Below w.heap.size w w' → VTb u b ad n c i w' v := by
  intro i w w' v h hb
  unfold VTb at h ⊢
  split at h <;> first | exact h | trivial | exact RB.below h hb | exact Own.below h hb | exact OwnV.below h hb

set_option maxHeartbeats 1000000 in
set_option maxRecDepth 100000 in
theorem tells_c (v : Value) (b : List UInt8) (w : World) (hv : RB w v b) :
    Calls Try.prog 17 #[v] w fun e w' => e = .returned (.bool true) ∧ Below w.heap.size w w' := by
  obtain ⟨ad, n, c, rfl⟩ := sliceB hv
  cases hd : rowD b with
  | none =>
    have C := Go.Lib.hid (bdecode_no hv hd)
    clear hv hd
    go_enter Try.func17, Try.ntmps17
    go_wp2_with fail
    refine C.out.mono ?_
    rintro e w1 ⟨rfl, hb⟩
    have HB := Go.Lib.hid hb
    clear hb C
    go_wp2_with fail
    go_ret
    exact ⟨rfl, HB.out⟩
  | some l =>
    have C := Go.Lib.hid (bdecode_c hv hd)
    obtain ⟨hm, hok, hb⟩ := rowD_ok hd
    have he : rowE l = b := by unfold rowE; rw [hm]; exact hb
    have CR0 := Go.Lib.hid (fun u W (h : RS W u l) => by have := rrow_c u l W h hok; rw [he] at this; exact this)
    have HV0 := Go.Lib.hid hv
    clear hv hd hm hok hb he
    go_enter Try.func17, Try.ntmps17
    go_wp2_with fail
    refine C.out.mono ?_
    rintro e w1 ⟨u, rfl, hown, hb1⟩
    have CR := Go.Lib.hid (fun W (h : RS W u l) => CR0.out u W h)
    have HU := Go.Lib.hid hown.rs
    have HV := Go.Lib.hid (HV0.out.below hb1)
    have HB := Go.Lib.hid hb1
    clear hown hb1 C CR0 HV0
    go_upto_region 4 with (fail)
    refine wp_region_each (by kernel_rfl) (VTb u b ad n c) (VTb_below u b ad n c) (by decide +kernel) (by decide +kernel) (by rfl) [19, 20, 21, 22, 23, 24, 2] (by rfl) ?_ ?_
    · intro i o ho a w6 hb6 hlen hg
      match i, ho with
      | 0, ho =>
        obtain rfl := Option.some.inj ho
        have h3 := given_old hg 3 (by decide +kernel)
        clear hg
        exact st_yield ho (wanted_none rfl) (u) w6 (by simp [execOp, Act.eval, h3, go_sem]) ⟨_, rfl, Below.refl _ _, by rintro t' ⟨⟩; rfl⟩
      | 1, ho =>
        obtain rfl := Option.some.inj ho
        obtain ⟨v19', h19, p19⟩ := given_fed hg 19 (by decide +kernel)
        have p19 : v19' = u := p19
        rw [p19] at h19
        clear hg
        exact st_enter (w1 := w6) ho (wanted_none rfl) 12 #[u] (by simp [execOp, Act.eval, h19, resolve, go_sem]) ((CR.out _ (HU.out.below hb6)).mono (by rintro e w7 ⟨v, rfl, hown, hb7⟩; exact ⟨v, rfl, _, rfl, hb7, by rintro t' ⟨⟩; exact hown.rb⟩))
      | 2, ho =>
        obtain rfl := Option.some.inj ho
        obtain ⟨v20, h20, p20⟩ := given_fed hg 20 (by decide +kernel)
        clear hg
        have cv := run_string_RB w6 25 5 9 Try.underlying25 Try.underlying5 Try.underlying9 v20 _ p20
        exact st_yield ho (wanted_none rfl) (.string (str b)) w6 (by simp [execOp, Act.eval, h20, go_sem, cv, Result.andThen]) ⟨_, rfl, Below.refl _ _, by rintro t' ⟨⟩; rfl⟩
      | 3, ho =>
        obtain rfl := Option.some.inj ho
        have h0 := given_old hg 0 (by decide +kernel)
        clear hg
        exact st_yield ho (wanted_none rfl) (.slice ad n c) w6 (by simp [execOp, Act.eval, h0, go_sem]) ⟨_, rfl, Below.refl _ _, by rintro t' ⟨⟩; rfl⟩
      | 4, ho =>
        obtain rfl := Option.some.inj ho
        obtain ⟨_, h22, rfl⟩ := given_fed hg 22 (by decide +kernel)
        clear hg
        have cv := run_string_RB w6 25 5 9 Try.underlying25 Try.underlying5 Try.underlying9 (.slice ad n c) b (HV.out.below hb6)
        exact st_yield ho (wanted_none rfl) (.string (str b)) w6 (by simp [execOp, Act.eval, h22, go_sem, cv, Result.andThen]) ⟨_, rfl, Below.refl _ _, by rintro t' ⟨⟩; rfl⟩
      | 5, ho =>
        obtain rfl := Option.some.inj ho
        obtain ⟨_, h21, rfl⟩ := given_fed hg 21 (by decide +kernel)
        obtain ⟨_, h23, rfl⟩ := given_fed hg 23 (by decide +kernel)
        clear hg
        exact st_yield ho (wanted_none rfl) (.bool true) w6 (by simp [execOp, Act.eval, h21, h23, go_sem]) ⟨_, rfl, Below.refl _ _, by rintro t' ⟨⟩; rfl⟩
      | 6, ho =>
        obtain rfl := Option.some.inj ho
        obtain ⟨_, h24, rfl⟩ := given_fed hg 24 (by decide +kernel)
        clear hg
        exact st_yield ho (wanted_none rfl) (.bool true) w6 (by simp [execOp, Act.eval, h24, go_sem]) ⟨_, rfl, Below.refl _ _, by rintro t' ⟨⟩; rfl⟩
      | n + 7, ho => simp at ho
    · intro f w6 hb6 hv
      have h2 := hv 2 (by decide)
      simp only [VTb] at h2
      have HB6 := Go.Lib.hid (HB.out.trans (hb6.mono HB.out.size))
      clear hv hb6
      unfold putAll
      simp only [List.foldl]
      simp only [h2]
      go_simp
      go_wp2_with fail
      go_ret
      exact ⟨rfl, HB6.out⟩

end Go.Proofs.Ytoaiogfeffnlcaa
