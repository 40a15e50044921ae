/-
  The contracts of extent's New and Copy, of slices.Clone of bools.
-/
import Derived.Test.YtheljojjpnpdaaaExtT
import Derived.Test.YtheljojjpnpdaaaHead
import Derived.Lib.SliceRun
namespace Go.Proofs.Ytheljojjpnpdaaa
open Go.RowKit

set_option maxRecDepth 100000
theorem new_bad (w : World) (a b : Int) (h : a < 0 ∨ b < 0 ∨ 2048 < b) : Calls Try.prog 10 #[.int .i64 a, .int .i64 b] w fun e w' => ∃ r, e = .returned (.pointer (some ⟨r, 0, none⟩)) ∧ RM w' w.heap.size r 0 0 (.slice none 0 0) (fun _ => false) ∧ Below w.heap.size w w' := by
  have hend : RM (w.alloc (.cells #[.int .i64 0, .slice none 0 0] 45)) w.heap.size w.heap.size 0 0 (.slice none 0 0) (fun _ => false) :=
    ⟨heap_alloc_new w _, OwnV.nil _ _ _, Nat.le_refl _, fun _ _ => rfl, by omega⟩
  have HE := Go.Lib.hid hend
  clear hend
  by_cases h1 : a < 0
  · clear h
    go_enter Try.func10, Try.ntmps10
    go_wp2_with fail
    go_ret
    exact ⟨_, rfl, HE.out, below_alloc w _⟩
  by_cases h2 : b < 0
  · clear h
    go_enter Try.func10, Try.ntmps10
    go_wp2_with fail
    go_ret
    exact ⟨_, rfl, HE.out, below_alloc w _⟩
  have h3 : 2048 < b := by omega
  clear h
  go_enter Try.func10, Try.ntmps10
  go_wp2_with fail
  go_ret
  exact ⟨_, rfl, HE.out, below_alloc w _⟩

theorem new_c (w : World) (a n : Nat) (hn : n ≤ 2048) (ha : a + n ≤ 100000) : Calls Try.prog 10 #[.int .i64 (a : Int), .int .i64 (n : Int)] w fun e w' => ∃ r v, e = .returned (.pointer (some ⟨r, 0, none⟩)) ∧ RM w' w.heap.size r a n v (iv a (a + n)) ∧ Below w.heap.size w w' := by
  have hnI : (n : Int) ≤ 2048 := by omega
  have HN := Go.Lib.hid hn
  have HA := Go.Lib.hid ha
  clear ha hn
  go_enter Try.func10, Try.ntmps10
  go_wp2_with (first
    | (with_reducible show wpList _ _ _ (⟨some 20, _, _, _, _, _⟩ :: _) _ _; go_loud (refine wpList_make_zb rfl (.tmp 19) (.tmp 19) 26 rfl 4 Try.underlying26 infoBl .i64 .i64 (n : Int) n rfl rfl rfl (by have := HN.out; omega) ?_); intro v2 w2 ho2 hb2; rw [← zf_rep] at ho2; obtain ⟨va, vc, rfl⟩ := ho2.anyform; have HO := Go.Lib.hid ho2; have HB := Go.Lib.hid hb2; clear ho2 hb2)
    | fail)
  have hrow := HO.out
  have hr2 := hrow.below (below_alloc w2 (.cells #[.int .i64 (a : Int), .slice va n vc] 45))
  have hbb := HB.out.trans ((below_alloc w2 (.cells #[.int .i64 (a : Int), .slice va n vc] 45)).mono HB.out.size)
  have hblk := heap_alloc_new w2 (.cells #[.int .i64 (a : Int), .slice va n vc] 45)
  have HR := Go.Lib.hid hr2
  have HBB := Go.Lib.hid hbb
  have HK := Go.Lib.hid hblk
  rcases Nat.eq_zero_or_pos n with h0 | h0
  · subst h0
    refine (set_none _ true).mono ?_
    rintro e w3 ⟨rfl, rfl⟩
    clear hrow hr2 hbb hblk
    go_wp2_with fail
    go_ret
    refine ⟨_, _, rfl, ⟨HK.out, ?_, HB.out.size, fun k hk => iv_out (by omega), HA.out⟩, HBB.out⟩
    have e : zf 0 (fun i => iv a (a + 0) (a + i)) = zf 0 (fun _ => false) := rfl
    rw [e]
    exact HR.out
  · obtain ⟨g, c, hv⟩ := hr2.fform h0
    simp only [Value.slice.injEq, true_and] at hv
    obtain ⟨rfl, rfl⟩ := hv
    have hsm := HN.out
    refine (set_c (o := 0) (m := n) (cap := vc) HR.out (by omega) (by omega) true).mono ?_
    rintro e w3 ⟨rfl, ho3, hg3⟩
    have hne : some w2.heap.size ≠ some g := by
      intro e
      simp only [Option.some.injEq] at e
      have := hrow.lt.1
      omega
    have hlt : w2.heap.size < (w2.alloc (.cells #[.int .i64 (a : Int), .slice (some ⟨g, 0, none⟩) n vc] 45)).heap.size := (Array.getElem?_eq_some_iff.1 hblk).1
    have HE := Go.Lib.hid (show RM w3 w.heap.size w2.heap.size a n (.slice (some ⟨g, 0, none⟩) n vc) (iv a (a + n)) from by
      refine ⟨(hg3.block _ hlt hne).trans hblk, ?_, HB.out.size, fun k hk => iv_out (by omega), HA.out⟩
      rw [show zf n (fun i => iv a (a + n) (a + i)) = zf n (setF (fun _ => false) 0 n true) from zf_congr fun i hi => by rw [iv_in (by omega) (by omega), setF_in (by omega) (by omega)]]
      exact ho3)
    have HB3 := Go.Lib.hid (HBB.out.grown hg3 HBB.out.size (fun k hk => by cases hk; exact hrow.lt.2))
    clear hrow hr2 hbb hblk hne hlt ho3 hg3 hsm
    go_wp2_with fail
    go_ret
    exact ⟨_, _, rfl, HE.out, HB3.out⟩

theorem clone_b (w : World) (B n : Nat) (v : Value) (f : Nat → Bool) (h : OwnV 4 w B v (zf n f)) (hn : n ≤ 1000000) : Calls Try.prog 21 #[v] w fun e w' => ∃ v', e = .returned v' ∧ OwnV 4 w' w.heap.size v' (zf n f) ∧ Below w.heap.size w w' := by
  obtain ⟨a, cap, rfl⟩ := h.anyform
  have hq := fun w => Go.Lib.run_eql_slice_nil (P := Try.prog) w 26 4 a n cap 0 0 Try.underlying26
  cases a with
  | none =>
    have h0 : n = 0 := by
      rcases Nat.eq_zero_or_pos n with h0 | h0
      · exact h0
      · obtain ⟨g, c, hv⟩ := h.fform h0; cases hv
    subst h0
    have hc : cap = 0 := by
      rcases h.2 with ⟨h', -⟩ | ⟨g, c, cur, hv, -⟩
      · cases h'; rfl
      · cases hv
    subst hc
    clear h hq
    have hq := fun w => Go.Lib.run_eql_slice_nil (P := Try.prog) w 26 4 none 0 0 0 0 Try.underlying26
    go_enter Try.func21, Try.ntmps21
    go_wp2_with fail
    go_ret
    exact ⟨_, rfl, OwnV.nil _ _ _, Below.refl _ _⟩
  | some ad =>
    go_enter Try.func21, Try.ntmps21
    have ho : OwnV 4 (w.alloc (.cells #[] 4)) w.heap.size (.slice (some ⟨w.heap.size, 0, none⟩) 0 0) (zb []) := ⟨rfl, .inr ⟨w.heap.size, 0, #[], rfl, Nat.le_refl _, heap_alloc_new w _, Nat.le_refl _, by simp [maxLen], rfl, rfl⟩⟩
    have hr := (h.below (below_alloc w (.cells #[] 4))).rv
    unfold zf at hr
    have hsz : w.heap.size ≤ (w.alloc (.cells #[] 4)).heap.size := by simp
    have hln : ([] : List Bool).length + ((List.range n).map f).length ≤ 140737488355328 := by simp; omega
    have HO := Go.Lib.hid ho
    have HR := Go.Lib.hid hr
    have HL := Go.Lib.hid hln
    clear ho hr hln h hn
    go_wp2_with (first
      | (with_reducible show wpList _ _ _ (⟨some 7, _, _, _, _, _⟩ :: _) _ _; go_must (refine wpList_append_zb rfl (.tmp 5) (.tmp 6) 26 rfl w.heap.size 4 Try.underlying26 infoBl (.slice (some ⟨w.heap.size, 0, none⟩) 0 0) (.slice (some ad) n cap) [] ((List.range n).map f) rfl rfl HO.out HR.out HL.out hsz ?_); intro v' w2 ho2 hg2; rw [List.nil_append] at ho2; have HO2 := Go.Lib.hid ho2; clear ho2)
      | fail)
    go_ret
    exact ⟨v', rfl, HO2.out, ((Below.refl _ w).alloc (Nat.le_refl _) _).grown hg2 hsz (fun k hk => by cases hk; exact Nat.le_refl _)⟩

theorem copy_nil (w : World) : Calls Try.prog 17 #[.pointer none] w fun e w' => e = .returned (.pointer none) ∧ w = w' := by
  go_enter Try.func17, Try.ntmps17
  go_wp2_with fail
  go_ret
  exact ⟨rfl, rfl⟩
def VC (B r at_ n : Nat) (x : Value) (G : Nat → Bool) : Nat → World → Value → Prop
  | 5, _, v => v = .pointer (some ⟨r, 0, none⟩)
  | 6, _, v => v = .pointer (some ⟨r, 0, none⟩)
  | 7, _, v => v = .pointer (some ⟨r, 0, none⟩)
  | 8, _, v => v = .int .i64 (at_ : Int)
  | 9, _, v => v = .pointer (some ⟨r, 0, none⟩)
  | 10, _, v => v = .pointer (some ⟨r, 0, none⟩)
  | 11, _, v => v = .pointer (some ⟨r, 1, none⟩)
  | 12, w, v => v = x
  | 13, w, v => OwnV 4 w B v (zf n (fun i => G (at_ + i)))
  | 14, w, v => ∃ u, v = .agg #[.int .i64 (at_ : Int), u] ∧ OwnV 4 w B u (zf n (fun i => G (at_ + i)))
  | 15, w, v => ∃ d u, v = .pointer (some ⟨d, 0, none⟩) ∧ RM w B d at_ n u G
  | 2, w, v => ∃ d u, v = .pointer (some ⟨d, 0, none⟩) ∧ RM w B d at_ n u G
  | _, _, _ => True

theorem VC_below (B r at_ n : Nat) (x : Value) (G : Nat → Bool) : ∀ (i : Nat) (w w' : World) (v : Value), VC B r at_ n x G i w v → Below w.heap.size w w' → VC B r at_ n x G i w' v := by
  intro i w w' v h hb
  unfold VC at h ⊢
  split at h <;> first | exact h | trivial | exact OwnV.below h hb | (obtain ⟨u, e, k⟩ := h; exact ⟨u, e, k.below hb⟩) | (obtain ⟨d, u, e, k⟩ := h; exact ⟨d, u, e, k.below hb⟩)

theorem copy_c {w : World} {B r at_ n : Nat} {y : Value} {G : Nat → Bool} (h : RM w B r at_ n y G) : Calls Try.prog 17 #[.pointer (some ⟨r, 0, none⟩)] w fun e w' => ∃ d u, e = .returned (.pointer (some ⟨d, 0, none⟩)) ∧ RM w' w.heap.size d at_ n u G ∧ Below w.heap.size w w' := by
  have H := Go.Lib.hid h
  have hs := h.small
  have hn : n ≤ 1000000 := by omega
  have HS := Go.Lib.hid hs
  clear h hs
  go_enter Try.func17, Try.ntmps17
  go_upto_region 3 with (fail)
  refine wp_region_each (by kernel_rfl) (VC w.heap.size r at_ n y G) (VC_below w.heap.size r at_ n y G) (by decide +kernel) (by decide +kernel) (by rfl) [5, 6, 7, 8, 9, 10, 11, 12, 13, 14, 15, 2] (by rfl) ?_ ?_
  · intro i o ho a w6 hb6 hlen hg
    have hm := H.out.below hb6
    have c0 := hm.c0
    have c1 := hm.c1
    match i, ho with
    | 0, ho =>
      obtain rfl := Option.some.inj ho
      have h0 := given_old hg 0 (by decide +kernel)
      clear hg
      exact st_yield ho (wanted_none rfl) (.pointer (some ⟨r, 0, none⟩)) w6 (by simp [execOp, Act.eval, h0, go_sem]) ⟨_, rfl, Below.refl _ _, by rintro t' ⟨⟩; rfl⟩
    | 1, ho =>
      obtain rfl := Option.some.inj ho
      obtain ⟨_, h5, rfl⟩ := given_fed hg 5 (by decide +kernel)
      clear hg
      exact st_yield ho (wanted_none rfl) (.pointer (some ⟨r, 0, none⟩)) w6 (by simp [execOp, Act.eval, h5, go_sem]) ⟨_, rfl, Below.refl _ _, by rintro t' ⟨⟩; rfl⟩
    | 2, ho =>
      obtain rfl := Option.some.inj ho
      obtain ⟨_, h6, rfl⟩ := given_fed hg 6 (by decide +kernel)
      clear hg
      exact st_yield ho (wanted_none rfl) (.pointer (some ⟨r, 0, none⟩)) w6 (by simp [execOp, Act.eval, h6, go_sem]) ⟨_, rfl, Below.refl _ _, by rintro t' ⟨⟩; rfl⟩
    | 3, ho =>
      obtain rfl := Option.some.inj ho
      obtain ⟨_, h7, rfl⟩ := given_fed hg 7 (by decide +kernel)
      clear hg
      exact st_yield ho (wanted_none rfl) (.int .i64 (at_ : Int)) w6 (by simp [execOp, Act.eval, h7, go_sem, c0]) ⟨_, rfl, Below.refl _ _, by rintro t' ⟨⟩; rfl⟩
    | 4, ho =>
      obtain rfl := Option.some.inj ho
      have h0 := given_old hg 0 (by decide +kernel)
      clear hg
      exact st_yield ho (wanted_none rfl) (.pointer (some ⟨r, 0, none⟩)) w6 (by simp [execOp, Act.eval, h0, go_sem]) ⟨_, rfl, Below.refl _ _, by rintro t' ⟨⟩; rfl⟩
    | 5, ho =>
      obtain rfl := Option.some.inj ho
      obtain ⟨_, h9, rfl⟩ := given_fed hg 9 (by decide +kernel)
      clear hg
      exact st_yield ho (wanted_none rfl) (.pointer (some ⟨r, 0, none⟩)) w6 (by simp [execOp, Act.eval, h9, go_sem]) ⟨_, rfl, Below.refl _ _, by rintro t' ⟨⟩; rfl⟩
    | 6, ho =>
      obtain rfl := Option.some.inj ho
      obtain ⟨_, h10, rfl⟩ := given_fed hg 10 (by decide +kernel)
      clear hg
      exact st_yield ho (wanted_none rfl) (.pointer (some ⟨r, 1, none⟩)) w6 (by simp [execOp, Act.eval, h10, go_sem]) ⟨_, rfl, Below.refl _ _, by rintro t' ⟨⟩; rfl⟩
    | 7, ho =>
      obtain rfl := Option.some.inj ho
      obtain ⟨_, h11, rfl⟩ := given_fed hg 11 (by decide +kernel)
      clear hg
      exact st_yield ho (wanted_none rfl) y w6 (by simp [execOp, Act.eval, h11, c1, go_sem]) ⟨_, rfl, Below.refl _ _, by rintro t' ⟨⟩; rfl⟩
    | 8, ho =>
      obtain rfl := Option.some.inj ho
      obtain ⟨v12, h12, p12⟩ := given_fed hg 12 (by decide +kernel)
      clear hg
      rw [p12] at h12
      exact st_enter (w1 := w6) ho (wanted_none rfl) 21 #[y] (by simp [execOp, Act.eval, h12, resolve, go_sem]) ((clone_b w6 _ n y _ hm.row hn).mono (by rintro e w7 ⟨u, rfl, ho7, hb7⟩; exact ⟨_, rfl, _, rfl, hb7, by rintro t' ⟨⟩; exact ho7.mono hb6.size⟩))
    | 9, ho =>
      obtain rfl := Option.some.inj ho
      obtain ⟨_, h8, rfl⟩ := given_fed hg 8 (by decide +kernel)
      obtain ⟨v13, h13, p13⟩ := given_fed hg 13 (by decide +kernel)
      clear hg
      obtain ⟨ua, uc, rfl⟩ := p13.anyform
      exact st_yield ho (wanted_none rfl) (.agg #[.int .i64 (at_ : Int), .slice ua n uc]) w6 (by simp [execOp, Act.eval, h8, h13, go_sem]) ⟨_, rfl, Below.refl _ _, by rintro t' ⟨⟩; exact ⟨_, rfl, p13⟩⟩
    | 10, ho =>
      obtain rfl := Option.some.inj ho
      obtain ⟨v14, h14, p14⟩ := given_fed hg 14 (by decide +kernel)
      clear hg
      obtain ⟨u, rfl, hu⟩ := p14
      obtain ⟨ua, uc, rfl⟩ := hu.anyform
      exact st_yield ho (wanted_none rfl) (.pointer (some ⟨w6.heap.size, 0, none⟩)) (w6.alloc (.cells #[.int .i64 (at_ : Int), .slice ua n uc] 45)) (by simp [execOp, Act.eval, h14, go_sem]) ⟨_, rfl, below_alloc _ _, by rintro t' ⟨⟩; exact ⟨_, _, rfl, heap_alloc_new w6 _, hu.below (below_alloc _ _), hb6.size, H.out.out, HS.out⟩⟩
    | 11, ho =>
      obtain rfl := Option.some.inj ho
      obtain ⟨v15, h15, p15⟩ := given_fed hg 15 (by decide +kernel)
      clear hg
      obtain ⟨d, u, rfl, hu⟩ := p15
      exact st_yield ho (wanted_none rfl) (.pointer (some ⟨d, 0, none⟩)) w6 (by simp [execOp, Act.eval, h15, go_sem]) ⟨_, rfl, Below.refl _ _, by rintro t' ⟨⟩; exact ⟨_, _, rfl, hu⟩⟩
    | n + 12, ho => simp at ho
  · intro f w6 hb6 hv
    have h2 := hv 2 (by decide)
    simp only [VC] at h2
    obtain ⟨d, u, e2, hrm⟩ := h2
    unfold putAll
    simp only [List.foldl]
    simp only [e2]
    clear hv
    have HRM := Go.Lib.hid hrm
    clear hrm
    go_simp
    go_wp2_with fail
    go_ret
    exact ⟨d, u, rfl, HRM.out, hb6⟩

end Go.Proofs.Ytheljojjpnpdaaa
