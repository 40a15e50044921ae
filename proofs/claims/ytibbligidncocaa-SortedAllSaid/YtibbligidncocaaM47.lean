/-
  Stage 22: the two pairs of begun.
  Stage 22: the law's tells: bytes are a store's, just its, or none's.
-/
import Derived.Test.YtibbligidncocaaM44
import Derived.Test.YtibbligidncocaaM46
namespace Go.Proofs.Ytibbligidncocaa
open Go.RowKit

def raS : RecT := (⟨#[97]⟩, false, 1, 1, ⟨#[]⟩)
def rbS : RecT := (⟨#[98]⟩, false, 1, 2, ⟨#[]⟩)
theorem ba_less : lessK ⟨#[98]⟩ ⟨#[97]⟩ = true := (lessK_iff _ _).2 (.inl (by
  have h : hashS ⟨#[97]⟩ - hashS ⟨#[98]⟩ ≠ 0 := by decide +kernel
  omega))
theorem ab_keep : firstsK kf (keepL ([raS, rbS].map cutR)) = [raS, rbS] := by decide +kernel
theorem ra_may : mayX raS = true := by decide +kernel
theorem rb_may : mayX rbS = true := by decide +kernel
theorem ba_sort : SortK kf [rbS, raS] := by
  unfold SortK
  rw [List.pairwise_cons]
  refine ⟨fun b hb => ?_, List.pairwise_cons.2 ⟨fun b hb => (by cases hb), .nil⟩⟩
  rw [List.mem_singleton.1 hb]
  exact ba_less
theorem ba_mem {x : RecT} (hx : x ∈ [rbS, raS]) : x = rbS ∨ x = raS := by simpa only [List.mem_cons, List.not_mem_nil, or_false] using hx
theorem ba_may : mayP [rbS, raS] = true := mayP_sort.2 ⟨ba_sort, fun x hx => by
  rcases ba_mem hx with rfl | rfl
  · exact rb_may
  · exact ra_may, by decide⟩
theorem ab_may : mayP [raS, rbS] = false := by
  cases h : mayP [raS, rbS] with
  | false => rfl
  | true =>
    have h1 := (mayP_sort.1 h).1
    unfold SortK at h1
    rw [List.pairwise_cons] at h1
    have h2 : lessK ⟨#[97]⟩ ⟨#[98]⟩ = true := h1.1 rbS (by simp)
    have := lessK_asymm ba_less
    rw [h2] at this
    cases this
theorem ba_reads : sreadsK [rbS, raS] (hashS ⟨#[97]⟩) = 1 := by decide +kernel
theorem ba_findB : findK keyR [rbS, raS] (⟨#[98]⟩ : ByteArray).toList = some rbS := mayP_find ba_may (x := rbS) (by simp)
theorem ba_findC : findK keyR [rbS, raS] (⟨#[99]⟩ : ByteArray).toList = none := (find_none _).2 fun x hx e => by
  have := keyR_eq.1 e
  rcases ba_mem hx with rfl | rfl <;> exact absurd this (by decide)
theorem ba_ok : ∀ x ∈ [rbS, raS], RecOk x := fun x hx => by
  rcases ba_mem hx with rfl | rfl
  · exact ⟨by decide, by decide, by decide, by decide⟩
  · exact ⟨by decide, by decide, by decide, by decide⟩
theorem ba_row : rowD (rowB [rbS, raS]) = some [rbS, raS] := rowD_put (by
  rw [mayRow_iff]
  refine ⟨by decide, fun x hx => ?_⟩
  rcases ba_mem hx with rfl | rfl
  · exact rb_may
  · exact ra_may) ba_ok
theorem pair_len {α : Type} : ∀ {l : List α} (m : List α), l.Pairwise (· ≠ ·) → (∀ x ∈ l, x ∈ m) → l.length ≤ m.length
  | [], _, _, _ => Nat.zero_le _
  | x :: l, m, hd, hs => by
    obtain ⟨a, b, rfl⟩ := List.append_of_mem (hs x (by simp))
    rw [List.pairwise_cons] at hd
    have := pair_len (a ++ b) hd.2 fun y hy => by
      have h1 := hs y (List.mem_cons_of_mem _ hy)
      rcases List.mem_append.1 h1 with h | h
      · exact List.mem_append.2 (.inl h)
      · rcases List.mem_cons.1 h with h | h
        · exact absurd h.symm (hd.1 y hy)
        · exact List.mem_append.2 (.inr h)
    simp only [List.length_append, List.length_cons] at this ⊢
    omega
/-- What Pairs makes is a store: in order, each key once. -/
theorem pairs_may {v : Value} {l : List RecT} {w w' : World} (h : PairsTo v l w w') (hl : (firstsK kf (keepL l)).length ≤ 1000) : ∃ P, K4.O w' w.heap.size v P ∧ mayP P = true ∧ (∀ x ∈ P, x.2.1 = false) ∧ (∀ x, x ∈ P ↔ x ∈ firstsK kf (keepL l)) ∧ Below w.heap.size w w' := by
  obtain ⟨P, h1, h2, h3, h4, h5⟩ := h
  refine ⟨P, h1, mayP_sort.2 ⟨h2, fun x hx => (h3 x hx).2, ?_⟩, fun x hx => (h3 x hx).1, h4, h5⟩
  have hnd : P.Pairwise (· ≠ ·) := h2.imp fun {a b} h e => by
    have := lessK_ne h
    exact this (by rw [e])
  have := pair_len _ hnd fun x hx => (h4 x).1 hx
  omega
theorem ba_pairs {v : Value} {w w' : World} (h : PairsTo v (([raS, rbS].take 30).map cutR) w w') : K4.O w' w.heap.size v [rbS, raS] ∧ Below w.heap.size w w' := by
  obtain ⟨P, h1, h2, h3, h4, h5⟩ := h
  rw [show [raS, rbS].take 30 = [raS, rbS] from rfl, ab_keep] at h4
  rw [sortK_ext (key := kf) h2 ba_sort fun x => (h4 x).trans (by simp only [List.mem_cons, List.not_mem_nil, or_false]; exact Or.comm)] at h1
  exact ⟨h1, h5⟩
end Go.Proofs.Ytibbligidncocaa

namespace Go.Proofs.Ytibbligidncocaa
open Go.RowKit

def VTs (P : List RecT) (B : List UInt8) (p n c : Nat) (av : Option Addr) : Nat → World → Value → Prop
  | 2, _, v => v = .bool true
  | 18, _, v => v = .pointer (some ⟨p, 0, none⟩)
  | 19, w, v => K4.R w v P
  | 20, w, v => RB w v B
  | 21, _, v => v = .string (str B)
  | 22, _, v => v = .slice av n c
  | 23, _, v => v = .string (str B)
  | 24, _, v => v = .bool true
  | _, _, _ => True

theorem VTs_below (P : List RecT) (B : List UInt8) (p n c : Nat) (av : Option Addr) : ∀ (i : Nat) (w w' : World) (v : Value), VTs P B p n c av i w v → Below w.heap.size w w' → VTs P B p n c av i w' v := by
  intro i w w' v h hb
  unfold VTs at h ⊢
  split at h <;> first | exact h | trivial | exact RB.below h hb | exact Lay.R.below h hb | exact Own.below h hb | exact OwnV.below h hb | exact OwnRec.below h hb | exact Lay.R.below h hb

theorem mayX_gone {k s : ByteArray} {a n : Int} (h1 : mayT (k, true, a, n, s) = true) (h2 : mayX (k, true, a, n, s) = true) : False := by
  unfold mayT at h1
  unfold mayX at h2
  simp only [mayRec, Bool.and_eq_true, if_true, beq_iff_eq] at h1
  simp only [Bool.and_eq_true] at h2
  obtain ⟨-, ⟨h3, h4⟩, h5⟩ := h1
  subst h3 h4
  obtain ⟨-, h6⟩ := h2
  simp [mayR] at h6
theorem plain_same {P : List RecT} (h1 : ∀ x ∈ P, mayT x = true) (h2 : mayP P = true) : P.map plainR = P := by
  have h3 := (mayP_sort.1 h2).2.1
  refine (List.map_congr_left fun x hx => ?_).trans (List.map_id P)
  obtain ⟨k, g, a, n, s⟩ := x
  have e1 := h1 _ hx
  have e2 := h3 _ hx
  cases g with
  | false => rfl
  | true =>
    exfalso
    exact mayX_gone e1 e2
set_option maxHeartbeats 2000000 in
set_option maxRecDepth 100000 in
theorem stells_c (v : Value) (l : List UInt8) (w : World) (hv : RB w v l) :
    Calls Try.prog 22 #[v] w fun e w' => e = .returned (.bool true) ∧ Below w.heap.size w w' := by
  have CO := Go.Lib.hid (sopen_c v l w hv)
  obtain ⟨av, n, c, rfl⟩ : ∃ a n c, v = .slice a n c := by
    obtain ⟨a, c, e, -⟩ := id hv
    exact ⟨a, _, c, e⟩
  have HV0 := Go.Lib.hid (show ∀ W, Below w.heap.size w W → RB W (.slice av n c) l from fun W hb => hv.below hb)
  clear hv
  go_enter Try.func22, Try.ntmps22
  go_wp2_with fail
  refine CO.out.mono ?_
  rintro e w1 ⟨hb1, hq⟩
  rcases hq with ⟨P, hd, hm, p, rfl, hsw⟩ | ⟨-, rfl⟩
  · obtain ⟨hrow, hok, hbl⟩ := rowD_ok hd
    have hpl := plain_same (mayRow_iff.1 hrow).2 hm
    have hL := mayP_len hm
    have CLS := Go.Lib.hid fun W (hb : Below w1.heap.size w1 W) => slist_c (hsw.below hb)
    have CPB := Go.Lib.hid (show ∀ (W : World) (u : Value), K4.R W u P → _ from fun W u hu => by
      have := rpairbytes_c u P W hu (mayP_small hm) hok (by omega)
      rw [show pairE P = l from by unfold pairE; rw [if_pos hm, hpl, hbl]] at this
      exact this)
    have HV := Go.Lib.hid (show ∀ W, Below w1.heap.size w1 W → RB W (.slice av n c) l from fun W hb => HV0.out W (hb1.trans (hb.mono hb1.size)))
    have HB1 := Go.Lib.hid hb1
    clear hrow hok hbl hpl hL hm hd hsw hb1 CO HV0
    obtain ⟨B, hB⟩ : ∃ B, B = l := ⟨_, rfl⟩
    rw [← hB] at HV CPB
    clear hB
    have hss : ((str B).toList == (str B).toList) = true := by simp
    go_upto_region 4 with (fail)
    refine wp_region_each (by kernel_rfl) (VTs P B p n c av) (VTs_below P B p n c av) (by decide +kernel) (by decide +kernel) (by rfl) [18, 19, 20, 21, 22, 23, 24, 2] (by rfl) ?_ ?_
    · intro i o ho a w6 hb6 hlen hg
      match i, ho with
      | 0, ho =>
        obtain rfl := Option.some.inj ho
        have h3 := given_old hg 3 (by decide +kernel)
        clear hg
        exact st_yield ho (wanted_none rfl) (.pointer (some ⟨p, 0, none⟩)) w6 (by simp [execOp, Act.eval, h3, go_sem]) ⟨_, rfl, Below.refl _ _, by rintro t' ⟨⟩; rfl⟩
      | 1, ho =>
        obtain rfl := Option.some.inj ho
        obtain ⟨_, h18, rfl⟩ := given_fed hg 18 (by decide +kernel)
        clear hg
        exact st_enter (w1 := w6) ho (wanted_none rfl) 27 #[.pointer (some ⟨p, 0, none⟩)] (by simp [execOp, Act.eval, h18, resolve, go_sem]) ((CLS.out w6 hb6).mono (by rintro e w7 ⟨v, rfl, hown, hb7⟩; exact ⟨v, rfl, _, rfl, hb7, by rintro t' ⟨⟩; exact hown.r⟩))
      | 2, ho =>
        obtain rfl := Option.some.inj ho
        obtain ⟨v19, h19, p19⟩ := given_fed hg 19 (by decide +kernel)
        clear hg
        exact st_enter (w1 := w6) ho (wanted_none rfl) 23 #[v19] (by simp [execOp, Act.eval, h19, resolve, go_sem]) ((CPB.out w6 v19 p19).mono (by rintro e w7 ⟨v, rfl, hown, hb7⟩; exact ⟨v, rfl, _, rfl, hb7, by rintro t' ⟨⟩; exact hown.rb⟩))
      | 3, ho =>
        obtain rfl := Option.some.inj ho
        obtain ⟨v20, h20, p20⟩ := given_fed hg 20 (by decide +kernel)
        clear hg
        have cv := run_string_RB w6 33 5 9 Try.underlying33 Try.underlying5 Try.underlying9 v20 B p20
        exact st_yield ho (wanted_none rfl) (.string (str B)) w6 (by simp [execOp, Act.eval, h20, cv, Result.andThen]) ⟨_, rfl, Below.refl _ _, by rintro t' ⟨⟩; rfl⟩
      | 4, ho =>
        obtain rfl := Option.some.inj ho
        have h0 := given_old hg 0 (by decide +kernel)
        clear hg
        exact st_yield ho (wanted_none rfl) (.slice av n c) w6 (by simp [execOp, Act.eval, h0, go_sem]) ⟨_, rfl, Below.refl _ _, by rintro t' ⟨⟩; rfl⟩
      | 5, ho =>
        obtain rfl := Option.some.inj ho
        obtain ⟨_, h22, rfl⟩ := given_fed hg 22 (by decide +kernel)
        clear hg
        have cv := run_string_RB w6 33 5 9 Try.underlying33 Try.underlying5 Try.underlying9 (.slice av n c) B (HV.out w6 hb6)
        exact st_yield ho (wanted_none rfl) (.string (str B)) w6 (by simp [execOp, Act.eval, h22, cv, Result.andThen]) ⟨_, rfl, Below.refl _ _, by rintro t' ⟨⟩; rfl⟩
      | 6, ho =>
        obtain rfl := Option.some.inj ho
        obtain ⟨_, h21, rfl⟩ := given_fed hg 21 (by decide +kernel)
        obtain ⟨_, h23, rfl⟩ := given_fed hg 23 (by decide +kernel)
        clear hg
        exact st_yield ho (wanted_none rfl) (.bool true) w6 (by simp [execOp, Act.eval, h21, h23, go_sem]) ⟨_, rfl, Below.refl _ _, by rintro t' ⟨⟩; rfl⟩
      | 7, ho =>
        obtain rfl := Option.some.inj ho
        obtain ⟨_, h24, rfl⟩ := given_fed hg 24 (by decide +kernel)
        clear hg
        exact st_yield ho (wanted_none rfl) (.bool true) w6 (by simp [execOp, Act.eval, h24, go_sem]) ⟨_, rfl, Below.refl _ _, by rintro t' ⟨⟩; rfl⟩
      | n + 8, ho => simp at ho
    · intro f w20 hb20 hvv
      have h2 := hvv 2 (by decide)
      simp only [VTs] at h2
      have HB := Go.Lib.hid (HB1.out.trans (hb20.mono HB1.out.size))
      clear hvv hb20 HB1 CLS CPB HV hss
      unfold putAll
      simp only [List.foldl]
      simp only [h2]
      clear h2
      go_simp
      go_wp2_with fail
      go_ret
      exact ⟨rfl, HB.out⟩
  · have HB1 := Go.Lib.hid hb1
    clear hb1 CO HV0
    go_wp2_with fail
    go_ret
    exact ⟨rfl, HB1.out⟩

end Go.Proofs.Ytibbligidncocaa
