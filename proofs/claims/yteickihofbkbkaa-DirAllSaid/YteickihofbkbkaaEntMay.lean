/-
  Package dir: contract of May.
-/
import Derived.Test.YteickihofbkbkaaEntC
namespace Go.Proofs.Yteickihofbkbkaa
open Go.RowKit Go.Op
set_option linter.unusedVariables false

def VAm (g b o n cap k j : Nat) (pn nm : ByteArray) (en ea es : Int) (r : Bool) : Nat → World → Value → Prop
  | 15, _, v => v = .agg #[.string nm, .int .i64 en, .int .i64 ea, .int .i64 es]
  | 16, _, v => v = .bool false
  | 17, _, v => v = .bool true
  | 18, _, v => v = .bool true
  | 19, _, v => v = undef
  | 20, _, v => v = undef
  | 21, _, v => v = undef
  | 22, _, v => v = undef
  | 23, _, v => v = undef
  | 24, _, v => v = undef
  | 25, _, v => v = undef
  | 26, _, v => v = undef
  | 27, _, v => v = undef
  | 28, _, v => v = undef
  | 29, _, v => v = undef
  | 30, _, v => v = undef
  | 31, _, v => v = undef
  | 32, _, v => v = .bool true
  | _, _, _ => True

theorem VAm_below (g b o n cap k j : Nat) (pn nm : ByteArray) (en ea es : Int) (r : Bool) : ∀ (i : Nat) (w w' : World) (v : Value), VAm g b o n cap k j pn nm en ea es r i w v → Below w.heap.size w w' → VAm g b o n cap k j pn nm en ea es r i w' v := by
  intro i w w' v h hb
  unfold VAm at h ⊢
  split at h <;> first | exact h | trivial | exact RB.below h hb | exact Own.below h hb

def VBm (g b o n cap k j : Nat) (pn nm : ByteArray) (en ea es : Int) (r : Bool) : Nat → World → Value → Prop
  | 15, _, v => v = .agg #[.string nm, .int .i64 en, .int .i64 ea, .int .i64 es]
  | 16, _, v => v = .bool true
  | 17, _, v => v = .bool false
  | 18, _, v => v = .bool false
  | 19, _, v => v = .int .i64 (k : Int)
  | 20, _, v => v = .bool false
  | 21, _, v => v = .bool false
  | 22, _, v => v = undef
  | 23, _, v => v = undef
  | 24, _, v => v = undef
  | 25, _, v => v = undef
  | 26, _, v => v = undef
  | 27, _, v => v = undef
  | 28, _, v => v = undef
  | 29, _, v => v = undef
  | 30, _, v => v = undef
  | 31, _, v => v = .bool false
  | 32, _, v => v = .bool false
  | _, _, _ => True

theorem VBm_below (g b o n cap k j : Nat) (pn nm : ByteArray) (en ea es : Int) (r : Bool) : ∀ (i : Nat) (w w' : World) (v : Value), VBm g b o n cap k j pn nm en ea es r i w v → Below w.heap.size w w' → VBm g b o n cap k j pn nm en ea es r i w' v := by
  intro i w w' v h hb
  unfold VBm at h ⊢
  split at h <;> first | exact h | trivial | exact RB.below h hb | exact Own.below h hb

def VCm (g b o n cap k j : Nat) (pn nm : ByteArray) (en ea es : Int) (r : Bool) : Nat → World → Value → Prop
  | 15, _, v => v = .agg #[.string nm, .int .i64 en, .int .i64 ea, .int .i64 es]
  | 16, _, v => v = .bool true
  | 17, _, v => v = .bool false
  | 18, _, v => v = .bool false
  | 19, _, v => v = .int .i64 (k : Int)
  | 20, _, v => v = .bool true
  | 21, _, v => v = .bool true
  | 22, _, v => v = .slice (some ⟨b, o, none⟩) n cap
  | 23, _, v => v = .int .i64 (k : Int)
  | 24, _, v => v = .int .i64 (j : Int)
  | 25, _, v => v = .pointer (some ⟨b, o + j * 4, none⟩)
  | 26, _, v => v = .pointer (some ⟨b, o + j * 4, none⟩)
  | 27, _, v => v = .string pn
  | 28, _, v => v = .pointer (some ⟨g, 0, none⟩)
  | 29, _, v => v = .string nm
  | 30, _, v => v = .bool (!r)
  | 31, _, v => v = .bool (!r)
  | 32, _, v => v = .bool (!r)
  | _, _, _ => True

theorem VCm_below (g b o n cap k j : Nat) (pn nm : ByteArray) (en ea es : Int) (r : Bool) : ∀ (i : Nat) (w w' : World) (v : Value), VCm g b o n cap k j pn nm en ea es r i w v → Below w.heap.size w w' → VCm g b o n cap k j pn nm en ea es r i w' v := by
  intro i w w' v h hb
  unfold VCm at h ⊢
  split at h <;> first | exact h | trivial | exact RB.below h hb | exact Own.below h hb

theorem fit_snoc {l : List EntT} {k : Nat} (h : ∀ j, j < k → fitE l j) (h1 : fitE l k) : ∀ j, j < k + 1 → fitE l j := by
  intro j hj
  rcases Nat.lt_or_ge j k with h2 | h2
  · exact h j h2
  · obtain rfl : j = k := by omega
    exact h1

set_option maxHeartbeats 2000000 in
set_option maxRecDepth 100000 in
theorem may_c (v : Value) (l : List EntT) (w : World) (hv : RE w v l) :
    Calls Try.prog 11 #[v] w fun e w' => e = .returned (.bool (mayL l)) ∧ Below w.heap.size w w' := by
  obtain ⟨a, cap, rfl, hm⟩ := hv.form
  have HV := Go.Lib.hid hv; clear hv
  by_cases hl : 32 < l.length
  · have K := Go.Lib.hid (mayL_no (l := l) (fun h => by have := h.1; omega))
    have hlI : (32 : Int) < (l.length : Int) := by omega
    clear hl
    go_enter Try.func11, Try.ntmps11
    go_wp2_with fail
    go_ret
    exact ⟨ret_bool K.out, Below.refl _ _⟩
  have hlI : ¬ (32 : Int) < (l.length : Int) := by omega
  have HL := Go.Lib.hid hl; clear hl
  go_enter Try.func11, Try.ntmps11
  go_wp2_with fail
  clear hlI
  go_loopw [10] (fun i w2 => ∃ k : Nat, k ≤ l.length ∧ i = .int .i64 (k : Int) ∧ Hid (∀ j, j < k → fitE l j) ∧ Below w.heap.size w w2) (fun i _ => l.length - (intOf i).toNat)
  case atStart => exact ⟨0, by omega, rfl, Go.Lib.hid (fun j hj => by omega), Below.refl _ _⟩
  case round =>
    obtain ⟨k, hk, rfl, hfit, hbc⟩ := hrel
    by_cases hlt : k < l.length
    · obtain ⟨b, o, rfl, -, hbs, c0, c1, c2, c3⟩ := (HV.out.below hbc).at k hlt
      have Hlt := Go.Lib.hid hlt
      have Hno := Go.Lib.hid (fun (h : ¬ fitE l k) => mayL_no (l := l) (fun h2 => h (h2.2 k hlt)))
      have Hyes := Go.Lib.hid (fun (h : fitE l k) => fit_snoc hfit.out h)
      have Hfit := Go.Lib.hid (show fitE l k ↔ (mayE l[k] ∧ (0 < k → ltE l[k - 1] l[k] = true)) from ⟨fun ⟨_, h⟩ => h, fun h => ⟨hlt, h⟩⟩)
      have Hprev := Go.Lib.hid (fun (h : 0 < k) => (HV.out.below hbc).at (k - 1) (show k - 1 < l.length by omega))
      have Hlast := Go.Lib.hid (fun h : 0 < k => show ∃ pn, pn = (l[k - 1]'(by omega)).1 from ⟨_, rfl⟩)
      have CM := fun W => mayBe_c l[k].1 l[k].2.1 l[k].2.2.1 l[k].2.2.2 W
      generalize hx : l[k] = x at *
      obtain ⟨nm, en, ea, es⟩ := x
      simp only [] at c0 c1 c2 c3 CM
      unfold entV at CM
      have hnew := heap_alloc_new wr (.cells #[.string nm, .int .i64 en, .int .i64 ea, .int .i64 es] 32)
      have hbn := newB wr (.cells #[.string nm, .int .i64 en, .int .i64 ea, .int .i64 es] 32)
      have hbb := hbc.trans (hbn.mono hbc.size)
      obtain ⟨x0, x1, x2, x3⟩ := row4 hnew
      have HB := Go.Lib.hid hbb
      have HN := Go.Lib.hid hbn
      clear hnew hbn hbb hx
      by_cases hq : mayE (nm, en, ea, es)
      · rw [decide_eq_true hq] at CM
        have CMh := Go.Lib.hid CM; clear CM; have CM := CMh; clear CMh
        by_cases hz : k = 0
        · have hfk := Go.Lib.hid (Hyes.out (Hfit.out.2 ⟨hq, fun h => absurd h (by omega)⟩))
          have Hz := Go.Lib.hid hz
          clear Hprev Hlast Hno Hyes Hfit hq hfit hbc hz
          go_upto_region 6 with (fail)
          clear c0 c1 c2 c3
          generalize hg : wr.heap.size = g at *
          have pn := nm; have j := 0; have r := true
          refine wp_region_each (by kernel_rfl) (VBm g b o l.length cap k j pn nm en ea es r) (VBm_below g b o l.length cap k j pn nm en ea es r) (by decide +kernel) (by decide +kernel) (by rfl) [15, 16, 17, 18, 19, 20, 21, 22, 23, 24, 25, 26, 27, 28, 29, 30, 31, 32] (by rfl) ?_ ?_
          · intro i o ho a w6 hb6 hlen hg
            have x0 := keptC x0 hb6
            have x1 := keptC x1 hb6
            have x2 := keptC x2 hb6
            have x3 := keptC x3 hb6
            have hz := Hz.out
            match i, ho with
            | 0, ho =>
              obtain rfl := Option.some.inj ho
              have h4 := given_old hg 4 (by decide +kernel)
              clear hg
              exact st_yield ho (wanted_none rfl) (.agg #[.string nm, .int .i64 en, .int .i64 ea, .int .i64 es]) w6 (by simp [execOp, Act.eval, h4, go_sem, x0, x1, x2, x3]) ⟨_, rfl, Below.refl _ _, by rintro t' ⟨⟩; rfl⟩
            | 1, ho =>
              obtain rfl := Option.some.inj ho
              obtain ⟨_, h15, rfl⟩ := given_fed hg 15 (by decide +kernel)
              clear hg
              exact st_enter (w1 := w6) ho (wanted_none rfl) 21 #[.agg #[.string nm, .int .i64 en, .int .i64 ea, .int .i64 es]] (by simp [execOp, Act.eval, h15, resolve, go_sem]) ((CM.out _).mono (by rintro e w7 ⟨rfl, hb7⟩; exact ⟨_, rfl, _, rfl, hb7, by rintro t' ⟨⟩; rfl⟩))
            | 2, ho =>
              obtain rfl := Option.some.inj ho
              obtain ⟨_, h16, rfl⟩ := given_fed hg 16 (by decide +kernel)
              clear hg
              exact st_yield ho (wanted_none rfl) (.bool false) w6 (by simp [execOp, Act.eval, h16, go_sem]) ⟨_, rfl, Below.refl _ _, by rintro t' ⟨⟩; rfl⟩
            | 3, ho =>
              obtain rfl := Option.some.inj ho
              obtain ⟨_, h17, rfl⟩ := given_fed hg 17 (by decide +kernel)
              clear hg
              exact st_yield ho (wanted_none rfl) (.bool false) w6 (by simp [execOp, Act.eval, h17, go_sem]) ⟨_, rfl, Below.refl _ _, by rintro t' ⟨⟩; rfl⟩
            | 4, ho =>
              obtain rfl := Option.some.inj ho
              have h3 := given_old hg 3 (by decide +kernel)
              obtain ⟨_, h18, rfl⟩ := given_fed hg 18 (by decide +kernel)
              clear hg
              exact st_yield ho (wanted_some rfl rfl h18 rfl) (.int .i64 (k : Int)) w6 (by simp [execOp, Act.eval, h3, go_sem]) ⟨_, rfl, Below.refl _ _, by rintro t' ⟨⟩; rfl⟩
            | 5, ho =>
              obtain rfl := Option.some.inj ho
              obtain ⟨_, h19, rfl⟩ := given_fed hg 19 (by decide +kernel)
              obtain ⟨_, h18, rfl⟩ := given_fed hg 18 (by decide +kernel)
              clear hg
              exact st_yield ho (wanted_some rfl rfl h18 rfl) (.bool false) w6 (by simp [execOp, Act.eval, h19, go_sem, hz]) ⟨_, rfl, Below.refl _ _, by rintro t' ⟨⟩; rfl⟩
            | 6, ho =>
              obtain rfl := Option.some.inj ho
              obtain ⟨_, h20, rfl⟩ := given_fed hg 20 (by decide +kernel)
              obtain ⟨_, h18, rfl⟩ := given_fed hg 18 (by decide +kernel)
              clear hg
              exact st_yield ho (wanted_some rfl rfl h18 rfl) (.bool false) w6 (by simp [execOp, Act.eval, h20, go_sem]) ⟨_, rfl, Below.refl _ _, by rintro t' ⟨⟩; rfl⟩
            | 7, ho =>
              obtain rfl := Option.some.inj ho
              obtain ⟨_, h21, rfl⟩ := given_fed hg 21 (by decide +kernel)
              clear hg
              exact st_skip ho (wanted_not rfl rfl h21 (by decide)) ⟨_, rfl, Below.refl _ _, by rintro t' ⟨⟩; rfl⟩
            | 8, ho =>
              obtain rfl := Option.some.inj ho
              obtain ⟨_, h21, rfl⟩ := given_fed hg 21 (by decide +kernel)
              clear hg
              exact st_skip ho (wanted_not rfl rfl h21 (by decide)) ⟨_, rfl, Below.refl _ _, by rintro t' ⟨⟩; rfl⟩
            | 9, ho =>
              obtain rfl := Option.some.inj ho
              obtain ⟨_, h21, rfl⟩ := given_fed hg 21 (by decide +kernel)
              clear hg
              exact st_skip ho (wanted_not rfl rfl h21 (by decide)) ⟨_, rfl, Below.refl _ _, by rintro t' ⟨⟩; rfl⟩
            | 10, ho =>
              obtain rfl := Option.some.inj ho
              obtain ⟨_, h21, rfl⟩ := given_fed hg 21 (by decide +kernel)
              clear hg
              exact st_skip ho (wanted_not rfl rfl h21 (by decide)) ⟨_, rfl, Below.refl _ _, by rintro t' ⟨⟩; rfl⟩
            | 11, ho =>
              obtain rfl := Option.some.inj ho
              obtain ⟨_, h21, rfl⟩ := given_fed hg 21 (by decide +kernel)
              clear hg
              exact st_skip ho (wanted_not rfl rfl h21 (by decide)) ⟨_, rfl, Below.refl _ _, by rintro t' ⟨⟩; rfl⟩
            | 12, ho =>
              obtain rfl := Option.some.inj ho
              obtain ⟨_, h21, rfl⟩ := given_fed hg 21 (by decide +kernel)
              clear hg
              exact st_skip ho (wanted_not rfl rfl h21 (by decide)) ⟨_, rfl, Below.refl _ _, by rintro t' ⟨⟩; rfl⟩
            | 13, ho =>
              obtain rfl := Option.some.inj ho
              obtain ⟨_, h21, rfl⟩ := given_fed hg 21 (by decide +kernel)
              clear hg
              exact st_skip ho (wanted_not rfl rfl h21 (by decide)) ⟨_, rfl, Below.refl _ _, by rintro t' ⟨⟩; rfl⟩
            | 14, ho =>
              obtain rfl := Option.some.inj ho
              obtain ⟨_, h21, rfl⟩ := given_fed hg 21 (by decide +kernel)
              clear hg
              exact st_skip ho (wanted_not rfl rfl h21 (by decide)) ⟨_, rfl, Below.refl _ _, by rintro t' ⟨⟩; rfl⟩
            | 15, ho =>
              obtain rfl := Option.some.inj ho
              obtain ⟨_, h21, rfl⟩ := given_fed hg 21 (by decide +kernel)
              clear hg
              exact st_skip ho (wanted_not rfl rfl h21 (by decide)) ⟨_, rfl, Below.refl _ _, by rintro t' ⟨⟩; rfl⟩
            | 16, ho =>
              obtain rfl := Option.some.inj ho
              obtain ⟨_, h21, rfl⟩ := given_fed hg 21 (by decide +kernel)
              obtain ⟨_, h30, rfl⟩ := given_fed hg 30 (by decide +kernel)
              obtain ⟨_, h18, rfl⟩ := given_fed hg 18 (by decide +kernel)
              clear hg
              exact st_yield ho (wanted_some rfl rfl h18 rfl) (.bool false) w6 (by simp [execOp, Act.eval, h21, h30, go_sem]) ⟨_, rfl, Below.refl _ _, by rintro t' ⟨⟩; rfl⟩
            | 17, ho =>
              obtain rfl := Option.some.inj ho
              obtain ⟨_, h18, rfl⟩ := given_fed hg 18 (by decide +kernel)
              obtain ⟨_, h31, rfl⟩ := given_fed hg 31 (by decide +kernel)
              clear hg
              exact st_yield ho (wanted_none rfl) (.bool false) w6 (by simp [execOp, Act.eval, h18, h31, go_sem]) ⟨_, rfl, Below.refl _ _, by rintro t' ⟨⟩; rfl⟩
            | n + 18, ho => simp at ho
          · intro f w6 hb6 hv
            have h32 := hv 32 (by decide)
            simp only [VBm] at h32
            have hbc6 := HB.out.trans (hb6.mono HB.out.size)
            clear hv hb6 x0 x1 x2 x3 CM
            unfold putAll
            simp only [List.foldl]
            simp only [h32]
            go_simp
            go_wp2_with fail
            go_roundw
            case rel => exact ⟨k + 1, by have := Hlt.out; omega, by go_num, hfk, hbc6⟩
            case measure => simp only [intOf]; have := Hlt.out; omega
        · have hpos : 0 < k := by omega
          obtain ⟨pb, po, he, -, -, d0, -⟩ := Hprev.out hpos
          obtain ⟨pn, hpn⟩ := Hlast.out hpos
          obtain ⟨rfl, rfl⟩ : b = pb ∧ o = po := by simpa using he
          rw [← hpn] at d0
          have d0n := keptC d0 HN.out; clear d0; have d0 := d0n; clear d0n
          obtain ⟨j, hj⟩ : ∃ j, j = k - 1 := ⟨_, rfl⟩
          rw [← hj] at d0
          have hw : IntKind.i64.wrap ((k : Int) - 1) = (j : Int) := by rw [IntKind.wrap_i64]; omega
          have Hix := Go.Lib.hid (run_idxE b o l.length cap j (by omega))
          obtain ⟨r, hr⟩ : ∃ r, bytesLess pn.toList nm.toList = r := ⟨_, rfl⟩
          have hfk := Go.Lib.hid (fun h : r = true => Hyes.out (Hfit.out.2 ⟨hq, fun _ => by show bytesLess (l[k - 1]'_).1.toList nm.toList = true; rw [← hpn, hr]; exact h⟩))
          have hfn := Go.Lib.hid (fun h : r = false => Hno.out (fun h2 => by
            have h3 := (Hfit.out.1 h2).2 hpos
            have h4 : bytesLess (l[k - 1]'(by omega)).1.toList nm.toList = true := h3
            rw [← hpn, hr, h] at h4
            cases h4))
          have Hr := Go.Lib.hid hr
          have Hpos := Go.Lib.hid hpos
          clear Hprev Hlast Hno Hyes Hfit hq hfit hbc hj hpn hr he hz hpos
          go_upto_region 6 with (fail)
          clear c0 c1 c2 c3
          generalize hg : wr.heap.size = g at *
          refine wp_region_each (by kernel_rfl) (VCm g b o l.length cap k j pn nm en ea es r) (VCm_below g b o l.length cap k j pn nm en ea es r) (by decide +kernel) (by decide +kernel) (by rfl) [15, 16, 17, 18, 19, 20, 21, 22, 23, 24, 25, 26, 27, 28, 29, 30, 31, 32] (by rfl) ?_ ?_
          · intro i o ho a w6 hb6 hlen hg
            have x0 := keptC x0 hb6
            have x1 := keptC x1 hb6
            have x2 := keptC x2 hb6
            have x3 := keptC x3 hb6
            have d0 := keptC d0 hb6
            have hix := Hix.out w6
            have hr := Hr.out
            have hpos := Hpos.out
            match i, ho with
            | 0, ho =>
              obtain rfl := Option.some.inj ho
              have h4 := given_old hg 4 (by decide +kernel)
              clear hg
              exact st_yield ho (wanted_none rfl) (.agg #[.string nm, .int .i64 en, .int .i64 ea, .int .i64 es]) w6 (by simp [execOp, Act.eval, h4, go_sem, x0, x1, x2, x3]) ⟨_, rfl, Below.refl _ _, by rintro t' ⟨⟩; rfl⟩
            | 1, ho =>
              obtain rfl := Option.some.inj ho
              obtain ⟨_, h15, rfl⟩ := given_fed hg 15 (by decide +kernel)
              clear hg
              exact st_enter (w1 := w6) ho (wanted_none rfl) 21 #[.agg #[.string nm, .int .i64 en, .int .i64 ea, .int .i64 es]] (by simp [execOp, Act.eval, h15, resolve, go_sem]) ((CM.out _).mono (by rintro e w7 ⟨rfl, hb7⟩; exact ⟨_, rfl, _, rfl, hb7, by rintro t' ⟨⟩; rfl⟩))
            | 2, ho =>
              obtain rfl := Option.some.inj ho
              obtain ⟨_, h16, rfl⟩ := given_fed hg 16 (by decide +kernel)
              clear hg
              exact st_yield ho (wanted_none rfl) (.bool false) w6 (by simp [execOp, Act.eval, h16, go_sem]) ⟨_, rfl, Below.refl _ _, by rintro t' ⟨⟩; rfl⟩
            | 3, ho =>
              obtain rfl := Option.some.inj ho
              obtain ⟨_, h17, rfl⟩ := given_fed hg 17 (by decide +kernel)
              clear hg
              exact st_yield ho (wanted_none rfl) (.bool false) w6 (by simp [execOp, Act.eval, h17, go_sem]) ⟨_, rfl, Below.refl _ _, by rintro t' ⟨⟩; rfl⟩
            | 4, ho =>
              obtain rfl := Option.some.inj ho
              have h3 := given_old hg 3 (by decide +kernel)
              obtain ⟨_, h18, rfl⟩ := given_fed hg 18 (by decide +kernel)
              clear hg
              exact st_yield ho (wanted_some rfl rfl h18 rfl) (.int .i64 (k : Int)) w6 (by simp [execOp, Act.eval, h3, go_sem]) ⟨_, rfl, Below.refl _ _, by rintro t' ⟨⟩; rfl⟩
            | 5, ho =>
              obtain rfl := Option.some.inj ho
              obtain ⟨_, h19, rfl⟩ := given_fed hg 19 (by decide +kernel)
              obtain ⟨_, h18, rfl⟩ := given_fed hg 18 (by decide +kernel)
              clear hg
              exact st_yield ho (wanted_some rfl rfl h18 rfl) (.bool true) w6 (by simp [execOp, Act.eval, h19, go_sem, hpos]) ⟨_, rfl, Below.refl _ _, by rintro t' ⟨⟩; rfl⟩
            | 6, ho =>
              obtain rfl := Option.some.inj ho
              obtain ⟨_, h20, rfl⟩ := given_fed hg 20 (by decide +kernel)
              obtain ⟨_, h18, rfl⟩ := given_fed hg 18 (by decide +kernel)
              clear hg
              exact st_yield ho (wanted_some rfl rfl h18 rfl) (.bool true) w6 (by simp [execOp, Act.eval, h20, go_sem]) ⟨_, rfl, Below.refl _ _, by rintro t' ⟨⟩; rfl⟩
            | 7, ho =>
              obtain rfl := Option.some.inj ho
              have h0 := given_old hg 0 (by decide +kernel)
              obtain ⟨_, h21, rfl⟩ := given_fed hg 21 (by decide +kernel)
              clear hg
              exact st_yield ho (wanted_some rfl rfl h21 rfl) (.slice (some ⟨b, o, none⟩) l.length cap) w6 (by simp [execOp, Act.eval, h0, go_sem]) ⟨_, rfl, Below.refl _ _, by rintro t' ⟨⟩; rfl⟩
            | 8, ho =>
              obtain rfl := Option.some.inj ho
              have h3 := given_old hg 3 (by decide +kernel)
              obtain ⟨_, h21, rfl⟩ := given_fed hg 21 (by decide +kernel)
              clear hg
              exact st_yield ho (wanted_some rfl rfl h21 rfl) (.int .i64 (k : Int)) w6 (by simp [execOp, Act.eval, h3, go_sem]) ⟨_, rfl, Below.refl _ _, by rintro t' ⟨⟩; rfl⟩
            | 9, ho =>
              obtain rfl := Option.some.inj ho
              obtain ⟨_, h23, rfl⟩ := given_fed hg 23 (by decide +kernel)
              obtain ⟨_, h21, rfl⟩ := given_fed hg 21 (by decide +kernel)
              clear hg
              exact st_yield ho (wanted_some rfl rfl h21 rfl) (.int .i64 (j : Int)) w6 (by simp [execOp, Act.eval, h23, go_sem, hw]) ⟨_, rfl, Below.refl _ _, by rintro t' ⟨⟩; rfl⟩
            | 10, ho =>
              obtain rfl := Option.some.inj ho
              obtain ⟨_, h22, rfl⟩ := given_fed hg 22 (by decide +kernel)
              obtain ⟨_, h24, rfl⟩ := given_fed hg 24 (by decide +kernel)
              obtain ⟨_, h21, rfl⟩ := given_fed hg 21 (by decide +kernel)
              clear hg
              exact st_yield ho (wanted_some rfl rfl h21 rfl) (.pointer (some ⟨b, o + j * 4, none⟩)) w6 (by simp [execOp, Act.eval, h22, h24, go_sem, hix]) ⟨_, rfl, Below.refl _ _, by rintro t' ⟨⟩; rfl⟩
            | 11, ho =>
              obtain rfl := Option.some.inj ho
              obtain ⟨_, h25, rfl⟩ := given_fed hg 25 (by decide +kernel)
              obtain ⟨_, h21, rfl⟩ := given_fed hg 21 (by decide +kernel)
              clear hg
              exact st_yield ho (wanted_some rfl rfl h21 rfl) (.pointer (some ⟨b, o + j * 4, none⟩)) w6 (by simp [execOp, Act.eval, h25, go_sem]) ⟨_, rfl, Below.refl _ _, by rintro t' ⟨⟩; rfl⟩
            | 12, ho =>
              obtain rfl := Option.some.inj ho
              obtain ⟨_, h26, rfl⟩ := given_fed hg 26 (by decide +kernel)
              obtain ⟨_, h21, rfl⟩ := given_fed hg 21 (by decide +kernel)
              clear hg
              exact st_yield ho (wanted_some rfl rfl h21 rfl) (.string pn) w6 (by simp [execOp, Act.eval, h26, go_sem, d0]) ⟨_, rfl, Below.refl _ _, by rintro t' ⟨⟩; rfl⟩
            | 13, ho =>
              obtain rfl := Option.some.inj ho
              have h4 := given_old hg 4 (by decide +kernel)
              obtain ⟨_, h21, rfl⟩ := given_fed hg 21 (by decide +kernel)
              clear hg
              exact st_yield ho (wanted_some rfl rfl h21 rfl) (.pointer (some ⟨g, 0, none⟩)) w6 (by simp [execOp, Act.eval, h4, go_sem]) ⟨_, rfl, Below.refl _ _, by rintro t' ⟨⟩; rfl⟩
            | 14, ho =>
              obtain rfl := Option.some.inj ho
              obtain ⟨_, h28, rfl⟩ := given_fed hg 28 (by decide +kernel)
              obtain ⟨_, h21, rfl⟩ := given_fed hg 21 (by decide +kernel)
              clear hg
              exact st_yield ho (wanted_some rfl rfl h21 rfl) (.string nm) w6 (by simp [execOp, Act.eval, h28, go_sem, x0]) ⟨_, rfl, Below.refl _ _, by rintro t' ⟨⟩; rfl⟩
            | 15, ho =>
              obtain rfl := Option.some.inj ho
              obtain ⟨_, h27, rfl⟩ := given_fed hg 27 (by decide +kernel)
              obtain ⟨_, h29, rfl⟩ := given_fed hg 29 (by decide +kernel)
              obtain ⟨_, h21, rfl⟩ := given_fed hg 21 (by decide +kernel)
              clear hg
              exact st_yield ho (wanted_some rfl rfl h21 rfl) (.bool (!r)) w6 (by simp [execOp, Act.eval, h27, h29, go_sem, hr]) ⟨_, rfl, Below.refl _ _, by rintro t' ⟨⟩; rfl⟩
            | 16, ho =>
              obtain rfl := Option.some.inj ho
              obtain ⟨_, h21, rfl⟩ := given_fed hg 21 (by decide +kernel)
              obtain ⟨_, h30, rfl⟩ := given_fed hg 30 (by decide +kernel)
              obtain ⟨_, h18, rfl⟩ := given_fed hg 18 (by decide +kernel)
              clear hg
              exact st_yield ho (wanted_some rfl rfl h18 rfl) (.bool (!r)) w6 (by simp [execOp, Act.eval, h21, h30, go_sem]) ⟨_, rfl, Below.refl _ _, by rintro t' ⟨⟩; rfl⟩
            | 17, ho =>
              obtain rfl := Option.some.inj ho
              obtain ⟨_, h18, rfl⟩ := given_fed hg 18 (by decide +kernel)
              obtain ⟨_, h31, rfl⟩ := given_fed hg 31 (by decide +kernel)
              clear hg
              exact st_yield ho (wanted_none rfl) (.bool (!r)) w6 (by simp [execOp, Act.eval, h18, h31, go_sem]) ⟨_, rfl, Below.refl _ _, by rintro t' ⟨⟩; rfl⟩
            | n + 18, ho => simp at ho
          · intro f w6 hb6 hv
            have h32 := hv 32 (by decide)
            simp only [VCm] at h32
            have hbc6 := HB.out.trans (hb6.mono HB.out.size)
            clear hv hb6 x0 x1 x2 x3 CM d0 Hix Hr
            unfold putAll
            simp only [List.foldl]
            simp only [h32]
            cases r with
            | true =>
              have hfk := Go.Lib.hid (hfk.out rfl)
              go_simp
              go_wp2_with fail
              go_roundw
              case rel => exact ⟨k + 1, by have := Hlt.out; omega, by go_num, hfk, hbc6⟩
              case measure => simp only [intOf]; have := Hlt.out; omega
            | false =>
              have hfz : Hid (mayL l = false) := hfn.out rfl
              clear hfn hfk
              go_simp
              go_wp2_with fail
              go_ret
              exact ⟨ret_bool hfz.out, hbc6⟩
      · rw [decide_eq_false hq] at CM
        have CMh := Go.Lib.hid CM; clear CM; have CM := CMh; clear CMh
        have hfn := Go.Lib.hid (Hno.out (fun h => hq (Hfit.out.1 h).1))
        clear Hprev Hlast Hno Hyes Hfit hq hfit hbc
        go_upto_region 6 with (fail)
        clear c0 c1 c2 c3
        generalize hg : wr.heap.size = g at *
        have pn := nm; have j := 0; have r := true
        refine wp_region_each (by kernel_rfl) (VAm g b o l.length cap k j pn nm en ea es r) (VAm_below g b o l.length cap k j pn nm en ea es r) (by decide +kernel) (by decide +kernel) (by rfl) [15, 16, 17, 18, 19, 20, 21, 22, 23, 24, 25, 26, 27, 28, 29, 30, 31, 32] (by rfl) ?_ ?_
        · intro i o ho a w6 hb6 hlen hg
          have x0 := keptC x0 hb6
          have x1 := keptC x1 hb6
          have x2 := keptC x2 hb6
          have x3 := keptC x3 hb6
          match i, ho with
          | 0, ho =>
            obtain rfl := Option.some.inj ho
            have h4 := given_old hg 4 (by decide +kernel)
            clear hg
            exact st_yield ho (wanted_none rfl) (.agg #[.string nm, .int .i64 en, .int .i64 ea, .int .i64 es]) w6 (by simp [execOp, Act.eval, h4, go_sem, x0, x1, x2, x3]) ⟨_, rfl, Below.refl _ _, by rintro t' ⟨⟩; rfl⟩
          | 1, ho =>
            obtain rfl := Option.some.inj ho
            obtain ⟨_, h15, rfl⟩ := given_fed hg 15 (by decide +kernel)
            clear hg
            exact st_enter (w1 := w6) ho (wanted_none rfl) 21 #[.agg #[.string nm, .int .i64 en, .int .i64 ea, .int .i64 es]] (by simp [execOp, Act.eval, h15, resolve, go_sem]) ((CM.out _).mono (by rintro e w7 ⟨rfl, hb7⟩; exact ⟨_, rfl, _, rfl, hb7, by rintro t' ⟨⟩; rfl⟩))
          | 2, ho =>
            obtain rfl := Option.some.inj ho
            obtain ⟨_, h16, rfl⟩ := given_fed hg 16 (by decide +kernel)
            clear hg
            exact st_yield ho (wanted_none rfl) (.bool true) w6 (by simp [execOp, Act.eval, h16, go_sem]) ⟨_, rfl, Below.refl _ _, by rintro t' ⟨⟩; rfl⟩
          | 3, ho =>
            obtain rfl := Option.some.inj ho
            obtain ⟨_, h17, rfl⟩ := given_fed hg 17 (by decide +kernel)
            clear hg
            exact st_yield ho (wanted_none rfl) (.bool true) w6 (by simp [execOp, Act.eval, h17, go_sem]) ⟨_, rfl, Below.refl _ _, by rintro t' ⟨⟩; rfl⟩
          | 4, ho =>
            obtain rfl := Option.some.inj ho
            obtain ⟨_, h18, rfl⟩ := given_fed hg 18 (by decide +kernel)
            clear hg
            exact st_skip ho (wanted_not rfl rfl h18 (by decide)) ⟨_, rfl, Below.refl _ _, by rintro t' ⟨⟩; rfl⟩
          | 5, ho =>
            obtain rfl := Option.some.inj ho
            obtain ⟨_, h18, rfl⟩ := given_fed hg 18 (by decide +kernel)
            clear hg
            exact st_skip ho (wanted_not rfl rfl h18 (by decide)) ⟨_, rfl, Below.refl _ _, by rintro t' ⟨⟩; rfl⟩
          | 6, ho =>
            obtain rfl := Option.some.inj ho
            obtain ⟨_, h18, rfl⟩ := given_fed hg 18 (by decide +kernel)
            clear hg
            exact st_skip ho (wanted_not rfl rfl h18 (by decide)) ⟨_, rfl, Below.refl _ _, by rintro t' ⟨⟩; rfl⟩
          | 7, ho =>
            obtain rfl := Option.some.inj ho
            obtain ⟨_, h21, rfl⟩ := given_fed hg 21 (by decide +kernel)
            clear hg
            exact st_skip ho (wanted_undef rfl rfl h21) ⟨_, rfl, Below.refl _ _, by rintro t' ⟨⟩; rfl⟩
          | 8, ho =>
            obtain rfl := Option.some.inj ho
            obtain ⟨_, h21, rfl⟩ := given_fed hg 21 (by decide +kernel)
            clear hg
            exact st_skip ho (wanted_undef rfl rfl h21) ⟨_, rfl, Below.refl _ _, by rintro t' ⟨⟩; rfl⟩
          | 9, ho =>
            obtain rfl := Option.some.inj ho
            obtain ⟨_, h21, rfl⟩ := given_fed hg 21 (by decide +kernel)
            clear hg
            exact st_skip ho (wanted_undef rfl rfl h21) ⟨_, rfl, Below.refl _ _, by rintro t' ⟨⟩; rfl⟩
          | 10, ho =>
            obtain rfl := Option.some.inj ho
            obtain ⟨_, h21, rfl⟩ := given_fed hg 21 (by decide +kernel)
            clear hg
            exact st_skip ho (wanted_undef rfl rfl h21) ⟨_, rfl, Below.refl _ _, by rintro t' ⟨⟩; rfl⟩
          | 11, ho =>
            obtain rfl := Option.some.inj ho
            obtain ⟨_, h21, rfl⟩ := given_fed hg 21 (by decide +kernel)
            clear hg
            exact st_skip ho (wanted_undef rfl rfl h21) ⟨_, rfl, Below.refl _ _, by rintro t' ⟨⟩; rfl⟩
          | 12, ho =>
            obtain rfl := Option.some.inj ho
            obtain ⟨_, h21, rfl⟩ := given_fed hg 21 (by decide +kernel)
            clear hg
            exact st_skip ho (wanted_undef rfl rfl h21) ⟨_, rfl, Below.refl _ _, by rintro t' ⟨⟩; rfl⟩
          | 13, ho =>
            obtain rfl := Option.some.inj ho
            obtain ⟨_, h21, rfl⟩ := given_fed hg 21 (by decide +kernel)
            clear hg
            exact st_skip ho (wanted_undef rfl rfl h21) ⟨_, rfl, Below.refl _ _, by rintro t' ⟨⟩; rfl⟩
          | 14, ho =>
            obtain rfl := Option.some.inj ho
            obtain ⟨_, h21, rfl⟩ := given_fed hg 21 (by decide +kernel)
            clear hg
            exact st_skip ho (wanted_undef rfl rfl h21) ⟨_, rfl, Below.refl _ _, by rintro t' ⟨⟩; rfl⟩
          | 15, ho =>
            obtain rfl := Option.some.inj ho
            obtain ⟨_, h21, rfl⟩ := given_fed hg 21 (by decide +kernel)
            clear hg
            exact st_skip ho (wanted_undef rfl rfl h21) ⟨_, rfl, Below.refl _ _, by rintro t' ⟨⟩; rfl⟩
          | 16, ho =>
            obtain rfl := Option.some.inj ho
            obtain ⟨_, h18, rfl⟩ := given_fed hg 18 (by decide +kernel)
            clear hg
            exact st_skip ho (wanted_not rfl rfl h18 (by decide)) ⟨_, rfl, Below.refl _ _, by rintro t' ⟨⟩; rfl⟩
          | 17, ho =>
            obtain rfl := Option.some.inj ho
            obtain ⟨_, h18, rfl⟩ := given_fed hg 18 (by decide +kernel)
            obtain ⟨_, h31, rfl⟩ := given_fed hg 31 (by decide +kernel)
            clear hg
            exact st_yield ho (wanted_none rfl) (.bool true) w6 (by simp [execOp, Act.eval, h18, h31, go_sem]) ⟨_, rfl, Below.refl _ _, by rintro t' ⟨⟩; rfl⟩
          | n + 18, ho => simp at ho
        · intro f w6 hb6 hv
          have h32 := hv 32 (by decide)
          simp only [VAm] at h32
          have hbc6 := HB.out.trans (hb6.mono HB.out.size)
          clear hv hb6 x0 x1 x2 x3 CM
          unfold putAll
          simp only [List.foldl]
          simp only [h32]
          go_simp
          go_wp2_with fail
          go_ret
          exact ⟨ret_bool hfn.out, hbc6⟩
    · obtain rfl : k = l.length := by omega
      have K := Go.Lib.hid (mayL_iff.2 (show MayL l from ⟨by have := HL.out; omega, hfit.out⟩))
      clear hfit hlt
      go_wp2_with fail
      go_ret
      exact ⟨ret_bool K.out, hbc⟩

end Go.Proofs.Yteickihofbkbkaa
