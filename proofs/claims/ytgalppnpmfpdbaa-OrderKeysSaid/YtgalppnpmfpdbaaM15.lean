/-
  Slices of records: contract of the reference's EqRecs.
  The contract of the laws' 'Short(b, n)': the first n bytes.
  The contract of the laws' 'Short(b, n)', the value said.
  Stage 19: a table that was changed in a slot.
  Stage 19, mathematics: a second record laid beside the first.
-/
import Derived.Test.YtgalppnpmfpdbaaM04
import Derived.Test.YtgalppnpmfpdbaaM07
import Derived.Deep.DeepCutAuto
import Derived.LoopTactic
import Derived.Test.YtgalppnpmfpdbaaM01
import Derived.Test.YtgalppnpmfpdbaaM13
import Derived.Test.YtgalppnpmfpdbaaM12
import Derived.Test.YtgalppnpmfpdbaaM14
namespace Go.Proofs.Ytgalppnpmfpdbaa
open Go.RowKit

def VE (b1 o1 b2 o2 n m cap1 cap2 k : Nat) (kx : ByteArray) (gx : Bool) (ax nx : Int) (sx ky : ByteArray) (gy : Bool) (ay ny : Int) (sy : ByteArray) (q : Bool) : Nat → World → Value → Prop
  | 17, _, v => v = .slice (some ⟨b1, o1, none⟩) n cap1
  | 18, _, v => v = .int .i64 (k : Int)
  | 19, _, v => v = .pointer (some ⟨b1, o1 + k * 5, none⟩)
  | 20, _, v => v = .agg #[.string kx, .bool gx, .int .i64 ax, .int .i64 nx, .string sx]
  | 21, _, v => v = .slice (some ⟨b2, o2, none⟩) m cap2
  | 22, _, v => v = .int .i64 (k : Int)
  | 23, _, v => v = .pointer (some ⟨b2, o2 + k * 5, none⟩)
  | 24, _, v => v = .agg #[.string ky, .bool gy, .int .i64 ay, .int .i64 ny, .string sy]
  | 25, _, v => v = .bool q
  | 26, _, v => v = .bool (!q)
  | _, _, _ => True

theorem VE_below (b1 o1 b2 o2 n m cap1 cap2 k : Nat) (kx : ByteArray) (gx : Bool) (ax nx : Int) (sx ky : ByteArray) (gy : Bool) (ay ny : Int) (sy : ByteArray) (q : Bool) : ∀ (i : Nat) (w w' : World) (v : Value), VE b1 o1 b2 o2 n m cap1 cap2 k kx gx ax nx sx ky gy ay ny sy q i w v → Below w.heap.size w w' → VE b1 o1 b2 o2 n m cap1 cap2 k kx gx ax nx sx ky gy ay ny sy q i w' v := by
  intro i w w' v h hb
  unfold VE at h ⊢
  split at h <;> first | exact h | trivial | exact RB.below h hb | exact Own.below h hb

theorem eqGo {l m : List RecT} {k : Nat} (h1 : k < l.length) (h2 : k < m.length) (he : l.take k = m.take k) (h : l[k] = m[k]) : l.take (k + 1) = m.take (k + 1) := by
  rw [List.take_succ_eq_append_getElem h1, List.take_succ_eq_append_getElem h2, he, h]

set_option maxHeartbeats 2000000 in
set_option maxRecDepth 100000 in
theorem reqrecs_c (u v : Value) (l m : List RecT) (w : World) (hu : RS w u l) (hv : RS w v m) :
    Calls Try.prog 16 #[u, v] w fun e w' => e = .returned (.bool (decide (l = m))) ∧ Below w.heap.size w w' := by
  obtain ⟨a1, cap1, rfl, hm1⟩ := hu.form
  obtain ⟨a2, cap2, rfl, hm2⟩ := hv.form
  have HU := Go.Lib.hid hu; clear hu
  have HV := Go.Lib.hid hv; clear hv
  by_cases hl : l.length = m.length
  · have Hl := Go.Lib.hid hl
    have hlb : ((l.length : Int) == (m.length : Int)) = true := by simp [hl]
    have hln : ((l.length : Int) = (m.length : Int)) := by omega
    go_enter Try.func16, Try.ntmps16
    go_wp2_with fail
    clear hln hlb
    have hl2 := Hl.out
    have Hl2 := Go.Lib.hid hl2; clear hl2 hl
    go_loopw [5] (fun i w2 => ∃ k : Nat, k ≤ l.length ∧ i = .int .i64 (k : Int) ∧ l.take k = m.take k ∧ Below w.heap.size w w2) (fun i _ => l.length - (intOf i).toNat)
    case atStart => exact ⟨0, by omega, rfl, by simp, Below.refl _ _⟩
    case round =>
      obtain ⟨k, hk, rfl, htk, hbc⟩ := hrel
      have Htk := Go.Lib.hid htk; clear htk
      by_cases hlt : k < l.length
      · have hlt2 : k < m.length := by have := Hl.out; omega
        obtain ⟨b1, o1, rfl, -, -, c0, c1, c2, c3, c4⟩ := (HU.out.below hbc).at k hlt
        obtain ⟨b2, o2, rfl, -, -, d0, d1, d2, d3, d4⟩ := (HV.out.below hbc).at k hlt2
        have hix1 := run_idx5 b1 o1 l.length cap1 k hlt
        have hix2 := run_idx5 b2 o2 m.length cap2 k hlt2
        have Hgo := Go.Lib.hid (fun h => eqGo hlt hlt2 Htk.out h)
        have hne := Go.Lib.hid (fun (h : l[k] ≠ m[k]) => show l ≠ m from fun e => h (by subst e; rfl))
        have CE := reqrec_c l[k].1 l[k].2.1 l[k].2.2.1 l[k].2.2.2.1 l[k].2.2.2.2 m[k].1 m[k].2.1 m[k].2.2.1 m[k].2.2.2.1 m[k].2.2.2.2
        rw [eqRec_iff] at CE
        generalize hx : l[k] = x at *
        generalize hy : m[k] = y at *
        obtain ⟨kx, gx, ax, nx, sx⟩ := x
        obtain ⟨ky, gy, ay, ny, sy⟩ := y
        simp only [] at c0 c1 c2 c3 c4 d0 d1 d2 d3 d4 CE
        generalize hq : decide (((kx, gx, ax, nx, sx) : RecT) = (ky, gy, ay, ny, sy)) = q at *
        unfold recV at CE
        have CE := Go.Lib.hid CE
        have Hix1 := Go.Lib.hid hix1; clear hix1
        have Hix2 := Go.Lib.hid hix2; clear hix2
        have Hq := Go.Lib.hid hq; clear hq hx hy
        go_upto_region 6 with (fail)
        refine wp_region_each (by kernel_rfl) (VE b1 o1 b2 o2 l.length m.length cap1 cap2 k kx gx ax nx sx ky gy ay ny sy q) (VE_below b1 o1 b2 o2 l.length m.length cap1 cap2 k kx gx ax nx sx ky gy ay ny sy q) (by decide +kernel) (by decide +kernel) (by rfl) [17, 18, 19, 20, 21, 22, 23, 24, 25, 26] (by rfl) ?_ ?_
        · intro i o ho a w6 hb6 hlen hg
          have c0 := cell_kept c0 hb6
          have c1 := cell_kept c1 hb6
          have c2 := cell_kept c2 hb6
          have c3 := cell_kept c3 hb6
          have c4 := cell_kept c4 hb6
          have d0 := cell_kept d0 hb6
          have d1 := cell_kept d1 hb6
          have d2 := cell_kept d2 hb6
          have d3 := cell_kept d3 hb6
          have d4 := cell_kept d4 hb6
          have hix1 := Hix1.out w6
          have hix2 := Hix2.out w6
          match i, ho with
          | 0, ho =>
            obtain rfl := Option.some.inj ho
            have h0 := given_old hg 0 (by decide +kernel)
            clear hg
            exact st_yield ho (wanted_none rfl) (.slice (some ⟨b1, o1, none⟩) l.length cap1) w6 (by simp [execOp, Act.eval, h0, go_sem]) ⟨_, rfl, Below.refl _ _, by rintro t' ⟨⟩; rfl⟩
          | 1, ho =>
            obtain rfl := Option.some.inj ho
            have h5 := given_old hg 5 (by decide +kernel)
            clear hg
            exact st_yield ho (wanted_none rfl) (.int .i64 (k : Int)) w6 (by simp [execOp, Act.eval, h5, go_sem]) ⟨_, rfl, Below.refl _ _, by rintro t' ⟨⟩; rfl⟩
          | 2, ho =>
            obtain rfl := Option.some.inj ho
            obtain ⟨_, h17, rfl⟩ := given_fed hg 17 (by decide +kernel)
            obtain ⟨_, h18, rfl⟩ := given_fed hg 18 (by decide +kernel)
            clear hg
            exact st_yield ho (wanted_none rfl) (.pointer (some ⟨b1, o1 + k * 5, none⟩)) w6 (by simp [execOp, Act.eval, h17, h18, go_sem, hix1]) ⟨_, rfl, Below.refl _ _, by rintro t' ⟨⟩; rfl⟩
          | 3, ho =>
            obtain rfl := Option.some.inj ho
            obtain ⟨_, h19, rfl⟩ := given_fed hg 19 (by decide +kernel)
            clear hg
            exact st_yield ho (wanted_none rfl) (.agg #[.string kx, .bool gx, .int .i64 ax, .int .i64 nx, .string sx]) w6 (by simp [execOp, Act.eval, h19, go_sem, c0, c1, c2, c3, c4]) ⟨_, rfl, Below.refl _ _, by rintro t' ⟨⟩; rfl⟩
          | 4, ho =>
            obtain rfl := Option.some.inj ho
            have h1 := given_old hg 1 (by decide +kernel)
            clear hg
            exact st_yield ho (wanted_none rfl) (.slice (some ⟨b2, o2, none⟩) m.length cap2) w6 (by simp [execOp, Act.eval, h1, go_sem]) ⟨_, rfl, Below.refl _ _, by rintro t' ⟨⟩; rfl⟩
          | 5, ho =>
            obtain rfl := Option.some.inj ho
            have h5 := given_old hg 5 (by decide +kernel)
            clear hg
            exact st_yield ho (wanted_none rfl) (.int .i64 (k : Int)) w6 (by simp [execOp, Act.eval, h5, go_sem]) ⟨_, rfl, Below.refl _ _, by rintro t' ⟨⟩; rfl⟩
          | 6, ho =>
            obtain rfl := Option.some.inj ho
            obtain ⟨_, h21, rfl⟩ := given_fed hg 21 (by decide +kernel)
            obtain ⟨_, h22, rfl⟩ := given_fed hg 22 (by decide +kernel)
            clear hg
            exact st_yield ho (wanted_none rfl) (.pointer (some ⟨b2, o2 + k * 5, none⟩)) w6 (by simp [execOp, Act.eval, h21, h22, go_sem, hix2]) ⟨_, rfl, Below.refl _ _, by rintro t' ⟨⟩; rfl⟩
          | 7, ho =>
            obtain rfl := Option.some.inj ho
            obtain ⟨_, h23, rfl⟩ := given_fed hg 23 (by decide +kernel)
            clear hg
            exact st_yield ho (wanted_none rfl) (.agg #[.string ky, .bool gy, .int .i64 ay, .int .i64 ny, .string sy]) w6 (by simp [execOp, Act.eval, h23, go_sem, d0, d1, d2, d3, d4]) ⟨_, rfl, Below.refl _ _, by rintro t' ⟨⟩; rfl⟩
          | 8, ho =>
            obtain rfl := Option.some.inj ho
            obtain ⟨_, h20, rfl⟩ := given_fed hg 20 (by decide +kernel)
            obtain ⟨_, h24, rfl⟩ := given_fed hg 24 (by decide +kernel)
            clear hg
            exact st_enter (w1 := w6) ho (wanted_none rfl) 40 #[.agg #[.string kx, .bool gx, .int .i64 ax, .int .i64 nx, .string sx], .agg #[.string ky, .bool gy, .int .i64 ay, .int .i64 ny, .string sy]] (by simp [execOp, Act.eval, h20, h24, resolve, go_sem]) ((CE.out _).mono (by rintro e w7 ⟨rfl, hb7⟩; exact ⟨_, rfl, _, rfl, hb7, by rintro t' ⟨⟩; rfl⟩))
          | 9, ho =>
            obtain rfl := Option.some.inj ho
            obtain ⟨_, h25, rfl⟩ := given_fed hg 25 (by decide +kernel)
            clear hg
            exact st_yield ho (wanted_none rfl) (.bool (!q)) w6 (by simp [execOp, Act.eval, h25, go_sem]) ⟨_, rfl, Below.refl _ _, by rintro t' ⟨⟩; rfl⟩
          | n + 10, ho => simp at ho
        · intro f w6 hb6 hv
          have h26 := hv 26 (by decide)
          simp only [VE] at h26
          have hbc6 := hbc.trans (hb6.mono hbc.size)
          clear c0 c1 c2 c3 c4 d0 d1 d2 d3 d4 Hix1 Hix2 CE hv hbc hb6
          unfold putAll
          simp only [List.foldl]
          simp only [h26]
          cases q with
          | true =>
            have hgo := Go.Lib.hid (Hgo.out (of_decide_eq_true Hq.out))
            go_simp
            go_wp2_with fail
            go_roundw
            case rel => exact ⟨k + 1, by omega, by go_num, hgo.out, hbc6⟩
            case measure => simp only [intOf]; omega
          | false =>
            have hgo := Go.Lib.hid (decide_eq_false (hne.out (of_decide_eq_false Hq.out)))
            go_simp
            go_wp2_with fail
            go_ret
            exact ⟨ret_of (congrArg Value.bool hgo.out.symm), hbc6⟩
      · obtain rfl : k = l.length := by omega
        have hgo : l = m := by
          have := Htk.out
          rwa [List.take_of_length_le (Nat.le_refl _), List.take_of_length_le (by have := Hl.out; omega)] at this
        have Hgo := Go.Lib.hid (decide_eq_true hgo)
        clear hgo
        go_wp2_with fail
        go_ret
        exact ⟨ret_of (congrArg Value.bool Hgo.out.symm), hbc⟩
  · have hgo := Go.Lib.hid (decide_eq_false (show ¬ l = m from fun e => hl (by rw [e])))
    have hlb : ((l.length : Int) == (m.length : Int)) = false := by simp; omega
    have hln : ¬ ((l.length : Int) = (m.length : Int)) := by omega
    go_enter Try.func16, Try.ntmps16
    go_wp2_with fail
    go_ret
    exact ⟨ret_of (congrArg Value.bool hgo.out.symm), Below.refl _ _⟩

end Go.Proofs.Ytgalppnpmfpdbaa

namespace Go.Proofs.Ytgalppnpmfpdbaa
open Go.RowKit

set_option maxRecDepth 100000 in
theorem short_c (v : Value) (l : List UInt8) (n : Nat) (w : World) (hv : RB w v l) (hn : n ≤ 1000) :
    Calls Try.prog 20 #[v, .int .i64 n] w fun e w' => (∃ v', e = .returned v' ∧ RB w v' (l.take n)) ∧ w = w' := by
  obtain ⟨a, cap, rfl, h1, h2, h3, h4⟩ := hv
  have hs := h2
  unfold maxLen at hs
  by_cases h : n < l.length
  · cases a with
    | none => have := h3 rfl; omega
    | some a =>
      have hr : RB w (.slice (some a) n cap) (l.take n) := by
        refine ⟨some a, cap, by rw [List.length_take, Nat.min_eq_left (by omega)], by rw [List.length_take]; omega, h2, (fun h => by cases h), fun hl => ?_⟩
        obtain ⟨b, o, ha, hc⟩ := h4 (by intro e; subst e; simp at h)
        exact ⟨b, o, ha, fun i hi => by
          have := hc i (by rw [List.length_take] at hi; omega)
          simpa using this⟩
      have Hr := Go.Lib.hid hr; clear hr h3 h4
      go_enter Try.func20, Try.ntmps20
      go_wp2
      go_ret
      exact ⟨⟨_, rfl, Hr.out⟩, rfl⟩
  · have hr : RB w (.slice a l.length cap) (l.take n) := by
      rw [List.take_of_length_le (by omega)]
      exact ⟨a, cap, rfl, h1, h2, h3, h4⟩
    have Hr := Go.Lib.hid hr; clear hr h3 h4
    go_enter Try.func20, Try.ntmps20
    go_wp2
    go_ret
    exact ⟨⟨_, rfl, Hr.out⟩, rfl⟩

theorem rb_first {w : World} {a : Option Addr} {cap : Nat} {l : List UInt8} (h : RB w (.slice a l.length cap) l) (n : Nat) (hn : n ≤ l.length) : RB w (.slice a n cap) (l.take n) := by
  obtain ⟨a', cap', hv, h1, h2, h3, h4⟩ := h
  cases hv
  refine ⟨a, cap, by rw [List.length_take, Nat.min_eq_left hn], by rw [List.length_take]; omega, h2, h3, fun hl => ?_⟩
  have hne : l ≠ [] := by rintro rfl; simp at hl
  obtain ⟨b, o, ha, hc⟩ := h4 hne
  exact ⟨b, o, ha, fun i hi => by
    have := hc i (by rw [List.length_take] at hi; omega)
    simpa using this⟩
set_option maxRecDepth 100000 in
/-- .. wherever its argument reads so. -/
theorem short_w (v : Value) (l : List UInt8) (n : Nat) (w : World) (hv : RB w v l) (hn : n ≤ 1000) :
    Calls Try.prog 20 #[v, .int .i64 n] w fun e w' => (∃ v', e = .returned v' ∧ ∀ W, RB W v l → RB W v' (l.take n)) ∧ w = w' := by
  obtain ⟨a, cap, rfl, h1, h2, h3, h4⟩ := hv
  have hs := h2
  unfold maxLen at hs
  by_cases h : n < l.length
  · cases a with
    | none => have := h3 rfl; omega
    | some a =>
      have Hr := Go.Lib.hid (fun W (hW : RB W (.slice (some a) l.length cap) l) => rb_first hW n (by omega)); clear h3 h4
      go_enter Try.func20, Try.ntmps20
      go_wp2
      go_ret
      exact ⟨⟨_, rfl, Hr.out⟩, rfl⟩
  · have Hr := Go.Lib.hid (fun W (hW : RB W (.slice a l.length cap) l) => show RB W (.slice a l.length cap) (l.take n) from by rw [List.take_of_length_le (by omega)]; exact hW); clear h3 h4
    go_enter Try.func20, Try.ntmps20
    go_wp2
    go_ret
    exact ⟨⟨_, rfl, Hr.out⟩, rfl⟩

end Go.Proofs.Ytgalppnpmfpdbaa

namespace Go.Proofs.Ytgalppnpmfpdbaa
open Go.RowKit

set_option maxRecDepth 100000 in
/-- 'Short(b, n)', the value said. -/
theorem short_v (a : Option Addr) (len cap : Nat) (l : List UInt8) (n : Nat) (w : World) (hv : RB w (.slice a len cap) l) (hn : n ≤ 1000) :
    Calls Try.prog 20 #[.slice a len cap, .int .i64 n] w fun e w' => e = .returned (.slice a (min n len) cap) ∧ w = w' := by
  obtain ⟨h1, h2, h3⟩ := hv.len
  subst h1
  have hs := h3
  unfold maxLen at hs
  obtain ⟨a', cap', hv', -, -, hn0, -⟩ := hv
  simp only [Value.slice.injEq] at hv'
  obtain ⟨rfl, -, rfl⟩ := hv'
  by_cases h : n < l.length
  · cases a with
    | none => have := hn0 rfl; omega
    | some a =>
      have hr := Go.Lib.hid (Nat.min_eq_left (Nat.le_of_lt h))
      clear hn0 h3
      go_enter Try.func20, Try.ntmps20
      go_wp2
      go_ret
      exact ⟨ret_of (by rw [hr.out]; rfl), rfl⟩
  · have hr := Go.Lib.hid (Nat.min_eq_right (Nat.le_of_not_lt h))
    clear hn0 h3
    go_enter Try.func20, Try.ntmps20
    go_wp2
    go_ret
    exact ⟨ret_of (by rw [hr.out]; rfl), rfl⟩

end Go.Proofs.Ytgalppnpmfpdbaa

namespace Go.Proofs.Ytgalppnpmfpdbaa
open Go.RowKit

section
variable {w : World} {g : Nat} {TT : TabT}
theorem TK.of_row (hh : w.heap[g]? = some (.cells (tabL TT 32).toArray 33 (0, 0))) : TK w g TT := by
  refine ⟨⟨_, _, hh⟩, fun o => frozen_of_row _ _ _ _ _ hh, fun q j hq hj => ?_⟩
  rw [cell_of_row _ _ _ _ _ _ hh, List.getElem?_toArray]
  exact tabL_at TT 32 q j hq hj
/-- A cell of a slot is stored. -/
theorem TK.set1 (h : TK w g TT) {q j : Nat} (hq : q < 32) (hj : j < 6) {v : Value} {y : Bool × RecT} (he : ∀ i, i < 6 → i ≠ j → (enc6 y)[i]? = (enc6 (TT q))[i]?) (hv : (enc6 y)[j]? = some v) : TK (w.setCells g (6 * q + j) [v]) g (setT TT q y) := by
  refine ⟨setCells_type _ _ _ _ h.row, fun o => by rw [World.frozen?_setCells]; exact h.fr o, fun k i hk hi => ?_⟩
  unfold setT
  by_cases e : k = q ∧ i = j
  · obtain ⟨rfl, rfl⟩ := e
    rw [if_pos rfl]
    have := World.cell?_setCells_in g [v] (6 * k + i) w (fun j' hj' => by
      obtain rfl : j' = 0 := by simp at hj'; omega
      rw [Nat.add_zero, h.cell k i hk hi, List.getElem?_eq_getElem (show i < (enc6 (TT k)).length from hi)]
      rfl) 0 (by simp)
    rw [Nat.add_zero] at this
    rw [this, hv]
    rfl
  · rw [World.cell?_setCells_out g [v] (6 * q + j) w ⟨g, 6 * k + i, none⟩ (fun _ _ => ?_)]
    · rw [h.cell k i hk hi]
      by_cases e2 : k = q
      · subst e2
        rw [if_pos rfl, he i hi (fun e3 => e ⟨rfl, e3⟩)]
      · rw [if_neg e2]
    · simp only [List.length_cons, List.length_nil]
      omega
end
/-- What the laws ask of a table, be it one or none. -/
structure BadOk (TT : TabT) : Prop where
  sz : ∀ q, q < 32 → (TT q).2.1.size ≤ 1000 ∧ (TT q).2.2.2.2.2.size ≤ 1000
  ok : TabOk TT
theorem LayOk.bad {TT : TabT} (h : LayOk TT) : BadOk TT := ⟨h.sizes, h.recs⟩
theorem BadOk.set {TT : TabT} (h : BadOk TT) (n : Nat) {y : Bool × RecT} (hs : y.2.1.size ≤ 1000 ∧ y.2.2.2.2.2.size ≤ 1000) (hr : RecOk y.2) : BadOk (setT TT n y) := by
  refine ⟨fun q hq => ?_, fun q hq => ?_⟩
  · by_cases e : q = n
    · subst e; rw [setT_new]; exact hs
    · rw [setT_old TT n y e]; exact h.sz q hq
  · by_cases e : q = n
    · subst e; rw [setT_new]; exact hr
    · rw [setT_old TT n y e]; exact h.ok q hq
theorem BadOk.more {x : RecT} (h : RecOk x) : RecOk (x.1, x.2.1, x.2.2.1, IntKind.i64.wrap (x.2.2.2.1 + 1), x.2.2.2.2) := by
  unfold RecOk at h ⊢
  refine ⟨h.1, h.2.1, ?_, h.2.2.2⟩
  have h0 := IntKind.wrap_i64 (x.2.2.2.1 + 1)
  have e1 : IntKind.i64.min = -9223372036854775808 := by decide
  have e2 : IntKind.i64.max = 9223372036854775807 := by decide
  unfold Lit.wf
  simp only [e1, e2, Bool.and_eq_true, decide_eq_true_eq]
  omega
theorem bad_len (TT : TabT) : decide ((0 : Int) < ((if okTo TT 32 then tabB TT else []).length : Int)) = okTo TT 32 := by
  have := tabB_len4 TT
  cases h : okTo TT 32 with
  | true => simp only [if_true]; exact decide_eq_true (by omega)
  | false => simp
/-- The region of a way: nothing stored, the first store, the second. -/
structure IBd (w0 : World) (g : Nat) (T0 T1 T2 : TabT) (s1 s2 : Nat) (done : Nat → Bool) (w : World) : Prop where
  bel : Below w0.heap.size w0 w
  tab : TK w g (if done s2 then T2 else if done s1 then T1 else T0)
theorem IBd.keep {w0 w : World} {g : Nat} {T0 T1 T2 : TabT} {s1 s2 i : Nat} {done : Nat → Bool} (h : IBd w0 g T0 T1 T2 s1 s2 done w) (n1 : s1 ≠ i) (n2 : s2 ≠ i) : IBd w0 g T0 T1 T2 s1 s2 (doneToo done i) w := by
  refine ⟨h.bel, ?_⟩
  rw [doneToo_other n1, doneToo_other n2]
  exact h.tab
end Go.Proofs.Ytgalppnpmfpdbaa

namespace Go.Proofs.Ytgalppnpmfpdbaa
open Go.RowKit

theorem layPut_is {TT : TabT} {b i s : Nat} (x : RecT) (h : layK TT b i = some s) : layPut TT b i x = setT TT (4 * b + (s + i) % 4) (true, x) := by
  unfold layPut
  rw [h]
theorem layK_one {b q : Nat} (z : RecT) : ∃ s, layK (setT zeroT q (true, z)) b 1 = some s := by
  have h0 : ∀ n, (zeroT n).1 = false := fun n => by unfold zeroT; rfl
  by_cases h : 4 * b + (0 + 1) % 4 = q
  · refine ⟨1, layK_some (by decide) ?_ (fun s' hs' => ?_)⟩
    · rw [setT_old zeroT q _ (by omega)]; exact h0 _
    · obtain rfl : s' = 0 := by omega
      rw [h, setT_new]
  · refine ⟨0, layK_some (by decide) ?_ (fun s' hs' => absurd hs' (by omega))⟩
    rw [setT_old zeroT q _ h]; exact h0 _
theorem layPut_two {b q : Nat} (hb : b < 8) (x z : RecT) {l : List RecT} (hr : recsT (setT zeroT q (true, z)) 32 = l) : (recsT (layPut (setT zeroT q (true, z)) b 1 x) 32).Perm (l ++ [x]) := by
  obtain ⟨s, hk⟩ := layK_one (b := b) (q := q) z
  have hs := (layK_is hk).1
  rw [layPut_is x hk]
  have := (recs_set (x := x) (layK_is hk).2 32).1 (by omega)
  rw [hr] at this
  exact this
end Go.Proofs.Ytgalppnpmfpdbaa
