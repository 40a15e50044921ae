/-
  Slices of records: contract of the reference's EqRecs.
  A region whose order is open, but whose operations that change memory wait for one another, one by one (a chain: calls, appends, stores): all others only read, and what they yield is known ahead. The chain's values are a list; the condition C speaks of the values that there are so far.
  Stage 18: the law's same.
-/
import Derived.Test.YtkddleonmkhaiaaGreatM08
import Derived.Test.YtkddleonmkhaiaaGreatM17
import Derived.Deep.DeepCutAuto
import Derived.LoopTactic
import Derived.Test.YtkddleonmkhaiaaGreatM20
import Derived.Test.YtkddleonmkhaiaaGreatM33
import Derived.Test.YtkddleonmkhaiaaGreatM28
namespace Go.Proofs.YtkddleonmkhaiaaGreat
open Go.RowKit

def VE (b1 o1 b2 o2 n m cap1 cap2 k : Nat) (kx : ByteArray) (gx : Bool) (ax nx : Int) (sx ky : ByteArray) (gy : Bool) (ay ny : Int) (sy : ByteArray) (q : Bool) : Nat → World → Value → Prop
  | 17, _, v => v = .slice (some ⟨b1, o1, none⟩) n cap1
  | 18, _, v => v = .int .i64 (k : Int)
  | 19, _, v => v = .pointer (some ⟨b1, o1 + k * 5, none⟩)
  | 20, _, v => v = .agg #[.string kx, .bool gx, .int .i64 ax, .int .i64 nx, .string sx]
  | 21, _, v => v = .slice (some ⟨b2, o2, none⟩) m cap2
  | 22, _, v => v = .int .i64 (k : Int)
  | 23, _, v => v = .pointer (some ⟨b2, o2 + k * 5, none⟩)
  | 24, _, v => v = .agg #[.string ky, .bool gy, .int .i64 ay, .int .i64 ny, .string sy]
  | 25, _, v => v = .bool q
  | 26, _, v => v = .bool (!q)
  | _, _, _ => True

theorem VE_below (b1 o1 b2 o2 n m cap1 cap2 k : Nat) (kx : ByteArray) (gx : Bool) (ax nx : Int) (sx ky : ByteArray) (gy : Bool) (ay ny : Int) (sy : ByteArray) (q : Bool) : ∀ (i : Nat) (w w' : World) (v : Value), VE b1 o1 b2 o2 n m cap1 cap2 k kx gx ax nx sx ky gy ay ny sy q i w v → Below w.heap.size w w' → VE b1 o1 b2 o2 n m cap1 cap2 k kx gx ax nx sx ky gy ay ny sy q i w' v := by
  intro i w w' v h hb
  unfold VE at h ⊢
  split at h <;> first | exact h | trivial | exact RB.below h hb | exact Own.below h hb

theorem eqGo {l m : List RecT} {k : Nat} (h1 : k < l.length) (h2 : k < m.length) (he : l.take k = m.take k) (h : l[k] = m[k]) : l.take (k + 1) = m.take (k + 1) := by
  rw [List.take_succ_eq_append_getElem h1, List.take_succ_eq_append_getElem h2, he, h]

set_option maxHeartbeats 2000000 in
set_option maxRecDepth 100000 in
theorem reqrecs_c (u v : Value) (l m : List RecT) (w : World) (hu : RS w u l) (hv : RS w v m) :
    Calls Tryz.prog 37 #[u, v] w fun e w' => e = .returned (.bool (decide (l = m))) ∧ Below w.heap.size w w' := by
  obtain ⟨a1, cap1, rfl, hm1⟩ := hu.form
  obtain ⟨a2, cap2, rfl, hm2⟩ := hv.form
  have HU := Go.Lib.hid hu; clear hu
  have HV := Go.Lib.hid hv; clear hv
  by_cases hl : l.length = m.length
  · have Hl := Go.Lib.hid hl
    have hlb : ((l.length : Int) == (m.length : Int)) = true := by simp [hl]
    have hln : ((l.length : Int) = (m.length : Int)) := by omega
    go_enter Tryz.func37, Tryz.ntmps37
    go_wp2_with fail
    clear hln hlb
    have hl2 := Hl.out
    have Hl2 := Go.Lib.hid hl2; clear hl2 hl
    go_loopw [5] (fun i w2 => ∃ k : Nat, k ≤ l.length ∧ i = .int .i64 (k : Int) ∧ l.take k = m.take k ∧ Below w.heap.size w w2) (fun i _ => l.length - (intOf i).toNat)
    case atStart => exact ⟨0, by omega, rfl, by simp, Below.refl _ _⟩
    case round =>
      obtain ⟨k, hk, rfl, htk, hbc⟩ := hrel
      have Htk := Go.Lib.hid htk; clear htk
      by_cases hlt : k < l.length
      · have hlt2 : k < m.length := by have := Hl.out; omega
        obtain ⟨b1, o1, rfl, -, -, c0, c1, c2, c3, c4⟩ := (HU.out.below hbc).at k hlt
        obtain ⟨b2, o2, rfl, -, -, d0, d1, d2, d3, d4⟩ := (HV.out.below hbc).at k hlt2
        have hix1 := run_idx5 b1 o1 l.length cap1 k hlt
        have hix2 := run_idx5 b2 o2 m.length cap2 k hlt2
        have Hgo := Go.Lib.hid (fun h => eqGo hlt hlt2 Htk.out h)
        have hne := Go.Lib.hid (fun (h : l[k] ≠ m[k]) => show l ≠ m from fun e => h (by subst e; rfl))
        have CE := reqrec_c l[k].1 l[k].2.1 l[k].2.2.1 l[k].2.2.2.1 l[k].2.2.2.2 m[k].1 m[k].2.1 m[k].2.2.1 m[k].2.2.2.1 m[k].2.2.2.2
        rw [eqRec_iff] at CE
        generalize hx : l[k] = x at *
        generalize hy : m[k] = y at *
        obtain ⟨kx, gx, ax, nx, sx⟩ := x
        obtain ⟨ky, gy, ay, ny, sy⟩ := y
        simp only [] at c0 c1 c2 c3 c4 d0 d1 d2 d3 d4 CE
        generalize hq : decide (((kx, gx, ax, nx, sx) : RecT) = (ky, gy, ay, ny, sy)) = q at *
        unfold recV at CE
        have CE := Go.Lib.hid CE
        have Hix1 := Go.Lib.hid hix1; clear hix1
        have Hix2 := Go.Lib.hid hix2; clear hix2
        have Hq := Go.Lib.hid hq; clear hq hx hy
        go_upto_region 6 with (fail)
        refine wp_region_each (by kernel_rfl) (VE b1 o1 b2 o2 l.length m.length cap1 cap2 k kx gx ax nx sx ky gy ay ny sy q) (VE_below b1 o1 b2 o2 l.length m.length cap1 cap2 k kx gx ax nx sx ky gy ay ny sy q) (by decide +kernel) (by decide +kernel) (by rfl) [17, 18, 19, 20, 21, 22, 23, 24, 25, 26] (by rfl) ?_ ?_
        · intro i o ho a w6 hb6 hlen hg
          have c0 := cell_kept c0 hb6
          have c1 := cell_kept c1 hb6
          have c2 := cell_kept c2 hb6
          have c3 := cell_kept c3 hb6
          have c4 := cell_kept c4 hb6
          have d0 := cell_kept d0 hb6
          have d1 := cell_kept d1 hb6
          have d2 := cell_kept d2 hb6
          have d3 := cell_kept d3 hb6
          have d4 := cell_kept d4 hb6
          have hix1 := Hix1.out w6
          have hix2 := Hix2.out w6
          match i, ho with
          | 0, ho =>
            obtain rfl := Option.some.inj ho
            have h0 := given_old hg 0 (by decide +kernel)
            clear hg
            exact st_yield ho (wanted_none rfl) (.slice (some ⟨b1, o1, none⟩) l.length cap1) w6 (by simp [execOp, Act.eval, h0, go_sem]) ⟨_, rfl, Below.refl _ _, by rintro t' ⟨⟩; rfl⟩
          | 1, ho =>
            obtain rfl := Option.some.inj ho
            have h5 := given_old hg 5 (by decide +kernel)
            clear hg
            exact st_yield ho (wanted_none rfl) (.int .i64 (k : Int)) w6 (by simp [execOp, Act.eval, h5, go_sem]) ⟨_, rfl, Below.refl _ _, by rintro t' ⟨⟩; rfl⟩
          | 2, ho =>
            obtain rfl := Option.some.inj ho
            obtain ⟨_, h17, rfl⟩ := given_fed hg 17 (by decide +kernel)
            obtain ⟨_, h18, rfl⟩ := given_fed hg 18 (by decide +kernel)
            clear hg
            exact st_yield ho (wanted_none rfl) (.pointer (some ⟨b1, o1 + k * 5, none⟩)) w6 (by simp [execOp, Act.eval, h17, h18, go_sem, hix1]) ⟨_, rfl, Below.refl _ _, by rintro t' ⟨⟩; rfl⟩
          | 3, ho =>
            obtain rfl := Option.some.inj ho
            obtain ⟨_, h19, rfl⟩ := given_fed hg 19 (by decide +kernel)
            clear hg
            exact st_yield ho (wanted_none rfl) (.agg #[.string kx, .bool gx, .int .i64 ax, .int .i64 nx, .string sx]) w6 (by simp [execOp, Act.eval, h19, go_sem, c0, c1, c2, c3, c4]) ⟨_, rfl, Below.refl _ _, by rintro t' ⟨⟩; rfl⟩
          | 4, ho =>
            obtain rfl := Option.some.inj ho
            have h1 := given_old hg 1 (by decide +kernel)
            clear hg
            exact st_yield ho (wanted_none rfl) (.slice (some ⟨b2, o2, none⟩) m.length cap2) w6 (by simp [execOp, Act.eval, h1, go_sem]) ⟨_, rfl, Below.refl _ _, by rintro t' ⟨⟩; rfl⟩
          | 5, ho =>
            obtain rfl := Option.some.inj ho
            have h5 := given_old hg 5 (by decide +kernel)
            clear hg
            exact st_yield ho (wanted_none rfl) (.int .i64 (k : Int)) w6 (by simp [execOp, Act.eval, h5, go_sem]) ⟨_, rfl, Below.refl _ _, by rintro t' ⟨⟩; rfl⟩
          | 6, ho =>
            obtain rfl := Option.some.inj ho
            obtain ⟨_, h21, rfl⟩ := given_fed hg 21 (by decide +kernel)
            obtain ⟨_, h22, rfl⟩ := given_fed hg 22 (by decide +kernel)
            clear hg
            exact st_yield ho (wanted_none rfl) (.pointer (some ⟨b2, o2 + k * 5, none⟩)) w6 (by simp [execOp, Act.eval, h21, h22, go_sem, hix2]) ⟨_, rfl, Below.refl _ _, by rintro t' ⟨⟩; rfl⟩
          | 7, ho =>
            obtain rfl := Option.some.inj ho
            obtain ⟨_, h23, rfl⟩ := given_fed hg 23 (by decide +kernel)
            clear hg
            exact st_yield ho (wanted_none rfl) (.agg #[.string ky, .bool gy, .int .i64 ay, .int .i64 ny, .string sy]) w6 (by simp [execOp, Act.eval, h23, go_sem, d0, d1, d2, d3, d4]) ⟨_, rfl, Below.refl _ _, by rintro t' ⟨⟩; rfl⟩
          | 8, ho =>
            obtain rfl := Option.some.inj ho
            obtain ⟨_, h20, rfl⟩ := given_fed hg 20 (by decide +kernel)
            obtain ⟨_, h24, rfl⟩ := given_fed hg 24 (by decide +kernel)
            clear hg
            exact st_enter (w1 := w6) ho (wanted_none rfl) 16 #[.agg #[.string kx, .bool gx, .int .i64 ax, .int .i64 nx, .string sx], .agg #[.string ky, .bool gy, .int .i64 ay, .int .i64 ny, .string sy]] (by simp [execOp, Act.eval, h20, h24, resolve, go_sem]) ((CE.out _).mono (by rintro e w7 ⟨rfl, hb7⟩; exact ⟨_, rfl, _, rfl, hb7, by rintro t' ⟨⟩; rfl⟩))
          | 9, ho =>
            obtain rfl := Option.some.inj ho
            obtain ⟨_, h25, rfl⟩ := given_fed hg 25 (by decide +kernel)
            clear hg
            exact st_yield ho (wanted_none rfl) (.bool (!q)) w6 (by simp [execOp, Act.eval, h25, go_sem]) ⟨_, rfl, Below.refl _ _, by rintro t' ⟨⟩; rfl⟩
          | n + 10, ho => simp at ho
        · intro f w6 hb6 hv
          have h26 := hv 26 (by decide)
          simp only [VE] at h26
          have hbc6 := hbc.trans (hb6.mono hbc.size)
          clear c0 c1 c2 c3 c4 d0 d1 d2 d3 d4 Hix1 Hix2 CE hv hbc hb6
          unfold putAll
          simp only [List.foldl]
          simp only [h26]
          cases q with
          | true =>
            have hgo := Go.Lib.hid (Hgo.out (of_decide_eq_true Hq.out))
            go_simp
            go_wp2_with fail
            go_roundw
            case rel => exact ⟨k + 1, by omega, by go_num, hgo.out, hbc6⟩
            case measure => simp only [intOf]; omega
          | false =>
            have hgo := Go.Lib.hid (decide_eq_false (hne.out (of_decide_eq_false Hq.out)))
            go_simp
            go_wp2_with fail
            go_ret
            exact ⟨ret_of (congrArg Value.bool hgo.out.symm), hbc6⟩
      · obtain rfl : k = l.length := by omega
        have hgo : l = m := by
          have := Htk.out
          rwa [List.take_of_length_le (Nat.le_refl _), List.take_of_length_le (by have := Hl.out; omega)] at this
        have Hgo := Go.Lib.hid (decide_eq_true hgo)
        clear hgo
        go_wp2_with fail
        go_ret
        exact ⟨ret_of (congrArg Value.bool Hgo.out.symm), hbc⟩
  · have hgo := Go.Lib.hid (decide_eq_false (show ¬ l = m from fun e => hl (by rw [e])))
    have hlb : ((l.length : Int) == (m.length : Int)) = false := by simp; omega
    have hln : ¬ ((l.length : Int) = (m.length : Int)) := by omega
    go_enter Tryz.func37, Tryz.ntmps37
    go_wp2_with fail
    go_ret
    exact ⟨ret_of (congrArg Value.bool hgo.out.symm), Below.refl _ _⟩

end Go.Proofs.YtkddleonmkhaiaaGreat

namespace Go.Proofs.YtkddleonmkhaiaaGreat
open Go.RowKit

/-- The steps wait for one another; each is an operation, and alone writes its slot. -/
def chainB (ops : Array Oper) (steps : List Nat) : Bool :=
  (List.range steps.length).all fun j => match steps[j]? with
    | some i => (match ops[i]? with | some o => (match o.dst with | some t => soleB ops i t | none => true) | none => false) &&
      (List.range j).all fun k => match steps[k]? with | some i' => aheadB ops i i' && i' != i | none => true
    | none => true

section
variable {P : Program} {ops : Array Oper} {Q : Exit → Act → World → Prop}

/-- What the steps have yielded so far. -/
def SlotsC (ops : Array Oper) (steps : List Nat) (vs : List Value) (a : Act) : Prop :=
  ∀ (k i : Nat) (o : Oper) (t : Nat), k < vs.length → steps[k]? = some i → ops[i]? = some o → o.dst = some t → a.tmps[t]? = vs[k]?
structure InvC (ops : Array Oper) (steps : List Nat) (C : List Value → World → Prop) (done : Nat → Bool) (a : Act) (w : World) (vs : List Value) : Prop where
  so : ∀ k i, steps[k]? = some i → (done i = true ↔ k < vs.length)
  le : vs.length ≤ steps.length
  c : C vs w
  slots : SlotsC ops steps vs a

theorem chain_at {steps : List Nat} (h : chainB ops steps = true) {j i : Nat} (hj : steps[j]? = some i) :
    (∃ o, ops[i]? = some o ∧ ∀ t, o.dst = some t → soleB ops i t = true) ∧ ∀ k i', k < j → steps[k]? = some i' → aheadB ops i i' = true ∧ i' ≠ i := by
  unfold chainB at h
  rw [List.all_eq_true] at h
  have h1 := h j (by rw [List.mem_range]; exact (List.getElem?_eq_some_iff.1 hj).1)
  rw [hj] at h1
  simp only [Bool.and_eq_true, List.all_eq_true, List.mem_range] at h1
  obtain ⟨h1, h2⟩ := h1
  refine ⟨?_, fun k i' hk hi' => ?_⟩
  · cases ho : ops[i]? with
    | none => rw [ho] at h1; cases h1
    | some o =>
      rw [ho] at h1
      refine ⟨o, rfl, fun t ht => ?_⟩
      simp only [ht] at h1
      exact h1
  · have h3 := h2 k hk
    rw [hi'] at h3
    simp only [Bool.and_eq_true, bne_iff_ne, ne_eq] at h3
    exact h3

theorem put_tmps_other {a : Act} {t : Option Nat} {s : Nat} {v : Value} (h : t ≠ some s) : (a.put t v).tmps[s]? = a.tmps[s]? := by
  cases t with
  | none => rfl
  | some t => exact Array.getElem?_setIfInBounds_ne (fun e => h (by rw [e]))

theorem wp_region_chain {id : Nat} {a0 : Act} {w0 : World} (hm : P.follows .mixedOrders = true) (V : Nat → Value → Prop) (steps : List Nat) (C : List Value → World → Prop)
    (htidy : tidyB ops = true) (hlow : lowB ops = true) (hdst : (ops.toList.all fun o => match o.dst with | some t => decide (t < a0.tmps.size) | none => true) = true)
    (hchain : chainB ops steps = true) (l : List Nat) (hl : dsts ops = l) (h0 : C [] w0.drew)
    (hquiet : ∀ (i : Nat) (o : Oper), ops[i]? = some o → steps.contains i = false → ∀ (a : Act) (w : World) (vs : List Value), C vs w → a.tmps.size = a0.tmps.size → Given ops (fun t _ v => V t v) a0 o a w →
      wpOp P ops Q i (fun a' w' => ∃ v, a' = a.put o.dst v ∧ C vs w' ∧ ∀ t, o.dst = some t → V t v) a w)
    (hstep : ∀ (j i : Nat) (o : Oper), steps[j]? = some i → ops[i]? = some o → ∀ (a : Act) (w : World) (vs : List Value), vs.length = j → C vs w → SlotsC ops steps vs a → a.tmps.size = a0.tmps.size → Given ops (fun t _ v => V t v) a0 o a w →
      wpOp P ops Q i (fun a' w' => ∃ v, a' = a.put o.dst v ∧ C (vs ++ [v]) w' ∧ ∀ t, o.dst = some t → V t v) a w)
    (hend : ∀ (f : Nat → Value) (w : World) (vs : List Value), vs.length = steps.length → C vs w → (∀ (k i : Nat) (o : Oper) (t : Nat), k < vs.length → steps[k]? = some i → ops[i]? = some o → o.dst = some t → vs[k]? = some (f t)) → (∀ t, t ∈ l → V t (f t)) → Q .normal (putAll a0 f l) w) :
    (Code.region id ops true).wp P Q a0 w0 := by
  refine wp_region_inv3 hm (fun t _ v => V t v) (fun done a w => ∃ vs, InvC ops steps C done a w vs) htidy hlow hdst l hl ?_ ?_ ?_
  · exact ⟨[], fun k i _ => by simp, Nat.zero_le _, h0, fun k i o t hk => absurd hk (by simp)⟩
  · rintro i o ho a w done ⟨vs, hI⟩ hnot hr hsh hlen hg
    cases hc : steps.contains i with
    | false =>
      refine wpOp_mono ?_ (hquiet i o ho hc a w vs hI.c hlen hg)
      rintro a' w' ⟨v, rfl, hC, hV⟩
      refine ⟨v, rfl, ⟨vs, fun k i' hi' => ?_, hI.le, hC, fun k i' o' t hk hi' ho' ht => ?_⟩, fun _ _ _ h => h, hV⟩
      · have hne : i' ≠ i := by
          rintro rfl
          have : i' ∈ steps := List.mem_of_getElem? hi'
          rw [← List.contains_iff_mem, hc] at this
          cases this
        rw [doneToo_other hne]
        exact hI.so k i' hi'
      · rw [put_tmps_other]
        · exact hI.slots k i' o' t hk hi' ho' ht
        · intro e
          obtain ⟨⟨o2, h2, hs⟩, -⟩ := chain_at hchain hi'
          rw [ho'] at h2
          cases h2
          have h3 := hs t ht
          refine not_wrote (done := fun j => decide (j = i)) h3 ?_ ⟨i, o, ho, e, by simp⟩
          simp only [decide_eq_false_iff_not]
          rintro rfl
          have : i' ∈ steps := List.mem_of_getElem? hi'
          rw [← List.contains_iff_mem, hc] at this
          cases this
    | true =>
      obtain ⟨j, hj⟩ := List.getElem?_of_mem (List.contains_iff_mem.1 hc)
      obtain ⟨⟨o2, h2, hs⟩, hah⟩ := chain_at hchain hj
      rw [ho] at h2
      cases h2
      have hjl : vs.length = j := by
        rcases Nat.lt_trichotomy vs.length j with h | h | h
        · have hjs := (List.getElem?_eq_some_iff.1 hj).1
          obtain ⟨i', hi'⟩ : ∃ i', steps[vs.length]? = some i' := ⟨_, List.getElem?_eq_getElem (by omega)⟩
          have := (hI.so _ _ hi').1 (hr i' (hah _ _ h hi').1)
          omega
        · exact h
        · have := (hI.so j i hj).2 h
          rw [hnot] at this
          cases this
      refine wpOp_mono ?_ (hstep j i o hj ho a w vs hjl hI.c hI.slots hlen hg)
      rintro a' w' ⟨v, rfl, hC, hV⟩
      refine ⟨v, rfl, ⟨vs ++ [v], fun k i' hi' => ?_, ?_, hC, fun k i' o' t hk hi' ho' ht => ?_⟩, fun _ _ _ h => h, hV⟩
      · rw [List.length_append, List.length_singleton]
        rcases Nat.lt_trichotomy k j with h | h | h
        · have hne := (hah k i' h hi').2
          rw [doneToo_other hne, hI.so k i' hi']
          omega
        · subst h
          rw [hj] at hi'
          cases hi'
          rw [doneToo_self]
          simp; omega
        · have hne := ((chain_at hchain hi').2 j i h hj).2
          rw [doneToo_other (Ne.symm hne), hI.so k i' hi']
          omega
      · rw [List.length_append, List.length_singleton]
        have := (List.getElem?_eq_some_iff.1 hj).1
        omega
      · rw [List.length_append, List.length_singleton] at hk
        rcases Nat.lt_or_ge k j with h | h
        · have hne := (hah k i' h hi').2
          rw [put_tmps_other, List.getElem?_append_left (by omega)]
          · exact hI.slots k i' o' t (by omega) hi' ho' ht
          · intro e
            have h3 := hs t e
            refine not_wrote (done := fun j => decide (j = i')) h3 ?_ ⟨i', o', ho', ht, by simp⟩
            simp only [decide_eq_false_iff_not]
            exact fun e => hne e.symm
        · obtain rfl : k = j := by omega
          rw [hj] at hi'
          cases hi'
          rw [ho] at ho'
          cases ho'
          rw [List.getElem?_append_right (by omega), hjl, Nat.sub_self, ht]
          have hlt : t < a.tmps.size := by
            rw [hlen]
            rw [List.all_eq_true] at hdst
            have h1 := hdst o (by obtain ⟨h, rfl⟩ := Array.getElem?_eq_some_iff.1 ho; simp)
            rw [ht] at h1
            exact of_decide_eq_true h1
          simp [Act.put, hlt]
  · rintro f w done hall ⟨vs, hI⟩ hV
    have hlen : vs.length = steps.length := by
      rcases Nat.lt_or_ge vs.length steps.length with h | h
      · obtain ⟨i', hi'⟩ : ∃ i', steps[vs.length]? = some i' := ⟨_, List.getElem?_eq_getElem h⟩
        obtain ⟨⟨o2, h2, -⟩, -⟩ := chain_at hchain hi'
        have := (hI.so _ _ hi').1 (hall i' (Array.getElem?_eq_some_iff.1 h2).1)
        omega
      · have := hI.le; omega
    refine hend f w vs hlen hI.c (fun k i o t hk hi ho ht => ?_) hV
    rw [← hI.slots k i o t hk hi ho ht, putAll_tmps, if_pos]
    refine ⟨?_, ?_⟩
    · rw [← hl, dsts, List.mem_filterMap]
      exact ⟨o, by obtain ⟨h, rfl⟩ := Array.getElem?_eq_some_iff.1 ho; simp, ht⟩
    · rw [List.all_eq_true] at hdst
      have h1 := hdst o (by obtain ⟨h, rfl⟩ := Array.getElem?_eq_some_iff.1 ho; simp)
      rw [ht] at h1
      exact of_decide_eq_true h1
end

/-- An operation whose guard is met is as one that has none. -/
theorem wpList_met {P : Program} {ops : Array Oper} {Q : Exit → Act → World → Prop} {a : Act} {w : World} {rest : List Oper} {d : Option Tmp} {op : Op} {t : TypeId} {p : String} {af : Array Edge} {g : Option (Nat × Bool)}
    (hw : Region.wanted ⟨d, op, t, p, af, g⟩ (yielded ops a.tmps) = true) (h : wpList P ops Q (⟨d, op, t, p, af, none⟩ :: rest) a w) : wpList P ops Q (⟨d, op, t, p, af, g⟩ :: rest) a w := by
  unfold wpList at h ⊢
  rw [if_pos hw]
  rw [if_pos (by simp [Region.wanted])] at h
  exact h

end Go.Proofs.YtkddleonmkhaiaaGreat

namespace Go.Proofs.YtkddleonmkhaiaaGreat
open Go.RowKit

/-- The first n slots of a table, the rest empty. -/
def upT (TT : TabT) (n : Nat) : TabT := fun q => if q < n then TT q else (false, nullR)
theorem upT_set (TT : TabT) {n : Nat} : setT (upT TT n) n (TT n) = upT TT (n + 1) := by
  funext q
  unfold setT upT
  by_cases h : q = n
  · subst h; simp
  · rw [if_neg h]
    by_cases h2 : q < n
    · rw [if_pos h2, if_pos (by omega)]
    · rw [if_neg h2, if_neg (by omega)]
theorem TK.congr {w : World} {g : Nat} {TT UU : TabT} (h : TK w g TT) (he : ∀ q, q < 32 → TT q = UU q) : TK w g UU := ⟨h.row, h.fr, fun q j hq hj => by rw [h.cell q j hq hj, he q hq]⟩
theorem six_one (hq : Bool) (kx : ByteArray) (gx : Bool) (ax nx : Int) (sx : ByteArray) : (#[.bool hq, .string kx, .bool gx, .int .i64 ax, .int .i64 nx, .string sx] : Array Value).all (fun x => x.oneCell') = true := by simp [Value.oneCell']
theorem build_slot (hq : Bool) (kx : ByteArray) (gx : Bool) (ax nx : Int) (sx : ByteArray) (W : World) : (Instr.build 68 #[(0, .bool hq), (1, .agg #[.string kx, .bool gx, .int .i64 ax, .int .i64 nx, .string sx])]).run Tryz.prog W = .ok (.agg #[.bool hq, .string kx, .bool gx, .int .i64 ax, .int .i64 nx, .string sx]) W :=
  run_build W _ _ _ (by kernel_rfl)
def VSm (g b s : Nat) (hq : Bool) (kx : ByteArray) (gx : Bool) (ax nx : Int) (sx : ByteArray) : Nat → World → Value → Prop
  | 39, _, v => v = .int .i64 (b : Int)
  | 40, _, v => v = .int .i64 (s : Int)
  | 41, _, v => v = .bool hq
  | 42, _, v => v = .agg #[.string kx, .bool gx, .int .i64 ax, .int .i64 nx, .string sx]
  | 43, _, v => v = .agg #[.bool hq, .string kx, .bool gx, .int .i64 ax, .int .i64 nx, .string sx]
  | 44, _, v => v = .pointer (some ⟨g, 24 * b, none⟩)
  | 45, _, v => v = .pointer (some ⟨g, 24 * b + 6 * s, none⟩)
  | _, _, _ => True

theorem VSm_below (g b s : Nat) (hq : Bool) (kx : ByteArray) (gx : Bool) (ax nx : Int) (sx : ByteArray) : ∀ (i : Nat) (w w' : World) (v : Value), VSm g b s hq kx gx ax nx sx i w v → Below w.heap.size w w' → VSm g b s hq kx gx ax nx sx i w' v := by
  intro i w w' v h hb
  unfold VSm at h ⊢
  split at h <;> first | exact h | trivial | exact h

set_option maxHeartbeats 8000000 in
set_option maxRecDepth 100000 in
theorem same_c {w : World} {B p d : Nat} {v : Value} {L : List RecT} (h : LG w B p d v L) (u : Value) (hu : RS w u (newestR L)) :
    Calls Tryz.prog 19 #[.pointer (some ⟨p, 0, none⟩), u] w fun e w' => e = .returned (.bool true) ∧ Below w.heap.size w w' := by
  obtain ⟨T, hc, hf⟩ := h.ck
  have HML := Go.Lib.hid (okTo_log hf h.keys h.may)
  have HNL := Go.Lib.hid (newest_log hf h.keys)
  have HSZ := Go.Lib.hid fun q hq => logT_short (q := q) hf h.may hq
  have HSLOT := Go.Lib.hid fun W (hb : Below w.heap.size w W) b s hb8 hs4 => lslot_c (b := b) (s := s) (h.below hb) (hc.below hb) hf hb8 hs4
  have HOUT := Go.Lib.hid fun W (hb : Below w.heap.size w W) => lslot_out (b := 8) (s := 0) (h.below hb) (by omega)
  have HLEN := Go.Lib.hid (llen_c h)
  have HLST := Go.Lib.hid (llist_c h)
  have HLN := Go.Lib.hid (newest_len h.keys)
  obtain ⟨a, cap, rfl, hm⟩ := hu.form
  have HU := Go.Lib.hid hu
  clear h hc hu
  have hlI : ((L.length : Int) != ((newestR L).length : Int)) = false := by rw [HLN.out]; simp
  have hlI2 : ((L.length : Int) == ((newestR L).length : Int)) = true := by rw [HLN.out]; simp
  generalize newestR L = M at *
  go_enter Tryz.func19, Tryz.ntmps19
  go_wp2_with fail
  refine HLEN.out.mono ?_
  rintro e w1 ⟨rfl, rfl⟩
  go_wp2_with fail
  refine HLST.out.mono ?_
  rintro e w1 ⟨v1, rfl, ho, hb⟩
  have CE := reqrecs_c v1 (.slice a M.length cap) M M w1 ho.rs (HU.out.below hb)
  rw [show decide (M = M) = true from decide_eq_true rfl] at CE
  have CE := Go.Lib.hid CE
  have HB1 := Go.Lib.hid hb
  clear ho hb HLEN HLST
  go_wp2_with fail
  refine CE.out.mono ?_
  rintro e w2 ⟨rfl, hb⟩
  have HB2 := Go.Lib.hid (HB1.out.trans (hb.mono HB1.out.size))
  clear hb CE HB1 hlI hlI2
  have hz := zero_tab
  have HT3 := Go.Lib.hid (TK.new w2 (fun _ => (false, nullR)))
  have HB3 := Go.Lib.hid (HB2.out.trans ((below_one w2 (.cells (tabL (fun _ => (false, nullR)) 32).toArray 71)).mono HB2.out.size))
  generalize (tabL (fun _ => (false, nullR)) 32).toArray = Z at *
  go_wp2_with fail
  obtain ⟨g, hg⟩ : ∃ g, g = w2.heap.size := ⟨_, rfl⟩
  have HGW := Go.Lib.hid (show w.heap.size ≤ g from by have := HB2.out.size; omega)
  rw [← hg] at HT3 ⊢
  clear hg hz
  generalize w2.alloc (.cells Z 71) = w3 at *
  have HT4 := Go.Lib.hid (show TK w3 g (upT (logT T L) (4 * 0)) from HT3.out.congr fun q hq => by unfold upT; rw [if_neg (by omega)])
  clear HT3
  go_loopw [6] (fun bi wr => ∃ b : Nat, b ≤ 8 ∧ bi = .int .i64 (b : Int) ∧ Hid (TK wr g (upT (logT T L) (4 * b))) ∧ Hid (Below w.heap.size w wr)) (fun bi _ => 8 - (intOf bi).toNat)
  case atStart => exact ⟨0, by omega, rfl, HT4, HB3⟩
  case round =>
    obtain ⟨b, hb, rfl, HT, HB⟩ := hrel
    by_cases hlt : b < 8
    · have hltI : (b : Int) < 8 := by omega
      go_wp2_with fail
      go_loopw [7] (fun si wr => ∃ s : Nat, s ≤ 4 ∧ si = .int .i64 (s : Int) ∧ Hid (TK wr g (upT (logT T L) (4 * b + s))) ∧ Hid (Below w.heap.size w wr)) (fun si _ => 4 - (intOf si).toNat)
      case atStart => exact ⟨0, by omega, rfl, HT, HB⟩
      case round =>
        obtain ⟨s, hs4, rfl, HT, HB⟩ := hrel
        by_cases hslt : s < 4
        · as_aux_lemma =>
            have hsI : (s : Int) < 4 := by omega
            have CS := HSLOT.out wr HB.out b s hlt hslt
            unfold outR recOf recV at CS
            have HST := Go.Lib.hid (show setT (upT (logT T L) (4 * b + s)) (4 * b + s) (ofO (slotO T L (4 * b + s))) = upT (logT T L) (4 * b + (s + 1)) from upT_set (logT T L))
            unfold ofO at HST
            generalize slotO T L (4 * b + s) = o at *
            obtain ⟨hq, hhq⟩ : ∃ hq, hq = o.isSome := ⟨_, rfl⟩
            rw [← hhq] at CS HST
            generalize o.getD nullR = x at *
            obtain ⟨kx, gx, ax, nx, sx⟩ := x
            simp only [] at CS
            have CS := Go.Lib.hid CS
            clear hhq
            go_wp2_with fail
            refine CS.out.mono ?_
            rintro e w5 ⟨rfl, hc⟩
            have hc2 := hc.trans ((below_one w5 (.cells #[.string kx, .bool gx, .int .i64 ax, .int .i64 nx, .string sx] 33)).mono hc.size)
            have HX6 := Go.Lib.hid (heap_alloc_new w5 (.cells #[.string kx, .bool gx, .int .i64 ax, .int .i64 nx, .string sx] 33))
            have HT6 := Go.Lib.hid (HT.out.below hc2)
            have HB6 := Go.Lib.hid (HB.out.trans (hc2.mono HB.out.size))
            clear hc hc2 CS HT HB
            go_upto_region 11 with (fail)
            obtain ⟨g5, hg5⟩ : ∃ g, g = w5.heap.size := ⟨_, rfl⟩
            rw [← hg5] at HX6 ⊢
            clear hg5
            generalize w5.alloc (.cells #[.string kx, .bool gx, .int .i64 ax, .int .i64 nx, .string sx] 33) = w7 at *
            have hix1 := idxT g b hlt
            have hix2 := idxT2 g (24 * b) s hslt
            refine wp_region_head 7 (by decide) (by kernel_rfl) (VSm g b s hq kx gx ax nx sx) (VSm_below g b s hq kx gx ax nx sx) (by decide +kernel) (by rfl) [39, 40, 41, 42, 43, 44, 45] (by rfl) ?_ ?_
            · intro i o hin ho a w6 hb6 hlen hg
              obtain ⟨y0, y1, y2, y3, y4⟩ := row5 (row_kept HX6.out hb6)
              match i, hin, ho with
              | 0, hin, ho =>
                obtain rfl := Option.some.inj ho
                have h6 := given_old hg 6 (by decide +kernel)
                clear hg
                exact st_yield ho (wanted_none rfl) (.int .i64 (b : Int)) w6 (by simp [execOp, Act.eval, h6, go_sem]) ⟨_, rfl, Below.refl _ _, by rintro t' ⟨⟩; rfl⟩
              | 1, hin, ho =>
                obtain rfl := Option.some.inj ho
                have h7 := given_old hg 7 (by decide +kernel)
                clear hg
                exact st_yield ho (wanted_none rfl) (.int .i64 (s : Int)) w6 (by simp [execOp, Act.eval, h7, go_sem]) ⟨_, rfl, Below.refl _ _, by rintro t' ⟨⟩; rfl⟩
              | 2, hin, ho =>
                obtain rfl := Option.some.inj ho
                have h9 := given_old hg 9 (by decide +kernel)
                clear hg
                exact st_yield ho (wanted_none rfl) (.bool hq) w6 (by simp [execOp, Act.eval, h9, go_sem]) ⟨_, rfl, Below.refl _ _, by rintro t' ⟨⟩; rfl⟩
              | 3, hin, ho =>
                obtain rfl := Option.some.inj ho
                have h8 := given_old hg 8 (by decide +kernel)
                clear hg
                exact st_yield ho (wanted_none rfl) (.agg #[.string kx, .bool gx, .int .i64 ax, .int .i64 nx, .string sx]) w6 (by simp [execOp, Act.eval, h8, go_sem, y0, y1, y2, y3, y4]) ⟨_, rfl, Below.refl _ _, by rintro t' ⟨⟩; rfl⟩
              | 4, hin, ho =>
                obtain rfl := Option.some.inj ho
                obtain ⟨_, h41, rfl⟩ := given_fed hg 41 (by decide +kernel)
                obtain ⟨_, h42, rfl⟩ := given_fed hg 42 (by decide +kernel)
                clear hg
                exact st_yield ho (wanted_none rfl) (.agg #[.bool hq, .string kx, .bool gx, .int .i64 ax, .int .i64 nx, .string sx]) w6 (by simp [execOp, Act.eval, h41, h42, build_slot hq kx gx ax nx sx w6]) ⟨_, rfl, Below.refl _ _, by rintro t' ⟨⟩; rfl⟩
              | 5, hin, ho =>
                obtain rfl := Option.some.inj ho
                have h5 := given_old hg 5 (by decide +kernel)
                obtain ⟨_, h39, rfl⟩ := given_fed hg 39 (by decide +kernel)
                clear hg
                exact st_yield ho (wanted_none rfl) (.pointer (some ⟨g, 24 * b, none⟩)) w6 (by simp [execOp, Act.eval, h5, h39, go_sem, hix1]) ⟨_, rfl, Below.refl _ _, by rintro t' ⟨⟩; rfl⟩
              | 6, hin, ho =>
                obtain rfl := Option.some.inj ho
                obtain ⟨_, h44, rfl⟩ := given_fed hg 44 (by decide +kernel)
                obtain ⟨_, h40, rfl⟩ := given_fed hg 40 (by decide +kernel)
                clear hg
                exact st_yield ho (wanted_none rfl) (.pointer (some ⟨g, 24 * b + 6 * s, none⟩)) w6 (by simp [execOp, Act.eval, h44, h40, go_sem, hix2]) ⟨_, rfl, Below.refl _ _, by rintro t' ⟨⟩; rfl⟩
              | n + 7, hin, ho => omega
            · intro f w8 hb8 hv
              have h43 := hv 43 (by decide)
              have h45 := hv 45 (by decide)
              simp only [VSm] at h43 h45
              have HT8 := Go.Lib.hid (HT6.out.below hb8)
              have HB8 := Go.Lib.hid (HB6.out.trans (hb8.mono HB6.out.size))
              have HTH := Go.Lib.hid (show w8.there g (24 * b + 6 * s) (#[.bool hq, .string kx, .bool gx, .int .i64 ax, .int .i64 nx, .string sx] : Array Value).size from by rw [show 24 * b + 6 * s = 6 * (4 * b + s) by omega]; exact HT8.out.there (by omega))
              have HT9 := HT8.out.set (q := 4 * b + s) (by omega) (hq, kx, gx, ax, nx, sx)
              rw [HST.out, show 6 * (4 * b + s) = 24 * b + 6 * s by omega] at HT9
              have HT9 := Go.Lib.hid HT9
              have HB9 := Go.Lib.hid (show Below w.heap.size w (w8.setCells g (24 * b + 6 * s) (enc6 (hq, kx, gx, ax, nx, sx))) from HB8.out.trans ⟨(setCells_rest _ _ _ _).1, (setCells_rest _ _ _ _).2.1, (setCells_rest _ _ _ _).2.2.1, Nat.le_of_eq (setCells_rest _ _ _ _).2.2.2.symm, fun k hk => setCells_heap _ _ _ _ _ (by have := HGW.out; omega)⟩)
              clear hv hb8 hix1 hix2 HT6 HB6
              unfold putAll
              simp only [List.foldl, List.drop]
              simp only [h43, h45]
              clear h43 h45
              go_simp
              go_wp2_with (first
                | (with_reducible show wpList _ _ _ (⟨none, _, _, _, _, _⟩ :: _) _ _; go_loud (refine wpList_store_mid rfl 68 (.tmp 45) (.tmp 43) rfl g (24 * b + 6 * s) #[.bool hq, .string kx, .bool gx, .int .i64 ax, .int .i64 nx, .string sx] rfl rfl HTH.out (by kernel_rfl) (six_one hq kx gx ax nx sx) ?_))
                | fail)
              go_roundw
              case rel => exact ⟨s + 1, by omega, by go_num, HT9, HB9⟩
              case measure => simp only [intOf]; omega
        · obtain rfl : s = 4 := by omega
          go_wp2_with fail
          exact ⟨⟨b + 1, by omega, by go_num, HT, HB⟩, by simp only [intOf]; omega⟩
    · obtain rfl : b = 8 := by omega
      as_aux_lemma =>
        have CO := HOUT.out wr HB.out
        rw [outR_none] at CO
        have CO := Go.Lib.hid CO
        have HT5 := Go.Lib.hid (HT.out.congr (UU := logT T L) fun q hq => by unfold upT; rw [if_pos (by omega)])
        clear HT
        go_wp2_with fail
        refine CO.out.mono ?_
        rintro e w5 ⟨rfl, hc⟩
        have hc2 := hc.trans ((below_one w5 (.cells #[.string ⟨#[]⟩, .bool false, .int .i64 0, .int .i64 0, .string ⟨#[]⟩] 33)).mono hc.size)
        have HT6 := Go.Lib.hid (HT5.out.below hc2)
        have HB6 := Go.Lib.hid (HB.out.trans (hc2.mono HB.out.size))
        clear hc hc2 CO HT5
        go_upto_region 13 with (fail)
        generalize w5.alloc (.cells #[.string ⟨#[]⟩, .bool false, .int .i64 0, .int .i64 0, .string ⟨#[]⟩] 33) = w6 at *
        have CM := rmaytab_c (logT T L) w6 HSZ.out
        rw [HML.out] at CM
        have CM := Go.Lib.hid CM
        have CR := fun W => rrecs_c (logT T L) W
        rw [HNL.out] at CR
        have CR := Go.Lib.hid CR
        have HRG := Go.Lib.hid (fun W (hb : Below w6.heap.size w6 W) => (HT6.out.below hb).range)
        have HSZT := Go.Lib.hid (sizeTab (logT T L))
        clear HML HNL HSZ HSLOT HOUT
        generalize tabL (logT T L) 32 = TL at *
        go_wp2_with (first
          | (with_reducible show wpList _ _ _ (⟨some 54, _, _, _, _, _⟩ :: _) _ _; go_loud (refine wpList_met (by first | exact wanted_some rfl rfl rfl rfl | kernel_rfl | simp [Region.wanted, yielded]) (wpList_load_mid rfl 71 (.tmp 5) rfl g 0 rfl TL _ (HRG.out w6 (Below.refl _ _)) Tryz.underlying71 rfl HSZT.out ?_)))
          | fail)
        refine CM.out.mono ?_
        rintro e w7 ⟨rfl, hc⟩
        have HR7 := Go.Lib.hid (HRG.out w7 hc)
        have HB7 := Go.Lib.hid (HB6.out.trans (hc.mono HB6.out.size))
        clear hc CM HT6 HRG
        go_wp2_with (first
          | (with_reducible show wpList _ _ _ (⟨some 58, _, _, _, _, _⟩ :: _) _ _; go_loud (refine wpList_met (by first | exact wanted_some rfl rfl rfl rfl | kernel_rfl | simp [Region.wanted, yielded]) (wpList_load_mid rfl 71 (.tmp 5) rfl g 0 rfl TL _ HR7.out Tryz.underlying71 rfl HSZT.out ?_)))
          | fail)
        refine (CR.out _).mono ?_
        rintro e w8 ⟨v8, rfl, ho8, hc⟩
        have HB8 := Go.Lib.hid (HB7.out.trans (hc.mono HB7.out.size))
        have CE := reqrecs_c v8 (.slice a M.length cap) M M w8 ho8.rs (HU.out.below HB8.out)
        rw [show decide (M = M) = true from decide_eq_true rfl] at CE
        have CE := Go.Lib.hid CE
        clear hc CR ho8
        go_wp2_with fail
        refine CE.out.mono ?_
        rintro e w9 ⟨rfl, hc⟩
        have HB9 := Go.Lib.hid (HB8.out.trans (hc.mono HB8.out.size))
        clear hc CE
        go_wp2_with fail
        go_ret
        exact ⟨rfl, HB9.out⟩

end Go.Proofs.YtkddleonmkhaiaaGreat
