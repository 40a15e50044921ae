/-
  The contracts of cmp.Compare at ints and at strings.
  A region whose order is open, whose operations read and make memory but change none that stands: one condition for each slot that it writes, kept whatever comes up between; each operation is shown once, not once for each order.
  A region whose order is open at its beginning alone: the first n operations come in some order and change nothing that stands (see XDraw); behind them the others come one by one: what is left is their list.
  Package dir: contracts of sectors, mayBe.
  Package dir: the reader: contracts of pass, num, text.
  Package dir: the reader: contract of entry.
  Package dir: contract of May.
-/
import Derived.Test.YtnalokjnbccjnaaGreatDoorM02
import Derived.Test.YtnalokjnbccjnaaGreatDoorM01
import Derived.Orders
import Derived.BigQuiet
import Derived.LoopTactic
import Derived.Deep.DeepCutAuto
namespace Go.Proofs.YtnalokjnbccjnaaGreatDoor
open Go.RowKit Go.Op

theorem isnan_i (x : Int) (w : World) : Calls Tryz.prog 102 #[.int .i64 x] w fun e w' => e = .returned (.bool false) ∧ w = w' := by
  go_enter Tryz.func102, Tryz.ntmps102
  go_wp2_with fail
  go_ret
  exact ⟨by simp, rfl⟩
theorem isnan_s (x : ByteArray) (w : World) : Calls Tryz.prog 86 #[.string x] w fun e w' => e = .returned (.bool false) ∧ w = w' := by
  go_enter Tryz.func86, Tryz.ntmps86
  go_wp2_with fail
  go_ret
  exact ⟨by simp, rfl⟩
/-- What cmp.Compare tells of ints, of texts. -/
def cmpI (x y : Int) : Int := if x < y then -1 else if y < x then 1 else 0
def cmpT (x y : ByteArray) : Int := if bytesLess x.toList y.toList = true then -1 else if bytesLess y.toList x.toList = true then 1 else 0
theorem compare_i (x y : Int) (w : World) : Calls Tryz.prog 82 #[.int .i64 x, .int .i64 y] w fun e w' => e = .returned (.int .i64 (cmpI x y)) ∧ w = w' := by
  have C := Go.Lib.hid fun z W => isnan_i z W
  unfold cmpI
  by_cases h1 : x < y
  · rw [if_pos h1]
    go_enter Tryz.func82, Tryz.ntmps82
    go_wp2_with fail
    refine (C.out _ _).mono ?_
    rintro e w1 ⟨rfl, rfl⟩
    go_wp2_with fail
    refine (C.out _ _).mono ?_
    rintro e w1 ⟨rfl, rfl⟩
    go_wp2_with fail
    go_ret
    exact ⟨rfl, rfl⟩
  · rw [if_neg h1]
    by_cases h2 : y < x
    · rw [if_pos h2]
      go_enter Tryz.func82, Tryz.ntmps82
      go_wp2_with fail
      refine (C.out _ _).mono ?_
      rintro e w1 ⟨rfl, rfl⟩
      go_wp2_with fail
      refine (C.out _ _).mono ?_
      rintro e w1 ⟨rfl, rfl⟩
      go_wp2_with fail
      go_ret
      exact ⟨rfl, rfl⟩
    · rw [if_neg h2]
      go_enter Tryz.func82, Tryz.ntmps82
      go_wp2_with fail
      refine (C.out _ _).mono ?_
      rintro e w1 ⟨rfl, rfl⟩
      go_wp2_with fail
      refine (C.out _ _).mono ?_
      rintro e w1 ⟨rfl, rfl⟩
      go_wp2_with fail
      go_ret
      exact ⟨rfl, rfl⟩
theorem compare_s (x y : ByteArray) (w : World) : Calls Tryz.prog 57 #[.string x, .string y] w fun e w' => e = .returned (.int .i64 (cmpT x y)) ∧ w = w' := by
  have C := Go.Lib.hid fun z W => isnan_s z W
  unfold cmpT
  cases h1 : bytesLess x.toList y.toList with
  | true =>
    rw [if_pos rfl]
    go_enter Tryz.func57, Tryz.ntmps57
    go_wp2_with fail
    refine (C.out _ _).mono ?_
    rintro e w1 ⟨rfl, rfl⟩
    go_wp2_with fail
    refine (C.out _ _).mono ?_
    rintro e w1 ⟨rfl, rfl⟩
    go_wp2_with fail
    go_ret
    exact ⟨rfl, rfl⟩
  | false =>
    rw [if_neg (by simp)]
    cases h2 : bytesLess y.toList x.toList with
    | true =>
      rw [if_pos rfl]
      have hne : (x.toList == y.toList) = false := by
        cases he : (x.toList == y.toList) with
        | false => rfl
        | true =>
          rw [beq_iff_eq] at he
          rw [he, less_irr] at h2
          cases h2
      go_enter Tryz.func57, Tryz.ntmps57
      go_wp2_with fail
      refine (C.out _ _).mono ?_
      rintro e w1 ⟨rfl, rfl⟩
      go_wp2_with fail
      refine (C.out _ _).mono ?_
      rintro e w1 ⟨rfl, rfl⟩
      go_wp2_with fail
      go_ret
      exact ⟨rfl, rfl⟩
    | false =>
      rw [if_neg (by simp)]
      have hne : (x.toList == y.toList) = true := by
        rw [beq_iff_eq]
        rcases less_tri x.toList y.toList with h | h | h
        · rw [h] at h1; cases h1
        · exact h
        · rw [h] at h2; cases h2
      go_enter Tryz.func57, Tryz.ntmps57
      go_wp2_with fail
      refine (C.out _ _).mono ?_
      rintro e w1 ⟨rfl, rfl⟩
      go_wp2_with fail
      refine (C.out _ _).mono ?_
      rintro e w1 ⟨rfl, rfl⟩
      go_wp2_with fail
      go_ret
      exact ⟨rfl, rfl⟩

end Go.Proofs.YtnalokjnbccjnaaGreatDoor

namespace Go.Proofs.YtnalokjnbccjnaaGreatDoor
open Go.RowKit

/-- Has slot t been written ahead of operation o, by one that o waits for? -/
def fedB (ops : Array Oper) (o : Oper) (t : Nat) : Bool :=
  o.after.any fun e => Region.binds .any e && (match ops[e.on]? with | some p => p.dst == some t | none => false)
/-- Does whoever writes t wait for operation i? -/
def lateB (ops : Array Oper) (i t : Nat) : Bool :=
  (List.range ops.size).all fun j => match ops[j]? with
    | some p => p.dst != some t || (p.after.any fun e => Region.binds .any e && e.on == i)
    | none => true
/-- Each slot that an operation looks at is written ahead of it, or behind it. -/
def tidyB (ops : Array Oper) : Bool :=
  (List.range ops.size).all fun i => match ops[i]? with
    | some o => (o.looksAt ops).all fun t => fedB ops o t || lateB ops i t
    | none => true

/-- Each operation waits for earlier ones alone. -/
def lowB (ops : Array Oper) : Bool :=
  (List.range ops.size).all fun i => match ops[i]? with
    | some o => o.after.all fun e => !Region.binds .any e || decide (e.on < i)
    | none => true

theorem countP_lt {p q : Nat → Bool} {i : Nat} : ∀ {l : List Nat}, (∀ j ∈ l, q j = true → p j = true) → i ∈ l → p i = true → q i = false → l.countP q < l.countP p
  | [], _, hi, _, _ => by cases hi
  | x :: l, hpq, hi, hp, hq => by
    have hle : l.countP q ≤ l.countP p := List.countP_mono_left fun j hj => hpq j (List.mem_cons_of_mem _ hj)
    rcases List.mem_cons.1 hi with rfl | hi'
    · rw [List.countP_cons_of_pos hp, List.countP_cons_of_neg (by simp [hq])]
      omega
    · have ih := countP_lt (fun j hj => hpq j (List.mem_cons_of_mem _ hj)) hi' hp hq
      rw [List.countP_cons, List.countP_cons]
      have hx := hpq x (by simp)
      cases hqx : q x with
      | false => simp only [Bool.false_eq_true, if_false]; omega
      | true => simp only [hx hqx, if_true]; omega

theorem listed_all {ops : Array Oper} (hlow : lowB ops = true) {listed : Array Bool} (hs : listed.size = ops.size) (hr : Region.ready .any ops listed = []) :
    ∀ (i : Nat) (o : Oper), ops[i]? = some o → listed.getD i false = true := by
  intro i
  induction i using Nat.strongRecOn with
  | ind i ih =>
    intro o ho
    have hi : i < ops.size := (Array.getElem?_eq_some_iff.1 ho).1
    have hil : i < listed.size := by rw [hs]; exact hi
    cases hl : listed.getD i false with
    | true => rfl
    | false =>
      have hmem : i ∈ Region.ready .any ops listed := by
        rw [mem_ready]
        refine ⟨by simp [hil] at hl ⊢; exact hl, o, ho, fun e he hb => ?_⟩
        unfold lowB at hlow
        rw [List.all_eq_true] at hlow
        have h1 := hlow i (by rw [List.mem_range]; exact hi)
        rw [ho] at h1
        simp only [Array.all_eq_true] at h1
        obtain ⟨k, hk, rfl⟩ := Array.mem_iff_getElem.1 he
        have h2 := h1 k hk
        rw [hb] at h2
        have hlt : (o.after[k]).on < i := by simpa using h2
        have hlt' : (o.after[k]).on < ops.size := by omega
        exact ih _ hlt ops[(o.after[k]).on] (by simp [hlt'])
      rw [hr] at hmem
      cases hmem

section
variable {P : Program} {ops : Array Oper} {Q : Exit → Act → World → Prop}

/-- What is kept while the region goes on. -/
structure Held (ops : Array Oper) (V : Nat → World → Value → Prop) (a0 : Act) (w0 : World) (listed : Array Bool) (a : Act) (w : World) : Prop where
  size : listed.size = ops.size
  below : Below w0.heap.size w0 w
  defers : a.defers = a0.defers
  len : a.tmps.size = a0.tmps.size
  old : ∀ t : Nat, (∀ (i : Nat) (o : Oper), ops[i]? = some o → o.dst = some t → listed.getD i false = false) → a.tmps[t]? = a0.tmps[t]?
  new : ∀ (i : Nat) (o : Oper) (t : Nat), ops[i]? = some o → o.dst = some t → listed.getD i false = true → ∃ v, a.tmps[t]? = some v ∧ V t w v
  shut : ∀ (i : Nat) (o : Oper), ops[i]? = some o → listed.getD i false = true → ∀ e ∈ o.after, Region.binds .any e = true → listed.getD e.on false = true

/-- What operation o may take as given: the slots that it looks at. -/
def Given (ops : Array Oper) (V : Nat → World → Value → Prop) (a0 : Act) (o : Oper) (a : Act) (w : World) : Prop :=
  ∀ t ∈ o.looksAt ops, (fedB ops o t = true → ∃ v, a.tmps[t]? = some v ∧ V t w v) ∧ (fedB ops o t = false → a.tmps[t]? = a0.tmps[t]?)

theorem getD_false_of {l : Array Bool} {i : Nat} (h : i < l.size) (h1 : l.getD i true = false) : l.getD i false = false := by
  simp [h] at h1 ⊢; exact h1

theorem wp_region_kept {id : Nat} {a0 : Act} {w0 : World} (hm : P.follows .mixedOrders = true) (V : Nat → World → Value → Prop)
    (hV : ∀ t w w' v, V t w v → Below w.heap.size w w' → V t w' v) (htidy : tidyB ops = true) (hdst : ∀ (i : Nat) (o : Oper), ops[i]? = some o → ∃ t : Nat, o.dst = some t ∧ t < a0.tmps.size)
    (hstep : ∀ (i : Nat) (o : Oper), ops[i]? = some o → ∀ (a : Act) (w : World), Below w0.heap.size w0 w → a.tmps.size = a0.tmps.size → Given ops V a0 o a w →
      wpOp P ops Q i (fun a' w' => ∃ v, a' = a.put o.dst v ∧ Below w.heap.size w w' ∧ ∀ t, o.dst = some t → V t w' v) a w)
    (hend : ∀ (a : Act) (w : World), Below w0.heap.size w0 w → a.defers = a0.defers → a.tmps.size = a0.tmps.size → (∀ t : Nat, (∀ (i : Nat) (o : Oper), ops[i]? = some o → o.dst ≠ some t) → a.tmps[t]? = a0.tmps[t]?) →
      (∀ (i : Nat) (o : Oper) (t : Nat), ops[i]? = some o → o.dst = some t → ∃ v, a.tmps[t]? = some v ∧ V t w v) → Q .normal a w)
    (hlow : lowB ops = true) :
    (Code.region id ops true).wp P Q a0 w0 := by
  refine wp_region_any hm ?_
  have hfin : ∀ (listed : Array Bool) (a : Act) (w : World), Held ops V a0 w0 listed a w → Region.ready .any ops listed = [] → Q .normal a w := fun listed a w h hr =>
    hend a w h.below h.defers h.len (fun t ht => h.old t fun i o hi hd => absurd hd (ht i o hi)) fun i o t hi hd => h.new i o t hi hd (listed_all hlow h.size hr i o hi)
  have key : ∀ (fuel : Nat) (listed : Array Bool) (a : Act) (w : World), Held ops V a0 w0 listed a w →
      (List.range ops.size).countP (fun j => !listed.getD j true) ≤ fuel → wpAny P .any ops Q fuel listed a w := by
    intro fuel
    induction fuel with
    | zero =>
      intro listed a w h hcount
      have hr : Region.ready .any ops listed = [] := by
        cases hrr : Region.ready .any ops listed with
        | nil => rfl
        | cons x xs =>
          have hx : x ∈ Region.ready .any ops listed := by rw [hrr]; simp
          obtain ⟨hun, o, ho, -⟩ := mem_ready.1 hx
          have : 0 < (List.range ops.size).countP (fun j => !listed.getD j true) := List.countP_pos_iff.2 ⟨x, by rw [List.mem_range]; exact (Array.getElem?_eq_some_iff.1 ho).1, by rw [hun]; rfl⟩
          omega
      exact ⟨hr, hfin _ _ _ h hr⟩
    | succ fuel ih =>
      intro listed a w h hcount
      refine ⟨fun hr => hfin _ _ _ h hr, fun i hi => ?_⟩
      obtain ⟨hun, o, ho, hall⟩ := mem_ready.1 hi
      have hil : i < listed.size := by
        rw [h.size]
        exact (Array.getElem?_eq_some_iff.1 ho).1
      have hunf := getD_false_of hil hun
      have hgiven : Given ops V a0 o a w := by
        intro t ht
        refine ⟨fun hf => ?_, fun hf => ?_⟩
        · unfold fedB at hf
          rw [Array.any_eq_true] at hf
          obtain ⟨k, hk, hke⟩ := hf
          simp only [Bool.and_eq_true] at hke
          obtain ⟨hb, hw⟩ := hke
          have hl := hall o.after[k] (Array.getElem_mem hk) hb
          cases hp : ops[(o.after[k]).on]? with
          | none => rw [hp] at hw; cases hw
          | some p =>
            rw [hp] at hw
            exact h.new _ p t hp (by simpa using hw) hl
        · refine h.old t fun j p hj hd => ?_
          have hti := htidy
          unfold tidyB at hti
          rw [List.all_eq_true] at hti
          have h1 := hti i (by rw [List.mem_range]; exact (Array.getElem?_eq_some_iff.1 ho).1)
          rw [ho] at h1
          simp only [List.all_eq_true] at h1
          have h2 := h1 t ht
          rw [hf, Bool.false_or] at h2
          unfold lateB at h2
          rw [List.all_eq_true] at h2
          have h3 := h2 j (by rw [List.mem_range]; exact (Array.getElem?_eq_some_iff.1 hj).1)
          rw [hj] at h3
          simp only [hd, bne_self_eq_false, Bool.false_or, Array.any_eq_true, Bool.and_eq_true] at h3
          obtain ⟨k, hk, hb, hon⟩ := h3
          cases hlj : listed.getD j false with
          | false => rfl
          | true =>
            have := h.shut j p hj hlj p.after[k] (Array.getElem_mem hk) hb
            rw [show (p.after[k]).on = i from by simpa using hon, hunf] at this
            cases this
      refine wpOp_mono ?_ (hstep i o ho a w h.below h.len hgiven)
      rintro a' w' ⟨v, rfl, hb, hv⟩
      obtain ⟨d, hd, hdl⟩ := hdst i o ho
      have hset : ∀ j, (listed.setIfInBounds i true).getD j false = if j = i then true else listed.getD j false := by
        intro j
        by_cases hji : j = i
        · subst hji; simp [hil]
        · simp [hji, Array.getElem?_setIfInBounds_ne (Ne.symm hji), Array.getD_eq_getD_getElem?]
      refine ih _ _ _ ⟨by simpa using h.size, h.below.trans (hb.mono h.below.size), ?_, ?_, ?_, ?_, ?_⟩ ?_
      · rw [hd]; exact h.defers
      · rw [hd]; simp [Act.put, h.len]
      · intro t ht
        have hdt : d ≠ t := by
          intro e
          subst e
          have := ht i o ho hd
          rw [hset, if_pos rfl] at this
          cases this
        rw [hd]
        simp only [Act.put]
        rw [Array.getElem?_setIfInBounds_ne hdt]
        refine h.old t fun j p hj hdj => ?_
        have := ht j p hj hdj
        rw [hset] at this
        split at this
        · cases this
        · exact this
      · intro j p t hj hdj hlj
        rw [hd]
        simp only [Act.put]
        by_cases hdt : d = t
        · subst hdt
          have : d < a.tmps.size := by rw [h.len]; exact hdl
          exact ⟨v, by simp [this], hv d hd⟩
        · rw [Array.getElem?_setIfInBounds_ne hdt]
          rw [hset] at hlj
          split at hlj
          · rename_i hji
            subst hji
            rw [ho] at hj
            cases hj
            rw [hd] at hdj
            exact absurd (Option.some.inj hdj) hdt
          · obtain ⟨u, hu, hVu⟩ := h.new j p t hj hdj hlj
            exact ⟨u, hu, hV _ _ _ _ hVu hb⟩
      · intro j p hj hlj e he hbe
        rw [hset] at hlj ⊢
        split
        · rfl
        · split at hlj
          · rename_i hji
            subst hji
            rw [ho] at hj
            cases hj
            exact hall e he hbe
          · exact h.shut j p hj hlj e he hbe
      · have : (List.range ops.size).countP (fun j => !(listed.setIfInBounds i true).getD j true) < (List.range ops.size).countP (fun j => !listed.getD j true) := by
          refine countP_lt (i := i) (fun j hj hq => ?_) (by rw [List.mem_range, ← h.size]; exact hil) (by rw [hun]; rfl) (by simp [hil])
          by_cases hji : j = i
          · subst hji; rw [hun]; rfl
          · simp only [Array.getD_eq_getD_getElem?] at hq ⊢
            rwa [Array.getElem?_setIfInBounds_ne (Ne.symm hji)] at hq
        omega
  refine key ops.size _ _ _ ⟨by simp, ⟨rfl, rfl, rfl, Nat.le_refl _, fun _ _ => rfl⟩, rfl, rfl, fun _ _ => rfl, fun i o t hi _ hl => ?_, fun i o hi hl => ?_⟩ ?_
  · rw [Array.getD_eq_getD_getElem?, Array.getElem?_replicate] at hl
    split at hl <;> cases hl
  · rw [Array.getD_eq_getD_getElem?, Array.getElem?_replicate] at hl
    split at hl <;> cases hl
  · exact Nat.le_trans List.countP_le_length (by simp)

/-- The frame behind the region. -/
def putAll (a0 : Act) (f : Nat → Value) (l : List Nat) : Act := l.foldl (fun b t => b.put (some t) (f t)) a0

theorem putAll_tmps (f : Nat → Value) : ∀ (l : List Nat) (a0 : Act) (t : Nat), (putAll a0 f l).tmps[t]? = if t ∈ l ∧ t < a0.tmps.size then some (f t) else a0.tmps[t]?
  | [], a0, t => by simp [putAll]
  | x :: l, a0, t => by
    have ih := putAll_tmps f l (a0.put (some x) (f x)) t
    unfold putAll at ih ⊢
    rw [List.foldl_cons, ih]
    simp only [Act.put, Array.size_setIfInBounds, List.mem_cons]
    by_cases hxt : x = t
    · subst hxt
      by_cases hs : x < a0.tmps.size
      · by_cases hm : x ∈ l <;> simp [hm, hs]
      · simp [hs]
    · rw [Array.getElem?_setIfInBounds_ne hxt]
      simp [Ne.symm hxt]

theorem putAll_size (f : Nat → Value) : ∀ (l : List Nat) (a0 : Act), (putAll a0 f l).tmps.size = a0.tmps.size ∧ (putAll a0 f l).defers = a0.defers
  | [], a0 => ⟨rfl, rfl⟩
  | x :: l, a0 => by
    have ih := putAll_size f l (a0.put (some x) (f x))
    unfold putAll at ih ⊢
    rw [List.foldl_cons]
    exact ⟨ih.1.trans (by simp [Act.put]), ih.2.trans rfl⟩

/-- The slots that the region writes. -/
def dsts (ops : Array Oper) : List Nat := ops.toList.filterMap (·.dst)

theorem wp_region_each {id : Nat} {a0 : Act} {w0 : World} (hm : P.follows .mixedOrders = true) (V : Nat → World → Value → Prop)
    (hV : ∀ t w w' v, V t w v → Below w.heap.size w w' → V t w' v) (htidy : tidyB ops = true) (hlow : lowB ops = true) (hdst : (ops.toList.all fun o => match o.dst with | some t => decide (t < a0.tmps.size) | none => false) = true)
    (l : List Nat) (hl : dsts ops = l)
    (hstep : ∀ (i : Nat) (o : Oper), ops[i]? = some o → ∀ (a : Act) (w : World), Below w0.heap.size w0 w → a.tmps.size = a0.tmps.size → Given ops V a0 o a w →
      wpOp P ops Q i (fun a' w' => ∃ v, a' = a.put o.dst v ∧ Below w.heap.size w w' ∧ ∀ t, o.dst = some t → V t w' v) a w)
    (hend : ∀ (f : Nat → Value) (w : World), Below w0.heap.size w0 w → (∀ t, t ∈ l → V t w (f t)) → Q .normal (putAll a0 f l) w) :
    (Code.region id ops true).wp P Q a0 w0 := by
  have hd : ∀ (i : Nat) (o : Oper), ops[i]? = some o → ∃ t : Nat, o.dst = some t ∧ t < a0.tmps.size := by
    intro i o ho
    rw [List.all_eq_true] at hdst
    have h1 := hdst o (by obtain ⟨h, rfl⟩ := Array.getElem?_eq_some_iff.1 ho; simp)
    cases hod : o.dst with
    | none => rw [hod] at h1; cases h1
    | some t => rw [hod] at h1; exact ⟨t, rfl, of_decide_eq_true h1⟩
  have hmem : ∀ t, t ∈ l ↔ ∃ (i : Nat) (o : Oper), ops[i]? = some o ∧ o.dst = some t := by
    intro t
    rw [← hl, dsts, List.mem_filterMap]
    constructor
    · rintro ⟨o, ho, hot⟩
      obtain ⟨i, hi, rfl⟩ := List.mem_iff_getElem.1 ho
      have hi' : i < ops.size := by simpa using hi
      exact ⟨i, ops[i], by simp [hi'], by simpa using hot⟩
    · rintro ⟨i, o, ho, hot⟩
      obtain ⟨h, rfl⟩ := Array.getElem?_eq_some_iff.1 ho
      exact ⟨ops[i], by simp, hot⟩
  refine wp_region_kept hm V hV htidy hd hstep ?_ hlow
  intro a w hb hdef hlen hold hnew
  have hf : ∀ t, t ∈ l → ∃ v, a.tmps[t]? = some v ∧ V t w v := fun t ht => by
    obtain ⟨i, o, ho, hot⟩ := (hmem t).1 ht
    exact hnew i o t ho hot
  have ha : a = putAll a0 (fun t => a.tmps.getD t undef) l := by
    obtain ⟨tm, df⟩ := a
    obtain ⟨h1, h2⟩ := putAll_size (fun t => tm.getD t undef) l a0
    have h3 : tm = (putAll a0 (fun t => tm.getD t undef) l).tmps := by
      apply Array.ext_getElem?
      intro t
      rw [putAll_tmps]
      by_cases ht : t ∈ l
      · obtain ⟨v, hv, -⟩ := hf t ht
        simp only [] at hv
        have hts : t < a0.tmps.size := by rw [← hlen]; exact (Array.getElem?_eq_some_iff.1 hv).1
        rw [if_pos ⟨ht, hts⟩, Array.getD_eq_getD_getElem?, hv]
        rfl
      · rw [if_neg (fun h => ht h.1)]
        exact hold t fun i o ho hot => ht ((hmem t).2 ⟨i, o, ho, hot⟩)
    have h4 : df = (putAll a0 (fun t => tm.getD t undef) l).defers := by rw [h2]; exact hdef
    calc (⟨tm, df⟩ : Act) = ⟨(putAll a0 (fun t => tm.getD t undef) l).tmps, (putAll a0 (fun t => tm.getD t undef) l).defers⟩ := by rw [← h3, ← h4]
      _ = _ := rfl
  rw [ha]
  refine hend _ w hb fun t ht => ?_
  obtain ⟨v, hv, hVv⟩ := hf t ht
  rw [Array.getD_eq_getD_getElem?, hv]
  exact hVv

theorem st_yield {K : Act → World → Prop} {i : Nat} {o : Oper} {a : Act} {w : World} (ho : ops[i]? = some o) (hw : Region.wanted o (yielded ops a.tmps) = true) (v : Value) (w' : World)
    (hrun : (execOp a.eval o).run P w = .ok (.value v) w') (h : K (a.put o.dst v) w') : wpOp P ops Q i K a w := by
  unfold wpOp
  rw [ho]
  simp only [hw, if_true]
  refine .inl ?_
  unfold Oper.wp
  rw [hrun, Oper.upon_value]
  exact h

theorem st_enter {K : Act → World → Prop} {i : Nat} {o : Oper} {a : Act} {w w1 : World} (ho : ops[i]? = some o) (hw : Region.wanted o (yielded ops a.tmps) = true) (f : FuncId) (args : Array Value)
    (hrun : (execOp a.eval o).run P w = .ok (.enter f args) w1) (h : Calls P f args w1 fun e w' => ∃ v, e = .returned v ∧ K (a.put o.dst v) w') : wpOp P ops Q i K a w := by
  unfold wpOp
  rw [ho]
  simp only [hw, if_true]
  refine .inl ?_
  unfold Oper.wp
  rw [hrun, Oper.upon_enter]
  refine h.mono ?_
  rintro e w' ⟨v, rfl, hk⟩
  exact hk

theorem st_skip {K : Act → World → Prop} {i : Nat} {o : Oper} {a : Act} {w : World} (ho : ops[i]? = some o) (hw : Region.wanted o (yielded ops a.tmps) = false) (h : K (a.put o.dst undef) w) : wpOp P ops Q i K a w := by
  unfold wpOp
  rw [ho]
  simp only [hw, Bool.false_eq_true, if_false]
  exact h

theorem given_fed {V : Nat → World → Value → Prop} {a0 : Act} {o : Oper} {a : Act} {w : World} (hg : Given ops V a0 o a w) (t : Nat) (h : ((o.looksAt ops).contains t && fedB ops o t) = true) : ∃ v, a.tmps[t]? = some v ∧ V t w v := by
  rw [Bool.and_eq_true, List.contains_iff_mem] at h
  exact (hg t h.1).1 h.2
theorem given_old {V : Nat → World → Value → Prop} {a0 : Act} {o : Oper} {a : Act} {w : World} (hg : Given ops V a0 o a w) (t : Nat) (h : ((o.looksAt ops).contains t && !fedB ops o t) = true) : a.tmps[t]? = a0.tmps[t]? := by
  rw [Bool.and_eq_true, List.contains_iff_mem, Bool.not_eq_true'] at h
  exact (hg t h.1).2 h.2
theorem wanted_none {o : Oper} {y : Nat → Option Bool} (h : o.guard = none) : Region.wanted o y = true := by simp [Region.wanted, h]
theorem wanted_some {o : Oper} {tmps : Array Value} {g : Nat} {p b : Bool} {t : Nat} (h : o.guard = some (g, p)) (hp : (ops[g]?).bind (·.dst) = some t) (hv : tmps[t]? = some (.bool b)) (hb : b = p) : Region.wanted o (yielded ops tmps) = true := by
  subst hb
  simp [Region.wanted, h, yielded, hp, hv]
theorem wanted_undef {o : Oper} {tmps : Array Value} {g : Nat} {p : Bool} {t : Nat} (h : o.guard = some (g, p)) (hp : (ops[g]?).bind (·.dst) = some t) (hv : tmps[t]? = some undef) : Region.wanted o (yielded ops tmps) = false := by
  simp [Region.wanted, h, yielded, hp, hv, undef]
theorem wanted_not {o : Oper} {tmps : Array Value} {g : Nat} {p b : Bool} {t : Nat} (h : o.guard = some (g, p)) (hp : (ops[g]?).bind (·.dst) = some t) (hv : tmps[t]? = some (.bool b)) (hb : b ≠ p) : Region.wanted o (yielded ops tmps) = false := by
  simp [Region.wanted, h, yielded, hp, hv, hb]

end

end Go.Proofs.YtnalokjnbccjnaaGreatDoor

namespace Go.Proofs.YtnalokjnbccjnaaGreatDoor
open Go.RowKit

/-- Each slot that one of the first n looks at is written ahead of it, or behind it. -/
def tidyN (ops : Array Oper) (n : Nat) : Bool :=
  (List.range n).all fun i => match ops[i]? with
    | some o => (o.looksAt ops).all fun t => fedB ops o t || lateB ops i t
    | none => true
/-- Behind the first n each waits for the one ahead. -/
def chainN (ops : Array Oper) (n : Nat) : Bool :=
  (List.range ops.size).all fun i => decide (i ≤ n) || (match ops[i]? with | some o => o.after.any fun e => Region.binds .any e && e.on == i - 1 | none => true)
def edges (ops : Array Oper) (i : Nat) : List Nat := match ops[i]? with | some o => (o.after.toList.filter (Region.binds .any ·)).map (·.on) | none => []
def reach (ops : Array Oper) : Nat → List Nat → List Nat
  | 0, m => m
  | k + 1, m => reach ops k (if m.contains k then m ++ edges ops k else m)
/-- Operation n waits for all ahead of it. -/
def waitN (ops : Array Oper) (n : Nat) : Bool := (List.range n).all fun j => (reach ops n (edges ops n)).contains j

theorem edges_mem {ops : Array Oper} {i : Nat} {o : Oper} (ho : ops[i]? = some o) {j : Nat} (hj : j ∈ edges ops i) : ∃ e ∈ o.after, Region.binds .any e = true ∧ e.on = j := by
  unfold edges at hj
  rw [ho] at hj
  obtain ⟨e, he, rfl⟩ := List.mem_map.1 hj
  rw [List.mem_filter] at he
  exact ⟨e, by simpa using he.1, he.2, rfl⟩

theorem reach_listed {ops : Array Oper} {listed : Array Bool} (hshut : ∀ (i : Nat) (o : Oper), ops[i]? = some o → listed.getD i false = true → ∀ e ∈ o.after, Region.binds .any e = true → listed.getD e.on false = true) :
    ∀ (k : Nat) (m : List Nat), (∀ j ∈ m, listed.getD j false = true) → ∀ j ∈ reach ops k m, listed.getD j false = true
  | 0, m, hm, j, hj => hm j hj
  | k + 1, m, hm, j, hj => by
    refine reach_listed hshut k _ ?_ j hj
    intro x hx
    split at hx
    · rename_i hk
      rcases List.mem_append.1 hx with h | h
      · exact hm x h
      · rw [List.contains_iff_mem] at hk
        cases ho : ops[k]? with
        | none => unfold edges at h; rw [ho] at h; cases h
        | some o =>
          obtain ⟨e, he, hb, rfl⟩ := edges_mem ho h
          exact hshut k o ho (hm k hk) e he hb
    · exact hm x hx

section
variable {P : Program} {ops : Array Oper} {Q : Exit → Act → World → Prop}

theorem wpAny_more : ∀ (fuel : Nat) (listed : Array Bool) (a : Act) (w : World), wpAny P .any ops Q fuel listed a w → wpAny P .any ops Q (fuel + 1) listed a w
  | 0, listed, a, w, h => ⟨fun _ => h.2, fun i hi => by rw [h.1] at hi; cases hi⟩
  | fuel + 1, listed, a, w, h => ⟨h.1, fun i hi => wpOp_mono (fun a' w' h' => wpAny_more fuel _ a' w' h') (h.2 i hi)⟩
theorem wpAny_le {fuel fuel' : Nat} (hle : fuel ≤ fuel') {listed : Array Bool} {a : Act} {w : World} (h : wpAny P .any ops Q fuel listed a w) : wpAny P .any ops Q fuel' listed a w := by
  induction hle with
  | refl => exact h
  | step _ ih => exact wpAny_more _ _ _ _ ih

theorem tail_list {n : Nat} (hlow : lowB ops = true) (hchain : chainN ops n = true) : ∀ (k m : Nat) (listed : Array Bool) (a : Act) (w : World), n ≤ m → m + k = ops.size → listed.size = ops.size → (∀ i, i < ops.size → listed.getD i false = decide (i < m)) →
    wpList P ops Q (ops.toList.drop m) a w → wpAny P .any ops Q k listed a w := by
  have hd : ∀ (l : Array Bool) (i : Nat), i < l.size → l.getD i true = l.getD i false := by intro l i hi; simp [hi]
  intro k
  induction k with
  | zero =>
    intro m listed a w hnm hmk hsize hl hq
    rw [List.drop_of_length_le (by rw [Array.length_toList]; omega)] at hq
    refine ⟨?_, hq⟩
    cases hr : Region.ready .any ops listed with
    | nil => rfl
    | cons x xs =>
      obtain ⟨hun, o, ho, -⟩ := mem_ready.1 (show x ∈ Region.ready .any ops listed by rw [hr]; simp)
      have hx : x < ops.size := (Array.getElem?_eq_some_iff.1 ho).1
      rw [hd _ _ (by omega), hl x hx] at hun
      simp at hun
      omega
  | succ k ih =>
    intro m listed a w hnm hmk hsize hl hq
    have hm : m < ops.size := by omega
    have hom : ops[m]? = some ops[m] := by simp [hm]
    have hready : m ∈ Region.ready .any ops listed := by
      rw [mem_ready]
      refine ⟨by rw [hd _ _ (by omega), hl m hm]; simp, ops[m], hom, fun e he hb => ?_⟩
      have h1 := hlow
      unfold lowB at h1
      rw [List.all_eq_true] at h1
      have h2 := h1 m (by rw [List.mem_range]; exact hm)
      rw [hom] at h2
      simp only [Array.all_eq_true] at h2
      obtain ⟨j, hj, rfl⟩ := Array.mem_iff_getElem.1 he
      have h3 := h2 j hj
      rw [hb] at h3
      have hlt : (ops[m].after[j]).on < m := by simpa using h3
      rw [hl _ (by omega)]
      simpa using hlt
    refine ⟨fun hr => (by rw [hr] at hready; cases hready), fun i hi => ?_⟩
    obtain ⟨hun, o, ho, hall⟩ := mem_ready.1 hi
    have hi' : i < ops.size := (Array.getElem?_eq_some_iff.1 ho).1
    rw [hd _ _ (by omega), hl i hi'] at hun
    have him : m ≤ i := by simpa using hun
    have hie : i = m := by
      rcases Nat.lt_or_ge m i with hlt | hge
      · exfalso
        have h1 := hchain
        unfold chainN at h1
        rw [List.all_eq_true] at h1
        have h2 := h1 i (by rw [List.mem_range]; exact hi')
        rw [ho] at h2
        simp only [Bool.or_eq_true, decide_eq_true_eq, Array.any_eq_true, Bool.and_eq_true, beq_iff_eq] at h2
        rcases h2 with h2 | ⟨j, hj, hb, hon⟩
        · omega
        · have h3 := hall _ (Array.getElem_mem hj) hb
          rw [hon, hl _ (by omega)] at h3
          simp at h3
          omega
      · omega
    subst hie
    have hdrop : ops.toList.drop i = ops[i] :: ops.toList.drop (i + 1) := by
      rw [List.drop_eq_getElem_cons (by rw [Array.length_toList]; exact hi')]
      simp
    rw [hdrop] at hq
    have hset : ∀ j, j < ops.size → (listed.setIfInBounds i true).getD j false = decide (j < i + 1) := by
      intro j hj
      by_cases hji : j = i
      · subst hji; simp [hsize, hj]
      · have : (listed.setIfInBounds i true).getD j false = listed.getD j false := by simp [Array.getElem?_setIfInBounds_ne (Ne.symm hji), Array.getD_eq_getD_getElem?]
        rw [this, hl j hj]
        simp
        omega
    have hK : ∀ a' w', wpList P ops Q (ops.toList.drop (i + 1)) a' w' → wpAny P .any ops Q k (listed.setIfInBounds i true) a' w' := fun a' w' h => ih (i + 1) _ a' w' (by omega) (by omega) (by simp [hsize]) hset h
    refine wpOp_mono hK ?_
    unfold wpOp
    rw [hom]
    exact hq

theorem wp_region_kept_head {id : Nat} {a0 : Act} {w0 : World} (n : Nat) (hn : n ≤ ops.size) (hm : P.follows .mixedOrders = true) (V : Nat → World → Value → Prop)
    (hV : ∀ t w w' v, V t w v → Below w.heap.size w w' → V t w' v) (htidy : tidyN ops n = true) (hdst : ∀ (i : Nat) (o : Oper), i < n → ops[i]? = some o → ∃ t : Nat, o.dst = some t ∧ t < a0.tmps.size)
    (hstep : ∀ (i : Nat) (o : Oper), i < n → ops[i]? = some o → ∀ (a : Act) (w : World), Below w0.heap.size w0 w → a.tmps.size = a0.tmps.size → Given ops V a0 o a w →
      wpOp P ops Q i (fun a' w' => ∃ v, a' = a.put o.dst v ∧ Below w.heap.size w w' ∧ ∀ t, o.dst = some t → V t w' v) a w)
    (hend : ∀ (a : Act) (w : World), Below w0.heap.size w0 w → a.defers = a0.defers → a.tmps.size = a0.tmps.size → (∀ t : Nat, (∀ (i : Nat) (o : Oper), i < n → ops[i]? = some o → o.dst ≠ some t) → a.tmps[t]? = a0.tmps[t]?) →
      (∀ (i : Nat) (o : Oper) (t : Nat), i < n → ops[i]? = some o → o.dst = some t → ∃ v, a.tmps[t]? = some v ∧ V t w v) → wpList P ops Q (ops.toList.drop n) a w)
    (hlow : lowB ops = true) (hchain : chainN ops n = true) (hwait : waitN ops n = true) :
    (Code.region id ops true).wp P Q a0 w0 := by
  refine wp_region_any hm ?_
  have hd : ∀ (l : Array Bool) (i : Nat), i < l.size → l.getD i true = l.getD i false := by intro l i hi; simp [hi]
  have hfin : ∀ (listed : Array Bool) (a : Act) (w : World) (fuel : Nat), Held ops V a0 w0 listed a w → (∀ i, n ≤ i → listed.getD i false = false) → (∀ i, i < n → listed.getD i false = true) → ops.size - n ≤ fuel → wpAny P .any ops Q fuel listed a w := by
    intro listed a w fuel h hno hyes hf
    refine wpAny_le hf (tail_list hlow hchain (ops.size - n) n listed a w (Nat.le_refl _) (by omega) h.size ?_ ?_)
    · intro i hi
      rcases Nat.lt_or_ge i n with hlt | hge
      · rw [hyes i hlt]; simp [hlt]
      · rw [hno i hge]; simp [Nat.not_lt.2 hge]
    · refine hend a w h.below h.defers h.len (fun t ht => h.old t fun i o hi hd' => ?_) fun i o t hin hi hd' => h.new i o t hi hd' (hyes i hin)
      rcases Nat.lt_or_ge i n with hlt | hge
      · exact absurd hd' (ht i o hlt hi)
      · exact hno i hge
  have key : ∀ (fuel : Nat) (listed : Array Bool) (a : Act) (w : World), Held ops V a0 w0 listed a w → (∀ i, n ≤ i → listed.getD i false = false) →
      (List.range ops.size).countP (fun j => !listed.getD j true) ≤ fuel → wpAny P .any ops Q fuel listed a w := by
    intro fuel
    induction fuel with
    | zero =>
      intro listed a w h hno hcount
      have hall : ∀ i, i < ops.size → listed.getD i false = true := by
        intro i hi
        cases hl : listed.getD i false with
        | true => rfl
        | false =>
          have : 0 < (List.range ops.size).countP (fun j => !listed.getD j true) := List.countP_pos_iff.2 ⟨i, by rw [List.mem_range]; exact hi, by rw [hd _ _ (by rw [h.size]; exact hi), hl]; rfl⟩
          omega
      have hns : ops.size ≤ n := by
        rcases Nat.lt_or_ge n ops.size with hlt | hge
        · have := hall n hlt
          rw [hno n (Nat.le_refl _)] at this
          cases this
        · exact hge
      exact hfin listed a w 0 h hno (fun i hi => hall i (by omega)) (by omega)
    | succ fuel ih =>
      intro listed a w h hno hcount
      by_cases hyes : ∀ i, i < n → listed.getD i false = true
      · refine hfin listed a w _ h hno hyes ?_
        have : ops.size - n ≤ (List.range ops.size).countP (fun j => !listed.getD j true) := by
          have h1 : (List.range' n (ops.size - n)).countP (fun j => !listed.getD j true) = ops.size - n := by
            rw [List.countP_eq_length.2, List.length_range']
            intro j hj
            rw [List.mem_range'_1] at hj
            rw [hd _ _ (by rw [h.size]; omega), hno j hj.1]
            rfl
          have h2 : List.range ops.size = List.range n ++ List.range' n (ops.size - n) := by
            rw [List.range_eq_range', List.range_eq_range']
            have h3 := List.range'_append_1 (s := 0) (m := n) (n := ops.size - n)
            rw [Nat.zero_add] at h3
            rw [h3]
            congr 1
            omega
          rw [h2, List.countP_append, h1]
          omega
        omega
      · have hsmall : ∀ i ∈ Region.ready .any ops listed, i < n := by
          intro i hi
          obtain ⟨hun, o, ho, hall⟩ := mem_ready.1 hi
          have hi' : i < ops.size := (Array.getElem?_eq_some_iff.1 ho).1
          rcases Nat.lt_or_ge i n with hlt | hge
          · exact hlt
          exfalso
          rcases Nat.lt_or_ge n i with hlt | hge2
          · have h1 := hchain
            unfold chainN at h1
            rw [List.all_eq_true] at h1
            have h2 := h1 i (by rw [List.mem_range]; exact hi')
            rw [ho] at h2
            simp only [Bool.or_eq_true, decide_eq_true_eq, Array.any_eq_true, Bool.and_eq_true, beq_iff_eq] at h2
            rcases h2 with h2 | ⟨j, hj, hb, hon⟩
            · omega
            · have h3 := hall _ (Array.getElem_mem hj) hb
              rw [hon, hno _ (by omega)] at h3
              cases h3
          · obtain rfl : i = n := by omega
            refine hyes fun j hj => ?_
            have h1 := hwait
            unfold waitN at h1
            rw [List.all_eq_true] at h1
            have h2 := h1 j (by rw [List.mem_range]; exact hj)
            rw [List.contains_iff_mem] at h2
            refine reach_listed h.shut i (edges ops i) ?_ j h2
            intro x hx
            obtain ⟨e, he, hb, rfl⟩ := edges_mem ho hx
            exact hall e he hb
        have hne : Region.ready .any ops listed ≠ [] := by
          intro hr
          apply hyes
          intro i hi
          exact listed_all hlow h.size hr i (ops[i]'(by omega)) (by simp)
        refine ⟨fun hr => absurd hr hne, fun i hi => ?_⟩
        have hin := hsmall i hi
        obtain ⟨hun, o, ho, hall⟩ := mem_ready.1 hi
        have hil : i < listed.size := by
          rw [h.size]
          exact (Array.getElem?_eq_some_iff.1 ho).1
        have hunf := getD_false_of hil hun
        have hgiven : Given ops V a0 o a w := by
          intro t ht
          refine ⟨fun hf => ?_, fun hf => ?_⟩
          · unfold fedB at hf
            rw [Array.any_eq_true] at hf
            obtain ⟨k, hk, hke⟩ := hf
            simp only [Bool.and_eq_true] at hke
            obtain ⟨hb, hw⟩ := hke
            have hl := hall o.after[k] (Array.getElem_mem hk) hb
            cases hp : ops[(o.after[k]).on]? with
            | none => rw [hp] at hw; cases hw
            | some p =>
              rw [hp] at hw
              exact h.new _ p t hp (by simpa using hw) hl
          · refine h.old t fun j p hj hd => ?_
            have hti := htidy
            unfold tidyN at hti
            rw [List.all_eq_true] at hti
            have h1 := hti i (by rw [List.mem_range]; exact hin)
            rw [ho] at h1
            simp only [List.all_eq_true] at h1
            have h2 := h1 t ht
            rw [hf, Bool.false_or] at h2
            unfold lateB at h2
            rw [List.all_eq_true] at h2
            have h3 := h2 j (by rw [List.mem_range]; exact (Array.getElem?_eq_some_iff.1 hj).1)
            rw [hj] at h3
            simp only [hd, bne_self_eq_false, Bool.false_or, Array.any_eq_true, Bool.and_eq_true] at h3
            obtain ⟨k, hk, hb, hon⟩ := h3
            cases hlj : listed.getD j false with
            | false => rfl
            | true =>
              have := h.shut j p hj hlj p.after[k] (Array.getElem_mem hk) hb
              rw [show (p.after[k]).on = i from by simpa using hon, hunf] at this
              cases this
        refine wpOp_mono ?_ (hstep i o hin ho a w h.below h.len hgiven)
        rintro a' w' ⟨v, rfl, hb, hv⟩
        obtain ⟨d, hd', hdl⟩ := hdst i o hin ho
        have hset : ∀ j, (listed.setIfInBounds i true).getD j false = if j = i then true else listed.getD j false := by
          intro j
          by_cases hji : j = i
          · subst hji; simp [hil]
          · simp [hji, Array.getElem?_setIfInBounds_ne (Ne.symm hji), Array.getD_eq_getD_getElem?]
        refine ih _ _ _ ⟨by simpa using h.size, h.below.trans (hb.mono h.below.size), ?_, ?_, ?_, ?_, ?_⟩ ?_ ?_
        · rw [hd']; exact h.defers
        · rw [hd']; simp [Act.put, h.len]
        · intro t ht
          have hdt : d ≠ t := by
            intro e
            subst e
            have := ht i o ho hd'
            rw [hset, if_pos rfl] at this
            cases this
          rw [hd']
          simp only [Act.put]
          rw [Array.getElem?_setIfInBounds_ne hdt]
          refine h.old t fun j p hj hdj => ?_
          have := ht j p hj hdj
          rw [hset] at this
          split at this
          · cases this
          · exact this
        · intro j p t hj hdj hlj
          rw [hd']
          simp only [Act.put]
          by_cases hdt : d = t
          · subst hdt
            have : d < a.tmps.size := by rw [h.len]; exact hdl
            exact ⟨v, by simp [this], hv d hd'⟩
          · rw [Array.getElem?_setIfInBounds_ne hdt]
            rw [hset] at hlj
            split at hlj
            · rename_i hji
              subst hji
              rw [ho] at hj
              cases hj
              rw [hd'] at hdj
              exact absurd (Option.some.inj hdj) hdt
            · obtain ⟨u, hu, hVu⟩ := h.new j p t hj hdj hlj
              exact ⟨u, hu, hV _ _ _ _ hVu hb⟩
        · intro j p hj hlj e he hbe
          rw [hset] at hlj ⊢
          split
          · rfl
          · split at hlj
            · rename_i hji
              subst hji
              rw [ho] at hj
              cases hj
              exact hall e he hbe
            · exact h.shut j p hj hlj e he hbe
        · intro j hj
          rw [hset, if_neg (by omega)]
          exact hno j hj
        · have : (List.range ops.size).countP (fun j => !(listed.setIfInBounds i true).getD j true) < (List.range ops.size).countP (fun j => !listed.getD j true) := by
            refine countP_lt (i := i) (fun j hj hq => ?_) (by rw [List.mem_range, ← h.size]; exact hil) (by rw [hun]; rfl) (by simp [hil])
            by_cases hji : j = i
            · subst hji; rw [hun]; rfl
            · simp only [Array.getD_eq_getD_getElem?] at hq ⊢
              rwa [Array.getElem?_setIfInBounds_ne (Ne.symm hji)] at hq
          omega
  refine key ops.size _ _ _ ⟨by simp, ⟨rfl, rfl, rfl, Nat.le_refl _, fun _ _ => rfl⟩, rfl, rfl, fun _ _ => rfl, fun i o t hi _ hl => ?_, fun i o hi hl => ?_⟩ (fun i _ => ?_) ?_
  · rw [Array.getD_eq_getD_getElem?, Array.getElem?_replicate] at hl
    split at hl <;> cases hl
  · rw [Array.getD_eq_getD_getElem?, Array.getElem?_replicate] at hl
    split at hl <;> cases hl
  · rw [Array.getD_eq_getD_getElem?, Array.getElem?_replicate]
    split <;> rfl
  · exact Nat.le_trans List.countP_le_length (by simp)

/-- The slots that the first n write. -/
def dstsN (ops : Array Oper) (n : Nat) : List Nat := (ops.toList.take n).filterMap (·.dst)

theorem wp_region_head {id : Nat} {a0 : Act} {w0 : World} (n : Nat) (hn : n ≤ ops.size) (hm : P.follows .mixedOrders = true) (V : Nat → World → Value → Prop)
    (hV : ∀ t w w' v, V t w v → Below w.heap.size w w' → V t w' v) (hcheck : (tidyN ops n && lowB ops && chainN ops n && waitN ops n) = true)
    (hdst : ((ops.toList.take n).all fun o => match o.dst with | some t => decide (t < a0.tmps.size) | none => false) = true)
    (l : List Nat) (hl : dstsN ops n = l)
    (hstep : ∀ (i : Nat) (o : Oper), i < n → ops[i]? = some o → ∀ (a : Act) (w : World), Below w0.heap.size w0 w → a.tmps.size = a0.tmps.size → Given ops V a0 o a w →
      wpOp P ops Q i (fun a' w' => ∃ v, a' = a.put o.dst v ∧ Below w.heap.size w w' ∧ ∀ t, o.dst = some t → V t w' v) a w)
    (hend : ∀ (f : Nat → Value) (w : World), Below w0.heap.size w0 w → (∀ t, t ∈ l → V t w (f t)) → wpList P ops Q (ops.toList.drop n) (putAll a0 f l) w) :
    (Code.region id ops true).wp P Q a0 w0 := by
  simp only [Bool.and_eq_true] at hcheck
  obtain ⟨⟨⟨htidy, hlow⟩, hchain⟩, hwait⟩ := hcheck
  have hget : ∀ (i : Nat) (o : Oper), i < n → ops[i]? = some o → o ∈ ops.toList.take n := by
    intro i o hin ho
    rw [List.mem_take_iff_getElem]
    obtain ⟨h, rfl⟩ := Array.getElem?_eq_some_iff.1 ho
    exact ⟨i, by simp; omega, by simp⟩
  have hd : ∀ (i : Nat) (o : Oper), i < n → ops[i]? = some o → ∃ t : Nat, o.dst = some t ∧ t < a0.tmps.size := by
    intro i o hin ho
    rw [List.all_eq_true] at hdst
    have h1 := hdst o (hget i o hin ho)
    cases hod : o.dst with
    | none => rw [hod] at h1; cases h1
    | some t => rw [hod] at h1; exact ⟨t, rfl, of_decide_eq_true h1⟩
  have hmem : ∀ t, t ∈ l ↔ ∃ (i : Nat) (o : Oper), i < n ∧ ops[i]? = some o ∧ o.dst = some t := by
    intro t
    rw [← hl, dstsN, List.mem_filterMap]
    constructor
    · rintro ⟨o, ho, hot⟩
      obtain ⟨i, hi, rfl⟩ := List.mem_take_iff_getElem.1 ho
      have hi' : i < ops.size := by simp at hi; omega
      exact ⟨i, ops[i], by omega, by simp [hi'], by simpa using hot⟩
    · rintro ⟨i, o, hin, ho, hot⟩
      exact ⟨o, hget i o hin ho, hot⟩
  refine wp_region_kept_head n hn hm V hV htidy hd hstep ?_ hlow hchain hwait
  intro a w hb hdef hlen hold hnew
  have hf : ∀ t, t ∈ l → ∃ v, a.tmps[t]? = some v ∧ V t w v := fun t ht => by
    obtain ⟨i, o, hin, ho, hot⟩ := (hmem t).1 ht
    exact hnew i o t hin ho hot
  have ha : a = putAll a0 (fun t => a.tmps.getD t undef) l := by
    obtain ⟨tm, df⟩ := a
    obtain ⟨h1, h2⟩ := putAll_size (fun t => tm.getD t undef) l a0
    have h3 : tm = (putAll a0 (fun t => tm.getD t undef) l).tmps := by
      apply Array.ext_getElem?
      intro t
      rw [putAll_tmps]
      by_cases ht : t ∈ l
      · obtain ⟨v, hv, -⟩ := hf t ht
        simp only [] at hv
        have hts : t < a0.tmps.size := by rw [← hlen]; exact (Array.getElem?_eq_some_iff.1 hv).1
        rw [if_pos ⟨ht, hts⟩, Array.getD_eq_getD_getElem?, hv]
        rfl
      · rw [if_neg (fun h => ht h.1)]
        exact hold t fun i o hin ho hot => ht ((hmem t).2 ⟨i, o, hin, ho, hot⟩)
    have h4 : df = (putAll a0 (fun t => tm.getD t undef) l).defers := by rw [h2]; exact hdef
    calc (⟨tm, df⟩ : Act) = ⟨(putAll a0 (fun t => tm.getD t undef) l).tmps, (putAll a0 (fun t => tm.getD t undef) l).defers⟩ := by rw [← h3, ← h4]
      _ = _ := rfl
  rw [ha]
  refine hend _ w hb fun t ht => ?_
  obtain ⟨v, hv, hVv⟩ := hf t ht
  rw [Array.getD_eq_getD_getElem?, hv]
  exact hVv

/-- An operation of a region by a law over lists of operations. -/
theorem st_list {K : Act → World → Prop} {i : Nat} {o : Oper} {a : Act} {w : World} (ho : ops[i]? = some o) (hw : Region.wanted o (yielded ops a.tmps) = true)
    (h : ∀ Q' : Exit → Act → World → Prop, (∀ a' w', K a' w' → Q' .normal a' w') → wpList P ops Q' [o] a w) : wpOp P ops Q i K a w := by
  have h1 := h (fun ex a' w' => ex = .normal ∧ K a' w') (fun a' w' hk => ⟨rfl, hk⟩)
  unfold wpList at h1
  rw [if_pos hw] at h1
  unfold wpOp
  rw [ho]
  simp only [hw, if_true]
  refine .inl ?_
  rcases h1 with h1 | ⟨-, a', w', he, -⟩
  · unfold Oper.wp at *
    generalize (execOp a.eval o).run P w = r at *
    cases r with
    | ok n w' =>
      cases n <;> simp only [Oper.upon] at h1 ⊢ <;>
        first
          | exact h1.2
          | exact Rows.mono h1 (fun _ _ he => he.2)
          | exact Calls.mono h1 (fun e w'' he => by
              cases e with
              | returned v => exact he.2
              | panicked c => exact absurd he.1 (by simp)
              | outgrown => obtain ⟨_, _, hx, _⟩ := he; cases hx)
    | halt x w' =>
      cases x <;> simp only [Oper.upon] at h1 ⊢ <;> first | exact h1 | exact absurd h1.1 (by simp)
  · cases he

end

theorem rb_take {w : World} {a : Option Addr} {len cap : Nat} {l : List UInt8} (h : RB w (.slice a len cap) l) (n : Nat) : RB w (.slice a (min n len) cap) (l.take n) := by
  obtain ⟨a', cap', hv, h1, h2, h3, h4⟩ := h
  simp only [Value.slice.injEq] at hv
  obtain ⟨rfl, rfl, rfl⟩ := hv
  refine ⟨a, cap, by rw [List.length_take], by rw [List.length_take]; omega, h2, h3, fun hl => ?_⟩
  obtain ⟨b, o, ha, hc⟩ := h4 (by intro e; subst e; simp at hl)
  exact ⟨b, o, ha, fun i hi => by
    have := hc i (by rw [List.length_take] at hi; omega)
    simpa using this⟩

/-- 'b[n:]', in whatever world. -/
theorem RB.run_l {P : Program} {w : World} {a : Option Addr} {len cap : Nat} {l : List UInt8} (h : RB w (.slice a len cap) l) (t e : TypeId) (ht : P.underlying t = some (.slice e)) (hinfo : (P.info? e).map (fun i => (i.zero, i.size, i.bytes)) = some (some (.int .u8 0), 1, 1))
    (n : Nat) (hn : n ≤ l.length) (k : IntKind) : ∃ v, (∀ W, RB W (.slice a len cap) l → RB W v (l.drop n)) ∧ ∀ W, (Instr.slice t (.slice a len cap) (some (.int k (n : Int))) none none).run P W = .ok v W := by
  obtain ⟨h1, h2, h3⟩ := h.len
  refine ⟨sliced a n len cap 1, fun W hW => ?_, fun W => ?_⟩
  · have hc := hW.cut n l.length (by omega) (Nat.le_refl _)
    rw [List.take_of_length_le (Nat.le_refl _), ← h1] at hc
    exact hc
  · obtain ⟨ht', hs⟩ := run_sizeOf (P := P) (w := W) ht hinfo
    have hr := run_slice_l (P := P) W t a len cap ht' k (n : Int) (by omega) (by omega)
    rw [hs] at hr
    simpa [Result.andThen] using hr

end Go.Proofs.YtnalokjnbccjnaaGreatDoor

namespace Go.Proofs.YtnalokjnbccjnaaGreatDoor
open Go.RowKit

theorem sectors_c (n : Int) (w : World) (h0 : 0 ≤ n) (h1 : n ≤ 65536) : Calls Tryz.prog 130 #[.int .i64 n] w fun e w' => e = .returned (.int .i64 ((n + 63) / 64)) ∧ w = w' := by
  have k1 : IntKind.i64.wrap (n + 64) = n + 64 := IntWalk.i64_in _ (by omega)
  have k2 : IntKind.i64.wrap (n + 64 - 1) = n + 63 := by rw [IntKind.wrap_i64]; omega
  have k3 : (n + 63).tdiv 64 = (n + 63) / 64 := Int.tdiv_eq_ediv_of_nonneg (by omega)
  go_enter Tryz.func130, Tryz.ntmps130
  go_wp2_with fail
  go_ret
  exact ⟨rfl, rfl⟩

theorem ret_bool {a b : Bool} (h : b = a) : Ending.returned (.bool a) = .returned (.bool b) := by rw [h]

set_option maxRecDepth 100000 in
theorem mayBe_c (nm : ByteArray) (n a s : Int) (w : World) : Calls Tryz.prog 114 #[entV nm n a s] w fun e w' => e = .returned (.bool (decide (mayE (nm, n, a, s)))) ∧ Below w.heap.size w w' := by
  have hA := heap_alloc_new w (.cells #[.string nm, .int .i64 n, .int .i64 a, .int .i64 s] 98)
  have hbb := newB w (.cells #[.string nm, .int .i64 n, .int .i64 a, .int .i64 s] 98)
  have HB := Go.Lib.hid hbb; clear hbb
  obtain ⟨x0, x1, x2, x3⟩ := row4 hA
  clear hA
  unfold entV
  by_cases c1 : nm.size < 1
  · have k := Go.Lib.hid (show decide (mayE (nm, n, a, s)) = false from decide_eq_false (by unfold mayE; simp only []; omega))
    have c1 : (nm.size : Int) < 1 := by omega
    go_enter Tryz.func114, Tryz.ntmps114
    go_wp2_with fail
    go_ret
    exact ⟨ret_bool k.out, HB.out⟩
  have i1 : ¬ (nm.size : Int) < 1 := by omega
  by_cases c2 : 20 < nm.size
  · have k := Go.Lib.hid (show decide (mayE (nm, n, a, s)) = false from decide_eq_false (by unfold mayE; simp only []; omega))
    have i2 : (20 : Int) < (nm.size : Int) := by omega
    go_enter Tryz.func114, Tryz.ntmps114
    go_wp2_with fail
    go_ret
    exact ⟨ret_bool k.out, HB.out⟩
  have i2 : ¬ (20 : Int) < (nm.size : Int) := by omega
  by_cases c3 : n < 0
  · have k := Go.Lib.hid (show decide (mayE (nm, n, a, s)) = false from decide_eq_false (by unfold mayE; simp only []; omega))
    clear c1 c2
    go_enter Tryz.func114, Tryz.ntmps114
    go_wp2_with fail
    go_ret
    exact ⟨ret_bool k.out, HB.out⟩
  by_cases c4 : 65536 < n
  · have k := Go.Lib.hid (show decide (mayE (nm, n, a, s)) = false from decide_eq_false (by unfold mayE; simp only []; omega))
    clear c1 c2
    go_enter Tryz.func114, Tryz.ntmps114
    go_wp2_with fail
    go_ret
    exact ⟨ret_bool k.out, HB.out⟩
  have C := Go.Lib.hid (fun W => sectors_c n W (by omega) (by omega))
  have K := Go.Lib.hid (show mayE (nm, n, a, s) ↔ (s = (n + 63) / 64 ∧ 0 ≤ a ∧ a ≤ 2048 ∧ (s = 0 → a = 0)) from by unfold mayE; simp only []; omega)
  obtain ⟨q, hq⟩ : ∃ q, q = (n + 63) / 64 := ⟨_, rfl⟩
  rw [← hq] at C K
  clear hq c1 c2
  by_cases c5 : s = q
  · subst c5
    by_cases c6 : s = 0
    · have k := Go.Lib.hid (show decide (mayE (nm, n, a, s)) = (a == 0) from by rw [Bool.eq_iff_iff, decide_eq_true_eq, K.out, beq_iff_eq]; omega)
      have b6 : (s == 0) = true := by simp [c6]
      clear c6
      go_enter Tryz.func114, Tryz.ntmps114
      go_wp2_with fail
      go_quiet ((go_at_call 130; exact Calls.quiet_of_same ((C.out _).mono fun _ _ ⟨h, hw⟩ => ⟨h, hw.symm⟩)))
      go_wp2_with fail
      go_ret
      exact ⟨ret_bool k.out, below_drewN HB.out _⟩
    · have b6 : (s == 0) = false := by simp [c6]
      by_cases c7 : 0 ≤ a
      · have k := Go.Lib.hid (show decide (mayE (nm, n, a, s)) = decide (a ≤ 2048) from by rw [Bool.eq_iff_iff, decide_eq_true_eq, K.out, decide_eq_true_eq]; omega)
        clear c6
        go_enter Tryz.func114, Tryz.ntmps114
        go_wp2_with fail
        go_quiet ((go_at_call 130; exact Calls.quiet_of_same ((C.out _).mono fun _ _ ⟨h, hw⟩ => ⟨h, hw.symm⟩)))
        go_wp2_with fail
        go_ret
        exact ⟨ret_bool k.out, below_drewN HB.out _⟩
      · have k := Go.Lib.hid (show decide (mayE (nm, n, a, s)) = false from by rw [decide_eq_false_iff_not, K.out]; omega)
        clear c6
        go_enter Tryz.func114, Tryz.ntmps114
        go_wp2_with fail
        go_quiet ((go_at_call 130; exact Calls.quiet_of_same ((C.out _).mono fun _ _ ⟨h, hw⟩ => ⟨h, hw.symm⟩)))
        go_wp2_with fail
        go_ret
        exact ⟨ret_bool k.out, below_drewN HB.out _⟩
  · have k := Go.Lib.hid (show decide (mayE (nm, n, a, s)) = false from by rw [decide_eq_false_iff_not, K.out]; omega)
    have b5 : (s == q) = false := by simp [c5]
    clear c5
    go_enter Tryz.func114, Tryz.ntmps114
    go_wp2_with fail
    go_quiet ((go_at_call 130; exact Calls.quiet_of_same ((C.out _).mono fun _ _ ⟨h, hw⟩ => ⟨h, hw.symm⟩)))
    go_wp2_with fail
    go_ret
    exact ⟨ret_bool k.out, below_drewN HB.out _⟩

end Go.Proofs.YtnalokjnbccjnaaGreatDoor

namespace Go.Proofs.YtnalokjnbccjnaaGreatDoor
open Go.RowKit

/-- Of the blocks that there were all but g are as they were. -/
structure Off1 (g : Nat) (w w' : World) : Prop where
  os : w'.os = w.os
  tape : w'.tape = w.tape
  output : w'.output = w.output
  size : w.heap.size ≤ w'.heap.size
  block : ∀ k, k < w.heap.size → k ≠ g → w'.heap[k]? = w.heap[k]?
section
variable {g : Nat} {w w1 w2 w' : World}
theorem Off1.refl (g : Nat) (w : World) : Off1 g w w := ⟨rfl, rfl, rfl, Nat.le_refl _, fun _ _ _ => rfl⟩
theorem Off1.trans (h : Off1 g w w1) (k : Off1 g w1 w2) : Off1 g w w2 :=
  ⟨k.os.trans h.os, k.tape.trans h.tape, k.output.trans h.output, Nat.le_trans h.size k.size, fun i hi hn => (k.block i (Nat.lt_of_lt_of_le hi h.size) hn).trans (h.block i hi hn)⟩
theorem Off1.of_below (h : Below w.heap.size w w') : Off1 g w w' := ⟨h.os, h.tape, h.output, h.size, fun k hk _ => h.block k hk⟩
theorem Off1.set (h : Off1 g w w') (o : Nat) (u : Value) : Off1 g w (w'.setCell ⟨g, o, none⟩ u) :=
  ⟨h.os, h.tape, h.output, by simpa [World.setCell] using h.size, fun k hk hn => (Below.heap_setCell _ _ _ _ hn).trans (h.block k hk hn)⟩
theorem Off1.below {B : Nat} (h : Off1 g w w') (hg : B ≤ g) (hB : B ≤ w.heap.size) : Below B w w' :=
  ⟨h.os, h.tape, h.output, h.size, fun k hk => h.block k (by omega) (by omega)⟩
theorem heapSet {w : World} {b : Nat} {cs : Array Value} {t : TypeId} {fr : Nat × Nat} (h : w.heap[b]? = some (.cells cs t fr)) (o : Nat) (u : Value) : (w.setCell ⟨b, o, none⟩ u).heap[b]? = some (.cells (cs.setIfInBounds o u) t fr) := by
  simp [World.setCell, Array.getElem?_modify, h]
/-- Bytes do not lie where a slice and a bool lie. -/
theorem RB.off1 {v : Value} {l : List UInt8} {a : Option Addr} {n c : Nat} {b : Bool} {t : TypeId} {fr : Nat × Nat} (h : RB w v l) (hg : w.heap[g]? = some (.cells #[.slice a n c, .bool b] t fr)) (k : Off1 g w w') : RB w' v l := by
  obtain ⟨a', cap, hv, h1, h2, h3, h4⟩ := h
  refine ⟨a', cap, hv, h1, h2, h3, fun hl => ?_⟩
  obtain ⟨p, o, ha, hc⟩ := h4 hl
  refine ⟨p, o, ha, fun i hi => ?_⟩
  have h5 := hc i hi
  have hne : p ≠ g := by
    rintro rfl
    rw [cell_of_row w p _ _ t fr hg] at h5
    generalize o + i = j at h5
    match j, h5 with
    | 0, h5 => cases h5
    | 1, h5 => cases h5
    | j + 2, h5 => cases h5
  exact (World.cell?_of_block (w := w) (k.block p (World.block_lt_of_cell? w _ h5) hne)).trans h5
end

theorem RB.sl {w : World} {v : Value} {l : List UInt8} (h : RB w v l) : ∃ a n c, v = .slice a n c := by
  obtain ⟨a, c, rfl, -⟩ := h
  exact ⟨a, _, c, rfl⟩

/-- 'b[i:]', where it lies. -/
theorem wpList_slice_lo {P : Program} {ops : Array Oper} {rest : List Oper} {o : Oper} {a : Act} {w : World} {Q : Exit → Act → World → Prop} (hgd : o.guard = none) (x lo : Operand) (t : TypeId)
    (ho : o.op = .slice t x (some lo) none none) (e : TypeId) (ht : P.underlying t = some (.slice e)) (hinfo : (P.info? e).map (fun i => (i.zero, i.size, i.bytes)) = some (some (.int .u8 0), 1, 1))
    (v : Value) (l : List UInt8) (kl : IntKind) (L : Int) (i : Nat) (hx : a.eval x = v) (hlo : a.eval lo = .int kl L) (hL : L = (i : Int)) (hrb : RB w v l) (hi : i ≤ l.length)
    (hK : ∀ v', RB w v' (l.drop i) → (∀ k, v'.ownBlock = some k → v.ownBlock = some k) → wpList P ops Q rest (a.put o.dst v') w) : wpList P ops Q (o :: rest) a w := by
  have hrb0 := hrb
  obtain ⟨ad, cap, rfl, h1, h2, h3, h4⟩ := hrb
  obtain ⟨ht', hs⟩ := run_sizeOf (P := P) (w := w) ht hinfo
  subst hL
  have hr := run_slice_l (P := P) w t ad l.length cap ht' kl (i : Int) (by omega) (by omega)
  rw [hs] at hr
  simp only [Int.toNat_natCast, Result.andThen] at hr
  have hc := hrb0.cut i l.length hi (Nat.le_refl _)
  rw [List.take_length] at hc
  refine wpList_gives hgd _ _ (by simp [execOp, ho, hx, hlo, hr, run_sliceAt_slice w t _ _ _ _ ht', Result.andThen]) (hK _ hc ?_)
  intro k hk
  cases ad with
  | none => unfold sliced at hk; split at hk <;> simp [Value.ownBlock] at hk
  | some p =>
    unfold sliced at hk
    split at hk
    · exact hk
    · have e : (p.add (i * 1)).block = p.block := by unfold Addr.add; split <;> rfl
      simp only [Option.map_some, Value.ownBlock, e] at hk
      exact hk

/-- The reader at g: what is left (it lies below), whether it is bad. -/
def RD (w : World) (g : Nat) (l : List UInt8) (bad : Bool) : Prop := ∃ a n c, w.heap[g]? = some (.cells #[.slice a n c, .bool bad] 186 (0, 0)) ∧ RB w (.slice a n c) l ∧ (l ≠ [] → ∀ k, (Value.slice a n c).ownBlock = some k → k < g)
theorem RD.lt {w : World} {g : Nat} {l : List UInt8} {bad : Bool} (h : RD w g l bad) : g < w.heap.size := by
  obtain ⟨a, n, c, h, -⟩ := h
  exact (Array.getElem?_eq_some_iff.1 h).1
theorem RD.below {w w' : World} {g : Nat} {l : List UInt8} {bad : Bool} (h : RD w g l bad) (hb : Below w.heap.size w w') : RD w' g l bad := by
  obtain ⟨a, n, c, h1, h2, h3⟩ := h
  exact ⟨a, n, c, keptR h1 hb, h2.below hb, h3⟩
theorem RD.above {w w' : World} {g : Nat} {l : List UInt8} {bad : Bool} (h : RD w g l bad) (hb : Below (g + 1) w w') : RD w' g l bad := by
  obtain ⟨a, n, c, h1, h2, h3⟩ := h
  refine ⟨a, n, c, (hb.block g (by omega)).trans h1, ?_, h3⟩
  obtain ⟨a', cap, hv, g1, g2, g3, g4⟩ := h2
  cases hv
  refine ⟨a, c, rfl, g1, g2, g3, fun hl => ?_⟩
  obtain ⟨q, o, ha, hc⟩ := g4 hl
  have hq : q < g := h3 hl q (by rw [ha]; rfl)
  exact ⟨q, o, ha, fun i hi => (World.cell?_of_block (w := w) (hb.block q (by omega))).trans (hc i hi)⟩

set_option maxRecDepth 100000 in
theorem pass_c {w : World} {g : Nat} {l : List UInt8} {bad : Bool} (h : RD w g l bad) (k : Nat) (hk : k ≤ l.length) (er : Int) :
    Calls Tryz.prog 131 #[.pointer (some ⟨g, 0, none⟩), .int .i64 (k : Int), .int .i64 er] w fun e w' => e = .returned (.tuple #[]) ∧ RD w' g (l.drop k) (bad || decide (er ≠ 0)) ∧ Off1 g w w' := by
  obtain ⟨a, n, c, hA, hrb, hlo⟩ := h
  have HLO := Go.Lib.hid (fun (hl : l.drop k ≠ []) => hlo (fun e => hl (by rw [e, List.drop_nil])))
  clear hlo
  have HRB := Go.Lib.hid hrb
  have x0 := cell_of_row w g 0 _ _ _ hA
  have x1 := cell_of_row w g 1 _ _ _ hA
  simp only [List.getElem?_toArray, List.getElem?_cons_zero, List.getElem?_cons_succ] at x0 x1
  have f0 : w.frozen? ⟨g, 0, none⟩ = false := frozen_of_row w g 0 _ _ hA
  have HS := Go.Lib.hid (fun u => heapSet hA 0 u)
  have f1 : w.frozen? ⟨g, 1, none⟩ = false := frozen_of_row w g 1 _ _ hA
  have HA := Go.Lib.hid hA
  clear hA hrb
  have hfin : ∀ (a3 : Option Addr) (n3 c3 : Nat) (q : Bool), RB w (.slice a3 n3 c3) (l.drop k) → (∀ k', (Value.slice a3 n3 c3).ownBlock = some k' → (Value.slice a n c).ownBlock = some k') → q = (bad || decide (er ≠ 0)) →
      RD ((w.setCell ⟨g, 0, none⟩ (.slice a3 n3 c3)).setCell ⟨g, 1, none⟩ (.bool q)) g (l.drop k) (bad || decide (er ≠ 0)) ∧ Off1 g w ((w.setCell ⟨g, 0, none⟩ (.slice a3 n3 c3)).setCell ⟨g, 1, none⟩ (.bool q)) := by
    intro a3 n3 c3 q h1 h2 rfl
    have ho : Off1 g w ((w.setCell ⟨g, 0, none⟩ (.slice a3 n3 c3)).setCell ⟨g, 1, none⟩ (.bool (bad || decide (er ≠ 0)))) := ((Off1.refl g w).set 0 _).set 1 _
    exact ⟨⟨a3, n3, c3, heapSet (heapSet HA.out 0 _) 1 _, h1.off1 HA.out ho, fun hl k' hk' => HLO.out hl k' (h2 k' hk')⟩, ho⟩
  have HF := Go.Lib.hid hfin
  clear hfin HA
  cases bad with
  | true =>
    go_enter Tryz.func131, Tryz.ntmps131
    go_wp2_with (first
      | (with_reducible show wpList _ _ _ (⟨some 12, _, _, _, _, _⟩ :: _) _ _; go_loud (refine wpList_slice_lo rfl (.tmp 10) (.tmp 11) 45 rfl 5 Tryz.underlying45 info8 (.slice a n c) l .i64 _ k rfl rfl rfl HRB.out hk ?_); intro v3 hv3 hv4; obtain ⟨a3, n3, c3, rfl⟩ := hv3.sl; have HV3 := Go.Lib.hid hv3; have HV4 := Go.Lib.hid hv4; clear hv3 hv4)
      | fail)
    go_end0
    exact ⟨rfl, HF.out a3 n3 c3 true HV3.out HV4.out rfl⟩
  | false =>
    go_enter Tryz.func131, Tryz.ntmps131
    go_wp2_with (first
      | (with_reducible show wpList _ _ _ (⟨some 12, _, _, _, _, _⟩ :: _) _ _; go_loud (refine wpList_slice_lo rfl (.tmp 10) (.tmp 11) 45 rfl 5 Tryz.underlying45 info8 (.slice a n c) l .i64 _ k rfl rfl rfl HRB.out hk ?_); intro v3 hv3 hv4; obtain ⟨a3, n3, c3, rfl⟩ := hv3.sl; have HV3 := Go.Lib.hid hv3; have HV4 := Go.Lib.hid hv4; clear hv3 hv4)
      | fail)
    go_end0
    exact ⟨rfl, HF.out a3 n3 c3 (er != 0) HV3.out HV4.out (by by_cases h : er = 0 <;> simp [h])⟩

theorem textB_le (l : List UInt8) : (textB l).2.1 ≤ l.length := by
  unfold textB
  split
  · exact Nat.zero_le _
  · split
    · exact Nat.zero_le _
    · split
      · exact Nat.zero_le _
      · show (getB l).2.1 + (getB l).1.toNat ≤ l.length
        omega
theorem rdnum_c {w : World} {g : Nat} {l : List UInt8} {bad : Bool} (h : RD w g l bad) :
    Calls Tryz.prog 118 #[.pointer (some ⟨g, 0, none⟩)] w fun e w' => e = .returned (.int .i64 (numR (l, bad)).1) ∧ RD w' g (numR (l, bad)).2.1 (numR (l, bad)).2.2 ∧ Off1 g w w' := by
  obtain ⟨a, n, c, hA, hrb, -⟩ := id h
  have hf := getB_fits l
  have c1 := get_c _ l w hrb
  have e0 : numR (l, bad) = ((getB l).1, l.drop (getB l).2.1, bad || decide ((getB l).2.2 ≠ 0)) := rfl
  rw [e0]
  rcases hr : getB l with ⟨x, k, er⟩
  rw [hr] at hf c1
  have hk : k ≤ l.length := hf.2.2.1
  have C2 := Go.Lib.hid (pass_c h k hk er)
  unfold gv at c1
  simp only [] at c1
  have C1 := Go.Lib.hid c1
  have x0 := cell_of_row w g 0 _ _ _ hA
  simp only [List.getElem?_toArray, List.getElem?_cons_zero] at x0
  clear hA hrb hf c1 e0 hr hk h
  go_enter Tryz.func118, Tryz.ntmps118
  go_wp2_with fail
  refine C1.out.mono ?_
  rintro e w1 ⟨rfl, rfl⟩
  go_wp2_with fail
  refine C2.out.mono ?_
  rintro e w1 ⟨rfl, h1, h2⟩
  have H1 := Go.Lib.hid h1
  have H2 := Go.Lib.hid h2
  clear h1 h2 C1 C2 x0
  go_wp2_with fail
  go_ret
  exact ⟨rfl, H1.out, H2.out⟩

theorem rdtext_c {w : World} {g : Nat} {l : List UInt8} {bad : Bool} (h : RD w g l bad) :
    Calls Tryz.prog 132 #[.pointer (some ⟨g, 0, none⟩)] w fun e w' => e = .returned (.string (str (textR (l, bad)).1)) ∧ RD w' g (textR (l, bad)).2.1 (textR (l, bad)).2.2 ∧ Off1 g w w' := by
  obtain ⟨a, n, c, hA, hrb, -⟩ := id h
  have hf := textB_le l
  have c1 := getText_c _ l w hrb
  have e0 : textR (l, bad) = ((textB l).1, l.drop (textB l).2.1, bad || decide ((textB l).2.2 ≠ 0)) := rfl
  rw [e0]
  rcases hr : textB l with ⟨x, k, er⟩
  rw [hr] at hf c1
  have hk : k ≤ l.length := hf
  have C2 := Go.Lib.hid (pass_c h k hk er)
  unfold tv at c1
  simp only [] at c1
  have C1 := Go.Lib.hid c1
  have x0 := cell_of_row w g 0 _ _ _ hA
  simp only [List.getElem?_toArray, List.getElem?_cons_zero] at x0
  clear hA hrb hf c1 e0 hr hk h
  go_enter Tryz.func132, Tryz.ntmps132
  go_wp2_with fail
  refine C1.out.mono ?_
  rintro e w1 ⟨rfl, rfl⟩
  go_wp2_with fail
  refine C2.out.mono ?_
  rintro e w1 ⟨rfl, h1, h2⟩
  have H1 := Go.Lib.hid h1
  have H2 := Go.Lib.hid h2
  clear h1 h2 C1 C2 x0
  go_wp2_with fail
  go_ret
  exact ⟨rfl, H1.out, H2.out⟩

end Go.Proofs.YtnalokjnbccjnaaGreatDoor

namespace Go.Proofs.YtnalokjnbccjnaaGreatDoor
open Go.RowKit

section
variable {g p : Nat} {w w' w2 : World} {l : List UInt8} {bad : Bool}
theorem RB.offRow {v : Value} {cs : Array Value} {t : TypeId} {fr : Nat × Nat} (h : RB w v l) (hg : w.heap[p]? = some (.cells cs t fr)) (hn : ∀ (j : Nat) (x : Int), cs[j]? ≠ some (.int .u8 x)) (k : Off1 p w w') : RB w' v l := by
  obtain ⟨a', cap, hv, h1, h2, h3, h4⟩ := h
  refine ⟨a', cap, hv, h1, h2, h3, fun hl => ?_⟩
  obtain ⟨q, o, ha, hc⟩ := h4 hl
  refine ⟨q, o, ha, fun i hi => ?_⟩
  have h5 := hc i hi
  have hne : q ≠ p := by
    rintro rfl
    rw [cell_of_row w q _ _ t fr hg] at h5
    exact hn _ _ h5
  exact (World.cell?_of_block (w := w) (k.block q (World.block_lt_of_cell? w _ h5) hne)).trans h5
theorem RD.offRow {cs : Array Value} {t : TypeId} {fr : Nat × Nat} (h : RD w g l bad) (hg : w.heap[p]? = some (.cells cs t fr)) (hn : ∀ (j : Nat) (x : Int), cs[j]? ≠ some (.int .u8 x)) (k : Off1 p w w') (hp : g ≠ p) : RD w' g l bad := by
  obtain ⟨a, n, c, h1, h2, h3⟩ := h
  exact ⟨a, n, c, (k.block g (Array.getElem?_eq_some_iff.1 h1).1 hp).trans h1, h2.offRow hg hn k, h3⟩
theorem Off1.over (h : Off1 g w w') (k : Off1 p w' w2) (hp : w.heap.size ≤ p) : Off1 g w w2 :=
  ⟨k.os.trans h.os, k.tape.trans h.tape, k.output.trans h.output, Nat.le_trans h.size k.size, fun i hi hn => (k.block i (Nat.lt_of_lt_of_le hi h.size) (by omega)).trans (h.block i hi hn)⟩
theorem Off1.setRow (p : Nat) (w : World) (cs : Array Value) : Off1 p w (w.setRow p cs) := ⟨rfl, rfl, rfl, by simp, fun k _ hn => setRow_other w p k cs hn⟩
theorem no8 {nm : ByteArray} {n a s : Int} : ∀ (j : Nat) (x : Int), (#[.string nm, .int .i64 n, .int .i64 a, .int .i64 s] : Array Value)[j]? ≠ some (.int .u8 x)
  | 0, x => by simp
  | 1, x => by simp
  | 2, x => by simp
  | 3, x => by simp
  | j + 4, x => by simp
theorem ent_cells_one (nm : ByteArray) (n a s : Int) : (#[.string nm, .int .i64 n, .int .i64 a, .int .i64 s] : Array Value).all (fun x => x.oneCell') = true := by simp [Value.oneCell']

/-- A box that the call made, behind a call of the reader's: one of its cells is stored. -/
theorem box_step {w0 : World} {nm nm' : ByteArray} {n a s n' a' s' : Int} {o : Nat} {u : Value} (hgp : g ≠ p) (hp : w0.heap.size ≤ p) (hb : w.heap[p]? = some (entO nm n a s)) (h0 : Off1 g w0 w) (hk : Off1 g w w') (hr : RD w' g l bad)
    (hset : (#[.string nm, .int .i64 n, .int .i64 a, .int .i64 s] : Array Value).setIfInBounds o u = #[.string nm', .int .i64 n', .int .i64 a', .int .i64 s']) :
    (w'.setCell ⟨p, o, none⟩ u).heap[p]? = some (entO nm' n' a' s') ∧ Off1 g w0 (w'.setCell ⟨p, o, none⟩ u) ∧ RD (w'.setCell ⟨p, o, none⟩ u) g l bad ∧ (∀ q x, q ≠ p → q ≠ g → w.heap[q]? = some x → (w'.setCell ⟨p, o, none⟩ u).heap[q]? = some x) := by
  have h1 : w'.heap[p]? = some (entO nm n a s) := (hk.block p (Array.getElem?_eq_some_iff.1 hb).1 (Ne.symm hgp)).trans hb
  have h2 : Off1 p w' (w'.setCell ⟨p, o, none⟩ u) := (Off1.refl p w').set o u
  unfold entO at h1 ⊢
  refine ⟨?_, (h0.trans hk).over h2 hp, hr.offRow h1 no8 h2 hgp, fun q x hqp hqg hx => (Below.heap_setCell _ _ _ _ hqp).trans ((hk.block q (Array.getElem?_eq_some_iff.1 hx).1 hqg).trans hx)⟩
  rw [heapSet h1, hset]
end

set_option maxHeartbeats 1000000 in
set_option maxRecDepth 100000 in
theorem rdentry_c {w : World} {g : Nat} {l : List UInt8} {bad : Bool} (h : RD w g l bad) :
    Calls Tryz.prog 119 #[.pointer (some ⟨g, 0, none⟩)] w fun e w' => ∃ nm n a s, (entR (l, bad)).1 = (nm, n, a, s) ∧ e = .returned (entV nm n a s) ∧ RD w' g (entR (l, bad)).2.1 (entR (l, bad)).2.2 ∧ Off1 g w w' := by
  have hgl := h.lt
  have hz1 := heap_alloc_new w (entO ⟨#[]⟩ 0 0 0)
  have hb1 := newB w (entO ⟨#[]⟩ 0 0 0)
  have hs1 : (w.alloc (entO ⟨#[]⟩ 0 0 0)).heap.size = w.heap.size + 1 := by simp
  generalize hwa : w.alloc (entO ⟨#[]⟩ 0 0 0) = wa at *
  have hz2 := heap_alloc_new wa (entO ⟨#[]⟩ 0 0 0)
  have hb2 := newB wa (entO ⟨#[]⟩ 0 0 0)
  have hz1 := keptR hz1 hb2
  rw [hs1] at hz2
  have hbb := hb1.trans (hb2.mono hb1.size)
  subst hwa
  have hr := h.below hbb
  have h0 := Off1.of_below (g := g) hbb
  have HZ1 := Go.Lib.hid hz1
  have HZ2 := Go.Lib.hid hz2
  have HR := Go.Lib.hid hr
  have H0 := Go.Lib.hid h0
  have hgp : g ≠ w.heap.size + 1 := by omega
  have hgq : g ≠ w.heap.size := by omega
  have hqp : w.heap.size ≠ w.heap.size + 1 := by omega
  have HGP := Go.Lib.hid hgp
  have HGQ := Go.Lib.hid hgq
  clear hz1 hz2 hr h0 hgp hgq hb1 hb2 hbb hs1 h
  unfold entR
  generalize hwb : (w.alloc (entO ⟨#[]⟩ 0 0 0)).alloc (entO ⟨#[]⟩ 0 0 0) = wb at *
  unfold entO at hwb
  rcases ht : textR (l, bad) with ⟨t1, l1, b1⟩
  rcases hn1 : numR (l1, b1) with ⟨n1, l2, b2⟩
  rcases hn2 : numR (l2, b2) with ⟨n2, l3, b3⟩
  rcases hn3 : numR (l3, b3) with ⟨n3, l4, b4⟩
  have C1 := Go.Lib.hid (fun W (h : RD W g l bad) => by have := rdtext_c h; rw [ht] at this; exact this)
  have C2 := Go.Lib.hid (fun W (h : RD W g l1 b1) => by have := rdnum_c h; rw [hn1] at this; exact this)
  have C3 := Go.Lib.hid (fun W (h : RD W g l2 b2) => by have := rdnum_c h; rw [hn2] at this; exact this)
  have C4 := Go.Lib.hid (fun W (h : RD W g l3 b3) => by have := rdnum_c h; rw [hn3] at this; exact this)
  simp only []
  clear ht hn1 hn2 hn3
  generalize str t1 = ts at *
  have HQP := Go.Lib.hid hqp
  have hpb : w.heap.size ≤ w.heap.size + 1 := by omega
  have HPB := Go.Lib.hid hpb
  have Hq := Go.Lib.hid (rfl : w.heap.size = w.heap.size)
  clear hqp hgl hz1 hpb
  go_enter Tryz.func119, Tryz.ntmps119
  go_wp2_with fail
  clear hwb
  refine (C1.out _ HR.out).mono ?_
  rintro e w5 ⟨rfl, hr5, hk5⟩
  obtain ⟨hB5, hO5, hR5, hT5⟩ := box_step (o := 0) (u := .string ts) (nm := ⟨#[]⟩) (n := 0) (a := 0) (s := 0) (nm' := ts) (n' := 0) (a' := 0) (s' := 0) HGP.out (HPB.out) HZ2.out H0.out hk5 hr5 (by simp)
  have hZ5 := hT5 _ _ HQP.out (Ne.symm HGQ.out) HZ1.out
  have hbx := (hk5.block (w.heap.size + 1) (Array.getElem?_eq_some_iff.1 HZ2.out).1 (Ne.symm HGP.out)).trans HZ2.out
  have f5 : w5.frozen? ⟨w.heap.size + 1, 0, none⟩ = false := frozen_of_row w5 (w.heap.size + 1) 0 _ _ hbx
  have x5 := cell_of_row w5 (w.heap.size + 1) 0 _ _ _ hbx
  simp only [List.getElem?_toArray, List.getElem?_cons_zero] at x5
  have HB5 := Go.Lib.hid hB5
  have HO5 := Go.Lib.hid hO5
  have HR5 := Go.Lib.hid hR5
  have HZ5 := Go.Lib.hid hZ5
  clear hB5 hO5 hR5 hZ5 hT5 hk5 hr5 hbx
  go_wp2_with fail
  clear f5 x5
  refine (C2.out _ HR5.out).mono ?_
  rintro e w6 ⟨rfl, hr6, hk6⟩
  obtain ⟨hB6, hO6, hR6, hT6⟩ := box_step (o := 1) (u := .int .i64 n1) (nm := ts) (n := 0) (a := 0) (s := 0) (nm' := ts) (n' := n1) (a' := 0) (s' := 0) HGP.out (HPB.out) HB5.out HO5.out hk6 hr6 (by simp)
  have hZ6 := hT6 _ _ HQP.out (Ne.symm HGQ.out) HZ5.out
  have hbx := (hk6.block (w.heap.size + 1) (Array.getElem?_eq_some_iff.1 HB5.out).1 (Ne.symm HGP.out)).trans HB5.out
  have f6 : w6.frozen? ⟨w.heap.size + 1, 1, none⟩ = false := frozen_of_row w6 (w.heap.size + 1) 1 _ _ hbx
  have x6 := cell_of_row w6 (w.heap.size + 1) 1 _ _ _ hbx
  simp only [List.getElem?_toArray, List.getElem?_cons_zero, List.getElem?_cons_succ] at x6
  have HB6 := Go.Lib.hid hB6
  have HO6 := Go.Lib.hid hO6
  have HR6 := Go.Lib.hid hR6
  have HZ6 := Go.Lib.hid hZ6
  clear hB6 hO6 hR6 hZ6 hT6 hk6 hr6 hbx
  go_wp2_with fail
  clear f6 x6
  refine (C3.out _ HR6.out).mono ?_
  rintro e w7 ⟨rfl, hr7, hk7⟩
  obtain ⟨hB7, hO7, hR7, hT7⟩ := box_step (o := 2) (u := .int .i64 n2) (nm := ts) (n := n1) (a := 0) (s := 0) (nm' := ts) (n' := n1) (a' := n2) (s' := 0) HGP.out (HPB.out) HB6.out HO6.out hk7 hr7 (by simp)
  have hZ7 := hT7 _ _ HQP.out (Ne.symm HGQ.out) HZ6.out
  have hbx := (hk7.block (w.heap.size + 1) (Array.getElem?_eq_some_iff.1 HB6.out).1 (Ne.symm HGP.out)).trans HB6.out
  have f7 : w7.frozen? ⟨w.heap.size + 1, 2, none⟩ = false := frozen_of_row w7 (w.heap.size + 1) 2 _ _ hbx
  have x7 := cell_of_row w7 (w.heap.size + 1) 2 _ _ _ hbx
  simp only [List.getElem?_toArray, List.getElem?_cons_zero, List.getElem?_cons_succ] at x7
  have HB7 := Go.Lib.hid hB7
  have HO7 := Go.Lib.hid hO7
  have HR7 := Go.Lib.hid hR7
  have HZ7 := Go.Lib.hid hZ7
  clear hB7 hO7 hR7 hZ7 hT7 hk7 hr7 hbx
  go_wp2_with fail
  clear f7 x7
  refine (C4.out _ HR7.out).mono ?_
  rintro e w8 ⟨rfl, hr8, hk8⟩
  obtain ⟨hB8, hO8, hR8, hT8⟩ := box_step (o := 3) (u := .int .i64 n3) (nm := ts) (n := n1) (a := n2) (s := 0) (nm' := ts) (n' := n1) (a' := n2) (s' := n3) HGP.out (HPB.out) HB7.out HO7.out hk8 hr8 (by simp)
  have hZ8 := hT8 _ _ HQP.out (Ne.symm HGQ.out) HZ7.out
  have hbx := (hk8.block (w.heap.size + 1) (Array.getElem?_eq_some_iff.1 HB7.out).1 (Ne.symm HGP.out)).trans HB7.out
  have f8 : w8.frozen? ⟨w.heap.size + 1, 3, none⟩ = false := frozen_of_row w8 (w.heap.size + 1) 3 _ _ hbx
  have x8 := cell_of_row w8 (w.heap.size + 1) 3 _ _ _ hbx
  simp only [List.getElem?_toArray, List.getElem?_cons_zero, List.getElem?_cons_succ] at x8
  have HB8 := Go.Lib.hid hB8
  have HO8 := Go.Lib.hid hO8
  have HR8 := Go.Lib.hid hR8
  have HZ8 := Go.Lib.hid hZ8
  clear hB8 hO8 hR8 hZ8 hT8 hk8 hr8 hbx
  go_upto_region 6 with (fail)
  clear f8 x8
  generalize hws : w8.setCell ⟨w.heap.size + 1, 3, none⟩ (.int .i64 n3) = ws at *
  have Hws := Go.Lib.hid hws
  obtain ⟨y0, y1, y2, y3⟩ := row4 HB8.out
  have ho1 := Off1.setRow w.heap.size ws #[.string ts, .int .i64 n1, .int .i64 n2, .int .i64 n3]
  have hfin := setRow_heap ws w.heap.size _ #[.string ts, .int .i64 n1, .int .i64 n2, .int .i64 n3] _ (0, 0) HZ8.out
  have hrf := HR8.out.offRow HZ8.out no8 ho1 HGQ.out
  have hof := HO8.out.over ho1 (Nat.le_refl _)
  have HZ9 : Hid (ws.heap[w.heap.size]? = some (.cells #[.string ⟨#[]⟩, .int .i64 0, .int .i64 0, .int .i64 0] 98)) := HZ8
  have HF := Go.Lib.hid hfin
  have HRF := Go.Lib.hid hrf
  have HOF := Go.Lib.hid hof
  clear ho1 hfin hrf hof hws
  go_wp2_with (first
    | (with_reducible show wpList _ _ _ (⟨none, Op.store 98 (.tmp 2) (.tmp 18), _, _, _, _⟩ :: _) _ _; go_loud (refine wpList_store_row rfl 98 (.tmp 2) (.tmp 18) rfl w.heap.size #[.string ts, .int .i64 n1, .int .i64 n2, .int .i64 n3] rfl rfl 98 _ HZ9.out (by kernel_rfl) rfl (ent_cells_one ..) ?_))
    | fail)
  refine bodyPost_ret (results_cell_row rfl _ _ w.heap.size 98 #[.string ts, .int .i64 n1, .int .i64 n2, .int .i64 n3] (0, 0) _ rfl HF.out Tryz.underlying98 rfl (by kernel_rfl)) rfl ?_
  exact ⟨_, _, _, _, rfl, rfl, HRF.out, HOF.out⟩

end Go.Proofs.YtnalokjnbccjnaaGreatDoor

namespace Go.Proofs.YtnalokjnbccjnaaGreatDoor
open Go.RowKit Go.Op
set_option linter.unusedVariables false

def VAm (g b o n cap k j : Nat) (pn nm : ByteArray) (en ea es : Int) (r : Bool) : Nat → World → Value → Prop
  | 15, _, v => v = .agg #[.string nm, .int .i64 en, .int .i64 ea, .int .i64 es]
  | 16, _, v => v = .bool false
  | 17, _, v => v = .bool true
  | 18, _, v => v = .bool true
  | 19, _, v => v = undef
  | 20, _, v => v = undef
  | 21, _, v => v = undef
  | 22, _, v => v = undef
  | 23, _, v => v = undef
  | 24, _, v => v = undef
  | 25, _, v => v = undef
  | 26, _, v => v = undef
  | 27, _, v => v = undef
  | 28, _, v => v = undef
  | 29, _, v => v = undef
  | 30, _, v => v = undef
  | 31, _, v => v = undef
  | 32, _, v => v = .bool true
  | _, _, _ => True

theorem VAm_below (g b o n cap k j : Nat) (pn nm : ByteArray) (en ea es : Int) (r : Bool) : ∀ (i : Nat) (w w' : World) (v : Value), VAm g b o n cap k j pn nm en ea es r i w v → Below w.heap.size w w' → VAm g b o n cap k j pn nm en ea es r i w' v := by
  intro i w w' v h hb
  unfold VAm at h ⊢
  split at h <;> first | exact h | trivial | exact RB.below h hb | exact Own.below h hb

def VBm (g b o n cap k j : Nat) (pn nm : ByteArray) (en ea es : Int) (r : Bool) : Nat → World → Value → Prop
  | 15, _, v => v = .agg #[.string nm, .int .i64 en, .int .i64 ea, .int .i64 es]
  | 16, _, v => v = .bool true
  | 17, _, v => v = .bool false
  | 18, _, v => v = .bool false
  | 19, _, v => v = .int .i64 (k : Int)
  | 20, _, v => v = .bool false
  | 21, _, v => v = .bool false
  | 22, _, v => v = undef
  | 23, _, v => v = undef
  | 24, _, v => v = undef
  | 25, _, v => v = undef
  | 26, _, v => v = undef
  | 27, _, v => v = undef
  | 28, _, v => v = undef
  | 29, _, v => v = undef
  | 30, _, v => v = undef
  | 31, _, v => v = .bool false
  | 32, _, v => v = .bool false
  | _, _, _ => True

theorem VBm_below (g b o n cap k j : Nat) (pn nm : ByteArray) (en ea es : Int) (r : Bool) : ∀ (i : Nat) (w w' : World) (v : Value), VBm g b o n cap k j pn nm en ea es r i w v → Below w.heap.size w w' → VBm g b o n cap k j pn nm en ea es r i w' v := by
  intro i w w' v h hb
  unfold VBm at h ⊢
  split at h <;> first | exact h | trivial | exact RB.below h hb | exact Own.below h hb

def VCm (g b o n cap k j : Nat) (pn nm : ByteArray) (en ea es : Int) (r : Bool) : Nat → World → Value → Prop
  | 15, _, v => v = .agg #[.string nm, .int .i64 en, .int .i64 ea, .int .i64 es]
  | 16, _, v => v = .bool true
  | 17, _, v => v = .bool false
  | 18, _, v => v = .bool false
  | 19, _, v => v = .int .i64 (k : Int)
  | 20, _, v => v = .bool true
  | 21, _, v => v = .bool true
  | 22, _, v => v = .slice (some ⟨b, o, none⟩) n cap
  | 23, _, v => v = .int .i64 (k : Int)
  | 24, _, v => v = .int .i64 (j : Int)
  | 25, _, v => v = .pointer (some ⟨b, o + j * 4, none⟩)
  | 26, _, v => v = .pointer (some ⟨b, o + j * 4, none⟩)
  | 27, _, v => v = .string pn
  | 28, _, v => v = .pointer (some ⟨g, 0, none⟩)
  | 29, _, v => v = .string nm
  | 30, _, v => v = .bool (!r)
  | 31, _, v => v = .bool (!r)
  | 32, _, v => v = .bool (!r)
  | _, _, _ => True

theorem VCm_below (g b o n cap k j : Nat) (pn nm : ByteArray) (en ea es : Int) (r : Bool) : ∀ (i : Nat) (w w' : World) (v : Value), VCm g b o n cap k j pn nm en ea es r i w v → Below w.heap.size w w' → VCm g b o n cap k j pn nm en ea es r i w' v := by
  intro i w w' v h hb
  unfold VCm at h ⊢
  split at h <;> first | exact h | trivial | exact RB.below h hb | exact Own.below h hb

theorem fit_snoc {l : List EntT} {k : Nat} (h : ∀ j, j < k → fitE l j) (h1 : fitE l k) : ∀ j, j < k + 1 → fitE l j := by
  intro j hj
  rcases Nat.lt_or_ge j k with h2 | h2
  · exact h j h2
  · obtain rfl : j = k := by omega
    exact h1

set_option maxHeartbeats 2000000 in
set_option maxRecDepth 100000 in
theorem may_c (v : Value) (l : List EntT) (w : World) (hv : RE w v l) :
    Calls Tryz.prog 87 #[v] w fun e w' => e = .returned (.bool (mayL l)) ∧ Below w.heap.size w w' := by
  obtain ⟨a, cap, rfl, hm⟩ := hv.form
  have HV := Go.Lib.hid hv; clear hv
  by_cases hl : 32 < l.length
  · have K := Go.Lib.hid (mayL_no (l := l) (fun h => by have := h.1; omega))
    have hlI : (32 : Int) < (l.length : Int) := by omega
    clear hl
    go_enter Tryz.func87, Tryz.ntmps87
    go_wp2_with fail
    go_ret
    exact ⟨ret_bool K.out, Below.refl _ _⟩
  have hlI : ¬ (32 : Int) < (l.length : Int) := by omega
  have HL := Go.Lib.hid hl; clear hl
  go_enter Tryz.func87, Tryz.ntmps87
  go_wp2_with fail
  clear hlI
  go_loopw [10] (fun i w2 => ∃ k : Nat, k ≤ l.length ∧ i = .int .i64 (k : Int) ∧ Hid (∀ j, j < k → fitE l j) ∧ Below w.heap.size w w2) (fun i _ => l.length - (intOf i).toNat)
  case atStart => exact ⟨0, by omega, rfl, Go.Lib.hid (fun j hj => by omega), Below.refl _ _⟩
  case round =>
    obtain ⟨k, hk, rfl, hfit, hbc⟩ := hrel
    by_cases hlt : k < l.length
    · obtain ⟨b, o, rfl, -, hbs, c0, c1, c2, c3⟩ := (HV.out.below hbc).at k hlt
      have Hlt := Go.Lib.hid hlt
      have Hno := Go.Lib.hid (fun (h : ¬ fitE l k) => mayL_no (l := l) (fun h2 => h (h2.2 k hlt)))
      have Hyes := Go.Lib.hid (fun (h : fitE l k) => fit_snoc hfit.out h)
      have Hfit := Go.Lib.hid (show fitE l k ↔ (mayE l[k] ∧ (0 < k → ltE l[k - 1] l[k] = true)) from ⟨fun ⟨_, h⟩ => h, fun h => ⟨hlt, h⟩⟩)
      have Hprev := Go.Lib.hid (fun (h : 0 < k) => (HV.out.below hbc).at (k - 1) (show k - 1 < l.length by omega))
      have Hlast := Go.Lib.hid (fun h : 0 < k => show ∃ pn, pn = (l[k - 1]'(by omega)).1 from ⟨_, rfl⟩)
      have CM := fun W => mayBe_c l[k].1 l[k].2.1 l[k].2.2.1 l[k].2.2.2 W
      generalize hx : l[k] = x at *
      obtain ⟨nm, en, ea, es⟩ := x
      simp only [] at c0 c1 c2 c3 CM
      unfold entV at CM
      have hnew := heap_alloc_new wr (.cells #[.string nm, .int .i64 en, .int .i64 ea, .int .i64 es] 98)
      have hbn := newB wr (.cells #[.string nm, .int .i64 en, .int .i64 ea, .int .i64 es] 98)
      have hbb := hbc.trans (hbn.mono hbc.size)
      obtain ⟨x0, x1, x2, x3⟩ := row4 hnew
      have HB := Go.Lib.hid hbb
      have HN := Go.Lib.hid hbn
      clear hnew hbn hbb hx
      by_cases hq : mayE (nm, en, ea, es)
      · rw [decide_eq_true hq] at CM
        have CMh := Go.Lib.hid CM; clear CM; have CM := CMh; clear CMh
        by_cases hz : k = 0
        · have hfk := Go.Lib.hid (Hyes.out (Hfit.out.2 ⟨hq, fun h => absurd h (by omega)⟩))
          have Hz := Go.Lib.hid hz
          clear Hprev Hlast Hno Hyes Hfit hq hfit hbc hz
          go_upto_region 6 with (fail)
          clear c0 c1 c2 c3
          generalize hg : wr.heap.size = g at *
          have pn := nm; have j := 0; have r := true
          refine wp_region_each (by kernel_rfl) (VBm g b o l.length cap k j pn nm en ea es r) (VBm_below g b o l.length cap k j pn nm en ea es r) (by decide +kernel) (by decide +kernel) (by rfl) [15, 16, 17, 18, 19, 20, 21, 22, 23, 24, 25, 26, 27, 28, 29, 30, 31, 32] (by rfl) ?_ ?_
          · intro i o ho a w6 hb6 hlen hg
            have x0 := keptC x0 hb6
            have x1 := keptC x1 hb6
            have x2 := keptC x2 hb6
            have x3 := keptC x3 hb6
            have hz := Hz.out
            match i, ho with
            | 0, ho =>
              obtain rfl := Option.some.inj ho
              have h4 := given_old hg 4 (by decide +kernel)
              clear hg
              exact st_yield ho (wanted_none rfl) (.agg #[.string nm, .int .i64 en, .int .i64 ea, .int .i64 es]) w6 (by simp [execOp, Act.eval, h4, go_sem, x0, x1, x2, x3]) ⟨_, rfl, Below.refl _ _, by rintro t' ⟨⟩; rfl⟩
            | 1, ho =>
              obtain rfl := Option.some.inj ho
              obtain ⟨_, h15, rfl⟩ := given_fed hg 15 (by decide +kernel)
              clear hg
              exact st_enter (w1 := w6) ho (wanted_none rfl) 114 #[.agg #[.string nm, .int .i64 en, .int .i64 ea, .int .i64 es]] (by simp [execOp, Act.eval, h15, resolve, go_sem]) ((CM.out _).mono (by rintro e w7 ⟨rfl, hb7⟩; exact ⟨_, rfl, _, rfl, hb7, by rintro t' ⟨⟩; rfl⟩))
            | 2, ho =>
              obtain rfl := Option.some.inj ho
              obtain ⟨_, h16, rfl⟩ := given_fed hg 16 (by decide +kernel)
              clear hg
              exact st_yield ho (wanted_none rfl) (.bool false) w6 (by simp [execOp, Act.eval, h16, go_sem]) ⟨_, rfl, Below.refl _ _, by rintro t' ⟨⟩; rfl⟩
            | 3, ho =>
              obtain rfl := Option.some.inj ho
              obtain ⟨_, h17, rfl⟩ := given_fed hg 17 (by decide +kernel)
              clear hg
              exact st_yield ho (wanted_none rfl) (.bool false) w6 (by simp [execOp, Act.eval, h17, go_sem]) ⟨_, rfl, Below.refl _ _, by rintro t' ⟨⟩; rfl⟩
            | 4, ho =>
              obtain rfl := Option.some.inj ho
              have h3 := given_old hg 3 (by decide +kernel)
              obtain ⟨_, h18, rfl⟩ := given_fed hg 18 (by decide +kernel)
              clear hg
              exact st_yield ho (wanted_some rfl rfl h18 rfl) (.int .i64 (k : Int)) w6 (by simp [execOp, Act.eval, h3, go_sem]) ⟨_, rfl, Below.refl _ _, by rintro t' ⟨⟩; rfl⟩
            | 5, ho =>
              obtain rfl := Option.some.inj ho
              obtain ⟨_, h19, rfl⟩ := given_fed hg 19 (by decide +kernel)
              obtain ⟨_, h18, rfl⟩ := given_fed hg 18 (by decide +kernel)
              clear hg
              exact st_yield ho (wanted_some rfl rfl h18 rfl) (.bool false) w6 (by simp [execOp, Act.eval, h19, go_sem, hz]) ⟨_, rfl, Below.refl _ _, by rintro t' ⟨⟩; rfl⟩
            | 6, ho =>
              obtain rfl := Option.some.inj ho
              obtain ⟨_, h20, rfl⟩ := given_fed hg 20 (by decide +kernel)
              obtain ⟨_, h18, rfl⟩ := given_fed hg 18 (by decide +kernel)
              clear hg
              exact st_yield ho (wanted_some rfl rfl h18 rfl) (.bool false) w6 (by simp [execOp, Act.eval, h20, go_sem]) ⟨_, rfl, Below.refl _ _, by rintro t' ⟨⟩; rfl⟩
            | 7, ho =>
              obtain rfl := Option.some.inj ho
              obtain ⟨_, h21, rfl⟩ := given_fed hg 21 (by decide +kernel)
              clear hg
              exact st_skip ho (wanted_not rfl rfl h21 (by decide)) ⟨_, rfl, Below.refl _ _, by rintro t' ⟨⟩; rfl⟩
            | 8, ho =>
              obtain rfl := Option.some.inj ho
              obtain ⟨_, h21, rfl⟩ := given_fed hg 21 (by decide +kernel)
              clear hg
              exact st_skip ho (wanted_not rfl rfl h21 (by decide)) ⟨_, rfl, Below.refl _ _, by rintro t' ⟨⟩; rfl⟩
            | 9, ho =>
              obtain rfl := Option.some.inj ho
              obtain ⟨_, h21, rfl⟩ := given_fed hg 21 (by decide +kernel)
              clear hg
              exact st_skip ho (wanted_not rfl rfl h21 (by decide)) ⟨_, rfl, Below.refl _ _, by rintro t' ⟨⟩; rfl⟩
            | 10, ho =>
              obtain rfl := Option.some.inj ho
              obtain ⟨_, h21, rfl⟩ := given_fed hg 21 (by decide +kernel)
              clear hg
              exact st_skip ho (wanted_not rfl rfl h21 (by decide)) ⟨_, rfl, Below.refl _ _, by rintro t' ⟨⟩; rfl⟩
            | 11, ho =>
              obtain rfl := Option.some.inj ho
              obtain ⟨_, h21, rfl⟩ := given_fed hg 21 (by decide +kernel)
              clear hg
              exact st_skip ho (wanted_not rfl rfl h21 (by decide)) ⟨_, rfl, Below.refl _ _, by rintro t' ⟨⟩; rfl⟩
            | 12, ho =>
              obtain rfl := Option.some.inj ho
              obtain ⟨_, h21, rfl⟩ := given_fed hg 21 (by decide +kernel)
              clear hg
              exact st_skip ho (wanted_not rfl rfl h21 (by decide)) ⟨_, rfl, Below.refl _ _, by rintro t' ⟨⟩; rfl⟩
            | 13, ho =>
              obtain rfl := Option.some.inj ho
              obtain ⟨_, h21, rfl⟩ := given_fed hg 21 (by decide +kernel)
              clear hg
              exact st_skip ho (wanted_not rfl rfl h21 (by decide)) ⟨_, rfl, Below.refl _ _, by rintro t' ⟨⟩; rfl⟩
            | 14, ho =>
              obtain rfl := Option.some.inj ho
              obtain ⟨_, h21, rfl⟩ := given_fed hg 21 (by decide +kernel)
              clear hg
              exact st_skip ho (wanted_not rfl rfl h21 (by decide)) ⟨_, rfl, Below.refl _ _, by rintro t' ⟨⟩; rfl⟩
            | 15, ho =>
              obtain rfl := Option.some.inj ho
              obtain ⟨_, h21, rfl⟩ := given_fed hg 21 (by decide +kernel)
              clear hg
              exact st_skip ho (wanted_not rfl rfl h21 (by decide)) ⟨_, rfl, Below.refl _ _, by rintro t' ⟨⟩; rfl⟩
            | 16, ho =>
              obtain rfl := Option.some.inj ho
              obtain ⟨_, h21, rfl⟩ := given_fed hg 21 (by decide +kernel)
              obtain ⟨_, h30, rfl⟩ := given_fed hg 30 (by decide +kernel)
              obtain ⟨_, h18, rfl⟩ := given_fed hg 18 (by decide +kernel)
              clear hg
              exact st_yield ho (wanted_some rfl rfl h18 rfl) (.bool false) w6 (by simp [execOp, Act.eval, h21, h30, go_sem]) ⟨_, rfl, Below.refl _ _, by rintro t' ⟨⟩; rfl⟩
            | 17, ho =>
              obtain rfl := Option.some.inj ho
              obtain ⟨_, h18, rfl⟩ := given_fed hg 18 (by decide +kernel)
              obtain ⟨_, h31, rfl⟩ := given_fed hg 31 (by decide +kernel)
              clear hg
              exact st_yield ho (wanted_none rfl) (.bool false) w6 (by simp [execOp, Act.eval, h18, h31, go_sem]) ⟨_, rfl, Below.refl _ _, by rintro t' ⟨⟩; rfl⟩
            | n + 18, ho => simp at ho
          · intro f w6 hb6 hv
            have h32 := hv 32 (by decide)
            simp only [VBm] at h32
            have hbc6 := HB.out.trans (hb6.mono HB.out.size)
            clear hv hb6 x0 x1 x2 x3 CM
            unfold putAll
            simp only [List.foldl]
            simp only [h32]
            go_simp
            go_wp2_with fail
            go_roundw
            case rel => exact ⟨k + 1, by have := Hlt.out; omega, by go_num, hfk, hbc6⟩
            case measure => simp only [intOf]; have := Hlt.out; omega
        · have hpos : 0 < k := by omega
          obtain ⟨pb, po, he, -, -, d0, -⟩ := Hprev.out hpos
          obtain ⟨pn, hpn⟩ := Hlast.out hpos
          obtain ⟨rfl, rfl⟩ : b = pb ∧ o = po := by simpa using he
          rw [← hpn] at d0
          have d0n := keptC d0 HN.out; clear d0; have d0 := d0n; clear d0n
          obtain ⟨j, hj⟩ : ∃ j, j = k - 1 := ⟨_, rfl⟩
          rw [← hj] at d0
          have hw : IntKind.i64.wrap ((k : Int) - 1) = (j : Int) := by rw [IntKind.wrap_i64]; omega
          have Hix := Go.Lib.hid (run_idxE b o l.length cap j (by omega))
          obtain ⟨r, hr⟩ : ∃ r, bytesLess pn.toList nm.toList = r := ⟨_, rfl⟩
          have hfk := Go.Lib.hid (fun h : r = true => Hyes.out (Hfit.out.2 ⟨hq, fun _ => by show bytesLess (l[k - 1]'_).1.toList nm.toList = true; rw [← hpn, hr]; exact h⟩))
          have hfn := Go.Lib.hid (fun h : r = false => Hno.out (fun h2 => by
            have h3 := (Hfit.out.1 h2).2 hpos
            have h4 : bytesLess (l[k - 1]'(by omega)).1.toList nm.toList = true := h3
            rw [← hpn, hr, h] at h4
            cases h4))
          have Hr := Go.Lib.hid hr
          have Hpos := Go.Lib.hid hpos
          clear Hprev Hlast Hno Hyes Hfit hq hfit hbc hj hpn hr he hz hpos
          go_upto_region 6 with (fail)
          clear c0 c1 c2 c3
          generalize hg : wr.heap.size = g at *
          refine wp_region_each (by kernel_rfl) (VCm g b o l.length cap k j pn nm en ea es r) (VCm_below g b o l.length cap k j pn nm en ea es r) (by decide +kernel) (by decide +kernel) (by rfl) [15, 16, 17, 18, 19, 20, 21, 22, 23, 24, 25, 26, 27, 28, 29, 30, 31, 32] (by rfl) ?_ ?_
          · intro i o ho a w6 hb6 hlen hg
            have x0 := keptC x0 hb6
            have x1 := keptC x1 hb6
            have x2 := keptC x2 hb6
            have x3 := keptC x3 hb6
            have d0 := keptC d0 hb6
            have hix := Hix.out w6
            have hr := Hr.out
            have hpos := Hpos.out
            match i, ho with
            | 0, ho =>
              obtain rfl := Option.some.inj ho
              have h4 := given_old hg 4 (by decide +kernel)
              clear hg
              exact st_yield ho (wanted_none rfl) (.agg #[.string nm, .int .i64 en, .int .i64 ea, .int .i64 es]) w6 (by simp [execOp, Act.eval, h4, go_sem, x0, x1, x2, x3]) ⟨_, rfl, Below.refl _ _, by rintro t' ⟨⟩; rfl⟩
            | 1, ho =>
              obtain rfl := Option.some.inj ho
              obtain ⟨_, h15, rfl⟩ := given_fed hg 15 (by decide +kernel)
              clear hg
              exact st_enter (w1 := w6) ho (wanted_none rfl) 114 #[.agg #[.string nm, .int .i64 en, .int .i64 ea, .int .i64 es]] (by simp [execOp, Act.eval, h15, resolve, go_sem]) ((CM.out _).mono (by rintro e w7 ⟨rfl, hb7⟩; exact ⟨_, rfl, _, rfl, hb7, by rintro t' ⟨⟩; rfl⟩))
            | 2, ho =>
              obtain rfl := Option.some.inj ho
              obtain ⟨_, h16, rfl⟩ := given_fed hg 16 (by decide +kernel)
              clear hg
              exact st_yield ho (wanted_none rfl) (.bool false) w6 (by simp [execOp, Act.eval, h16, go_sem]) ⟨_, rfl, Below.refl _ _, by rintro t' ⟨⟩; rfl⟩
            | 3, ho =>
              obtain rfl := Option.some.inj ho
              obtain ⟨_, h17, rfl⟩ := given_fed hg 17 (by decide +kernel)
              clear hg
              exact st_yield ho (wanted_none rfl) (.bool false) w6 (by simp [execOp, Act.eval, h17, go_sem]) ⟨_, rfl, Below.refl _ _, by rintro t' ⟨⟩; rfl⟩
            | 4, ho =>
              obtain rfl := Option.some.inj ho
              have h3 := given_old hg 3 (by decide +kernel)
              obtain ⟨_, h18, rfl⟩ := given_fed hg 18 (by decide +kernel)
              clear hg
              exact st_yield ho (wanted_some rfl rfl h18 rfl) (.int .i64 (k : Int)) w6 (by simp [execOp, Act.eval, h3, go_sem]) ⟨_, rfl, Below.refl _ _, by rintro t' ⟨⟩; rfl⟩
            | 5, ho =>
              obtain rfl := Option.some.inj ho
              obtain ⟨_, h19, rfl⟩ := given_fed hg 19 (by decide +kernel)
              obtain ⟨_, h18, rfl⟩ := given_fed hg 18 (by decide +kernel)
              clear hg
              exact st_yield ho (wanted_some rfl rfl h18 rfl) (.bool true) w6 (by simp [execOp, Act.eval, h19, go_sem, hpos]) ⟨_, rfl, Below.refl _ _, by rintro t' ⟨⟩; rfl⟩
            | 6, ho =>
              obtain rfl := Option.some.inj ho
              obtain ⟨_, h20, rfl⟩ := given_fed hg 20 (by decide +kernel)
              obtain ⟨_, h18, rfl⟩ := given_fed hg 18 (by decide +kernel)
              clear hg
              exact st_yield ho (wanted_some rfl rfl h18 rfl) (.bool true) w6 (by simp [execOp, Act.eval, h20, go_sem]) ⟨_, rfl, Below.refl _ _, by rintro t' ⟨⟩; rfl⟩
            | 7, ho =>
              obtain rfl := Option.some.inj ho
              have h0 := given_old hg 0 (by decide +kernel)
              obtain ⟨_, h21, rfl⟩ := given_fed hg 21 (by decide +kernel)
              clear hg
              exact st_yield ho (wanted_some rfl rfl h21 rfl) (.slice (some ⟨b, o, none⟩) l.length cap) w6 (by simp [execOp, Act.eval, h0, go_sem]) ⟨_, rfl, Below.refl _ _, by rintro t' ⟨⟩; rfl⟩
            | 8, ho =>
              obtain rfl := Option.some.inj ho
              have h3 := given_old hg 3 (by decide +kernel)
              obtain ⟨_, h21, rfl⟩ := given_fed hg 21 (by decide +kernel)
              clear hg
              exact st_yield ho (wanted_some rfl rfl h21 rfl) (.int .i64 (k : Int)) w6 (by simp [execOp, Act.eval, h3, go_sem]) ⟨_, rfl, Below.refl _ _, by rintro t' ⟨⟩; rfl⟩
            | 9, ho =>
              obtain rfl := Option.some.inj ho
              obtain ⟨_, h23, rfl⟩ := given_fed hg 23 (by decide +kernel)
              obtain ⟨_, h21, rfl⟩ := given_fed hg 21 (by decide +kernel)
              clear hg
              exact st_yield ho (wanted_some rfl rfl h21 rfl) (.int .i64 (j : Int)) w6 (by simp [execOp, Act.eval, h23, go_sem, hw]) ⟨_, rfl, Below.refl _ _, by rintro t' ⟨⟩; rfl⟩
            | 10, ho =>
              obtain rfl := Option.some.inj ho
              obtain ⟨_, h22, rfl⟩ := given_fed hg 22 (by decide +kernel)
              obtain ⟨_, h24, rfl⟩ := given_fed hg 24 (by decide +kernel)
              obtain ⟨_, h21, rfl⟩ := given_fed hg 21 (by decide +kernel)
              clear hg
              exact st_yield ho (wanted_some rfl rfl h21 rfl) (.pointer (some ⟨b, o + j * 4, none⟩)) w6 (by simp [execOp, Act.eval, h22, h24, go_sem, hix]) ⟨_, rfl, Below.refl _ _, by rintro t' ⟨⟩; rfl⟩
            | 11, ho =>
              obtain rfl := Option.some.inj ho
              obtain ⟨_, h25, rfl⟩ := given_fed hg 25 (by decide +kernel)
              obtain ⟨_, h21, rfl⟩ := given_fed hg 21 (by decide +kernel)
              clear hg
              exact st_yield ho (wanted_some rfl rfl h21 rfl) (.pointer (some ⟨b, o + j * 4, none⟩)) w6 (by simp [execOp, Act.eval, h25, go_sem]) ⟨_, rfl, Below.refl _ _, by rintro t' ⟨⟩; rfl⟩
            | 12, ho =>
              obtain rfl := Option.some.inj ho
              obtain ⟨_, h26, rfl⟩ := given_fed hg 26 (by decide +kernel)
              obtain ⟨_, h21, rfl⟩ := given_fed hg 21 (by decide +kernel)
              clear hg
              exact st_yield ho (wanted_some rfl rfl h21 rfl) (.string pn) w6 (by simp [execOp, Act.eval, h26, go_sem, d0]) ⟨_, rfl, Below.refl _ _, by rintro t' ⟨⟩; rfl⟩
            | 13, ho =>
              obtain rfl := Option.some.inj ho
              have h4 := given_old hg 4 (by decide +kernel)
              obtain ⟨_, h21, rfl⟩ := given_fed hg 21 (by decide +kernel)
              clear hg
              exact st_yield ho (wanted_some rfl rfl h21 rfl) (.pointer (some ⟨g, 0, none⟩)) w6 (by simp [execOp, Act.eval, h4, go_sem]) ⟨_, rfl, Below.refl _ _, by rintro t' ⟨⟩; rfl⟩
            | 14, ho =>
              obtain rfl := Option.some.inj ho
              obtain ⟨_, h28, rfl⟩ := given_fed hg 28 (by decide +kernel)
              obtain ⟨_, h21, rfl⟩ := given_fed hg 21 (by decide +kernel)
              clear hg
              exact st_yield ho (wanted_some rfl rfl h21 rfl) (.string nm) w6 (by simp [execOp, Act.eval, h28, go_sem, x0]) ⟨_, rfl, Below.refl _ _, by rintro t' ⟨⟩; rfl⟩
            | 15, ho =>
              obtain rfl := Option.some.inj ho
              obtain ⟨_, h27, rfl⟩ := given_fed hg 27 (by decide +kernel)
              obtain ⟨_, h29, rfl⟩ := given_fed hg 29 (by decide +kernel)
              obtain ⟨_, h21, rfl⟩ := given_fed hg 21 (by decide +kernel)
              clear hg
              exact st_yield ho (wanted_some rfl rfl h21 rfl) (.bool (!r)) w6 (by simp [execOp, Act.eval, h27, h29, go_sem, hr]) ⟨_, rfl, Below.refl _ _, by rintro t' ⟨⟩; rfl⟩
            | 16, ho =>
              obtain rfl := Option.some.inj ho
              obtain ⟨_, h21, rfl⟩ := given_fed hg 21 (by decide +kernel)
              obtain ⟨_, h30, rfl⟩ := given_fed hg 30 (by decide +kernel)
              obtain ⟨_, h18, rfl⟩ := given_fed hg 18 (by decide +kernel)
              clear hg
              exact st_yield ho (wanted_some rfl rfl h18 rfl) (.bool (!r)) w6 (by simp [execOp, Act.eval, h21, h30, go_sem]) ⟨_, rfl, Below.refl _ _, by rintro t' ⟨⟩; rfl⟩
            | 17, ho =>
              obtain rfl := Option.some.inj ho
              obtain ⟨_, h18, rfl⟩ := given_fed hg 18 (by decide +kernel)
              obtain ⟨_, h31, rfl⟩ := given_fed hg 31 (by decide +kernel)
              clear hg
              exact st_yield ho (wanted_none rfl) (.bool (!r)) w6 (by simp [execOp, Act.eval, h18, h31, go_sem]) ⟨_, rfl, Below.refl _ _, by rintro t' ⟨⟩; rfl⟩
            | n + 18, ho => simp at ho
          · intro f w6 hb6 hv
            have h32 := hv 32 (by decide)
            simp only [VCm] at h32
            have hbc6 := HB.out.trans (hb6.mono HB.out.size)
            clear hv hb6 x0 x1 x2 x3 CM d0 Hix Hr
            unfold putAll
            simp only [List.foldl]
            simp only [h32]
            cases r with
            | true =>
              have hfk := Go.Lib.hid (hfk.out rfl)
              go_simp
              go_wp2_with fail
              go_roundw
              case rel => exact ⟨k + 1, by have := Hlt.out; omega, by go_num, hfk, hbc6⟩
              case measure => simp only [intOf]; have := Hlt.out; omega
            | false =>
              have hfz : Hid (mayL l = false) := hfn.out rfl
              clear hfn hfk
              go_simp
              go_wp2_with fail
              go_ret
              exact ⟨ret_bool hfz.out, hbc6⟩
      · rw [decide_eq_false hq] at CM
        have CMh := Go.Lib.hid CM; clear CM; have CM := CMh; clear CMh
        have hfn := Go.Lib.hid (Hno.out (fun h => hq (Hfit.out.1 h).1))
        clear Hprev Hlast Hno Hyes Hfit hq hfit hbc
        go_upto_region 6 with (fail)
        clear c0 c1 c2 c3
        generalize hg : wr.heap.size = g at *
        have pn := nm; have j := 0; have r := true
        refine wp_region_each (by kernel_rfl) (VAm g b o l.length cap k j pn nm en ea es r) (VAm_below g b o l.length cap k j pn nm en ea es r) (by decide +kernel) (by decide +kernel) (by rfl) [15, 16, 17, 18, 19, 20, 21, 22, 23, 24, 25, 26, 27, 28, 29, 30, 31, 32] (by rfl) ?_ ?_
        · intro i o ho a w6 hb6 hlen hg
          have x0 := keptC x0 hb6
          have x1 := keptC x1 hb6
          have x2 := keptC x2 hb6
          have x3 := keptC x3 hb6
          match i, ho with
          | 0, ho =>
            obtain rfl := Option.some.inj ho
            have h4 := given_old hg 4 (by decide +kernel)
            clear hg
            exact st_yield ho (wanted_none rfl) (.agg #[.string nm, .int .i64 en, .int .i64 ea, .int .i64 es]) w6 (by simp [execOp, Act.eval, h4, go_sem, x0, x1, x2, x3]) ⟨_, rfl, Below.refl _ _, by rintro t' ⟨⟩; rfl⟩
          | 1, ho =>
            obtain rfl := Option.some.inj ho
            obtain ⟨_, h15, rfl⟩ := given_fed hg 15 (by decide +kernel)
            clear hg
            exact st_enter (w1 := w6) ho (wanted_none rfl) 114 #[.agg #[.string nm, .int .i64 en, .int .i64 ea, .int .i64 es]] (by simp [execOp, Act.eval, h15, resolve, go_sem]) ((CM.out _).mono (by rintro e w7 ⟨rfl, hb7⟩; exact ⟨_, rfl, _, rfl, hb7, by rintro t' ⟨⟩; rfl⟩))
          | 2, ho =>
            obtain rfl := Option.some.inj ho
            obtain ⟨_, h16, rfl⟩ := given_fed hg 16 (by decide +kernel)
            clear hg
            exact st_yield ho (wanted_none rfl) (.bool true) w6 (by simp [execOp, Act.eval, h16, go_sem]) ⟨_, rfl, Below.refl _ _, by rintro t' ⟨⟩; rfl⟩
          | 3, ho =>
            obtain rfl := Option.some.inj ho
            obtain ⟨_, h17, rfl⟩ := given_fed hg 17 (by decide +kernel)
            clear hg
            exact st_yield ho (wanted_none rfl) (.bool true) w6 (by simp [execOp, Act.eval, h17, go_sem]) ⟨_, rfl, Below.refl _ _, by rintro t' ⟨⟩; rfl⟩
          | 4, ho =>
            obtain rfl := Option.some.inj ho
            obtain ⟨_, h18, rfl⟩ := given_fed hg 18 (by decide +kernel)
            clear hg
            exact st_skip ho (wanted_not rfl rfl h18 (by decide)) ⟨_, rfl, Below.refl _ _, by rintro t' ⟨⟩; rfl⟩
          | 5, ho =>
            obtain rfl := Option.some.inj ho
            obtain ⟨_, h18, rfl⟩ := given_fed hg 18 (by decide +kernel)
            clear hg
            exact st_skip ho (wanted_not rfl rfl h18 (by decide)) ⟨_, rfl, Below.refl _ _, by rintro t' ⟨⟩; rfl⟩
          | 6, ho =>
            obtain rfl := Option.some.inj ho
            obtain ⟨_, h18, rfl⟩ := given_fed hg 18 (by decide +kernel)
            clear hg
            exact st_skip ho (wanted_not rfl rfl h18 (by decide)) ⟨_, rfl, Below.refl _ _, by rintro t' ⟨⟩; rfl⟩
          | 7, ho =>
            obtain rfl := Option.some.inj ho
            obtain ⟨_, h21, rfl⟩ := given_fed hg 21 (by decide +kernel)
            clear hg
            exact st_skip ho (wanted_undef rfl rfl h21) ⟨_, rfl, Below.refl _ _, by rintro t' ⟨⟩; rfl⟩
          | 8, ho =>
            obtain rfl := Option.some.inj ho
            obtain ⟨_, h21, rfl⟩ := given_fed hg 21 (by decide +kernel)
            clear hg
            exact st_skip ho (wanted_undef rfl rfl h21) ⟨_, rfl, Below.refl _ _, by rintro t' ⟨⟩; rfl⟩
          | 9, ho =>
            obtain rfl := Option.some.inj ho
            obtain ⟨_, h21, rfl⟩ := given_fed hg 21 (by decide +kernel)
            clear hg
            exact st_skip ho (wanted_undef rfl rfl h21) ⟨_, rfl, Below.refl _ _, by rintro t' ⟨⟩; rfl⟩
          | 10, ho =>
            obtain rfl := Option.some.inj ho
            obtain ⟨_, h21, rfl⟩ := given_fed hg 21 (by decide +kernel)
            clear hg
            exact st_skip ho (wanted_undef rfl rfl h21) ⟨_, rfl, Below.refl _ _, by rintro t' ⟨⟩; rfl⟩
          | 11, ho =>
            obtain rfl := Option.some.inj ho
            obtain ⟨_, h21, rfl⟩ := given_fed hg 21 (by decide +kernel)
            clear hg
            exact st_skip ho (wanted_undef rfl rfl h21) ⟨_, rfl, Below.refl _ _, by rintro t' ⟨⟩; rfl⟩
          | 12, ho =>
            obtain rfl := Option.some.inj ho
            obtain ⟨_, h21, rfl⟩ := given_fed hg 21 (by decide +kernel)
            clear hg
            exact st_skip ho (wanted_undef rfl rfl h21) ⟨_, rfl, Below.refl _ _, by rintro t' ⟨⟩; rfl⟩
          | 13, ho =>
            obtain rfl := Option.some.inj ho
            obtain ⟨_, h21, rfl⟩ := given_fed hg 21 (by decide +kernel)
            clear hg
            exact st_skip ho (wanted_undef rfl rfl h21) ⟨_, rfl, Below.refl _ _, by rintro t' ⟨⟩; rfl⟩
          | 14, ho =>
            obtain rfl := Option.some.inj ho
            obtain ⟨_, h21, rfl⟩ := given_fed hg 21 (by decide +kernel)
            clear hg
            exact st_skip ho (wanted_undef rfl rfl h21) ⟨_, rfl, Below.refl _ _, by rintro t' ⟨⟩; rfl⟩
          | 15, ho =>
            obtain rfl := Option.some.inj ho
            obtain ⟨_, h21, rfl⟩ := given_fed hg 21 (by decide +kernel)
            clear hg
            exact st_skip ho (wanted_undef rfl rfl h21) ⟨_, rfl, Below.refl _ _, by rintro t' ⟨⟩; rfl⟩
          | 16, ho =>
            obtain rfl := Option.some.inj ho
            obtain ⟨_, h18, rfl⟩ := given_fed hg 18 (by decide +kernel)
            clear hg
            exact st_skip ho (wanted_not rfl rfl h18 (by decide)) ⟨_, rfl, Below.refl _ _, by rintro t' ⟨⟩; rfl⟩
          | 17, ho =>
            obtain rfl := Option.some.inj ho
            obtain ⟨_, h18, rfl⟩ := given_fed hg 18 (by decide +kernel)
            obtain ⟨_, h31, rfl⟩ := given_fed hg 31 (by decide +kernel)
            clear hg
            exact st_yield ho (wanted_none rfl) (.bool true) w6 (by simp [execOp, Act.eval, h18, h31, go_sem]) ⟨_, rfl, Below.refl _ _, by rintro t' ⟨⟩; rfl⟩
          | n + 18, ho => simp at ho
        · intro f w6 hb6 hv
          have h32 := hv 32 (by decide)
          simp only [VAm] at h32
          have hbc6 := HB.out.trans (hb6.mono HB.out.size)
          clear hv hb6 x0 x1 x2 x3 CM
          unfold putAll
          simp only [List.foldl]
          simp only [h32]
          go_simp
          go_wp2_with fail
          go_ret
          exact ⟨ret_bool hfn.out, hbc6⟩
    · obtain rfl : k = l.length := by omega
      have K := Go.Lib.hid (mayL_iff.2 (show MayL l from ⟨by have := HL.out; omega, hfit.out⟩))
      clear hfit hlt
      go_wp2_with fail
      go_ret
      exact ⟨ret_bool K.out, hbc⟩

end Go.Proofs.YtnalokjnbccjnaaGreatDoor
