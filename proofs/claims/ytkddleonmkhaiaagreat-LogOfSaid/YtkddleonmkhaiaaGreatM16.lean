/-
  slices.Sort of ints: the library's contract laid at this program (made by gen/SortI.py).
  A region whose order is open, whose operations read and make memory but change none that stands: one condition for each slot that it writes, kept whatever comes up between; each operation is shown once, not once for each order.
-/
import Derived.Shelf.SlGeneric
import Derived.Shelf.SortM.Plain
import Derived.Shelf.SortM.SortNone
import Derived.Ground.SlgmProg
import Derived.Test.YtkddleonmkhaiaaGreatProg
import Derived.Test.YtkddleonmkhaiaaGreatM01
import Derived.Orders
namespace Go.Proofs.YtkddleonmkhaiaaGreat
open Go.RowKit Go.Sort Go.Shelf
def sortIL_ren : Go.Shelf.Ren := ⟨fun | 5 => 58 | 8 => 70 | 7 => 69 | 19 => 84 | 20 => 85 | 10 => 75 | 11 => 76 | 12 => 77 | 13 => 78 | 14 => 79 | 15 => 80 | 16 => 81 | 17 => 82 | 18 => 83 | 30 => 89 | 31 => 90 | 32 => 91 | 33 => 92 | 34 => 93 | 35 => 94 | 40 => 105 | n => n, fun | 23 => 63 | 25 => 3 | 3 => 3 | 32 => 86 | 22 => 63 | 0 => 0 | 44 => 138 | 46 => 58 | 4 => 4 | 36 => 130 | 35 => 129 | 41 => 135 | 5 => 5 | 9 => 9 | 53 => 141 | 57 => 145 | 63 => 153 | 64 => 93 | n => n, fun | n => n⟩
theorem sortIL : Go.Proofs.SlLaysM.n5 Tryz.prog sortIL_ren := {
  mixed := by kernel_rfl
  f5 := ⟨Tryz.f58.name, by decide, Tryz.func58.trans (congrArg some (by kernel_rfl))⟩
  f7 := ⟨Tryz.f69.name, by decide, Tryz.func69.trans (congrArg some (by kernel_rfl))⟩
  f8 := Tryz.func70.trans (congrArg some (by kernel_rfl))
  f10 := ⟨Tryz.f75.name, by decide, Tryz.func75.trans (congrArg some (by kernel_rfl))⟩
  f11 := ⟨Tryz.f76.name, by decide, Tryz.func76.trans (congrArg some (by kernel_rfl))⟩
  f12 := ⟨Tryz.f77.name, by decide, Tryz.func77.trans (congrArg some (by kernel_rfl))⟩
  f13 := ⟨Tryz.f78.name, by decide, Tryz.func78.trans (congrArg some (by kernel_rfl))⟩
  f14 := ⟨Tryz.f79.name, by decide, Tryz.func79.trans (congrArg some (by kernel_rfl))⟩
  f15 := ⟨Tryz.f80.name, by decide, Tryz.func80.trans (congrArg some (by kernel_rfl))⟩
  f16 := ⟨Tryz.f81.name, by decide, Tryz.func81.trans (congrArg some (by kernel_rfl))⟩
  f17 := ⟨Tryz.f82.name, by decide, Tryz.func82.trans (congrArg some (by kernel_rfl))⟩
  f18 := ⟨Tryz.f83.name, by decide, Tryz.func83.trans (congrArg some (by kernel_rfl))⟩
  f19 := Tryz.func84.trans (congrArg some (by kernel_rfl))
  f20 := Tryz.func85.trans (congrArg some (by kernel_rfl))
  f30 := ⟨Tryz.f89.name, by decide, Tryz.func89.trans (congrArg some (by kernel_rfl))⟩
  f31 := Tryz.func90.trans (congrArg some (by kernel_rfl))
  f32 := Tryz.func91.trans (congrArg some (by kernel_rfl))
  f33 := ⟨Tryz.f92.name, by decide, Tryz.func92.trans (congrArg some (by kernel_rfl))⟩
  f34 := ⟨Tryz.f93.name, by decide, Tryz.func93.trans (congrArg some (by kernel_rfl))⟩
  f35 := ⟨Tryz.f94.name, by decide, Tryz.func94.trans (congrArg some (by kernel_rfl))⟩
  f40 := ⟨Tryz.f105.name, by decide, Tryz.func105.trans (congrArg some (by kernel_rfl))⟩
  t0 := Tryz.underlying0
  a0 := Tryz.isAgg0
  z0 := Tryz.sizeOf0
  v0 := Tryz.zeroValue0
  t3 := Tryz.underlying3
  a3 := Tryz.isAgg3
  z3 := Tryz.sizeOf3
  v3 := Tryz.zeroValue3
  t4 := Tryz.underlying4
  a4 := Tryz.isAgg4
  z4 := Tryz.sizeOf4
  v4 := Tryz.zeroValue4
  t5 := Tryz.underlying5
  a5 := Tryz.isAgg5
  z5 := Tryz.sizeOf5
  v5 := Tryz.zeroValue5
  t9 := Tryz.underlying9
  a9 := Tryz.isAgg9
  z9 := Tryz.sizeOf9
  v9 := Tryz.zeroValue9
  t22 := Tryz.underlying63
  a22 := Tryz.isAgg63
  z22 := Tryz.sizeOf63
  v22 := Tryz.zeroValue63
  t23 := Tryz.underlying63
  a23 := Tryz.isAgg63
  z23 := Tryz.sizeOf63
  v23 := Tryz.zeroValue63
  t25 := Tryz.underlying3
  a25 := Tryz.isAgg3
  z25 := Tryz.sizeOf3
  v25 := Tryz.zeroValue3
  t32 := Tryz.underlying86
  a32 := Tryz.isAgg86
  z32 := Tryz.sizeOf86
  v32 := Tryz.zeroValue86
  t35 := Tryz.underlying129
  a35 := Tryz.isAgg129
  z35 := Tryz.sizeOf129
  v35 := Tryz.zeroValue129
  t36 := Tryz.underlying130
  a36 := Tryz.isAgg130
  z36 := Tryz.sizeOf130
  v36 := Tryz.zeroValue130
  t41 := Tryz.underlying135
  a41 := Tryz.isAgg135
  z41 := Tryz.sizeOf135
  v41 := Tryz.zeroValue135
  t44 := Tryz.underlying138
  a44 := Tryz.isAgg138
  z44 := Tryz.sizeOf138
  v44 := Tryz.zeroValue138
  t46 := Tryz.underlying58
  a46 := Tryz.isAgg58
  z46 := Tryz.sizeOf58
  v46 := Tryz.zeroValue58
  t53 := Tryz.underlying141
  a53 := Tryz.isAgg141
  z53 := Tryz.sizeOf141
  v53 := Tryz.zeroValue141
  t57 := Tryz.underlying145
  a57 := Tryz.isAgg145
  z57 := Tryz.sizeOf145
  v57 := Tryz.zeroValue145
  t63 := Tryz.underlying153
  a63 := Tryz.isAgg153
  z63 := Tryz.sizeOf153
  v63 := Tryz.zeroValue153
  t64 := Tryz.underlying93
  a64 := Tryz.isAgg93
  z64 := Tryz.sizeOf93
  v64 := Tryz.zeroValue93 }

end Go.Proofs.YtkddleonmkhaiaaGreat

namespace Go.Proofs.YtkddleonmkhaiaaGreat
open Go.RowKit

/-- Has slot t been written ahead of operation o, by one that o waits for? -/
def fedB (ops : Array Oper) (o : Oper) (t : Nat) : Bool :=
  o.after.any fun e => Region.binds .any e && (match ops[e.on]? with | some p => p.dst == some t | none => false)
/-- Does whoever writes t wait for operation i? -/
def lateB (ops : Array Oper) (i t : Nat) : Bool :=
  (List.range ops.size).all fun j => match ops[j]? with
    | some p => p.dst != some t || (p.after.any fun e => Region.binds .any e && e.on == i)
    | none => true
/-- Each slot that an operation looks at is written ahead of it, or behind it. -/
def tidyB (ops : Array Oper) : Bool :=
  (List.range ops.size).all fun i => match ops[i]? with
    | some o => (o.looksAt ops).all fun t => fedB ops o t || lateB ops i t
    | none => true

/-- Each operation waits for earlier ones alone. -/
def lowB (ops : Array Oper) : Bool :=
  (List.range ops.size).all fun i => match ops[i]? with
    | some o => o.after.all fun e => !Region.binds .any e || decide (e.on < i)
    | none => true

theorem countP_lt {p q : Nat → Bool} {i : Nat} : ∀ {l : List Nat}, (∀ j ∈ l, q j = true → p j = true) → i ∈ l → p i = true → q i = false → l.countP q < l.countP p
  | [], _, hi, _, _ => by cases hi
  | x :: l, hpq, hi, hp, hq => by
    have hle : l.countP q ≤ l.countP p := List.countP_mono_left fun j hj => hpq j (List.mem_cons_of_mem _ hj)
    rcases List.mem_cons.1 hi with rfl | hi'
    · rw [List.countP_cons_of_pos hp, List.countP_cons_of_neg (by simp [hq])]
      omega
    · have ih := countP_lt (fun j hj => hpq j (List.mem_cons_of_mem _ hj)) hi' hp hq
      rw [List.countP_cons, List.countP_cons]
      have hx := hpq x (by simp)
      cases hqx : q x with
      | false => simp only [Bool.false_eq_true, if_false]; omega
      | true => simp only [hx hqx, if_true]; omega

theorem listed_all {ops : Array Oper} (hlow : lowB ops = true) {listed : Array Bool} (hs : listed.size = ops.size) (hr : Region.ready .any ops listed = []) :
    ∀ (i : Nat) (o : Oper), ops[i]? = some o → listed.getD i false = true := by
  intro i
  induction i using Nat.strongRecOn with
  | ind i ih =>
    intro o ho
    have hi : i < ops.size := (Array.getElem?_eq_some_iff.1 ho).1
    have hil : i < listed.size := by rw [hs]; exact hi
    cases hl : listed.getD i false with
    | true => rfl
    | false =>
      have hmem : i ∈ Region.ready .any ops listed := by
        rw [mem_ready]
        refine ⟨by simp [hil] at hl ⊢; exact hl, o, ho, fun e he hb => ?_⟩
        unfold lowB at hlow
        rw [List.all_eq_true] at hlow
        have h1 := hlow i (by rw [List.mem_range]; exact hi)
        rw [ho] at h1
        simp only [Array.all_eq_true] at h1
        obtain ⟨k, hk, rfl⟩ := Array.mem_iff_getElem.1 he
        have h2 := h1 k hk
        rw [hb] at h2
        have hlt : (o.after[k]).on < i := by simpa using h2
        have hlt' : (o.after[k]).on < ops.size := by omega
        exact ih _ hlt ops[(o.after[k]).on] (by simp [hlt'])
      rw [hr] at hmem
      cases hmem

section
variable {P : Program} {ops : Array Oper} {Q : Exit → Act → World → Prop}

/-- What is kept while the region goes on. -/
structure Held (ops : Array Oper) (V : Nat → World → Value → Prop) (a0 : Act) (w0 : World) (listed : Array Bool) (a : Act) (w : World) : Prop where
  size : listed.size = ops.size
  below : Below w0.heap.size w0 w
  defers : a.defers = a0.defers
  len : a.tmps.size = a0.tmps.size
  old : ∀ t : Nat, (∀ (i : Nat) (o : Oper), ops[i]? = some o → o.dst = some t → listed.getD i false = false) → a.tmps[t]? = a0.tmps[t]?
  new : ∀ (i : Nat) (o : Oper) (t : Nat), ops[i]? = some o → o.dst = some t → listed.getD i false = true → ∃ v, a.tmps[t]? = some v ∧ V t w v
  shut : ∀ (i : Nat) (o : Oper), ops[i]? = some o → listed.getD i false = true → ∀ e ∈ o.after, Region.binds .any e = true → listed.getD e.on false = true

/-- What operation o may take as given: the slots that it looks at. -/
def Given (ops : Array Oper) (V : Nat → World → Value → Prop) (a0 : Act) (o : Oper) (a : Act) (w : World) : Prop :=
  ∀ t ∈ o.looksAt ops, (fedB ops o t = true → ∃ v, a.tmps[t]? = some v ∧ V t w v) ∧ (fedB ops o t = false → a.tmps[t]? = a0.tmps[t]?)

theorem getD_false_of {l : Array Bool} {i : Nat} (h : i < l.size) (h1 : l.getD i true = false) : l.getD i false = false := by
  simp [h] at h1 ⊢; exact h1

theorem wp_region_kept {id : Nat} {a0 : Act} {w0 : World} (hm : P.follows .mixedOrders = true) (V : Nat → World → Value → Prop)
    (hV : ∀ t w w' v, V t w v → Below w.heap.size w w' → V t w' v) (htidy : tidyB ops = true) (hdst : ∀ (i : Nat) (o : Oper), ops[i]? = some o → ∃ t : Nat, o.dst = some t ∧ t < a0.tmps.size)
    (hstep : ∀ (i : Nat) (o : Oper), ops[i]? = some o → ∀ (a : Act) (w : World), Below w0.heap.size w0 w → a.tmps.size = a0.tmps.size → Given ops V a0 o a w →
      wpOp P ops Q i (fun a' w' => ∃ v, a' = a.put o.dst v ∧ Below w.heap.size w w' ∧ ∀ t, o.dst = some t → V t w' v) a w)
    (hend : ∀ (a : Act) (w : World), Below w0.heap.size w0 w → a.defers = a0.defers → a.tmps.size = a0.tmps.size → (∀ t : Nat, (∀ (i : Nat) (o : Oper), ops[i]? = some o → o.dst ≠ some t) → a.tmps[t]? = a0.tmps[t]?) →
      (∀ (i : Nat) (o : Oper) (t : Nat), ops[i]? = some o → o.dst = some t → ∃ v, a.tmps[t]? = some v ∧ V t w v) → Q .normal a w)
    (hlow : lowB ops = true) :
    (Code.region id ops true).wp P Q a0 w0 := by
  refine wp_region_any hm ?_
  have hfin : ∀ (listed : Array Bool) (a : Act) (w : World), Held ops V a0 w0 listed a w → Region.ready .any ops listed = [] → Q .normal a w := fun listed a w h hr =>
    hend a w h.below h.defers h.len (fun t ht => h.old t fun i o hi hd => absurd hd (ht i o hi)) fun i o t hi hd => h.new i o t hi hd (listed_all hlow h.size hr i o hi)
  have key : ∀ (fuel : Nat) (listed : Array Bool) (a : Act) (w : World), Held ops V a0 w0 listed a w →
      (List.range ops.size).countP (fun j => !listed.getD j true) ≤ fuel → wpAny P .any ops Q fuel listed a w := by
    intro fuel
    induction fuel with
    | zero =>
      intro listed a w h hcount
      have hr : Region.ready .any ops listed = [] := by
        cases hrr : Region.ready .any ops listed with
        | nil => rfl
        | cons x xs =>
          have hx : x ∈ Region.ready .any ops listed := by rw [hrr]; simp
          obtain ⟨hun, o, ho, -⟩ := mem_ready.1 hx
          have : 0 < (List.range ops.size).countP (fun j => !listed.getD j true) := List.countP_pos_iff.2 ⟨x, by rw [List.mem_range]; exact (Array.getElem?_eq_some_iff.1 ho).1, by rw [hun]; rfl⟩
          omega
      exact ⟨hr, hfin _ _ _ h hr⟩
    | succ fuel ih =>
      intro listed a w h hcount
      refine ⟨fun hr => hfin _ _ _ h hr, fun i hi => ?_⟩
      obtain ⟨hun, o, ho, hall⟩ := mem_ready.1 hi
      have hil : i < listed.size := by
        rw [h.size]
        exact (Array.getElem?_eq_some_iff.1 ho).1
      have hunf := getD_false_of hil hun
      have hgiven : Given ops V a0 o a w := by
        intro t ht
        refine ⟨fun hf => ?_, fun hf => ?_⟩
        · unfold fedB at hf
          rw [Array.any_eq_true] at hf
          obtain ⟨k, hk, hke⟩ := hf
          simp only [Bool.and_eq_true] at hke
          obtain ⟨hb, hw⟩ := hke
          have hl := hall o.after[k] (Array.getElem_mem hk) hb
          cases hp : ops[(o.after[k]).on]? with
          | none => rw [hp] at hw; cases hw
          | some p =>
            rw [hp] at hw
            exact h.new _ p t hp (by simpa using hw) hl
        · refine h.old t fun j p hj hd => ?_
          have hti := htidy
          unfold tidyB at hti
          rw [List.all_eq_true] at hti
          have h1 := hti i (by rw [List.mem_range]; exact (Array.getElem?_eq_some_iff.1 ho).1)
          rw [ho] at h1
          simp only [List.all_eq_true] at h1
          have h2 := h1 t ht
          rw [hf, Bool.false_or] at h2
          unfold lateB at h2
          rw [List.all_eq_true] at h2
          have h3 := h2 j (by rw [List.mem_range]; exact (Array.getElem?_eq_some_iff.1 hj).1)
          rw [hj] at h3
          simp only [hd, bne_self_eq_false, Bool.false_or, Array.any_eq_true, Bool.and_eq_true] at h3
          obtain ⟨k, hk, hb, hon⟩ := h3
          cases hlj : listed.getD j false with
          | false => rfl
          | true =>
            have := h.shut j p hj hlj p.after[k] (Array.getElem_mem hk) hb
            rw [show (p.after[k]).on = i from by simpa using hon, hunf] at this
            cases this
      refine wpOp_mono ?_ (hstep i o ho a w h.below h.len hgiven)
      rintro a' w' ⟨v, rfl, hb, hv⟩
      obtain ⟨d, hd, hdl⟩ := hdst i o ho
      have hset : ∀ j, (listed.setIfInBounds i true).getD j false = if j = i then true else listed.getD j false := by
        intro j
        by_cases hji : j = i
        · subst hji; simp [hil]
        · simp [hji, Array.getElem?_setIfInBounds_ne (Ne.symm hji), Array.getD_eq_getD_getElem?]
      refine ih _ _ _ ⟨by simpa using h.size, h.below.trans (hb.mono h.below.size), ?_, ?_, ?_, ?_, ?_⟩ ?_
      · rw [hd]; exact h.defers
      · rw [hd]; simp [Act.put, h.len]
      · intro t ht
        have hdt : d ≠ t := by
          intro e
          subst e
          have := ht i o ho hd
          rw [hset, if_pos rfl] at this
          cases this
        rw [hd]
        simp only [Act.put]
        rw [Array.getElem?_setIfInBounds_ne hdt]
        refine h.old t fun j p hj hdj => ?_
        have := ht j p hj hdj
        rw [hset] at this
        split at this
        · cases this
        · exact this
      · intro j p t hj hdj hlj
        rw [hd]
        simp only [Act.put]
        by_cases hdt : d = t
        · subst hdt
          have : d < a.tmps.size := by rw [h.len]; exact hdl
          exact ⟨v, by simp [this], hv d hd⟩
        · rw [Array.getElem?_setIfInBounds_ne hdt]
          rw [hset] at hlj
          split at hlj
          · rename_i hji
            subst hji
            rw [ho] at hj
            cases hj
            rw [hd] at hdj
            exact absurd (Option.some.inj hdj) hdt
          · obtain ⟨u, hu, hVu⟩ := h.new j p t hj hdj hlj
            exact ⟨u, hu, hV _ _ _ _ hVu hb⟩
      · intro j p hj hlj e he hbe
        rw [hset] at hlj ⊢
        split
        · rfl
        · split at hlj
          · rename_i hji
            subst hji
            rw [ho] at hj
            cases hj
            exact hall e he hbe
          · exact h.shut j p hj hlj e he hbe
      · have : (List.range ops.size).countP (fun j => !(listed.setIfInBounds i true).getD j true) < (List.range ops.size).countP (fun j => !listed.getD j true) := by
          refine countP_lt (i := i) (fun j hj hq => ?_) (by rw [List.mem_range, ← h.size]; exact hil) (by rw [hun]; rfl) (by simp [hil])
          by_cases hji : j = i
          · subst hji; rw [hun]; rfl
          · simp only [Array.getD_eq_getD_getElem?] at hq ⊢
            rwa [Array.getElem?_setIfInBounds_ne (Ne.symm hji)] at hq
        omega
  refine key ops.size _ _ _ ⟨by simp, ⟨rfl, rfl, rfl, Nat.le_refl _, fun _ _ => rfl⟩, rfl, rfl, fun _ _ => rfl, fun i o t hi _ hl => ?_, fun i o hi hl => ?_⟩ ?_
  · rw [Array.getD_eq_getD_getElem?, Array.getElem?_replicate] at hl
    split at hl <;> cases hl
  · rw [Array.getD_eq_getD_getElem?, Array.getElem?_replicate] at hl
    split at hl <;> cases hl
  · exact Nat.le_trans List.countP_le_length (by simp)

/-- The frame behind the region. -/
def putAll (a0 : Act) (f : Nat → Value) (l : List Nat) : Act := l.foldl (fun b t => b.put (some t) (f t)) a0

theorem putAll_tmps (f : Nat → Value) : ∀ (l : List Nat) (a0 : Act) (t : Nat), (putAll a0 f l).tmps[t]? = if t ∈ l ∧ t < a0.tmps.size then some (f t) else a0.tmps[t]?
  | [], a0, t => by simp [putAll]
  | x :: l, a0, t => by
    have ih := putAll_tmps f l (a0.put (some x) (f x)) t
    unfold putAll at ih ⊢
    rw [List.foldl_cons, ih]
    simp only [Act.put, Array.size_setIfInBounds, List.mem_cons]
    by_cases hxt : x = t
    · subst hxt
      by_cases hs : x < a0.tmps.size
      · by_cases hm : x ∈ l <;> simp [hm, hs]
      · simp [hs]
    · rw [Array.getElem?_setIfInBounds_ne hxt]
      simp [Ne.symm hxt]

theorem putAll_size (f : Nat → Value) : ∀ (l : List Nat) (a0 : Act), (putAll a0 f l).tmps.size = a0.tmps.size ∧ (putAll a0 f l).defers = a0.defers
  | [], a0 => ⟨rfl, rfl⟩
  | x :: l, a0 => by
    have ih := putAll_size f l (a0.put (some x) (f x))
    unfold putAll at ih ⊢
    rw [List.foldl_cons]
    exact ⟨ih.1.trans (by simp [Act.put]), ih.2.trans rfl⟩

/-- The slots that the region writes. -/
def dsts (ops : Array Oper) : List Nat := ops.toList.filterMap (·.dst)

theorem wp_region_each {id : Nat} {a0 : Act} {w0 : World} (hm : P.follows .mixedOrders = true) (V : Nat → World → Value → Prop)
    (hV : ∀ t w w' v, V t w v → Below w.heap.size w w' → V t w' v) (htidy : tidyB ops = true) (hlow : lowB ops = true) (hdst : (ops.toList.all fun o => match o.dst with | some t => decide (t < a0.tmps.size) | none => false) = true)
    (l : List Nat) (hl : dsts ops = l)
    (hstep : ∀ (i : Nat) (o : Oper), ops[i]? = some o → ∀ (a : Act) (w : World), Below w0.heap.size w0 w → a.tmps.size = a0.tmps.size → Given ops V a0 o a w →
      wpOp P ops Q i (fun a' w' => ∃ v, a' = a.put o.dst v ∧ Below w.heap.size w w' ∧ ∀ t, o.dst = some t → V t w' v) a w)
    (hend : ∀ (f : Nat → Value) (w : World), Below w0.heap.size w0 w → (∀ t, t ∈ l → V t w (f t)) → Q .normal (putAll a0 f l) w) :
    (Code.region id ops true).wp P Q a0 w0 := by
  have hd : ∀ (i : Nat) (o : Oper), ops[i]? = some o → ∃ t : Nat, o.dst = some t ∧ t < a0.tmps.size := by
    intro i o ho
    rw [List.all_eq_true] at hdst
    have h1 := hdst o (by obtain ⟨h, rfl⟩ := Array.getElem?_eq_some_iff.1 ho; simp)
    cases hod : o.dst with
    | none => rw [hod] at h1; cases h1
    | some t => rw [hod] at h1; exact ⟨t, rfl, of_decide_eq_true h1⟩
  have hmem : ∀ t, t ∈ l ↔ ∃ (i : Nat) (o : Oper), ops[i]? = some o ∧ o.dst = some t := by
    intro t
    rw [← hl, dsts, List.mem_filterMap]
    constructor
    · rintro ⟨o, ho, hot⟩
      obtain ⟨i, hi, rfl⟩ := List.mem_iff_getElem.1 ho
      have hi' : i < ops.size := by simpa using hi
      exact ⟨i, ops[i], by simp [hi'], by simpa using hot⟩
    · rintro ⟨i, o, ho, hot⟩
      obtain ⟨h, rfl⟩ := Array.getElem?_eq_some_iff.1 ho
      exact ⟨ops[i], by simp, hot⟩
  refine wp_region_kept hm V hV htidy hd hstep ?_ hlow
  intro a w hb hdef hlen hold hnew
  have hf : ∀ t, t ∈ l → ∃ v, a.tmps[t]? = some v ∧ V t w v := fun t ht => by
    obtain ⟨i, o, ho, hot⟩ := (hmem t).1 ht
    exact hnew i o t ho hot
  have ha : a = putAll a0 (fun t => a.tmps.getD t undef) l := by
    obtain ⟨tm, df⟩ := a
    obtain ⟨h1, h2⟩ := putAll_size (fun t => tm.getD t undef) l a0
    have h3 : tm = (putAll a0 (fun t => tm.getD t undef) l).tmps := by
      apply Array.ext_getElem?
      intro t
      rw [putAll_tmps]
      by_cases ht : t ∈ l
      · obtain ⟨v, hv, -⟩ := hf t ht
        simp only [] at hv
        have hts : t < a0.tmps.size := by rw [← hlen]; exact (Array.getElem?_eq_some_iff.1 hv).1
        rw [if_pos ⟨ht, hts⟩, Array.getD_eq_getD_getElem?, hv]
        rfl
      · rw [if_neg (fun h => ht h.1)]
        exact hold t fun i o ho hot => ht ((hmem t).2 ⟨i, o, ho, hot⟩)
    have h4 : df = (putAll a0 (fun t => tm.getD t undef) l).defers := by rw [h2]; exact hdef
    calc (⟨tm, df⟩ : Act) = ⟨(putAll a0 (fun t => tm.getD t undef) l).tmps, (putAll a0 (fun t => tm.getD t undef) l).defers⟩ := by rw [← h3, ← h4]
      _ = _ := rfl
  rw [ha]
  refine hend _ w hb fun t ht => ?_
  obtain ⟨v, hv, hVv⟩ := hf t ht
  rw [Array.getD_eq_getD_getElem?, hv]
  exact hVv

theorem st_yield {K : Act → World → Prop} {i : Nat} {o : Oper} {a : Act} {w : World} (ho : ops[i]? = some o) (hw : Region.wanted o (yielded ops a.tmps) = true) (v : Value) (w' : World)
    (hrun : (execOp a.eval o).run P w = .ok (.value v) w') (h : K (a.put o.dst v) w') : wpOp P ops Q i K a w := by
  unfold wpOp
  rw [ho]
  simp only [hw, if_true]
  refine .inl ?_
  unfold Oper.wp
  rw [hrun, Oper.upon_value]
  exact h

theorem st_enter {K : Act → World → Prop} {i : Nat} {o : Oper} {a : Act} {w w1 : World} (ho : ops[i]? = some o) (hw : Region.wanted o (yielded ops a.tmps) = true) (f : FuncId) (args : Array Value)
    (hrun : (execOp a.eval o).run P w = .ok (.enter f args) w1) (h : Calls P f args w1 fun e w' => ∃ v, e = .returned v ∧ K (a.put o.dst v) w') : wpOp P ops Q i K a w := by
  unfold wpOp
  rw [ho]
  simp only [hw, if_true]
  refine .inl ?_
  unfold Oper.wp
  rw [hrun, Oper.upon_enter]
  refine h.mono ?_
  rintro e w' ⟨v, rfl, hk⟩
  exact hk

theorem st_skip {K : Act → World → Prop} {i : Nat} {o : Oper} {a : Act} {w : World} (ho : ops[i]? = some o) (hw : Region.wanted o (yielded ops a.tmps) = false) (h : K (a.put o.dst undef) w) : wpOp P ops Q i K a w := by
  unfold wpOp
  rw [ho]
  simp only [hw, Bool.false_eq_true, if_false]
  exact h

theorem given_fed {V : Nat → World → Value → Prop} {a0 : Act} {o : Oper} {a : Act} {w : World} (hg : Given ops V a0 o a w) (t : Nat) (h : ((o.looksAt ops).contains t && fedB ops o t) = true) : ∃ v, a.tmps[t]? = some v ∧ V t w v := by
  rw [Bool.and_eq_true, List.contains_iff_mem] at h
  exact (hg t h.1).1 h.2
theorem given_old {V : Nat → World → Value → Prop} {a0 : Act} {o : Oper} {a : Act} {w : World} (hg : Given ops V a0 o a w) (t : Nat) (h : ((o.looksAt ops).contains t && !fedB ops o t) = true) : a.tmps[t]? = a0.tmps[t]? := by
  rw [Bool.and_eq_true, List.contains_iff_mem, Bool.not_eq_true'] at h
  exact (hg t h.1).2 h.2
theorem wanted_none {o : Oper} {y : Nat → Option Bool} (h : o.guard = none) : Region.wanted o y = true := by simp [Region.wanted, h]
theorem wanted_some {o : Oper} {tmps : Array Value} {g : Nat} {p b : Bool} {t : Nat} (h : o.guard = some (g, p)) (hp : (ops[g]?).bind (·.dst) = some t) (hv : tmps[t]? = some (.bool b)) (hb : b = p) : Region.wanted o (yielded ops tmps) = true := by
  subst hb
  simp [Region.wanted, h, yielded, hp, hv]
theorem wanted_undef {o : Oper} {tmps : Array Value} {g : Nat} {p : Bool} {t : Nat} (h : o.guard = some (g, p)) (hp : (ops[g]?).bind (·.dst) = some t) (hv : tmps[t]? = some undef) : Region.wanted o (yielded ops tmps) = false := by
  simp [Region.wanted, h, yielded, hp, hv, undef]
theorem wanted_not {o : Oper} {tmps : Array Value} {g : Nat} {p b : Bool} {t : Nat} (h : o.guard = some (g, p)) (hp : (ops[g]?).bind (·.dst) = some t) (hv : tmps[t]? = some (.bool b)) (hb : b ≠ p) : Region.wanted o (yielded ops tmps) = false := by
  simp [Region.wanted, h, yielded, hp, hv, hb]

end

end Go.Proofs.YtkddleonmkhaiaaGreat
