/-
  A region whose order is open at its beginning alone: the first n operations come in some order and change nothing that stands (see XDraw); behind them the others come one by one: what is left is their list.
  Stage 17: slices.Sort of ints that the call made; Find.
-/
import Derived.Test.YtkddleonmkhaiaaGreatM16
import Derived.Test.YtkddleonmkhaiaaGreatM15
import Derived.Sort.OwnSortedInts
namespace Go.Proofs.YtkddleonmkhaiaaGreat
open Go.RowKit

/-- Each slot that one of the first n looks at is written ahead of it, or behind it. -/
def tidyN (ops : Array Oper) (n : Nat) : Bool :=
  (List.range n).all fun i => match ops[i]? with
    | some o => (o.looksAt ops).all fun t => fedB ops o t || lateB ops i t
    | none => true
/-- Behind the first n each waits for the one ahead. -/
def chainN (ops : Array Oper) (n : Nat) : Bool :=
  (List.range ops.size).all fun i => decide (i ≤ n) || (match ops[i]? with | some o => o.after.any fun e => Region.binds .any e && e.on == i - 1 | none => true)
def edges (ops : Array Oper) (i : Nat) : List Nat := match ops[i]? with | some o => (o.after.toList.filter (Region.binds .any ·)).map (·.on) | none => []
def reach (ops : Array Oper) : Nat → List Nat → List Nat
  | 0, m => m
  | k + 1, m => reach ops k (if m.contains k then m ++ edges ops k else m)
/-- Operation n waits for all ahead of it. -/
def waitN (ops : Array Oper) (n : Nat) : Bool := (List.range n).all fun j => (reach ops n (edges ops n)).contains j

theorem edges_mem {ops : Array Oper} {i : Nat} {o : Oper} (ho : ops[i]? = some o) {j : Nat} (hj : j ∈ edges ops i) : ∃ e ∈ o.after, Region.binds .any e = true ∧ e.on = j := by
  unfold edges at hj
  rw [ho] at hj
  obtain ⟨e, he, rfl⟩ := List.mem_map.1 hj
  rw [List.mem_filter] at he
  exact ⟨e, by simpa using he.1, he.2, rfl⟩

theorem reach_listed {ops : Array Oper} {listed : Array Bool} (hshut : ∀ (i : Nat) (o : Oper), ops[i]? = some o → listed.getD i false = true → ∀ e ∈ o.after, Region.binds .any e = true → listed.getD e.on false = true) :
    ∀ (k : Nat) (m : List Nat), (∀ j ∈ m, listed.getD j false = true) → ∀ j ∈ reach ops k m, listed.getD j false = true
  | 0, m, hm, j, hj => hm j hj
  | k + 1, m, hm, j, hj => by
    refine reach_listed hshut k _ ?_ j hj
    intro x hx
    split at hx
    · rename_i hk
      rcases List.mem_append.1 hx with h | h
      · exact hm x h
      · rw [List.contains_iff_mem] at hk
        cases ho : ops[k]? with
        | none => unfold edges at h; rw [ho] at h; cases h
        | some o =>
          obtain ⟨e, he, hb, rfl⟩ := edges_mem ho h
          exact hshut k o ho (hm k hk) e he hb
    · exact hm x hx

section
variable {P : Program} {ops : Array Oper} {Q : Exit → Act → World → Prop}

theorem wpAny_more : ∀ (fuel : Nat) (listed : Array Bool) (a : Act) (w : World), wpAny P .any ops Q fuel listed a w → wpAny P .any ops Q (fuel + 1) listed a w
  | 0, listed, a, w, h => ⟨fun _ => h.2, fun i hi => by rw [h.1] at hi; cases hi⟩
  | fuel + 1, listed, a, w, h => ⟨h.1, fun i hi => wpOp_mono (fun a' w' h' => wpAny_more fuel _ a' w' h') (h.2 i hi)⟩
theorem wpAny_le {fuel fuel' : Nat} (hle : fuel ≤ fuel') {listed : Array Bool} {a : Act} {w : World} (h : wpAny P .any ops Q fuel listed a w) : wpAny P .any ops Q fuel' listed a w := by
  induction hle with
  | refl => exact h
  | step _ ih => exact wpAny_more _ _ _ _ ih

theorem tail_list {n : Nat} (hlow : lowB ops = true) (hchain : chainN ops n = true) : ∀ (k m : Nat) (listed : Array Bool) (a : Act) (w : World), n ≤ m → m + k = ops.size → listed.size = ops.size → (∀ i, i < ops.size → listed.getD i false = decide (i < m)) →
    wpList P ops Q (ops.toList.drop m) a w → wpAny P .any ops Q k listed a w := by
  have hd : ∀ (l : Array Bool) (i : Nat), i < l.size → l.getD i true = l.getD i false := by intro l i hi; simp [hi]
  intro k
  induction k with
  | zero =>
    intro m listed a w hnm hmk hsize hl hq
    rw [List.drop_of_length_le (by rw [Array.length_toList]; omega)] at hq
    refine ⟨?_, hq⟩
    cases hr : Region.ready .any ops listed with
    | nil => rfl
    | cons x xs =>
      obtain ⟨hun, o, ho, -⟩ := mem_ready.1 (show x ∈ Region.ready .any ops listed by rw [hr]; simp)
      have hx : x < ops.size := (Array.getElem?_eq_some_iff.1 ho).1
      rw [hd _ _ (by omega), hl x hx] at hun
      simp at hun
      omega
  | succ k ih =>
    intro m listed a w hnm hmk hsize hl hq
    have hm : m < ops.size := by omega
    have hom : ops[m]? = some ops[m] := by simp [hm]
    have hready : m ∈ Region.ready .any ops listed := by
      rw [mem_ready]
      refine ⟨by rw [hd _ _ (by omega), hl m hm]; simp, ops[m], hom, fun e he hb => ?_⟩
      have h1 := hlow
      unfold lowB at h1
      rw [List.all_eq_true] at h1
      have h2 := h1 m (by rw [List.mem_range]; exact hm)
      rw [hom] at h2
      simp only [Array.all_eq_true] at h2
      obtain ⟨j, hj, rfl⟩ := Array.mem_iff_getElem.1 he
      have h3 := h2 j hj
      rw [hb] at h3
      have hlt : (ops[m].after[j]).on < m := by simpa using h3
      rw [hl _ (by omega)]
      simpa using hlt
    refine ⟨fun hr => (by rw [hr] at hready; cases hready), fun i hi => ?_⟩
    obtain ⟨hun, o, ho, hall⟩ := mem_ready.1 hi
    have hi' : i < ops.size := (Array.getElem?_eq_some_iff.1 ho).1
    rw [hd _ _ (by omega), hl i hi'] at hun
    have him : m ≤ i := by simpa using hun
    have hie : i = m := by
      rcases Nat.lt_or_ge m i with hlt | hge
      · exfalso
        have h1 := hchain
        unfold chainN at h1
        rw [List.all_eq_true] at h1
        have h2 := h1 i (by rw [List.mem_range]; exact hi')
        rw [ho] at h2
        simp only [Bool.or_eq_true, decide_eq_true_eq, Array.any_eq_true, Bool.and_eq_true, beq_iff_eq] at h2
        rcases h2 with h2 | ⟨j, hj, hb, hon⟩
        · omega
        · have h3 := hall _ (Array.getElem_mem hj) hb
          rw [hon, hl _ (by omega)] at h3
          simp at h3
          omega
      · omega
    subst hie
    have hdrop : ops.toList.drop i = ops[i] :: ops.toList.drop (i + 1) := by
      rw [List.drop_eq_getElem_cons (by rw [Array.length_toList]; exact hi')]
      simp
    rw [hdrop] at hq
    have hset : ∀ j, j < ops.size → (listed.setIfInBounds i true).getD j false = decide (j < i + 1) := by
      intro j hj
      by_cases hji : j = i
      · subst hji; simp [hsize, hj]
      · have : (listed.setIfInBounds i true).getD j false = listed.getD j false := by simp [Array.getElem?_setIfInBounds_ne (Ne.symm hji), Array.getD_eq_getD_getElem?]
        rw [this, hl j hj]
        simp
        omega
    have hK : ∀ a' w', wpList P ops Q (ops.toList.drop (i + 1)) a' w' → wpAny P .any ops Q k (listed.setIfInBounds i true) a' w' := fun a' w' h => ih (i + 1) _ a' w' (by omega) (by omega) (by simp [hsize]) hset h
    refine wpOp_mono hK ?_
    unfold wpOp
    rw [hom]
    exact hq

theorem wp_region_kept_head {id : Nat} {a0 : Act} {w0 : World} (n : Nat) (hn : n ≤ ops.size) (hm : P.follows .mixedOrders = true) (V : Nat → World → Value → Prop)
    (hV : ∀ t w w' v, V t w v → Below w.heap.size w w' → V t w' v) (htidy : tidyN ops n = true) (hdst : ∀ (i : Nat) (o : Oper), i < n → ops[i]? = some o → ∃ t : Nat, o.dst = some t ∧ t < a0.tmps.size)
    (hstep : ∀ (i : Nat) (o : Oper), i < n → ops[i]? = some o → ∀ (a : Act) (w : World), Below w0.heap.size w0 w → a.tmps.size = a0.tmps.size → Given ops V a0 o a w →
      wpOp P ops Q i (fun a' w' => ∃ v, a' = a.put o.dst v ∧ Below w.heap.size w w' ∧ ∀ t, o.dst = some t → V t w' v) a w)
    (hend : ∀ (a : Act) (w : World), Below w0.heap.size w0 w → a.defers = a0.defers → a.tmps.size = a0.tmps.size → (∀ t : Nat, (∀ (i : Nat) (o : Oper), i < n → ops[i]? = some o → o.dst ≠ some t) → a.tmps[t]? = a0.tmps[t]?) →
      (∀ (i : Nat) (o : Oper) (t : Nat), i < n → ops[i]? = some o → o.dst = some t → ∃ v, a.tmps[t]? = some v ∧ V t w v) → wpList P ops Q (ops.toList.drop n) a w)
    (hlow : lowB ops = true) (hchain : chainN ops n = true) (hwait : waitN ops n = true) :
    (Code.region id ops true).wp P Q a0 w0 := by
  refine wp_region_any hm ?_
  have hd : ∀ (l : Array Bool) (i : Nat), i < l.size → l.getD i true = l.getD i false := by intro l i hi; simp [hi]
  have hfin : ∀ (listed : Array Bool) (a : Act) (w : World) (fuel : Nat), Held ops V a0 w0 listed a w → (∀ i, n ≤ i → listed.getD i false = false) → (∀ i, i < n → listed.getD i false = true) → ops.size - n ≤ fuel → wpAny P .any ops Q fuel listed a w := by
    intro listed a w fuel h hno hyes hf
    refine wpAny_le hf (tail_list hlow hchain (ops.size - n) n listed a w (Nat.le_refl _) (by omega) h.size ?_ ?_)
    · intro i hi
      rcases Nat.lt_or_ge i n with hlt | hge
      · rw [hyes i hlt]; simp [hlt]
      · rw [hno i hge]; simp [Nat.not_lt.2 hge]
    · refine hend a w h.below h.defers h.len (fun t ht => h.old t fun i o hi hd' => ?_) fun i o t hin hi hd' => h.new i o t hi hd' (hyes i hin)
      rcases Nat.lt_or_ge i n with hlt | hge
      · exact absurd hd' (ht i o hlt hi)
      · exact hno i hge
  have key : ∀ (fuel : Nat) (listed : Array Bool) (a : Act) (w : World), Held ops V a0 w0 listed a w → (∀ i, n ≤ i → listed.getD i false = false) →
      (List.range ops.size).countP (fun j => !listed.getD j true) ≤ fuel → wpAny P .any ops Q fuel listed a w := by
    intro fuel
    induction fuel with
    | zero =>
      intro listed a w h hno hcount
      have hall : ∀ i, i < ops.size → listed.getD i false = true := by
        intro i hi
        cases hl : listed.getD i false with
        | true => rfl
        | false =>
          have : 0 < (List.range ops.size).countP (fun j => !listed.getD j true) := List.countP_pos_iff.2 ⟨i, by rw [List.mem_range]; exact hi, by rw [hd _ _ (by rw [h.size]; exact hi), hl]; rfl⟩
          omega
      have hns : ops.size ≤ n := by
        rcases Nat.lt_or_ge n ops.size with hlt | hge
        · have := hall n hlt
          rw [hno n (Nat.le_refl _)] at this
          cases this
        · exact hge
      exact hfin listed a w 0 h hno (fun i hi => hall i (by omega)) (by omega)
    | succ fuel ih =>
      intro listed a w h hno hcount
      by_cases hyes : ∀ i, i < n → listed.getD i false = true
      · refine hfin listed a w _ h hno hyes ?_
        have : ops.size - n ≤ (List.range ops.size).countP (fun j => !listed.getD j true) := by
          have h1 : (List.range' n (ops.size - n)).countP (fun j => !listed.getD j true) = ops.size - n := by
            rw [List.countP_eq_length.2, List.length_range']
            intro j hj
            rw [List.mem_range'_1] at hj
            rw [hd _ _ (by rw [h.size]; omega), hno j hj.1]
            rfl
          have h2 : List.range ops.size = List.range n ++ List.range' n (ops.size - n) := by
            rw [List.range_eq_range', List.range_eq_range']
            have h3 := List.range'_append_1 (s := 0) (m := n) (n := ops.size - n)
            rw [Nat.zero_add] at h3
            rw [h3]
            congr 1
            omega
          rw [h2, List.countP_append, h1]
          omega
        omega
      · have hsmall : ∀ i ∈ Region.ready .any ops listed, i < n := by
          intro i hi
          obtain ⟨hun, o, ho, hall⟩ := mem_ready.1 hi
          have hi' : i < ops.size := (Array.getElem?_eq_some_iff.1 ho).1
          rcases Nat.lt_or_ge i n with hlt | hge
          · exact hlt
          exfalso
          rcases Nat.lt_or_ge n i with hlt | hge2
          · have h1 := hchain
            unfold chainN at h1
            rw [List.all_eq_true] at h1
            have h2 := h1 i (by rw [List.mem_range]; exact hi')
            rw [ho] at h2
            simp only [Bool.or_eq_true, decide_eq_true_eq, Array.any_eq_true, Bool.and_eq_true, beq_iff_eq] at h2
            rcases h2 with h2 | ⟨j, hj, hb, hon⟩
            · omega
            · have h3 := hall _ (Array.getElem_mem hj) hb
              rw [hon, hno _ (by omega)] at h3
              cases h3
          · obtain rfl : i = n := by omega
            refine hyes fun j hj => ?_
            have h1 := hwait
            unfold waitN at h1
            rw [List.all_eq_true] at h1
            have h2 := h1 j (by rw [List.mem_range]; exact hj)
            rw [List.contains_iff_mem] at h2
            refine reach_listed h.shut i (edges ops i) ?_ j h2
            intro x hx
            obtain ⟨e, he, hb, rfl⟩ := edges_mem ho hx
            exact hall e he hb
        have hne : Region.ready .any ops listed ≠ [] := by
          intro hr
          apply hyes
          intro i hi
          exact listed_all hlow h.size hr i (ops[i]'(by omega)) (by simp)
        refine ⟨fun hr => absurd hr hne, fun i hi => ?_⟩
        have hin := hsmall i hi
        obtain ⟨hun, o, ho, hall⟩ := mem_ready.1 hi
        have hil : i < listed.size := by
          rw [h.size]
          exact (Array.getElem?_eq_some_iff.1 ho).1
        have hunf := getD_false_of hil hun
        have hgiven : Given ops V a0 o a w := by
          intro t ht
          refine ⟨fun hf => ?_, fun hf => ?_⟩
          · unfold fedB at hf
            rw [Array.any_eq_true] at hf
            obtain ⟨k, hk, hke⟩ := hf
            simp only [Bool.and_eq_true] at hke
            obtain ⟨hb, hw⟩ := hke
            have hl := hall o.after[k] (Array.getElem_mem hk) hb
            cases hp : ops[(o.after[k]).on]? with
            | none => rw [hp] at hw; cases hw
            | some p =>
              rw [hp] at hw
              exact h.new _ p t hp (by simpa using hw) hl
          · refine h.old t fun j p hj hd => ?_
            have hti := htidy
            unfold tidyN at hti
            rw [List.all_eq_true] at hti
            have h1 := hti i (by rw [List.mem_range]; exact hin)
            rw [ho] at h1
            simp only [List.all_eq_true] at h1
            have h2 := h1 t ht
            rw [hf, Bool.false_or] at h2
            unfold lateB at h2
            rw [List.all_eq_true] at h2
            have h3 := h2 j (by rw [List.mem_range]; exact (Array.getElem?_eq_some_iff.1 hj).1)
            rw [hj] at h3
            simp only [hd, bne_self_eq_false, Bool.false_or, Array.any_eq_true, Bool.and_eq_true] at h3
            obtain ⟨k, hk, hb, hon⟩ := h3
            cases hlj : listed.getD j false with
            | false => rfl
            | true =>
              have := h.shut j p hj hlj p.after[k] (Array.getElem_mem hk) hb
              rw [show (p.after[k]).on = i from by simpa using hon, hunf] at this
              cases this
        refine wpOp_mono ?_ (hstep i o hin ho a w h.below h.len hgiven)
        rintro a' w' ⟨v, rfl, hb, hv⟩
        obtain ⟨d, hd', hdl⟩ := hdst i o hin ho
        have hset : ∀ j, (listed.setIfInBounds i true).getD j false = if j = i then true else listed.getD j false := by
          intro j
          by_cases hji : j = i
          · subst hji; simp [hil]
          · simp [hji, Array.getElem?_setIfInBounds_ne (Ne.symm hji), Array.getD_eq_getD_getElem?]
        refine ih _ _ _ ⟨by simpa using h.size, h.below.trans (hb.mono h.below.size), ?_, ?_, ?_, ?_, ?_⟩ ?_ ?_
        · rw [hd']; exact h.defers
        · rw [hd']; simp [Act.put, h.len]
        · intro t ht
          have hdt : d ≠ t := by
            intro e
            subst e
            have := ht i o ho hd'
            rw [hset, if_pos rfl] at this
            cases this
          rw [hd']
          simp only [Act.put]
          rw [Array.getElem?_setIfInBounds_ne hdt]
          refine h.old t fun j p hj hdj => ?_
          have := ht j p hj hdj
          rw [hset] at this
          split at this
          · cases this
          · exact this
        · intro j p t hj hdj hlj
          rw [hd']
          simp only [Act.put]
          by_cases hdt : d = t
          · subst hdt
            have : d < a.tmps.size := by rw [h.len]; exact hdl
            exact ⟨v, by simp [this], hv d hd'⟩
          · rw [Array.getElem?_setIfInBounds_ne hdt]
            rw [hset] at hlj
            split at hlj
            · rename_i hji
              subst hji
              rw [ho] at hj
              cases hj
              rw [hd'] at hdj
              exact absurd (Option.some.inj hdj) hdt
            · obtain ⟨u, hu, hVu⟩ := h.new j p t hj hdj hlj
              exact ⟨u, hu, hV _ _ _ _ hVu hb⟩
        · intro j p hj hlj e he hbe
          rw [hset] at hlj ⊢
          split
          · rfl
          · split at hlj
            · rename_i hji
              subst hji
              rw [ho] at hj
              cases hj
              exact hall e he hbe
            · exact h.shut j p hj hlj e he hbe
        · intro j hj
          rw [hset, if_neg (by omega)]
          exact hno j hj
        · have : (List.range ops.size).countP (fun j => !(listed.setIfInBounds i true).getD j true) < (List.range ops.size).countP (fun j => !listed.getD j true) := by
            refine countP_lt (i := i) (fun j hj hq => ?_) (by rw [List.mem_range, ← h.size]; exact hil) (by rw [hun]; rfl) (by simp [hil])
            by_cases hji : j = i
            · subst hji; rw [hun]; rfl
            · simp only [Array.getD_eq_getD_getElem?] at hq ⊢
              rwa [Array.getElem?_setIfInBounds_ne (Ne.symm hji)] at hq
          omega
  refine key ops.size _ _ _ ⟨by simp, ⟨rfl, rfl, rfl, Nat.le_refl _, fun _ _ => rfl⟩, rfl, rfl, fun _ _ => rfl, fun i o t hi _ hl => ?_, fun i o hi hl => ?_⟩ (fun i _ => ?_) ?_
  · rw [Array.getD_eq_getD_getElem?, Array.getElem?_replicate] at hl
    split at hl <;> cases hl
  · rw [Array.getD_eq_getD_getElem?, Array.getElem?_replicate] at hl
    split at hl <;> cases hl
  · rw [Array.getD_eq_getD_getElem?, Array.getElem?_replicate]
    split <;> rfl
  · exact Nat.le_trans List.countP_le_length (by simp)

/-- The slots that the first n write. -/
def dstsN (ops : Array Oper) (n : Nat) : List Nat := (ops.toList.take n).filterMap (·.dst)

theorem wp_region_head {id : Nat} {a0 : Act} {w0 : World} (n : Nat) (hn : n ≤ ops.size) (hm : P.follows .mixedOrders = true) (V : Nat → World → Value → Prop)
    (hV : ∀ t w w' v, V t w v → Below w.heap.size w w' → V t w' v) (hcheck : (tidyN ops n && lowB ops && chainN ops n && waitN ops n) = true)
    (hdst : ((ops.toList.take n).all fun o => match o.dst with | some t => decide (t < a0.tmps.size) | none => false) = true)
    (l : List Nat) (hl : dstsN ops n = l)
    (hstep : ∀ (i : Nat) (o : Oper), i < n → ops[i]? = some o → ∀ (a : Act) (w : World), Below w0.heap.size w0 w → a.tmps.size = a0.tmps.size → Given ops V a0 o a w →
      wpOp P ops Q i (fun a' w' => ∃ v, a' = a.put o.dst v ∧ Below w.heap.size w w' ∧ ∀ t, o.dst = some t → V t w' v) a w)
    (hend : ∀ (f : Nat → Value) (w : World), Below w0.heap.size w0 w → (∀ t, t ∈ l → V t w (f t)) → wpList P ops Q (ops.toList.drop n) (putAll a0 f l) w) :
    (Code.region id ops true).wp P Q a0 w0 := by
  simp only [Bool.and_eq_true] at hcheck
  obtain ⟨⟨⟨htidy, hlow⟩, hchain⟩, hwait⟩ := hcheck
  have hget : ∀ (i : Nat) (o : Oper), i < n → ops[i]? = some o → o ∈ ops.toList.take n := by
    intro i o hin ho
    rw [List.mem_take_iff_getElem]
    obtain ⟨h, rfl⟩ := Array.getElem?_eq_some_iff.1 ho
    exact ⟨i, by simp; omega, by simp⟩
  have hd : ∀ (i : Nat) (o : Oper), i < n → ops[i]? = some o → ∃ t : Nat, o.dst = some t ∧ t < a0.tmps.size := by
    intro i o hin ho
    rw [List.all_eq_true] at hdst
    have h1 := hdst o (hget i o hin ho)
    cases hod : o.dst with
    | none => rw [hod] at h1; cases h1
    | some t => rw [hod] at h1; exact ⟨t, rfl, of_decide_eq_true h1⟩
  have hmem : ∀ t, t ∈ l ↔ ∃ (i : Nat) (o : Oper), i < n ∧ ops[i]? = some o ∧ o.dst = some t := by
    intro t
    rw [← hl, dstsN, List.mem_filterMap]
    constructor
    · rintro ⟨o, ho, hot⟩
      obtain ⟨i, hi, rfl⟩ := List.mem_take_iff_getElem.1 ho
      have hi' : i < ops.size := by simp at hi; omega
      exact ⟨i, ops[i], by omega, by simp [hi'], by simpa using hot⟩
    · rintro ⟨i, o, hin, ho, hot⟩
      exact ⟨o, hget i o hin ho, hot⟩
  refine wp_region_kept_head n hn hm V hV htidy hd hstep ?_ hlow hchain hwait
  intro a w hb hdef hlen hold hnew
  have hf : ∀ t, t ∈ l → ∃ v, a.tmps[t]? = some v ∧ V t w v := fun t ht => by
    obtain ⟨i, o, hin, ho, hot⟩ := (hmem t).1 ht
    exact hnew i o t hin ho hot
  have ha : a = putAll a0 (fun t => a.tmps.getD t undef) l := by
    obtain ⟨tm, df⟩ := a
    obtain ⟨h1, h2⟩ := putAll_size (fun t => tm.getD t undef) l a0
    have h3 : tm = (putAll a0 (fun t => tm.getD t undef) l).tmps := by
      apply Array.ext_getElem?
      intro t
      rw [putAll_tmps]
      by_cases ht : t ∈ l
      · obtain ⟨v, hv, -⟩ := hf t ht
        simp only [] at hv
        have hts : t < a0.tmps.size := by rw [← hlen]; exact (Array.getElem?_eq_some_iff.1 hv).1
        rw [if_pos ⟨ht, hts⟩, Array.getD_eq_getD_getElem?, hv]
        rfl
      · rw [if_neg (fun h => ht h.1)]
        exact hold t fun i o hin ho hot => ht ((hmem t).2 ⟨i, o, hin, ho, hot⟩)
    have h4 : df = (putAll a0 (fun t => tm.getD t undef) l).defers := by rw [h2]; exact hdef
    calc (⟨tm, df⟩ : Act) = ⟨(putAll a0 (fun t => tm.getD t undef) l).tmps, (putAll a0 (fun t => tm.getD t undef) l).defers⟩ := by rw [← h3, ← h4]
      _ = _ := rfl
  rw [ha]
  refine hend _ w hb fun t ht => ?_
  obtain ⟨v, hv, hVv⟩ := hf t ht
  rw [Array.getD_eq_getD_getElem?, hv]
  exact hVv

/-- An operation of a region by a law over lists of operations. -/
theorem st_list {K : Act → World → Prop} {i : Nat} {o : Oper} {a : Act} {w : World} (ho : ops[i]? = some o) (hw : Region.wanted o (yielded ops a.tmps) = true)
    (h : ∀ Q' : Exit → Act → World → Prop, (∀ a' w', K a' w' → Q' .normal a' w') → wpList P ops Q' [o] a w) : wpOp P ops Q i K a w := by
  have h1 := h (fun ex a' w' => ex = .normal ∧ K a' w') (fun a' w' hk => ⟨rfl, hk⟩)
  unfold wpList at h1
  rw [if_pos hw] at h1
  unfold wpOp
  rw [ho]
  simp only [hw, if_true]
  refine .inl ?_
  rcases h1 with h1 | ⟨-, a', w', he, -⟩
  · unfold Oper.wp at *
    generalize (execOp a.eval o).run P w = r at *
    cases r with
    | ok n w' =>
      cases n <;> simp only [Oper.upon] at h1 ⊢ <;>
        first
          | exact h1.2
          | exact Rows.mono h1 (fun _ _ he => he.2)
          | exact Calls.mono h1 (fun e w'' he => by
              cases e with
              | returned v => exact he.2
              | panicked c => exact absurd he.1 (by simp)
              | outgrown => obtain ⟨_, _, hx, _⟩ := he; cases hx)
    | halt x w' =>
      cases x <;> simp only [Oper.upon] at h1 ⊢ <;> first | exact h1 | exact absurd h1.1 (by simp)
  · cases he

end

theorem rb_take {w : World} {a : Option Addr} {len cap : Nat} {l : List UInt8} (h : RB w (.slice a len cap) l) (n : Nat) : RB w (.slice a (min n len) cap) (l.take n) := by
  obtain ⟨a', cap', hv, h1, h2, h3, h4⟩ := h
  simp only [Value.slice.injEq] at hv
  obtain ⟨rfl, rfl, rfl⟩ := hv
  refine ⟨a, cap, by rw [List.length_take], by rw [List.length_take]; omega, h2, h3, fun hl => ?_⟩
  obtain ⟨b, o, ha, hc⟩ := h4 (by intro e; subst e; simp at hl)
  exact ⟨b, o, ha, fun i hi => by
    have := hc i (by rw [List.length_take] at hi; omega)
    simpa using this⟩

/-- 'b[n:]', in whatever world. -/
theorem RB.run_l {P : Program} {w : World} {a : Option Addr} {len cap : Nat} {l : List UInt8} (h : RB w (.slice a len cap) l) (t e : TypeId) (ht : P.underlying t = some (.slice e)) (hinfo : (P.info? e).map (fun i => (i.zero, i.size, i.bytes)) = some (some (.int .u8 0), 1, 1))
    (n : Nat) (hn : n ≤ l.length) (k : IntKind) : ∃ v, (∀ W, RB W (.slice a len cap) l → RB W v (l.drop n)) ∧ ∀ W, (Instr.slice t (.slice a len cap) (some (.int k (n : Int))) none none).run P W = .ok v W := by
  obtain ⟨h1, h2, h3⟩ := h.len
  refine ⟨sliced a n len cap 1, fun W hW => ?_, fun W => ?_⟩
  · have hc := hW.cut n l.length (by omega) (Nat.le_refl _)
    rw [List.take_of_length_le (Nat.le_refl _), ← h1] at hc
    exact hc
  · obtain ⟨ht', hs⟩ := run_sizeOf (P := P) (w := W) ht hinfo
    have hr := run_slice_l (P := P) W t a len cap ht' k (n : Int) (by omega) (by omega)
    rw [hs] at hr
    simpa [Result.andThen] using hr

end Go.Proofs.YtkddleonmkhaiaaGreat

namespace Go.Proofs.YtkddleonmkhaiaaGreat
open Go.RowKit Go.Sort Go.Shelf

theorem flatI (l : List Int) : KI.flat l = l.map (Value.int .i64) := by
  unfold Lay.flat
  induction l with
  | nil => rfl
  | cons x l ih => rw [List.flatMap_cons, ih]; rfl
theorem sortI_c (w : World) (B : Nat) (v : Value) (F : List Int) (hown : KI.O w B v F) (hl : F.length ≤ 100000) :
    Calls Tryz.prog 58 #[v] w fun e w' => e = .returned (.tuple #[]) ∧ ∃ G, G.Perm F ∧ G.Pairwise (· ≤ ·) ∧ KI.O w' B v G ∧ w.grownBy w' v.ownBlock := by
  have h0 := hown
  rcases hown with ⟨h1, ⟨rfl, hn⟩ | ⟨g, cap, cur, rfl, hB, h2, h3, h4, h5, h6⟩⟩
  · obtain rfl : F = [] := List.eq_nil_of_length_eq_zero hn
    have h := AnyM.slices_Sort_int_none { sortIL with } none 0 w
    change Calls Tryz.prog 58 _ _ _ at h
    refine h.mono ?_
    rintro e w' ⟨rfl, rfl⟩
    exact ⟨rfl, [], List.Perm.refl _, List.Pairwise.nil, h0, World.grownBy.refl _ _⟩
  · have hH : Holds (Value.int .i64) w g 0 F.toArray := fun j hj => by
      have hjl : j < F.length := by simpa using hj
      refine ⟨?_, frozen_of_row _ _ _ _ _ h2⟩
      have := Lay.O.cell h0 KI_ok j hjl 0 _ rfl
      rw [getElem!_pos F.toArray j hj]
      simpa [KI] using this
    have h := AnyM.slices_Sort_int sortIL g 0 cap F w hH (Array.getElem?_eq_some_iff.1 h2).1 (by omega)
    change Calls Tryz.prog 58 _ _ _ at h
    refine h.mono ?_
    rintro e w' ⟨rfl, n, os, rfl⟩
    have hp : (F.mergeSort fun x y => decide (x ≤ y)).Perm F := List.mergeSort_perm _ _
    have hs : (F.mergeSort fun x y => decide (x ≤ y)).Pairwise (· ≤ ·) := by
      have := List.pairwise_mergeSort (le := fun x y : Int => decide (x ≤ y)) (fun a b c h1 h2 => by simp at *; omega) (fun a b => by simp; omega) F
      exact this.imp fun h => by simpa using h
    generalize F.mergeSort (fun x y => decide (x ≤ y)) = G at *
    refine ⟨rfl, G, hp, hs, ?_, grownBy_sortedI _⟩
    have hlen := hp.length_eq
    have := ownsRow_sortedI (w := w) (base := B) (n := n) (e := 3) (os := os) (ss := F) (ts := G) hlen hB h2 h3 h4 (by simpa [KI] using h5)
    unfold Lay.O
    rw [flatI, hlen]
    exact this

/-! ### Whose numbers they are. -/
def qP (p : Nat × Nat) : Nat := 4 * p.1 + p.2
theorem hits_nodup (T : SlT) (t b k : Nat) : ((hitsT T t b k).map qP).Nodup := by
  unfold hitsT
  rw [List.map_map]
  unfold List.Nodup
  rw [List.pairwise_map]
  refine List.Pairwise.imp (R := fun a b : Nat => a ≠ b) (fun {a c} hac => ?_) (List.Pairwise.filter _ List.nodup_range)
  show 4 * b + a ≠ 4 * b + c
  omega
theorem places_nodup (T : SlT) (x : Nat) : ((placesT T x).map qP).Nodup := by
  show ((([] : List (Nat × Nat)) ++ hitsT T (tagN x) (bkX x 0) 4) ++ hitsT T (tagN x) (bkX x 1) 4).map qP |>.Nodup
  rw [List.nil_append, List.map_append, List.nodup_append]
  refine ⟨hits_nodup _ _ _ _, hits_nodup _ _ _ _, fun a ha b hb => ?_⟩
  obtain ⟨p, hp, rfl⟩ := List.mem_map.1 ha
  obtain ⟨q, hq, rfl⟩ := List.mem_map.1 hb
  obtain ⟨h1, h2, -⟩ := hits_mem.1 hp
  obtain ⟨h3, h4, -⟩ := hits_mem.1 hq
  have hne : othN (firstN x) (tagN x) ≠ firstN x := oth_ne _ (first_lt x)
  have e0 : bkX x 0 = firstN x := rfl
  have e1 : bkX x 1 = othN (firstN x) (tagN x) := rfl
  unfold qP
  omega
def hereT (T : SlT) (x q : Nat) : Bool := hitO (tagN x) (T q) && keyN (q / 4) (tagN x) == keyH x
theorem places_q (T : SlT) (x : Nat) : ((placesT T x).map qP).Perm ((List.range 32).filter (hereT T x)) := by
  rw [List.perm_ext_iff_of_nodup (places_nodup T x) (List.Pairwise.filter _ List.nodup_range)]
  intro q
  rw [List.mem_filter, List.mem_range]
  constructor
  · intro h
    obtain ⟨p, hp, rfl⟩ := List.mem_map.1 h
    obtain ⟨h1, h2, h3, h4⟩ := places_lt hp
    have e : qP p / 4 = p.1 := by unfold qP; omega
    refine ⟨by unfold qP; omega, ?_⟩
    unfold hereT
    have e5 : hitO (tagN x) (T (qP p)) = true := (places_mem.1 hp).2.2
    rw [e, h4, e5]
    simp
  · rintro ⟨hq, hh⟩
    unfold hereT at hh
    rw [Bool.and_eq_true, beq_iff_eq] at hh
    refine List.mem_map.2 ⟨(q / 4, q % 4), places_of (hitO_some hh.1) hq hh.2, ?_⟩
    unfold qP
    simp only []
    omega
theorem here_slots (T : SlT) (x : Nat) : (((slL T).map keyS).filter fun k => k.1 == keyH x).map Prod.snd = ((List.range 32).filter (hereT T x)).map fun q => idO (T q) := by
  unfold slL
  induction List.range 32 with
  | nil => rfl
  | cons q l ih =>
    rw [List.filterMap_cons, List.filter_cons]
    cases hT : T q with
    | none =>
      have e : hereT T x q = false := by unfold hereT; rw [hT]; rfl
      rw [e]
      simp only [Option.map_none]
      exact ih
    | some y =>
      simp only [Option.map_some, List.map_cons, List.filter_cons]
      by_cases hk : keyN (q / 4) y.1 = keyH x
      · have ht : y.1 = tagN x := by
          have := congrArg Prod.snd hk
          simpa [keyN, keyH] using this
        have e : hereT T x q = true := by unfold hereT; rw [hT, ← ht]; simp [hitO, hk]
        have e2 : (keyS (q / 4, y.1, y.2)).1 == keyH x := by rw [beq_iff_eq]; exact hk
        rw [e, if_pos e2, if_pos rfl, List.map_cons, List.map_cons, ih, hT]
        rfl
      · have e : hereT T x q = false := by
          unfold hereT
          rw [hT]
          by_cases ht : y.1 = tagN x
          · rw [← ht]; simp [hk]
          · simp [hitO, ht]
        have e2 : ¬ ((keyS (q / 4, y.1, y.2)).1 == keyH x) = true := by rw [beq_iff_eq]; exact hk
        rw [e, if_neg e2, if_neg (by simp)]
        exact ih
theorem places_perm {T : SlT} {es : List EnT} (h : Fits T es) (x : Nat) : ((placesT T x).map (idP T)).Perm ((es.filter fun e => nearN x e.1).map Prod.snd) := by
  have h1 : ((placesT T x).map (idP T)).Perm (((List.range 32).filter (hereT T x)).map fun q => idO (T q)) := by
    have := (places_q T x).map fun q => idO (T q)
    rw [List.map_map] at this
    exact this
  have h2 := (List.Perm.filter (fun k => k.1 == keyH x) h).map Prod.snd
  rw [here_slots] at h2
  refine h1.trans (h2.trans ?_)
  rw [List.filter_map, List.map_map]
  have e : ((fun k : (Nat × Nat) × Int => k.1 == keyH x) ∘ keyE) = fun e : EnT => nearN x e.1 := by
    funext e
    rw [Bool.eq_iff_iff, near_iff]
    show (keyH e.1 == keyH x) = true ↔ _
    rw [beq_iff_eq]
    exact eq_comm
  rw [e]
  exact List.Perm.refl _

theorem KI.one' (w : World) (z : Int) : KI.R (w.alloc (.cells #[.int .i64 z] 3)) (.slice (some ⟨w.heap.size, 0, none⟩) 1 1) [z] := Lay.R.one w KI_ok z 3 (0, 0)
def VFd (d g pb ps : Nat) (u : Value) (z : Int) : Nat → World → Value → Prop
  | 16, _, v => v = u
  | 17, _, v => v = .pointer (some ⟨d, 0, none⟩)
  | 18, _, v => v = .pointer (some ⟨g, 0, none⟩)
  | 19, _, v => v = .int .i64 (pb : Int)
  | 20, _, v => v = .pointer (some ⟨g, 1, none⟩)
  | 21, _, v => v = .int .i64 (ps : Int)
  | 22, _, v => v = .pointer (some ⟨d, 0, none⟩)
  | 23, _, v => v = .pointer (some ⟨d, 0, none⟩)
  | 24, _, v => v = .pointer (some ⟨d, 12 * pb, none⟩)
  | 25, _, v => v = .pointer (some ⟨d, 12 * pb + 3 * ps, none⟩)
  | 26, _, v => v = .pointer (some ⟨d, 12 * pb + 3 * ps + 2, none⟩)
  | 27, _, v => v = .int .i64 z
  | 28, w, v => KI.R w v [z]
  | _, _, _ => True

theorem VFd_below (d g pb ps : Nat) (u : Value) (z : Int) : ∀ (i : Nat) (w w' : World) (v : Value), VFd d g pb ps u z i w v → Below w.heap.size w w' → VFd d g pb ps u z i w' v := by
  intro i w w' v h hb
  unfold VFd at h ⊢
  split at h <;> first | exact h | trivial | exact Lay.R.below h hb

set_option maxHeartbeats 2000000 in
set_option maxRecDepth 100000 in
theorem cfind_w {w : World} {d : Nat} {T : SlT} (h : CK w d T) {x : Nat} (hx : x < 18446744073709551616) :
    Calls Tryz.prog 35 #[.pointer (some ⟨d, 0, none⟩), .int .u64 (x : Int)] w fun e w' => ∃ v F, e = .returned v ∧ KI.O w' w.heap.size v F ∧ F.Pairwise (· ≤ ·) ∧ F.Perm ((placesT T x).map (idP T)) ∧ Below w.heap.size w w' := by
  have HD := Go.Lib.hid fun W (hW : Below w.heap.size w W) => h.below hW
  have PC := Go.Lib.hid (cplaces_c h hx)
  have HPL := Go.Lib.hid fun (p : Nat × Nat) (hp : p ∈ placesT T x) => places_lt hp
  have HLN := Go.Lib.hid (show (placesT T x).length ≤ 8 from foundT_len T x 2)
  clear h hx
  generalize placesT T x = PL at *
  go_enter Tryz.func35, Tryz.ntmps35
  go_wp2_with fail
  refine PC.out.mono ?_
  rintro e w1 ⟨v, rfl, hown, hb1⟩
  obtain ⟨a, cap, rfl, hlm⟩ := hown.r.form
  have HR1 := Go.Lib.hid hown.r
  have HB1 := Go.Lib.hid hb1
  clear hown hb1 PC
  go_wp2_with fail
  go_loopw [5, 12] (fun lv jv wr => ∃ (j : Nat) (u : Value), u = lv ∧ j ≤ PL.length ∧ jv = .int .i64 (j : Int) ∧ KI.O wr w1.heap.size u ((PL.take j).map (idP T)) ∧ Below w1.heap.size w1 wr) (fun _ jv _ => PL.length - (intOf jv).toNat)
  case atStart => exact ⟨0, _, rfl, by omega, rfl, Lay.O.nil _ _, Below.refl _ _⟩
  case round =>
    obtain ⟨j, u, rfl, hj, rfl, hO, hbc⟩ := hrel
    by_cases hjl : j < PL.length
    · obtain ⟨b, o, rfl, -, hbs, c0, c1⟩ := KP.at' (HR1.out.below hbc) j hjl
      have hix := idxP b o PL.length cap j hjl wr
      obtain ⟨hp1, hp2, hp3, -⟩ := HPL.out PL[j] (List.getElem_mem hjl)
      have HTK := Go.Lib.hid (show (PL.take (j + 1)).map (idP T) = (PL.take j).map (idP T) ++ [idP T PL[j]] by rw [List.take_succ_eq_append_getElem hjl, List.map_append]; rfl)
      have HTL := Go.Lib.hid (show ((PL.take j).map (idP T)).length ≤ 8 by have := HLN.out; rw [List.length_map, List.length_take]; omega)
      have hidp : idP T PL[j] = idO (T (4 * PL[j].1 + PL[j].2)) := rfl
      generalize hpj : PL[j] = pj at *
      obtain ⟨pb, ps⟩ := pj
      simp only [] at c0 c1 hp1 hp2 hp3 hidp
      have hck := HD.out wr (HB1.out.trans (hbc.mono HB1.out.size))
      obtain ⟨d0, d1, d2⟩ := hck.at hp1 hp2
      have hd := hck.lt
      have h1 := fun W => idxB d pb hp1 W
      have h2 := fun W => idxS d (12 * pb) ps hp2 W
      rw [← hidp] at d2
      have hb2 := (Below.refl wr.heap.size wr).alloc (Nat.le_refl _) (.cells #[.int .i64 (pb : Int), .int .i64 (ps : Int)] 96)
      have HO3 := Go.Lib.hid (hO.below hb2)
      have HB3 := Go.Lib.hid (hbc.trans (hb2.mono hbc.size))
      have HD2 := Go.Lib.hid (keepC d2 hb2)
      have HG := Go.Lib.hid (heap_alloc_new wr (.cells #[.int .i64 (pb : Int), .int .i64 (ps : Int)] 96))
      clear hO hbc hck hp3 hidp hb2 hd d0 d1 d2 hpj
      generalize idP T (pb, ps) = z at *
      generalize (PL.take j).map (idP T) = F at *
      go_upto_region 5 with (fail)
      obtain ⟨g, hg⟩ : ∃ g, g = wr.heap.size := ⟨_, rfl⟩
      rw [← hg] at HG ⊢
      clear hg c0 c1 hix hbs
      generalize wr.alloc (.cells #[.int .i64 (pb : Int), .int .i64 (ps : Int)] 96) = w3 at *
      have B0 := Go.Lib.hid (show w3.cell? ⟨g, 0, none⟩ = some (.int .i64 (pb : Int)) from by rw [cell_of_row _ _ _ _ _ _ HG.out]; rfl)
      have B1 := Go.Lib.hid (show w3.cell? ⟨g, 1, none⟩ = some (.int .i64 (ps : Int)) from by rw [cell_of_row _ _ _ _ _ _ HG.out]; rfl)
      refine wp_region_head 13 (by decide) (by kernel_rfl) (VFd d g pb ps u z) (VFd_below d g pb ps u z) (by decide +kernel) (by rfl) [16, 17, 18, 19, 20, 21, 22, 23, 24, 25, 26, 27, 28] (by rfl) ?_ ?_
      · intro i o hin ho a w6 hb6 hlen hg
        have x0 := keepC B0.out hb6
        have x1 := keepC B1.out hb6
        have x2 := keepC HD2.out hb6
        match i, hin, ho with
        | 0, hin, ho =>
          obtain rfl := Option.some.inj ho
          have h5 := given_old hg 5 (by decide +kernel)
          clear hg
          exact st_yield ho (wanted_none rfl) (u) w6 (by simp [execOp, Act.eval, h5, go_sem]) ⟨_, rfl, Below.refl _ _, by rintro t' ⟨⟩; rfl⟩
        | 1, hin, ho =>
          obtain rfl := Option.some.inj ho
          have h0 := given_old hg 0 (by decide +kernel)
          clear hg
          exact st_yield ho (wanted_none rfl) (.pointer (some ⟨d, 0, none⟩)) w6 (by simp [execOp, Act.eval, h0, go_sem]) ⟨_, rfl, Below.refl _ _, by rintro t' ⟨⟩; rfl⟩
        | 2, hin, ho =>
          obtain rfl := Option.some.inj ho
          have h7 := given_old hg 7 (by decide +kernel)
          clear hg
          exact st_yield ho (wanted_none rfl) (.pointer (some ⟨g, 0, none⟩)) w6 (by simp [execOp, Act.eval, h7, go_sem]) ⟨_, rfl, Below.refl _ _, by rintro t' ⟨⟩; rfl⟩
        | 3, hin, ho =>
          obtain rfl := Option.some.inj ho
          obtain ⟨_, h18, rfl⟩ := given_fed hg 18 (by decide +kernel)
          clear hg
          exact st_yield ho (wanted_none rfl) (.int .i64 (pb : Int)) w6 (by simp [execOp, Act.eval, h18, go_sem, x0]) ⟨_, rfl, Below.refl _ _, by rintro t' ⟨⟩; rfl⟩
        | 4, hin, ho =>
          obtain rfl := Option.some.inj ho
          have h7 := given_old hg 7 (by decide +kernel)
          clear hg
          exact st_yield ho (wanted_none rfl) (.pointer (some ⟨g, 1, none⟩)) w6 (by simp [execOp, Act.eval, h7, go_sem]) ⟨_, rfl, Below.refl _ _, by rintro t' ⟨⟩; rfl⟩
        | 5, hin, ho =>
          obtain rfl := Option.some.inj ho
          obtain ⟨_, h20, rfl⟩ := given_fed hg 20 (by decide +kernel)
          clear hg
          exact st_yield ho (wanted_none rfl) (.int .i64 (ps : Int)) w6 (by simp [execOp, Act.eval, h20, go_sem, x1]) ⟨_, rfl, Below.refl _ _, by rintro t' ⟨⟩; rfl⟩
        | 6, hin, ho =>
          obtain rfl := Option.some.inj ho
          obtain ⟨_, h17, rfl⟩ := given_fed hg 17 (by decide +kernel)
          clear hg
          exact st_yield ho (wanted_none rfl) (.pointer (some ⟨d, 0, none⟩)) w6 (by simp [execOp, Act.eval, h17, go_sem]) ⟨_, rfl, Below.refl _ _, by rintro t' ⟨⟩; rfl⟩
        | 7, hin, ho =>
          obtain rfl := Option.some.inj ho
          obtain ⟨_, h22, rfl⟩ := given_fed hg 22 (by decide +kernel)
          clear hg
          exact st_yield ho (wanted_none rfl) (.pointer (some ⟨d, 0, none⟩)) w6 (by simp [execOp, Act.eval, h22, go_sem]) ⟨_, rfl, Below.refl _ _, by rintro t' ⟨⟩; rfl⟩
        | 8, hin, ho =>
          obtain rfl := Option.some.inj ho
          obtain ⟨_, h23, rfl⟩ := given_fed hg 23 (by decide +kernel)
          obtain ⟨_, h19, rfl⟩ := given_fed hg 19 (by decide +kernel)
          clear hg
          exact st_yield ho (wanted_none rfl) (.pointer (some ⟨d, 12 * pb, none⟩)) w6 (by simp [execOp, Act.eval, h23, h19, go_sem, h1]) ⟨_, rfl, Below.refl _ _, by rintro t' ⟨⟩; rfl⟩
        | 9, hin, ho =>
          obtain rfl := Option.some.inj ho
          obtain ⟨_, h24, rfl⟩ := given_fed hg 24 (by decide +kernel)
          obtain ⟨_, h21, rfl⟩ := given_fed hg 21 (by decide +kernel)
          clear hg
          exact st_yield ho (wanted_none rfl) (.pointer (some ⟨d, 12 * pb + 3 * ps, none⟩)) w6 (by simp [execOp, Act.eval, h24, h21, go_sem, h2]) ⟨_, rfl, Below.refl _ _, by rintro t' ⟨⟩; rfl⟩
        | 10, hin, ho =>
          obtain rfl := Option.some.inj ho
          obtain ⟨_, h25, rfl⟩ := given_fed hg 25 (by decide +kernel)
          clear hg
          exact st_yield ho (wanted_none rfl) (.pointer (some ⟨d, 12 * pb + 3 * ps + 2, none⟩)) w6 (by simp [execOp, Act.eval, h25, go_sem]) ⟨_, rfl, Below.refl _ _, by rintro t' ⟨⟩; rfl⟩
        | 11, hin, ho =>
          obtain rfl := Option.some.inj ho
          obtain ⟨_, h26, rfl⟩ := given_fed hg 26 (by decide +kernel)
          clear hg
          exact st_yield ho (wanted_none rfl) (.int .i64 z) w6 (by simp [execOp, Act.eval, h26, go_sem, x2]) ⟨_, rfl, Below.refl _ _, by rintro t' ⟨⟩; rfl⟩
        | 12, hin, ho =>
          obtain rfl := Option.some.inj ho
          obtain ⟨_, h27, rfl⟩ := given_fed hg 27 (by decide +kernel)
          clear hg
          exact st_yield ho (wanted_none rfl) (.slice (some ⟨w6.heap.size, 0, none⟩) 1 1) (w6.alloc (.cells #[.int .i64 z] 3)) (by simp [execOp, Act.eval, h27, go_sem]) ⟨_, rfl, (Below.refl _ _).alloc (Nat.le_refl _) _, by rintro t' ⟨⟩; exact KI.one' w6 z⟩
        | n + 13, hin, ho => omega
      · intro f w6 hb6 hv
        have h16 := hv 16 (by decide)
        have h28 := hv 28 (by decide)
        simp only [VFd] at h16 h28
        have HO6 := Go.Lib.hid (HO3.out.below hb6)
        have HB6 := Go.Lib.hid (HB3.out.trans (hb6.mono HB3.out.size))
        have HONE := Go.Lib.hid h28
        clear hv hb6 h28
        unfold putAll
        simp only [List.foldl, List.drop]
        simp only [h16]
        go_simp
        go_wp2_with (first
          | ((with_reducible show wpList _ _ _ (⟨some 29, _, _, _, _, _⟩ :: _) _ _); go_loud (refine KI_ok.append rfl (.tmp 16) (.tmp 28) rfl w1.heap.size u (f 28) F [z] rfl rfl HO6.out HONE.out (by have := HTL.out; simp; omega) HB6.out.size ?_); intro v7 w7 hown7 hg7; have HB7 := Go.Lib.hid (HB6.out.grown hg7 HB6.out.size HO6.out.row); have HO7 := Go.Lib.hid hown7; clear hown7 hg7)
          | fail)
        go_roundw
        case rel => exact ⟨j + 1, _, rfl, by omega, by go_num, by rw [HTK.out]; exact HO7.out, HB7.out⟩
        case measure => simp only [intOf]; omega
    · obtain rfl : j = PL.length := by omega
      rw [List.take_length] at hO
      have HO := Go.Lib.hid (hO.mono HB1.out.size)
      have HB := Go.Lib.hid (HB1.out.trans (hbc.mono HB1.out.size))
      have SC := Go.Lib.hid (sortI_c wr w.heap.size u (PL.map (idP T)) (hO.mono HB1.out.size) (by have := HLN.out; rw [List.length_map]; omega))
      clear hO hbc hjl
      go_wp2_with fail
      refine SC.out.mono ?_
      rintro e w2 ⟨rfl, G, hp, hs, hown, hg⟩
      have HB2 := Go.Lib.hid (HB.out.grown hg HB.out.size HO.out.row)
      clear hg
      have HOW := Go.Lib.hid hown
      have HP := Go.Lib.hid hp
      have HS := Go.Lib.hid hs
      clear hown hp hs
      go_wp2_with fail
      go_ret
      exact ⟨_, G, rfl, HOW.out, HS.out, HP.out, HB2.out⟩
theorem cfind_c {w : World} {d : Nat} {T : SlT} {es : List EnT} (h : CK w d T) (hf : Fits T es) {x : Nat} (hx : x < 18446744073709551616) (_hl : es.length ≤ 60) :
    Calls Tryz.prog 35 #[.pointer (some ⟨d, 0, none⟩), .int .u64 (x : Int)] w fun e w' => ∃ v F, e = .returned v ∧ KI.O w' w.heap.size v F ∧ F.Pairwise (· ≤ ·) ∧ F.Perm ((es.filter fun e => nearN x e.1).map Prod.snd) ∧ Below w.heap.size w w' := by
  refine (cfind_w h hx).mono ?_
  rintro e w' ⟨v, F, h1, h2, h3, h4, h5⟩
  exact ⟨v, F, h1, h2, h3, h4.trans (places_perm hf x), h5⟩
set_option maxRecDepth 100000 in
theorem cnil_find (x : Nat) (_hx : x < 18446744073709551616) (w : World) : Calls Tryz.prog 35 #[.pointer none, .int .u64 (x : Int)] w fun e w' => e = .returned (.slice none 0 0) ∧ Below w.heap.size w w' := by
  have PC := Go.Lib.hid (fun W => cplaces_nil x W)
  have SC := Go.Lib.hid (fun W => show Calls Tryz.prog 58 #[.slice none 0 0] W fun e w' => e = .returned (.tuple #[]) ∧ w' = W from AnyM.slices_Sort_int_none { sortIL with } none 0 W)
  have HB := Go.Lib.hid (Below.refl w.heap.size w)
  go_enter Tryz.func35, Tryz.ntmps35
  go_wp2_with fail
  refine (PC.out _).mono ?_
  rintro e w1 ⟨rfl, rfl⟩
  go_wp2_with fail
  go_loop [5, 12] (fun lv jv => lv = .slice none 0 0 ∧ jv = .int .i64 0) (fun _ _ => 0)
  case atStart => exact ⟨rfl, rfl⟩
  case round =>
    obtain ⟨rfl, rfl⟩ := hrel
    go_wp2_with fail
    refine (SC.out _).mono ?_
    rintro e w1 ⟨rfl, rfl⟩
    go_wp2_with fail
    go_ret
    exact ⟨rfl, HB.out⟩

end Go.Proofs.YtkddleonmkhaiaaGreat
