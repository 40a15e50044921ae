/-
  Slices of records: cut, kept beside a row that is stored.
  Stage 17: how entries, hashes, numbers lie; the reference's Near, Room.
  Stage 17: a *cuckoo.Dir in memory: eight buckets of four slots, three cells each. Plain facts; the small contracts (may, pair, New).
  A region whose order is open, whose operations read and make memory, and some of which CHANGE what stands (a call of a method that writes): beside the condition for each slot (XDraw) an invariant of the world that knows which operations have been carried out. Each operation is shown once.
  As XDrawI's wp_region_inv2, with an invariant that sees the slots too.
  Stage 18: a *logstore.Log in memory; New, Len, the nil forms of what only reads.
  Stage 20: a *hashstore.Store in memory; the nil forms; Len.
  Records: contract of the reference's Bytes.
  Package value: contracts of Put, of what may be.
  Package record: contract of Put.
  Stage 19: order.entry, Encode.
  The contract of rank.New.
-/
import Derived.Test.YthbnecdeebmlhaaGreatM03
import Derived.Test.YthbnecdeebmlhaaGreatM05
import Derived.Test.YthbnecdeebmlhaaGreatM04
import Derived.LoopTactic
import Derived.Test.YthbnecdeebmlhaaGreatM01
import Derived.Deep.MidRow
import Derived.BigQuiet
import Derived.Deep.DeepCutAuto
import Derived.Shelf.SlGeneric
import Derived.Shelf.SortM.Plain
import Derived.Shelf.SortM.SortNone
import Derived.Ground.SlgmProg
import Derived.Test.YthbnecdeebmlhaaGreatProg
import Derived.Sort.OwnSortedInts
import Derived.Test.YthbnecdeebmlhaaGreatM07
import Derived.Lib.SliceRun
import Derived.Test.YthbnecdeebmlhaaGreatM08
import Derived.Test.YthbnecdeebmlhaaGreatM02
import Derived.Test.YthbnecdeebmlhaaGreatM06
import Derived.Deep.DeepMust
namespace Go.Proofs.YthbnecdeebmlhaaGreat
open Go.RowKit

/-- A piece of what reads as l reads as that piece. -/
theorem RS.cut {w : World} {a : Option Addr} {len cap : Nat} {l : List RecT} (h : RS w (.slice a len cap) l) (i j : Nat) (hij : i ≤ j) (hj : j ≤ l.length) : RS w (sliced a i j cap 5) ((l.take j).drop i) := by
  obtain ⟨a', cap', hv, h1, h2, h3, h4⟩ := h
  cases hv
  have hlen : ((l.take j).drop i).length = j - i := by simp; omega
  unfold sliced
  refine ⟨_, cap - i, by rw [hlen], by rw [hlen]; omega, by omega, ?_, fun hne => ?_⟩
  · intro hn
    by_cases hc : cap = i
    · omega
    · rw [if_neg hc] at hn
      have := h3 (by simpa using hn)
      omega
  · have hji : i < j := by
      rcases Nat.lt_or_ge i j with h | h
      · exact h
      · exact absurd (List.eq_nil_of_length_eq_zero (by rw [hlen]; omega)) hne
    have hl : l ≠ [] := by intro e; subst e; simp at hj; omega
    obtain ⟨b, o, rfl, hc⟩ := h4 hl
    refine ⟨b, o + i * 5, ?_, fun q hq => ?_⟩
    · rw [if_neg (by omega)]
      have hadd : (⟨b, o, none⟩ : Addr).add (i * 5) = ⟨b, o + i * 5, none⟩ := by unfold Addr.add; split <;> simp_all
      simpa using hadd
    · rw [hlen] at hq
      have hc := hc (i + q) (by omega)
      have e : ((l.take j).drop i)[q] = l[i + q] := by simp
      rw [e, show o + i * 5 + q * 5 = o + (i + q) * 5 by omega]
      exact hc
theorem sizeR (W : World) : (sizeOf (Tryz.prog.elem 22)).run Tryz.prog W = .ok 5 W := by
  obtain ⟨i, hi, -, hsize, -⟩ := info_parts info5
  have he : Tryz.prog.elem 22 = 28 := by kernel_rfl
  rw [he]
  simp [sizeOf, typeInfo, hi, hsize]
theorem elemR : Tryz.prog.underlying 22 = some (.slice (Tryz.prog.elem 22)) := by
  have he : Tryz.prog.elem 22 = 28 := by kernel_rfl
  rw [he]; exact Tryz.underlying22
theorem RS.len {w : World} {a : Option Addr} {len cap : Nat} {l : List RecT} (h : RS w (.slice a len cap) l) : len = l.length ∧ len ≤ cap ∧ cap ≤ maxLen := by
  obtain ⟨a', cap', hv, h1, h2, -⟩ := h
  cases hv
  exact ⟨rfl, h1, h2⟩
theorem RS.one' (w : World) (k : ByteArray) (g : Bool) (a b : Int) (s : ByteArray) : RS (w.alloc (.cells #[.string k, .bool g, .int .i64 a, .int .i64 b, .string s] 28)) (.slice (some ⟨w.heap.size, 0, none⟩) 1 1) [(k, g, a, b, s)] := RS.one w (k, g, a, b, s)

end Go.Proofs.YthbnecdeebmlhaaGreat

namespace Go.Proofs.YthbnecdeebmlhaaGreat
open Go.RowKit

set_option maxRecDepth 100000 in
theorem rnear_c (a b : Nat) (w : World) (ha : a < 18446744073709551616) (hb : b < 18446744073709551616) :
    Calls Tryz.prog 79 #[.int .u64 (a : Int), .int .u64 (b : Int)] w fun e w' => e = .returned (.bool (nearN a b)) ∧ w = w' := by
  have TA := Go.Lib.hid fun W => rtag_c a W ha
  have TB := Go.Lib.hid fun W => rtag_c b W hb
  have FA := Go.Lib.hid fun W => rfirst_c a W ha
  have FB := Go.Lib.hid fun W => rfirst_c b W hb
  have OB := Go.Lib.hid fun W => rother_c (firstN b : Int) (tagN b : Int) W
  rw [otherI_nat (first_lt b) (tag_lt b)] at OB
  have hn : nearN a b = (tagN a == tagN b && (firstN a == firstN b || firstN a == othN (firstN b) (tagN b))) := rfl
  generalize othN (firstN b) (tagN b) = ob at *
  generalize nearN a b = N at *
  generalize tagN a = ta at *
  generalize tagN b = tb at *
  generalize firstN a = fa at *
  generalize firstN b = fb at *
  clear ha hb
  by_cases ht : ta = tb
  · subst ht
    by_cases hf : fa = fb
    · subst hf
      have HN := Go.Lib.hid (show N = true by rw [hn]; simp)
      clear hn
      go_enter Tryz.func79, Tryz.ntmps79
      go_wp2_with fail
      refine (TA.out _).mono ?_
      rintro e w1 ⟨rfl, rfl⟩
      go_wp2_with fail
      refine (TB.out _).mono ?_
      rintro e w1 ⟨rfl, rfl⟩
      go_wp2_with fail
      refine (FA.out _).mono ?_
      rintro e w1 ⟨rfl, rfl⟩
      go_wp2_with fail
      refine (FB.out _).mono ?_
      rintro e w1 ⟨rfl, rfl⟩
      go_wp2_with fail
      go_ret
      exact ⟨ret_of (congrArg Value.bool HN.out.symm), rfl⟩
    · have HN := Go.Lib.hid (show N = (fa == ob) by rw [hn]; simp [hf])
      have hfI : ((fa : Int) == (fb : Int)) = false := by simp only [beq_eq_false_iff_ne, ne_eq]; omega
      have HO := Go.Lib.hid (show ((fa : Int) == (ob : Int)) = (fa == ob) by rw [Bool.eq_iff_iff, beq_iff_eq, beq_iff_eq]; omega)
      clear hn
      go_enter Tryz.func79, Tryz.ntmps79
      go_wp2_with fail
      refine (TA.out _).mono ?_
      rintro e w1 ⟨rfl, rfl⟩
      go_wp2_with fail
      refine (TB.out _).mono ?_
      rintro e w1 ⟨rfl, rfl⟩
      go_wp2_with fail
      refine (FA.out _).mono ?_
      rintro e w1 ⟨rfl, rfl⟩
      go_wp2_with fail
      refine (FB.out _).mono ?_
      rintro e w1 ⟨rfl, rfl⟩
      go_wp2_with fail
      refine (FA.out _).mono ?_
      rintro e w1 ⟨rfl, rfl⟩
      go_wp2_with fail
      refine (FB.out _).mono ?_
      rintro e w1 ⟨rfl, rfl⟩
      go_wp2_with fail
      refine (TB.out _).mono ?_
      rintro e w1 ⟨rfl, rfl⟩
      go_wp2_with fail
      refine (OB.out _).mono ?_
      rintro e w1 ⟨rfl, rfl⟩
      go_wp2_with fail
      go_ret
      exact ⟨ret_of (congrArg Value.bool (HO.out.trans HN.out.symm)), rfl⟩
  · have HN := Go.Lib.hid (show N = false by rw [hn]; simp [ht])
    have htI : ((ta : Int) == (tb : Int)) = false := by simp only [beq_eq_false_iff_ne, ne_eq]; omega
    clear hn
    go_enter Tryz.func79, Tryz.ntmps79
    go_wp2_with fail
    refine (TA.out _).mono ?_
    rintro e w1 ⟨rfl, rfl⟩
    go_wp2_with fail
    refine (TB.out _).mono ?_
    rintro e w1 ⟨rfl, rfl⟩
    go_wp2_with fail
    go_ret
    exact ⟨ret_of (congrArg Value.bool HN.out.symm), rfl⟩

end Go.Proofs.YthbnecdeebmlhaaGreat

namespace Go.Proofs.YthbnecdeebmlhaaGreat
open Go.RowKit

section
variable {w w' : World} {d : Nat} {T : SlT}
end

theorem keepC {w w' : World} {p : Addr} {u : Value} (h : w.cell? p = some u) (hb : Below w.heap.size w w') : w'.cell? p = some u := (hb.cell (World.block_lt_of_cell? w _ h)).trans h
end Go.Proofs.YthbnecdeebmlhaaGreat

namespace Go.Proofs.YthbnecdeebmlhaaGreat
open Go.RowKit

/-- Does operation i wait for operation j, by whatever way? -/
def aheadB (ops : Array Oper) (i j : Nat) : Bool := (reach ops ops.size (edges ops i)).contains j

section
variable {P : Program} {ops : Array Oper} {Q : Exit → Act → World → Prop}

structure HeldI (ops : Array Oper) (V : Nat → World → Value → Prop) (I : (Nat → Bool) → World → Prop) (a0 : Act) (listed : Array Bool) (a : Act) (w : World) : Prop where
  size : listed.size = ops.size
  inv : I (fun j => listed.getD j false) w
  defers : a.defers = a0.defers
  len : a.tmps.size = a0.tmps.size
  old : ∀ t : Nat, (∀ (i : Nat) (o : Oper), ops[i]? = some o → o.dst = some t → listed.getD i false = false) → a.tmps[t]? = a0.tmps[t]?
  new : ∀ (i : Nat) (o : Oper) (t : Nat), ops[i]? = some o → o.dst = some t → listed.getD i false = true → ∃ v, a.tmps[t]? = some v ∧ V t w v
  shut : ∀ (i : Nat) (o : Oper), ops[i]? = some o → listed.getD i false = true → ∀ e ∈ o.after, Region.binds .any e = true → listed.getD e.on false = true

/-- Operation i has been carried out too. -/
def doneToo (done : Nat → Bool) (i : Nat) : Nat → Bool := fun j => if j = i then true else done j
theorem doneToo_other {done : Nat → Bool} {i j : Nat} (h : j ≠ i) : doneToo done i j = done j := by unfold doneToo; rw [if_neg h]
theorem doneToo_self (done : Nat → Bool) (i : Nat) : doneToo done i i = true := by unfold doneToo; rw [if_pos rfl]

/-- Slot t has been written. -/
def Wrote (ops : Array Oper) (done : Nat → Bool) (t : Nat) : Prop := ∃ (j : Nat) (p : Oper), ops[j]? = some p ∧ p.dst = some t ∧ done j = true
/-- Operation i alone writes slot t. -/
def soleB (ops : Array Oper) (i t : Nat) : Bool := (List.range ops.size).all fun j => match ops[j]? with | some p => p.dst != some t || j == i | none => true
theorem not_wrote {ops : Array Oper} {done : Nat → Bool} {i t : Nat} (hs : soleB ops i t = true) (hn : done i = false) : ¬ Wrote ops done t := by
  rintro ⟨j, p, hj, hd, hdone⟩
  unfold soleB at hs
  rw [List.all_eq_true] at hs
  have h1 := hs j (by rw [List.mem_range]; exact (Array.getElem?_eq_some_iff.1 hj).1)
  rw [hj] at h1
  simp only [hd, bne_self_eq_false, Bool.false_or, beq_iff_eq] at h1
  rw [h1, hn] at hdone
  cases hdone

theorem wp_region_inv2 {id : Nat} {a0 : Act} {w0 : World} (hm : P.follows .mixedOrders = true) (V : Nat → World → Value → Prop) (I : (Nat → Bool) → World → Prop)
    (htidy : tidyB ops = true) (hlow : lowB ops = true) (hdst : (ops.toList.all fun o => match o.dst with | some t => decide (t < a0.tmps.size) | none => true) = true)
    (l : List Nat) (hl : dsts ops = l) (h0 : I (fun _ => false) w0.drew)
    (hstep : ∀ (i : Nat) (o : Oper), ops[i]? = some o → ∀ (a : Act) (w : World) (done : Nat → Bool), I done w → done i = false → (∀ j, aheadB ops i j = true → done j = true) → a.tmps.size = a0.tmps.size → Given ops V a0 o a w →
      wpOp P ops Q i (fun a' w' => ∃ v, a' = a.put o.dst v ∧ I (doneToo done i) w' ∧ (∀ t u, Wrote ops done t → V t w u → V t w' u) ∧ ∀ t, o.dst = some t → V t w' v) a w)
    (hend : ∀ (f : Nat → Value) (w : World) (done : Nat → Bool), (∀ i, i < ops.size → done i = true) → I done w → (∀ t, t ∈ l → V t w (f t)) → Q .normal (putAll a0 f l) w) :
    (Code.region id ops true).wp P Q a0 w0 := by
  have hdd : ∀ (i : Nat) (o : Oper) (t : Nat), ops[i]? = some o → o.dst = some t → t < a0.tmps.size := by
    intro i o t ho hod
    rw [List.all_eq_true] at hdst
    have h1 := hdst o (by obtain ⟨h, rfl⟩ := Array.getElem?_eq_some_iff.1 ho; simp)
    rw [hod] at h1
    exact of_decide_eq_true h1
  have hmem : ∀ t, t ∈ l ↔ ∃ (i : Nat) (o : Oper), ops[i]? = some o ∧ o.dst = some t := by
    intro t
    rw [← hl, dsts, List.mem_filterMap]
    constructor
    · rintro ⟨o, ho, hot⟩
      obtain ⟨i, hi, rfl⟩ := List.mem_iff_getElem.1 ho
      have hi' : i < ops.size := by simpa using hi
      exact ⟨i, ops[i], by simp [hi'], by simpa using hot⟩
    · rintro ⟨i, o, ho, hot⟩
      obtain ⟨h, rfl⟩ := Array.getElem?_eq_some_iff.1 ho
      exact ⟨ops[i], by simp, hot⟩
  refine wp_region_any hm ?_
  have hfin : ∀ (listed : Array Bool) (a : Act) (w : World), HeldI ops V I a0 listed a w → Region.ready .any ops listed = [] → Q .normal a w := by
    intro listed a w h hr
    have hall := listed_all hlow h.size hr
    have hf : ∀ t, t ∈ l → ∃ v, a.tmps[t]? = some v ∧ V t w v := fun t ht => by
      obtain ⟨i, o, ho, hot⟩ := (hmem t).1 ht
      exact h.new i o t ho hot (hall i o ho)
    have ha : a = putAll a0 (fun t => a.tmps.getD t undef) l := by
      have hdef := h.defers
      have hlen := h.len
      have hold := h.old
      obtain ⟨tm, df⟩ := a
      obtain ⟨h1, h2⟩ := putAll_size (fun t => tm.getD t undef) l a0
      have h3 : tm = (putAll a0 (fun t => tm.getD t undef) l).tmps := by
        apply Array.ext_getElem?
        intro t
        rw [putAll_tmps]
        by_cases ht : t ∈ l
        · obtain ⟨v, hv, -⟩ := hf t ht
          simp only [] at hv
          have hts : t < a0.tmps.size := by rw [← hlen]; exact (Array.getElem?_eq_some_iff.1 hv).1
          rw [if_pos ⟨ht, hts⟩, Array.getD_eq_getD_getElem?, hv]
          rfl
        · rw [if_neg (fun h => ht h.1)]
          exact hold t fun i o ho hot => absurd ((hmem t).2 ⟨i, o, ho, hot⟩) ht
      have h4 : df = (putAll a0 (fun t => tm.getD t undef) l).defers := by rw [h2]; exact hdef
      calc (⟨tm, df⟩ : Act) = ⟨(putAll a0 (fun t => tm.getD t undef) l).tmps, (putAll a0 (fun t => tm.getD t undef) l).defers⟩ := by rw [← h3, ← h4]
        _ = _ := rfl
    rw [ha]
    refine hend _ w _ (fun i hi => hall i ops[i] (by simp [hi])) h.inv fun t ht => ?_
    obtain ⟨v, hv, hVv⟩ := hf t ht
    rw [Array.getD_eq_getD_getElem?, hv]
    exact hVv
  have key : ∀ (fuel : Nat) (listed : Array Bool) (a : Act) (w : World), HeldI ops V I a0 listed a w →
      (List.range ops.size).countP (fun j => !listed.getD j true) ≤ fuel → wpAny P .any ops Q fuel listed a w := by
    intro fuel
    induction fuel with
    | zero =>
      intro listed a w h hcount
      have hr : Region.ready .any ops listed = [] := by
        cases hrr : Region.ready .any ops listed with
        | nil => rfl
        | cons x xs =>
          have hx : x ∈ Region.ready .any ops listed := by rw [hrr]; simp
          obtain ⟨hun, o, ho, -⟩ := mem_ready.1 hx
          have : 0 < (List.range ops.size).countP (fun j => !listed.getD j true) := List.countP_pos_iff.2 ⟨x, by rw [List.mem_range]; exact (Array.getElem?_eq_some_iff.1 ho).1, by rw [hun]; rfl⟩
          omega
      exact ⟨hr, hfin _ _ _ h hr⟩
    | succ fuel ih =>
      intro listed a w h hcount
      refine ⟨fun hr => hfin _ _ _ h hr, fun i hi => ?_⟩
      obtain ⟨hun, o, ho, hall⟩ := mem_ready.1 hi
      have hil : i < listed.size := by
        rw [h.size]
        exact (Array.getElem?_eq_some_iff.1 ho).1
      have hunf := getD_false_of hil hun
      have hgiven : Given ops V a0 o a w := by
        intro t ht
        refine ⟨fun hf => ?_, fun hf => ?_⟩
        · unfold fedB at hf
          rw [Array.any_eq_true] at hf
          obtain ⟨k, hk, hke⟩ := hf
          simp only [Bool.and_eq_true] at hke
          obtain ⟨hb, hw⟩ := hke
          have hl := hall o.after[k] (Array.getElem_mem hk) hb
          cases hp : ops[(o.after[k]).on]? with
          | none => rw [hp] at hw; cases hw
          | some p =>
            rw [hp] at hw
            exact h.new _ p t hp (by simpa using hw) hl
        · refine h.old t fun j p hj hd => ?_
          have hti := htidy
          unfold tidyB at hti
          rw [List.all_eq_true] at hti
          have h1 := hti i (by rw [List.mem_range]; exact (Array.getElem?_eq_some_iff.1 ho).1)
          rw [ho] at h1
          simp only [List.all_eq_true] at h1
          have h2 := h1 t ht
          rw [hf, Bool.false_or] at h2
          unfold lateB at h2
          rw [List.all_eq_true] at h2
          have h3 := h2 j (by rw [List.mem_range]; exact (Array.getElem?_eq_some_iff.1 hj).1)
          rw [hj] at h3
          simp only [hd, bne_self_eq_false, Bool.false_or, Array.any_eq_true, Bool.and_eq_true] at h3
          obtain ⟨k, hk, hb, hon⟩ := h3
          cases hlj : listed.getD j false with
          | false => rfl
          | true =>
            have := h.shut j p hj hlj p.after[k] (Array.getElem_mem hk) hb
            rw [show (p.after[k]).on = i from by simpa using hon, hunf] at this
            cases this
      have hreach : ∀ j, aheadB ops i j = true → listed.getD j false = true := fun j hj => by
        unfold aheadB at hj
        rw [List.contains_iff_mem] at hj
        refine reach_listed h.shut ops.size (edges ops i) (fun x hx => ?_) j hj
        obtain ⟨e, he, hb, rfl⟩ := edges_mem ho hx
        exact hall e he hb
      refine wpOp_mono ?_ (hstep i o ho a w _ h.inv hunf hreach h.len hgiven)
      rintro a' w' ⟨v, rfl, hI, hst, hv⟩
      have hpd : (a.put o.dst v).defers = a.defers := by unfold Act.put; split <;> rfl
      have hps : (a.put o.dst v).tmps.size = a.tmps.size := by unfold Act.put; split <;> simp
      have hpo : ∀ t : Nat, o.dst ≠ some t → (a.put o.dst v).tmps[t]? = a.tmps[t]? := by
        intro t ht
        unfold Act.put
        split
        · rename_i d hd
          exact Array.getElem?_setIfInBounds_ne (fun e => ht (by rw [hd, e]))
        · rfl
      have hpn : ∀ t : Nat, o.dst = some t → (a.put o.dst v).tmps[t]? = some v := by
        intro t ht
        have hts : t < a.tmps.size := by rw [h.len]; exact hdd i o t ho ht
        unfold Act.put
        rw [ht]
        simp [hts]
      have hset : ∀ j, (listed.setIfInBounds i true).getD j false = if j = i then true else listed.getD j false := by
        intro j
        by_cases hji : j = i
        · subst hji; simp [hil]
        · simp [hji, Array.getElem?_setIfInBounds_ne (Ne.symm hji), Array.getD_eq_getD_getElem?]
      have hdone : (fun j => (listed.setIfInBounds i true).getD j false) = doneToo (fun j => listed.getD j false) i := by
        funext j
        rw [hset]
        rfl
      refine ih _ _ _ ⟨by simpa using h.size, by rw [hdone]; exact hI, ?_, ?_, ?_, ?_, ?_⟩ ?_
      · rw [hpd]; exact h.defers
      · rw [hps]; exact h.len
      · intro t ht
        have hdt : o.dst ≠ some t := by
          intro e
          have := ht i o ho e
          rw [hset, if_pos rfl] at this
          cases this
        rw [hpo t hdt]
        refine h.old t fun j p hj hdj => ?_
        have := ht j p hj hdj
        rw [hset] at this
        split at this
        · cases this
        · exact this
      · intro j p t hj hdj hlj
        by_cases hdt : o.dst = some t
        · exact ⟨v, hpn t hdt, hv t hdt⟩
        · rw [hpo t hdt]
          rw [hset] at hlj
          split at hlj
          · rename_i hji
            subst hji
            rw [ho] at hj
            cases hj
            exact absurd hdj hdt
          · obtain ⟨u, hu, hVu⟩ := h.new j p t hj hdj hlj
            exact ⟨u, hu, hst _ _ ⟨j, p, hj, hdj, hlj⟩ hVu⟩
      · intro j p hj hlj e he hbe
        rw [hset] at hlj ⊢
        split
        · rfl
        · split at hlj
          · rename_i hji
            subst hji
            rw [ho] at hj
            cases hj
            exact hall e he hbe
          · exact h.shut j p hj hlj e he hbe
      · have : (List.range ops.size).countP (fun j => !(listed.setIfInBounds i true).getD j true) < (List.range ops.size).countP (fun j => !listed.getD j true) := by
          refine countP_lt (i := i) (fun j hj hq => ?_) (by rw [List.mem_range, ← h.size]; exact hil) (by rw [hun]; rfl) (by simp [hil])
          by_cases hji : j = i
          · subst hji; rw [hun]; rfl
          · simp only [Array.getD_eq_getD_getElem?] at hq ⊢
            rwa [Array.getElem?_setIfInBounds_ne (Ne.symm hji)] at hq
        omega
  refine key ops.size _ _ _ ⟨by simp, ?_, rfl, rfl, fun _ _ => rfl, fun i o t hi _ hl => ?_, fun i o hi hl => ?_⟩ ?_
  · have : (fun j => (Array.replicate ops.size false).getD j false) = fun _ => false := by
      funext j
      rw [Array.getD_eq_getD_getElem?, Array.getElem?_replicate]
      split <;> rfl
    rw [this]
    exact h0
  · rw [Array.getD_eq_getD_getElem?, Array.getElem?_replicate] at hl
    split at hl <;> cases hl
  · rw [Array.getD_eq_getD_getElem?, Array.getElem?_replicate] at hl
    split at hl <;> cases hl
  · exact Nat.le_trans List.countP_le_length (by simp)

/-- A store, or whatever else yields nothing. -/
theorem st_done {K : Act → World → Prop} {i : Nat} {o : Oper} {a : Act} {w : World} (ho : ops[i]? = some o) (hw : Region.wanted o (yielded ops a.tmps) = true) (w' : World)
    (hrun : (execOp a.eval o).run P w = .ok .skip w') (h : K (a.put o.dst undef) w') : wpOp P ops Q i K a w := by
  unfold wpOp
  rw [ho]
  simp only [hw, if_true]
  refine .inl ?_
  unfold Oper.wp
  rw [hrun]
  exact h

end

attribute [irreducible] aheadB

end Go.Proofs.YthbnecdeebmlhaaGreat

namespace Go.Proofs.YthbnecdeebmlhaaGreat
open Go.RowKit

section
variable {P : Program} {ops : Array Oper} {Q : Exit → Act → World → Prop}

structure HeldT (ops : Array Oper) (V : Nat → World → Value → Prop) (I : (Nat → Bool) → Act → World → Prop) (a0 : Act) (listed : Array Bool) (a : Act) (w : World) : Prop where
  size : listed.size = ops.size
  inv : I (fun j => listed.getD j false) a w
  defers : a.defers = a0.defers
  len : a.tmps.size = a0.tmps.size
  old : ∀ t : Nat, (∀ (i : Nat) (o : Oper), ops[i]? = some o → o.dst = some t → listed.getD i false = false) → a.tmps[t]? = a0.tmps[t]?
  new : ∀ (i : Nat) (o : Oper) (t : Nat), ops[i]? = some o → o.dst = some t → listed.getD i false = true → ∃ v, a.tmps[t]? = some v ∧ V t w v
  shut : ∀ (i : Nat) (o : Oper), ops[i]? = some o → listed.getD i false = true → ∀ e ∈ o.after, Region.binds .any e = true → listed.getD e.on false = true

theorem wp_region_inv3 {id : Nat} {a0 : Act} {w0 : World} (hm : P.follows .mixedOrders = true) (V : Nat → World → Value → Prop) (I : (Nat → Bool) → Act → World → Prop)
    (htidy : tidyB ops = true) (hlow : lowB ops = true) (hdst : (ops.toList.all fun o => match o.dst with | some t => decide (t < a0.tmps.size) | none => true) = true)
    (l : List Nat) (hl : dsts ops = l) (h0 : I (fun _ => false) a0 w0.drew)
    (hstep : ∀ (i : Nat) (o : Oper), ops[i]? = some o → ∀ (a : Act) (w : World) (done : Nat → Bool), I done a w → done i = false → (∀ j, aheadB ops i j = true → done j = true) → (∀ i' j, done i' = true → aheadB ops i' j = true → done j = true) → a.tmps.size = a0.tmps.size → Given ops V a0 o a w →
      wpOp P ops Q i (fun a' w' => ∃ v, a' = a.put o.dst v ∧ I (doneToo done i) a' w' ∧ (∀ t u, Wrote ops done t → V t w u → V t w' u) ∧ ∀ t, o.dst = some t → V t w' v) a w)
    (hend : ∀ (f : Nat → Value) (w : World) (done : Nat → Bool), (∀ i, i < ops.size → done i = true) → I done (putAll a0 f l) w → (∀ t, t ∈ l → V t w (f t)) → Q .normal (putAll a0 f l) w) :
    (Code.region id ops true).wp P Q a0 w0 := by
  have hdd : ∀ (i : Nat) (o : Oper) (t : Nat), ops[i]? = some o → o.dst = some t → t < a0.tmps.size := by
    intro i o t ho hod
    rw [List.all_eq_true] at hdst
    have h1 := hdst o (by obtain ⟨h, rfl⟩ := Array.getElem?_eq_some_iff.1 ho; simp)
    rw [hod] at h1
    exact of_decide_eq_true h1
  have hmem : ∀ t, t ∈ l ↔ ∃ (i : Nat) (o : Oper), ops[i]? = some o ∧ o.dst = some t := by
    intro t
    rw [← hl, dsts, List.mem_filterMap]
    constructor
    · rintro ⟨o, ho, hot⟩
      obtain ⟨i, hi, rfl⟩ := List.mem_iff_getElem.1 ho
      have hi' : i < ops.size := by simpa using hi
      exact ⟨i, ops[i], by simp [hi'], by simpa using hot⟩
    · rintro ⟨i, o, ho, hot⟩
      obtain ⟨h, rfl⟩ := Array.getElem?_eq_some_iff.1 ho
      exact ⟨ops[i], by simp, hot⟩
  refine wp_region_any hm ?_
  have hfin : ∀ (listed : Array Bool) (a : Act) (w : World), HeldT ops V I a0 listed a w → Region.ready .any ops listed = [] → Q .normal a w := by
    intro listed a w h hr
    have hall := listed_all hlow h.size hr
    have hf : ∀ t, t ∈ l → ∃ v, a.tmps[t]? = some v ∧ V t w v := fun t ht => by
      obtain ⟨i, o, ho, hot⟩ := (hmem t).1 ht
      exact h.new i o t ho hot (hall i o ho)
    have ha : a = putAll a0 (fun t => a.tmps.getD t undef) l := by
      have hdef := h.defers
      have hlen := h.len
      have hold := h.old
      obtain ⟨tm, df⟩ := a
      obtain ⟨h1, h2⟩ := putAll_size (fun t => tm.getD t undef) l a0
      have h3 : tm = (putAll a0 (fun t => tm.getD t undef) l).tmps := by
        apply Array.ext_getElem?
        intro t
        rw [putAll_tmps]
        by_cases ht : t ∈ l
        · obtain ⟨v, hv, -⟩ := hf t ht
          simp only [] at hv
          have hts : t < a0.tmps.size := by rw [← hlen]; exact (Array.getElem?_eq_some_iff.1 hv).1
          rw [if_pos ⟨ht, hts⟩, Array.getD_eq_getD_getElem?, hv]
          rfl
        · rw [if_neg (fun h => ht h.1)]
          exact hold t fun i o ho hot => absurd ((hmem t).2 ⟨i, o, ho, hot⟩) ht
      have h4 : df = (putAll a0 (fun t => tm.getD t undef) l).defers := by rw [h2]; exact hdef
      calc (⟨tm, df⟩ : Act) = ⟨(putAll a0 (fun t => tm.getD t undef) l).tmps, (putAll a0 (fun t => tm.getD t undef) l).defers⟩ := by rw [← h3, ← h4]
        _ = _ := rfl
    have hinv := h.inv
    rw [ha] at hinv ⊢
    refine hend _ w _ (fun i hi => hall i ops[i] (by simp [hi])) hinv fun t ht => ?_
    obtain ⟨v, hv, hVv⟩ := hf t ht
    rw [Array.getD_eq_getD_getElem?, hv]
    exact hVv
  have key : ∀ (fuel : Nat) (listed : Array Bool) (a : Act) (w : World), HeldT ops V I a0 listed a w →
      (List.range ops.size).countP (fun j => !listed.getD j true) ≤ fuel → wpAny P .any ops Q fuel listed a w := by
    intro fuel
    induction fuel with
    | zero =>
      intro listed a w h hcount
      have hr : Region.ready .any ops listed = [] := by
        cases hrr : Region.ready .any ops listed with
        | nil => rfl
        | cons x xs =>
          have hx : x ∈ Region.ready .any ops listed := by rw [hrr]; simp
          obtain ⟨hun, o, ho, -⟩ := mem_ready.1 hx
          have : 0 < (List.range ops.size).countP (fun j => !listed.getD j true) := List.countP_pos_iff.2 ⟨x, by rw [List.mem_range]; exact (Array.getElem?_eq_some_iff.1 ho).1, by rw [hun]; rfl⟩
          omega
      exact ⟨hr, hfin _ _ _ h hr⟩
    | succ fuel ih =>
      intro listed a w h hcount
      refine ⟨fun hr => hfin _ _ _ h hr, fun i hi => ?_⟩
      obtain ⟨hun, o, ho, hall⟩ := mem_ready.1 hi
      have hil : i < listed.size := by
        rw [h.size]
        exact (Array.getElem?_eq_some_iff.1 ho).1
      have hunf := getD_false_of hil hun
      have hgiven : Given ops V a0 o a w := by
        intro t ht
        refine ⟨fun hf => ?_, fun hf => ?_⟩
        · unfold fedB at hf
          rw [Array.any_eq_true] at hf
          obtain ⟨k, hk, hke⟩ := hf
          simp only [Bool.and_eq_true] at hke
          obtain ⟨hb, hw⟩ := hke
          have hl := hall o.after[k] (Array.getElem_mem hk) hb
          cases hp : ops[(o.after[k]).on]? with
          | none => rw [hp] at hw; cases hw
          | some p =>
            rw [hp] at hw
            exact h.new _ p t hp (by simpa using hw) hl
        · refine h.old t fun j p hj hd => ?_
          have hti := htidy
          unfold tidyB at hti
          rw [List.all_eq_true] at hti
          have h1 := hti i (by rw [List.mem_range]; exact (Array.getElem?_eq_some_iff.1 ho).1)
          rw [ho] at h1
          simp only [List.all_eq_true] at h1
          have h2 := h1 t ht
          rw [hf, Bool.false_or] at h2
          unfold lateB at h2
          rw [List.all_eq_true] at h2
          have h3 := h2 j (by rw [List.mem_range]; exact (Array.getElem?_eq_some_iff.1 hj).1)
          rw [hj] at h3
          simp only [hd, bne_self_eq_false, Bool.false_or, Array.any_eq_true, Bool.and_eq_true] at h3
          obtain ⟨k, hk, hb, hon⟩ := h3
          cases hlj : listed.getD j false with
          | false => rfl
          | true =>
            have := h.shut j p hj hlj p.after[k] (Array.getElem_mem hk) hb
            rw [show (p.after[k]).on = i from by simpa using hon, hunf] at this
            cases this
      have hreach : ∀ j, aheadB ops i j = true → listed.getD j false = true := fun j hj => by
        unfold aheadB at hj
        rw [List.contains_iff_mem] at hj
        refine reach_listed h.shut ops.size (edges ops i) (fun x hx => ?_) j hj
        obtain ⟨e, he, hb, rfl⟩ := edges_mem ho hx
        exact hall e he hb
      have hsh : ∀ i' j, listed.getD i' false = true → aheadB ops i' j = true → listed.getD j false = true := fun i' j hi' hj => by
        unfold aheadB at hj
        rw [List.contains_iff_mem] at hj
        have hlt : i' < ops.size := by
          rw [← h.size]
          rcases Nat.lt_or_ge i' listed.size with h1 | h1
          · exact h1
          · rw [Array.getD_eq_getD_getElem?, Array.getElem?_eq_none h1] at hi'
            cases hi'
        have ho' : ops[i']? = some ops[i'] := by simp [hlt]
        refine reach_listed h.shut ops.size (edges ops i') (fun x hx => ?_) j hj
        obtain ⟨e, he, hb, rfl⟩ := edges_mem ho' hx
        exact h.shut i' ops[i'] ho' hi' e he hb
      refine wpOp_mono ?_ (hstep i o ho a w _ h.inv hunf hreach hsh h.len hgiven)
      rintro a' w' ⟨v, rfl, hI, hst, hv⟩
      have hpd : (a.put o.dst v).defers = a.defers := by unfold Act.put; split <;> rfl
      have hps : (a.put o.dst v).tmps.size = a.tmps.size := by unfold Act.put; split <;> simp
      have hpo : ∀ t : Nat, o.dst ≠ some t → (a.put o.dst v).tmps[t]? = a.tmps[t]? := by
        intro t ht
        unfold Act.put
        split
        · rename_i d hd
          exact Array.getElem?_setIfInBounds_ne (fun e => ht (by rw [hd, e]))
        · rfl
      have hpn : ∀ t : Nat, o.dst = some t → (a.put o.dst v).tmps[t]? = some v := by
        intro t ht
        have hts : t < a.tmps.size := by rw [h.len]; exact hdd i o t ho ht
        unfold Act.put
        rw [ht]
        simp [hts]
      have hset : ∀ j, (listed.setIfInBounds i true).getD j false = if j = i then true else listed.getD j false := by
        intro j
        by_cases hji : j = i
        · subst hji; simp [hil]
        · simp [hji, Array.getElem?_setIfInBounds_ne (Ne.symm hji), Array.getD_eq_getD_getElem?]
      have hdone : (fun j => (listed.setIfInBounds i true).getD j false) = doneToo (fun j => listed.getD j false) i := by
        funext j
        rw [hset]
        rfl
      refine ih _ _ _ ⟨by simpa using h.size, by rw [hdone]; exact hI, ?_, ?_, ?_, ?_, ?_⟩ ?_
      · rw [hpd]; exact h.defers
      · rw [hps]; exact h.len
      · intro t ht
        have hdt : o.dst ≠ some t := by
          intro e
          have := ht i o ho e
          rw [hset, if_pos rfl] at this
          cases this
        rw [hpo t hdt]
        refine h.old t fun j p hj hdj => ?_
        have := ht j p hj hdj
        rw [hset] at this
        split at this
        · cases this
        · exact this
      · intro j p t hj hdj hlj
        by_cases hdt : o.dst = some t
        · exact ⟨v, hpn t hdt, hv t hdt⟩
        · rw [hpo t hdt]
          rw [hset] at hlj
          split at hlj
          · rename_i hji
            subst hji
            rw [ho] at hj
            cases hj
            exact absurd hdj hdt
          · obtain ⟨u, hu, hVu⟩ := h.new j p t hj hdj hlj
            exact ⟨u, hu, hst _ _ ⟨j, p, hj, hdj, hlj⟩ hVu⟩
      · intro j p hj hlj e he hbe
        rw [hset] at hlj ⊢
        split
        · rfl
        · split at hlj
          · rename_i hji
            subst hji
            rw [ho] at hj
            cases hj
            exact hall e he hbe
          · exact h.shut j p hj hlj e he hbe
      · have : (List.range ops.size).countP (fun j => !(listed.setIfInBounds i true).getD j true) < (List.range ops.size).countP (fun j => !listed.getD j true) := by
          refine countP_lt (i := i) (fun j hj hq => ?_) (by rw [List.mem_range, ← h.size]; exact hil) (by rw [hun]; rfl) (by simp [hil])
          by_cases hji : j = i
          · subst hji; rw [hun]; rfl
          · simp only [Array.getD_eq_getD_getElem?] at hq ⊢
            rwa [Array.getElem?_setIfInBounds_ne (Ne.symm hji)] at hq
        omega
  refine key ops.size _ _ _ ⟨by simp, ?_, rfl, rfl, fun _ _ => rfl, fun i o t hi _ hl => ?_, fun i o hi hl => ?_⟩ ?_
  · have : (fun j => (Array.replicate ops.size false).getD j false) = fun _ => false := by
      funext j
      rw [Array.getD_eq_getD_getElem?, Array.getElem?_replicate]
      split <;> rfl
    rw [this]
    exact h0
  · rw [Array.getD_eq_getD_getElem?, Array.getElem?_replicate] at hl
    split at hl <;> cases hl
  · rw [Array.getD_eq_getD_getElem?, Array.getElem?_replicate] at hl
    split at hl <;> cases hl
  · exact Nat.le_trans List.countP_le_length (by simp)

end

end Go.Proofs.YthbnecdeebmlhaaGreat

namespace Go.Proofs.YthbnecdeebmlhaaGreat
open Go.RowKit

section
variable {p d : Nat} {r r1 : Option Nat} {w w1 w2 w' : World}
end

section
variable {w w' : World} {B p d : Nat} {v : Value} {L : List RecT}
/-- A row of records has a block of its own type. -/
theorem rec_type {w : World} {B : Nat} {v : Value} {L : List RecT} (h : OwnRec w B v L) {g : Nat} (hg : v.ownBlock = some g) : ∃ cs fr, w.heap[g]? = some (.cells cs 28 fr) := by
  rcases h.2 with ⟨rfl, -⟩ | ⟨q, cap, cur, rfl, -, h2, -⟩
  · cases hg
  · cases hg
    exact ⟨_, _, h2⟩
theorem own_same {w w' : World} {B : Nat} {v : Value} {L : List RecT} (h : OwnRec w B v L) (hs : ∀ g cs fr, w.heap[g]? = some (.cells cs 28 fr) → v.ownBlock = some g → w'.heap[g]? = w.heap[g]?) : OwnRec w' B v L := by
  refine ⟨h.1, ?_⟩
  rcases h.2 with h' | ⟨q, cap, cur, rfl, hB, h2, h3⟩
  · exact .inl h'
  · exact .inr ⟨q, cap, cur, rfl, hB, (hs q _ _ h2 rfl).trans h2, h3⟩
end

end Go.Proofs.YthbnecdeebmlhaaGreat

namespace Go.Proofs.YthbnecdeebmlhaaGreat
open Go.RowKit

/-- Block p is a Store of the table TT: u the row of its records, r its *rank.Rank; all from block B on. -/
structure HW (w : World) (B p : Nat) (u : Value) (r : Option Addr) (TT : TabT) : Prop where
  bp : B ≤ p
  row : w.heap[p]? = some (.cells #[u, .pointer r] 86 (0, 0))
  own : OwnRec w B u (recsT TT 32)
  rk : RK w B r (hasL TT 32)
  lay : LayOk TT
section
variable {w w' : World} {B p : Nat} {u : Value} {r : Option Addr} {TT : TabT}
theorem RK.mono {l : List Bool} {B' : Nat} (h : RK w B r l) (hB : B' ≤ B) : RK w B' r l := by
  refine ⟨h.1, ?_⟩
  rcases h.2 with h' | ⟨b, v1, v2, h1, h2⟩
  · exact .inl h'
  · refine .inr ⟨b, v1, v2, h1, h2.blk, ?_, ?_, Nat.le_trans hB h2.low⟩
    · exact ⟨h2.ws.1, h2.ws.2.imp id fun ⟨g, cap, cur, e1, e2, e3⟩ => ⟨g, cap, cur, e1, Nat.le_trans hB e2, e3⟩⟩
    · exact ⟨h2.hs.1, h2.hs.2.imp id fun ⟨g, cap, cur, e1, e2, e3⟩ => ⟨g, cap, cur, e1, Nat.le_trans hB e2, e3⟩⟩
theorem HW.lt (h : HW w B p u r TT) : p < w.heap.size := (Array.getElem?_eq_some_iff.1 h.row).1
theorem HW.below (h : HW w B p u r TT) (hb : Below w.heap.size w w') : HW w' B p u r TT :=
  ⟨h.bp, (hb.block p h.lt).trans h.row, h.own.below hb, h.rk.below hb, h.lay⟩
theorem HW.mono {B' : Nat} (h : HW w B p u r TT) (hB : B' ≤ B) : HW w B' p u r TT := ⟨Nat.le_trans hB h.bp, h.row, h.own.mono hB, h.rk.mono hB, h.lay⟩
theorem HW.cells (h : HW w B p u r TT) : w.cell? ⟨p, 0, none⟩ = some u ∧ w.cell? ⟨p, 1, none⟩ = some (.pointer r) := by
  have c := fun j => cell_of_row w p j _ _ _ h.row
  exact ⟨c 0, c 1⟩
theorem HW.sizes (h : HW w B p u r TT) : ∀ x ∈ recsT TT 32, x.1.size ≤ 16 ∧ x.2.2.2.2.size ≤ 24 := fun x hx => by
  obtain ⟨q, hq, he⟩ := List.mem_filterMap.1 hx
  have hq := List.mem_range.1 hq
  unfold hasT at he
  split at he
  · rename_i h1
    cases he
    exact mayT_short ((okTo_slot h.lay.ok hq).1 h1)
  · cases he
theorem HW.len (_h : HW w B p u r TT) : (recsT TT 32).length ≤ 32 := recsT_len TT 32
end

set_option maxRecDepth 100000 in
theorem hlen_c {w : World} {B p : Nat} {u : Value} {r : Option Addr} {TT : TabT} (h : HW w B p u r TT) : Calls Tryz.prog 22 #[.pointer (some ⟨p, 0, none⟩)] w fun e w' => e = .returned (.int .i64 ((recsT TT 32).length : Int)) ∧ w = w' := by
  obtain ⟨x0, x1⟩ := h.cells
  obtain ⟨a, cap, rfl, -⟩ := h.own.rs.form
  clear h
  go_enter Tryz.func22, Tryz.ntmps22
  go_wp2_with fail
  go_ret
  exact ⟨rfl, rfl⟩
set_option maxRecDepth 100000 in
theorem hnil_len (w : World) : Calls Tryz.prog 22 #[.pointer none] w fun e w' => e = .returned (.int .i64 0) ∧ w = w' := by
  go_enter Tryz.func22, Tryz.ntmps22
  go_wp2_with fail
  go_ret
  exact ⟨rfl, rfl⟩
set_option maxRecDepth 100000 in
theorem hnil_list (w : World) : Calls Tryz.prog 21 #[.pointer none] w fun e w' => e = .returned (.slice none 0 0) ∧ Below w.heap.size w w' := by
  go_enter Tryz.func21, Tryz.ntmps21
  go_wp2_with fail
  go_ret
  exact ⟨rfl, Below.refl _ _⟩
set_option maxRecDepth 100000 in
theorem hnil_bytes (w : World) : Calls Tryz.prog 15 #[.pointer none] w fun e w' => e = .returned (.slice none 0 0) ∧ Below w.heap.size w w' := by
  go_enter Tryz.func15, Tryz.ntmps15
  go_wp2_with fail
  go_ret
  exact ⟨rfl, Below.refl _ _⟩
set_option maxRecDepth 100000 in
theorem hnil_alike (key : ByteArray) (w : World) : Calls Tryz.prog 53 #[.pointer none, .string key] w fun e w' => e = .returned (.slice none 0 0) ∧ Below w.heap.size w w' := by
  go_enter Tryz.func53, Tryz.ntmps53
  go_wp2_with fail
  go_ret
  exact ⟨rfl, Below.refl _ _⟩
set_option maxRecDepth 100000 in
theorem hnil_reads (key : ByteArray) (w : World) : Calls Tryz.prog 20 #[.pointer none, .string key] w fun e w' => e = .returned (.int .i64 0) ∧ Below w.heap.size w w' := by
  have C := Go.Lib.hid (hnil_alike key w)
  go_enter Tryz.func20, Tryz.ntmps20
  go_wp2_with fail
  refine C.out.mono ?_
  rintro e w1 ⟨rfl, hb⟩
  have HB := Go.Lib.hid hb
  clear hb C
  go_wp2_with fail
  go_ret
  exact ⟨rfl, HB.out⟩
end Go.Proofs.YthbnecdeebmlhaaGreat

namespace Go.Proofs.YthbnecdeebmlhaaGreat
open Go.RowKit
open Go.Lib (uvarint zigzag)

set_option maxRecDepth 100000 in
theorem rbytes_c (key : List UInt8) (gone : Bool) (k n : Int) (s : List UInt8) (w : World) (hk : key.length ≤ 60000) (k0 : -9223372036854775808 ≤ k) (k1 : k ≤ 9223372036854775807) (h0 : -9223372036854775808 ≤ n) (h1 : n ≤ 9223372036854775807) (hs : s.length ≤ 60000) :
    Calls Tryz.prog 77 #[recV (str key) gone k n (str s)] w fun e w' => ∃ v, e = .returned v ∧ Own 5 w' w.heap.size v (recB key gone k n s) ∧ Below w.heap.size w w' := by
  unfold recV
  have C1 := Go.Lib.hid fun W => rputText_c (str key) W (by rw [str_size]; omega)
  have e1 : putT (str key).data.toList = putT key := by simp [str]
  have e2 : (putT key).length ≤ 60010 := by
    rw [putT, List.length_append]
    have := Go.Lib.uvarint_length64 (Go.Lib.zigzag_lt (x := (key.length : Int)) (by omega) (by omega))
    omega
  have C1 := C1.out
  rw [e1] at C1
  have C1' := Go.Lib.hid C1
  have hbA := below_one w (.cells #[.string (str key), .bool gone, .int .i64 k, .int .i64 n, .string (str s)] 28)
  clear C1 e1 hk
  cases gone with
  | true =>
    have C2 := Go.Lib.hid fun W => rput_c 0 W (by omega) (by omega)
    have e3 : (uvarint (zigzag 0)).length ≤ 10 := Go.Lib.uvarint_length64 (Go.Lib.zigzag_lt (by omega) (by omega))
    have he : Hid (recB key true k n s = putT key ++ uvarint (zigzag 0)) := rfl
    clear k0 k1 h0 h1 hs
    generalize uvarint (zigzag 0) = un at *
    generalize putT key = uk at *
    go_enter Tryz.func77, Tryz.ntmps77
    go_wp2_with fail
    refine (C1'.out _).mono ?_
    rintro e w1 ⟨v1, rfl, hown1, hb1⟩
    obtain ⟨hh, x0, x1, x2, x3, x4⟩ := rec_box _ _ _ _ _ hb1
    have hbb1 := hbA.trans (hb1.mono hbA.size)
    have hown1' := hown1.mono hbA.size
    clear hown1 hb1 hbA hh
    go_wp2_with fail
    refine (C2.out _).mono ?_
    rintro e w2 ⟨v2, rfl, hown2, hb2⟩
    have hbb2 := hbb1.trans (hb2.mono hbb1.size)
    have hownA := hown1'.below hb2
    have hrb2 := hown2.rb
    clear hown1' hown2 hb2 hbb1 x0 x1 x2 x3 x4
    go_wp2_with (first
      | (with_reducible show wpList _ _ _ (⟨some 11, _, _, _, _, _⟩ :: _) _ _; go_loud (refine wpList_append_RB rfl (.tmp 9) (.tmp 10) 47 rfl w.heap.size 5 Tryz.underlying47 info8 v1 v2 uk un rfl rfl hownA hrb2 (by omega) hbb2.size ?_); intro v3 w3 hown3 hg3; have hbb3 := hbb2.grown hg3 hbb2.size hownA.row)
      | fail)
    go_ret
    exact ⟨_, rfl, by rw [he.out]; exact hown3, hbb3⟩
  | false =>
    have C2 := Go.Lib.hid fun W => rputVal_c k n s W k0 k1 h0 h1 hs
    have e3 : (putV k n s).length ≤ 60050 := by
      have a1 := Go.Lib.uvarint_length64 (Go.Lib.zigzag_lt k0 k1)
      have a2 := Go.Lib.uvarint_length64 (Go.Lib.zigzag_lt h0 h1)
      have a3 := Go.Lib.uvarint_length64 (Go.Lib.zigzag_lt (x := (s.length : Int)) (by omega) (by omega))
      unfold putV putT
      split <;> simp only [List.length_append] <;> omega
    have he : Hid (recB key false k n s = putT key ++ putV k n s) := rfl
    clear k0 k1 h0 h1 hs
    generalize putV k n s = un at *
    generalize putT key = uk at *
    unfold rawV at C2
    go_enter Tryz.func77, Tryz.ntmps77
    go_wp2_with fail
    refine (C1'.out _).mono ?_
    rintro e w1 ⟨v1, rfl, hown1, hb1⟩
    obtain ⟨hh, x0, x1, x2, x3, x4⟩ := rec_box _ _ _ _ _ hb1
    have hbb1 := hbA.trans (hb1.mono hbA.size)
    have hown1' := hown1.mono hbA.size
    clear hown1 hb1 hbA
    unfold recO at hh
    go_wp2_with fail
    refine (C2.out _).mono ?_
    rintro e w2 ⟨v2, rfl, hown2, hb2⟩
    have hbb2 := hbb1.trans (hb2.mono hbb1.size)
    have hownA := hown1'.below hb2
    have hrb2 := hown2.rb
    clear hown1' hown2 hb2 hbb1 x0 x1 x2 x3 x4 hh
    go_wp2_with (first
      | (with_reducible show wpList _ _ _ (⟨some 16, _, _, _, _, _⟩ :: _) _ _; go_loud (refine wpList_append_RB rfl (.tmp 12) (.tmp 15) 47 rfl w.heap.size 5 Tryz.underlying47 info8 v1 v2 uk un rfl rfl hownA hrb2 (by omega) hbb2.size ?_); intro v3 w3 hown3 hg3; have hbb3 := hbb2.grown hg3 hbb2.size hownA.row)
      | fail)
    go_ret
    exact ⟨_, rfl, by rw [he.out]; exact hown3, hbb3⟩

end Go.Proofs.YthbnecdeebmlhaaGreat

namespace Go.Proofs.YthbnecdeebmlhaaGreat
open Go.RowKit
open Go.Lib (uvarint zigzag)

set_option maxRecDepth 100000 in
theorem vput_c (v : Value) (l : List UInt8) (k n : Int) (s : List UInt8) (w : World) (hv : RB w v l) (hm : mayR k n (str s) = true) (h0 : -9223372036854775808 ≤ n) (h1 : n ≤ 9223372036854775807) (hl : l.length ≤ 100000) :
    Calls Tryz.prog 131 #[v, rawV k n (str s)] w fun e w' => ∃ v', e = .returned v' ∧ Own 5 w' w.heap.size v' (l ++ putV k n s) ∧ Below w.heap.size w w' := by
  have C0 := Go.Lib.hid fun W => vof_c k n (str s) W
  rcases mayR_cases hm with ⟨rfl, rfl⟩ | ⟨rfl, rfl, hs⟩
  · have e0 := of_num hm
    have C0 := C0.out
    rw [e0] at C0
    simp only [VI.val, VI.v] at C0
    have C0' := Go.Lib.hid C0
    clear C0 hm e0
    have C1 := Go.Lib.hid fun W (h : RB W v l) => put_c v l 1 W h (by omega) (by omega) (by omega)
    have hz := Go.Lib.uvarint_length64 (Go.Lib.zigzag_lt (x := 1) (by omega) (by omega))
    have C2 := Go.Lib.hid fun v' W (h : RB W v' (l ++ uvarint (zigzag 1))) => put_c v' (l ++ uvarint (zigzag 1)) n W h h0 h1 (by rw [List.length_append]; omega)
    have he : Hid (l ++ uvarint (zigzag 1) ++ uvarint (zigzag n) = l ++ putV 1 n []) := by unfold Hid putV; rw [if_pos rfl, List.append_assoc]
    clear hz h0 h1 hl
    generalize uvarint (zigzag 1) = uk at *
    generalize uvarint (zigzag n) = un at *
    unfold rawV at C0' ⊢
    have hR0 := Go.Lib.hid (hv.below (below_one w (.cells #[.int .i64 1, .int .i64 n, .string (str [])] 26)))
    clear hv
    go_enter Tryz.func131, Tryz.ntmps131
    go_wp2_with fail
    refine (C0'.out _).mono ?_
    rintro e w1 ⟨rfl, hb1⟩
    obtain ⟨x0, x1, x2⟩ := box_cells _ _ _ _ _ _ hb1
    have hbb1 := (below_one w _).trans (hb1.mono (below_one w _).size)
    have hR1 := Go.Lib.hid ((hR0.out.below hb1).below (below_one w1 (.cells #[.iface 195 (.int .i64 n)] 174)))
    have Hbo := Go.Lib.hid (hbb1.trans ((below_one w1 (.cells #[.iface 195 (.int .i64 n)] 174)).mono hbb1.size))
    have xx := fun (c : Option Value) (p : Addr) (h : w1.cell? p = c) (o : Obj) (hp : p.block < w1.heap.size) => ((below_one w1 o).cell hp).trans h
    have hlt : w.heap.size < w1.heap.size := by
      have h1 := hb1.size
      have h2 := (Array.getElem?_eq_some_iff.1 (heap_alloc_new w (.cells #[.int .i64 1, .int .i64 n, .string (str [])] 26))).1
      omega
    have y0 := fun o => xx _ _ x0 o hlt
    have y1 := fun o => xx _ _ x1 o hlt
    have y2 := fun o => xx _ _ x2 o hlt
    clear xx hb1 hbb1 hR0 C0' x0 x1 x2
    go_wp2_with fail
    refine (C1.out _ hR1.out).mono ?_
    rintro e w2 ⟨v2, rfl, hown2, hb2⟩
    have hlt2 := Nat.lt_of_lt_of_le hlt ((below_one w1 (.cells #[.iface 195 (.int .i64 n)] 174)).size)
    have z0 := (hb2.cell hlt2).trans (y0 _)
    have z1 := (hb2.cell hlt2).trans (y1 _)
    have hbb2 := Hbo.out.trans (hb2.mono Hbo.out.size)
    have hR2 := hown2.rb
    clear y0 y1 y2 hR1 Hbo hlt hlt2 C1 hb2 hown2
    go_wp2_with fail
    refine (C2.out _ _ hR2).mono ?_
    rintro e w3 ⟨v3, rfl, hown3, hb3⟩
    have hbb3 := hbb2.trans (hb3.mono hbb2.size)
    have hown3' := hown3.mono hbb2.size
    rw [he.out] at hown3'
    clear hown3 hb3 z0 z1 hR2
    go_wp2_with fail
    go_ret
    exact ⟨_, rfl, hown3', hbb3⟩
  · have e0 := of_text hm
    have C0 := C0.out
    rw [e0] at C0
    simp only [VI.val, VI.v] at C0
    have C0' := Go.Lib.hid C0
    clear C0 hm e0
    have C1 := Go.Lib.hid fun W (h : RB W v l) => put_c v l 2 W h (by omega) (by omega) (by omega)
    have hz := Go.Lib.uvarint_length64 (Go.Lib.zigzag_lt (x := 2) (by omega) (by omega))
    have C2 := fun v' W (h : RB W v' (l ++ uvarint (zigzag 2))) => putText_c v' (l ++ uvarint (zigzag 2)) (str s) W h (by rw [List.length_append, str_size]; omega)
    have he : Hid (l ++ uvarint (zigzag 2) ++ putT s = l ++ putV 2 0 s) := by unfold Hid putV; rw [if_neg (by omega), List.append_assoc]
    rw [show (str s).data.toList = s from by simp [str]] at C2
    have C2 := Go.Lib.hid C2
    clear hz h0 h1 hl
    generalize uvarint (zigzag 2) = uk at *
    generalize putT s = un at *
    unfold rawV at C0' ⊢
    have hR0 := Go.Lib.hid (hv.below (below_one w (.cells #[.int .i64 2, .int .i64 0, .string (str s)] 26)))
    clear hv
    go_enter Tryz.func131, Tryz.ntmps131
    go_wp2_with fail
    refine (C0'.out _).mono ?_
    rintro e w1 ⟨rfl, hb1⟩
    obtain ⟨x0, x1, x2⟩ := box_cells _ _ _ _ _ _ hb1
    have hbb1 := (below_one w _).trans (hb1.mono (below_one w _).size)
    have hR1 := Go.Lib.hid ((hR0.out.below hb1).below (below_one w1 (.cells #[.iface 196 (.string (str s))] 174)))
    have Hbo := Go.Lib.hid (hbb1.trans ((below_one w1 (.cells #[.iface 196 (.string (str s))] 174)).mono hbb1.size))
    have xx := fun (c : Option Value) (p : Addr) (h : w1.cell? p = c) (o : Obj) (hp : p.block < w1.heap.size) => ((below_one w1 o).cell hp).trans h
    have hlt : w.heap.size < w1.heap.size := by
      have h1 := hb1.size
      have h2 := (Array.getElem?_eq_some_iff.1 (heap_alloc_new w (.cells #[.int .i64 2, .int .i64 0, .string (str s)] 26))).1
      omega
    have y0 := fun o => xx _ _ x0 o hlt
    have y1 := fun o => xx _ _ x1 o hlt
    have y2 := fun o => xx _ _ x2 o hlt
    clear xx hb1 hbb1 hR0 C0' x0 x1 x2
    go_wp2_with fail
    refine (C1.out _ hR1.out).mono ?_
    rintro e w2 ⟨v2, rfl, hown2, hb2⟩
    have hlt2 := Nat.lt_of_lt_of_le hlt ((below_one w1 (.cells #[.iface 196 (.string (str s))] 174)).size)
    have z0 := (hb2.cell hlt2).trans (y0 _)
    have z1 := (hb2.cell hlt2).trans (y2 _)
    have hbb2 := Hbo.out.trans (hb2.mono Hbo.out.size)
    have hR2 := hown2.rb
    clear y0 y1 y2 hR1 Hbo hlt hlt2 C1 hb2 hown2
    go_wp2_with fail
    refine (C2.out _ _ hR2).mono ?_
    rintro e w3 ⟨v3, rfl, hown3, hb3⟩
    have hbb3 := hbb2.trans (hb3.mono hbb2.size)
    have hown3' := hown3.mono hbb2.size
    rw [he.out] at hown3'
    clear hown3 hb3 z0 z1 hR2
    go_wp2_with fail
    go_ret
    exact ⟨_, rfl, hown3', hbb3⟩

end Go.Proofs.YthbnecdeebmlhaaGreat

namespace Go.Proofs.YthbnecdeebmlhaaGreat
open Go.RowKit
open Go.Lib (uvarint zigzag)

set_option maxRecDepth 100000 in
theorem pput_c (v : Value) (l key : List UInt8) (gone : Bool) (k n : Int) (s : List UInt8) (w : World) (hv : RB w v l) (hm : mayRec (str key) gone k n (str s) = true) (h0 : -9223372036854775808 ≤ n) (h1 : n ≤ 9223372036854775807) (hl : l.length ≤ 50000) :
    Calls Tryz.prog 111 #[v, recV (str key) gone k n (str s)] w fun e w' => ∃ v', e = .returned v' ∧ Own 5 w' w.heap.size v' (l ++ recB key gone k n s) ∧ Below w.heap.size w w' := by
  have hm' := hm
  unfold mayRec at hm'
  rw [Bool.and_eq_true] at hm'
  obtain ⟨hk, hr⟩ := hm'
  have hks : key.length ≤ 16 := by
    unfold mayK at hk
    rw [Bool.and_eq_true, decide_eq_true_eq, decide_eq_true_eq, str_size] at hk
    exact hk.2
  have hss : (str s).size ≤ maxLen := by
    unfold maxLen
    cases gone with
    | true =>
      rw [if_pos rfl, Bool.and_eq_true] at hr
      have h2 := hr.2
      rw [str_size]
      have h3 : s = [] := by simpa [str, ByteArray.toList_eq] using h2
      rw [h3]
      decide
    | false =>
      rw [if_neg (by decide)] at hr
      rw [str_size]
      rcases mayR_cases hr with ⟨-, h3⟩ | ⟨-, -, h3⟩
      · rw [h3]; decide
      · have := h3; omega
  have c0 := fun W => pmay_c (str key) gone k n (str s) W (by rw [str_size]; unfold maxLen; omega) hss
  rw [hm] at c0
  have c1 := fun W (h : RB W v l) => putText_c v l (str key) W h (by rw [str_size]; omega)
  rw [show (str key).data.toList = key from by simp [str]] at c1
  have hpl : (putT key).length ≤ 30 := by
    have hz := Go.Lib.uvarint_length64 (Go.Lib.zigzag_lt (x := (key.length : Int)) (by omega) (by omega))
    unfold putT
    rw [List.length_append]
    omega
  have C1 := Go.Lib.hid c1
  clear c1
  unfold recV at c0 ⊢
  have C0 := Go.Lib.hid c0
  clear c0
  have hb1 := below_one w (.cells #[.string (str key), .bool gone, .int .i64 k, .int .i64 n, .string (str s)] 28)
  have hA := heap_alloc_new w (.cells #[.string (str key), .bool gone, .int .i64 k, .int .i64 n, .string (str s)] 28)
  have hR0 := hv.below hb1
  cases gone with
  | true =>
    have c2 := fun v' W (h : RB W v' (l ++ putT key)) => put_c v' (l ++ putT key) 0 W h (by omega) (by omega) (by rw [List.length_append]; omega)
    have he : Hid (l ++ putT key ++ uvarint (zigzag 0) = l ++ recB key true k n s) := by unfold Hid recB; rw [if_pos rfl, List.append_assoc]
    rw [he.out] at c2
    have C2 := Go.Lib.hid c2
    clear c2 he hl hpl hks hss hr hk hm h0 h1
    generalize putT key = pk at *
    generalize l ++ recB key true k n s = L at *
    go_enter Tryz.func111, Tryz.ntmps111
    go_wp2_with fail
    refine (C0.out _).mono ?_
    rintro e w1 ⟨rfl, hb2⟩
    have hbb := hb1.trans (hb2.mono hb1.size)
    have hA := row_kept hA hb2
    have hR1 := hR0.below hb2
    obtain ⟨x0, x1, x2, x3, x4⟩ := row5 hA
    clear hb1 hb2 hR0 C0
    go_wp2_with fail
    refine (C1.out _ hR1).mono ?_
    rintro e w2 ⟨v2, rfl, hown2, hb2⟩
    have hbb2 := hbb.trans (hb2.mono hbb.size)
    have hA := row_kept hA hb2
    have hR2 := hown2.rb
    clear x0 x1 x2 x3 x4 hb2 hown2 hbb hR1 C1
    obtain ⟨x0, x1, x2, x3, x4⟩ := row5 hA
    go_wp2_with fail
    refine (C2.out _ _ hR2).mono ?_
    rintro e w3 ⟨v3, rfl, hown3, hb3⟩
    have hbb3 := hbb2.trans (hb3.mono hbb2.size)
    have hown3' := hown3.mono hbb2.size
    clear hown3 hb3 hR2 C2 x0 x1 x2 x3 x4
    go_wp2_with fail
    go_ret
    exact ⟨_, rfl, hown3', hbb3⟩
  | false =>
    rw [if_neg (by decide)] at hr
    have c2 := fun v' W (h : RB W v' (l ++ putT key)) => vput_c v' (l ++ putT key) k n s W h hr h0 h1 (by rw [List.length_append]; omega)
    have he : Hid (l ++ putT key ++ putV k n s = l ++ recB key false k n s) := by unfold Hid recB; rw [if_neg (by decide), List.append_assoc]
    rw [he.out] at c2
    unfold rawV at c2
    have C2 := Go.Lib.hid c2
    clear c2 he hl hpl hks hss hr hk hm h0 h1
    generalize putT key = pk at *
    generalize l ++ recB key false k n s = L at *
    go_enter Tryz.func111, Tryz.ntmps111
    go_wp2_with fail
    refine (C0.out _).mono ?_
    rintro e w1 ⟨rfl, hb2⟩
    have hbb := hb1.trans (hb2.mono hb1.size)
    have hA := row_kept hA hb2
    have hR1 := hR0.below hb2
    obtain ⟨x0, x1, x2, x3, x4⟩ := row5 hA
    clear hb1 hb2 hR0 C0
    go_wp2_with fail
    refine (C1.out _ hR1).mono ?_
    rintro e w2 ⟨v2, rfl, hown2, hb2⟩
    have hbb2 := hbb.trans (hb2.mono hbb.size)
    have hA := row_kept hA hb2
    have hR2 := hown2.rb
    clear x0 x1 x2 x3 x4 hb2 hown2 hbb hR1 C1
    obtain ⟨x0, x1, x2, x3, x4⟩ := row5 hA
    go_wp2_with fail
    refine (C2.out _ _ hR2).mono ?_
    rintro e w3 ⟨v3, rfl, hown3, hb3⟩
    have hbb3 := hbb2.trans (hb3.mono hbb2.size)
    have hown3' := hown3.mono hbb2.size
    clear hown3 hb3 hR2 C2 x0 x1 x2 x3 x4
    go_wp2_with fail
    go_ret
    exact ⟨_, rfl, hown3', hbb3⟩

end Go.Proofs.YthbnecdeebmlhaaGreat

namespace Go.Proofs.YthbnecdeebmlhaaGreat
open Go.RowKit

set_option maxHeartbeats 1000000 in
set_option maxRecDepth 100000 in
theorem entry_c (kx : ByteArray) (gx : Bool) (ax nx : Int) (sx : ByteArray) (w : World) (hm : mayT (kx, gx, ax, nx, sx) = true) (hok : RecOk (kx, gx, ax, nx, sx)) :
    Calls Tryz.prog 80 #[.agg #[.string kx, .bool gx, .int .i64 ax, .int .i64 nx, .string sx]] w fun e w' => ∃ v', e = .returned v' ∧ Own 5 w' w.heap.size v' (entB (kx, gx, ax, nx, sx)) ∧ Below w.heap.size w w' := by
  have hsz := mayT_short hm
  simp only [] at hsz
  have HX := Go.Lib.hid (heap_alloc_new w (.cells #[.string kx, .bool gx, .int .i64 ax, .int .i64 nx, .string sx] 28))
  have HB := Go.Lib.hid (below_one w (.cells #[.string kx, .bool gx, .int .i64 ax, .int .i64 nx, .string sx] 28))
  have CH := Go.Lib.hid fun W => hof_k kx (hashS kx) rfl W (by omega)
  have CT := Go.Lib.hid fun W => htag_c (hashS kx) W (hashS_lt kx)
  have HTL := tag_lt (hashS kx)
  have CP := Go.Lib.hid fun v (W : World) (hv : RB W v [UInt8.ofNat (tagN (hashS kx) / 256), UInt8.ofNat (tagN (hashS kx) % 256)]) => by
    have hn := recOk_n hok
    have := pput_c v _ (bl kx) gx ax nx (bl sx) W hv (by rw [str_bl, str_bl]; exact hm) hn.1 hn.2 (by simp)
    rw [str_bl, str_bl] at this
    unfold recV at this
    exact this
  have HE := Go.Lib.hid (show entB (kx, gx, ax, nx, sx) = [UInt8.ofNat (tagN (hashS kx) / 256), UInt8.ofNat (tagN (hashS kx) % 256)] ++ recB (bl kx) gx ax nx (bl sx) from rfl)
  generalize entB (kx, gx, ax, nx, sx) = eb at *
  generalize tagN (hashS kx) = tg at *
  generalize hashS kx = hx at *
  have HL := Go.Lib.hid (show ∀ W : World, RB (W.alloc (.cells #[.int .u8 ((tg : Int) / 256), .int .u8 ((tg : Int) % 256)] 5)) (.slice (some ⟨W.heap.size, 0, none⟩) 2 2) [UInt8.ofNat (tg / 256), UInt8.ofNat (tg % 256)] from fun W => by
    refine RB.lits W 5 _ _ _ 2 ?_ rfl (by simp)
    have e1 : (UInt8.ofNat (tg / 256)).toNat = tg / 256 := by simp only [UInt8.toNat_ofNat']; omega
    have e2 : (UInt8.ofNat (tg % 256)).toNat = tg % 256 := by simp only [UInt8.toNat_ofNat']; omega
    simp [cells, e1, e2])
  have hw1 : IntKind.u8.wrap ((tg : Int) / 256) = (tg : Int) / 256 := by rw [IntKind.wrap_u8]; omega
  have hw2 : IntKind.u8.wrap (tg : Int) = (tg : Int) % 256 := by rw [IntKind.wrap_u8]
  clear hsz hm hok
  go_enter Tryz.func80, Tryz.ntmps80
  go_wp2_with fail
  refine (CH.out _).mono ?_
  rintro e w1 ⟨rfl, hc⟩
  have HX1 := Go.Lib.hid (row_kept HX.out hc)
  have HB1 := Go.Lib.hid (HB.out.trans (hc.mono HB.out.size))
  clear hc CH HX HB
  go_wp2_with fail
  refine (CT.out _).mono ?_
  rintro e w2 ⟨rfl, rfl⟩
  have hb2 := below_one w1 (.cells #[.int .u8 ((tg : Int) / 256), .int .u8 ((tg : Int) % 256)] 5)
  have HX2 := Go.Lib.hid (row_kept HX1.out hb2)
  have HB2 := Go.Lib.hid (HB1.out.trans (hb2.mono HB1.out.size))
  have CP2 := Go.Lib.hid (CP.out _ _ (HL.out w1))
  obtain ⟨x0, x1, x2, x3, x4⟩ := row5 HX2.out
  clear hb2 CP HL CT
  go_wp2_with fail
  refine CP2.out.mono ?_
  rintro e w3 ⟨v3, rfl, ho, hc⟩
  have HF := Go.Lib.hid (And.intro (show Own 5 w3 w.heap.size v3 eb by rw [HE.out]; exact ho.mono HB2.out.size) (HB2.out.trans (hc.mono HB2.out.size)))
  clear ho hc CP2
  go_wp2_with fail
  go_ret
  exact ⟨_, rfl, HF.out.1, HF.out.2⟩

/-- More bytes; the row is the one it was, or a new one. -/
theorem wpList_append_bytes {P : Program} {ops : Array Oper} {rest : List Oper} {o : Oper} {a : Act} {w : World} {Q : Exit → Act → World → Prop} (hgd : o.guard = none) (s x : Operand) (t : TypeId)
    (ho : o.op = .call { callee := .builtin .append, args := #[s, x], argTypes := #[t, t] })
    (B : Nat) (e : TypeId) (ht : P.underlying t = some (.slice e)) (hinfo : (P.info? e).map (fun i => (i.zero, i.size, i.bytes)) = some (some (.int .u8 0), 1, 1))
    (v xv : Value) (l m : List UInt8) (hs : a.eval s = v) (hx : a.eval x = xv) (hown : Own e w B v l) (hrb : RB w xv m) (hm0 : m ≠ [])
    (hlen : l.length + m.length ≤ 140737488355328) (hbase : B ≤ w.heap.size)
    (h : ∀ v' w', Own e w' B v' (l ++ m) → w.grownBy w' v.ownBlock → (v'.ownBlock = v.ownBlock ∨ ∀ k, v'.ownBlock = some k → w.heap.size ≤ k) → wpList P ops Q rest (a.put o.dst v') w') : wpList P ops Q (o :: rest) a w := by
  obtain ⟨ad, cap, rfl, h1, h2, h3, h4⟩ := hrb
  obtain ⟨b, of_, rfl, hc⟩ := h4 hm0
  refine wpList_append_where w hgd s x t ho B e ht (.int .u8 0) 1 1 hinfo rfl (by decide) v l.length (cells l) hs hown ⟨b, of_, none⟩ m.length cap (cells m) hx (by simp [cells_length]) ?_ (cells_one m) (by unfold maxLen; omega) (by omega) hbase ?_
  · intro j u hj
    have hjm : j < m.length := by
      rcases Nat.lt_or_ge j m.length with hlt | hge
      · exact hlt
      · rw [List.getElem?_eq_none (by simpa [cells_length] using hge)] at hj; cases hj
    rw [cells_at m j hjm] at hj
    cases hj
    have hadd : (⟨b, of_, none⟩ : Addr).add j = ⟨b, of_ + j, none⟩ := by unfold Addr.add; split <;> simp_all
    rw [hadd]
    exact hc j hjm
  · intro v' w' hown' hg hn
    exact h v' w' (by unfold Own; rw [List.length_append, cells_append]; exact hown') hg hn

/-- The head's bits and the body's bytes, each in a row of its own. -/
structure EncI (TT : TabT) (g hb n : Nat) (u : Value) (w : World) : Prop where
  bt : ∃ vb, BT w g hb vb (hasL TT n) ∧ ∀ k, u.ownBlock = some k → vb.ownBlock ≠ some k
  own : Own 5 w g u (bodyB TT n)
theorem EncI.below {TT : TabT} {g hb n : Nat} {u : Value} {w w' : World} (h : EncI TT g hb n u w) (hk : Below w.heap.size w w') : EncI TT g hb n u w' := by
  obtain ⟨vb, h1, h2⟩ := h.bt
  exact ⟨⟨vb, h1.below hk, h2⟩, h.own.below hk⟩
theorem Own.twoKept {e : TypeId} {w w' : World} {B b : Nat} {r : Option Nat} {v : Value} {l : List UInt8} (h : Own e w B v l) (hk : Two b r w w') (h1 : v.ownBlock ≠ some b) (h2 : ∀ k, v.ownBlock = some k → r ≠ some k) : Own e w' B v l := by
  refine ⟨h.1, ?_⟩
  rcases h.2 with h' | ⟨g, cap, cur, e1, hB, e2, e3⟩
  · exact .inl h'
  · subst e1
    exact .inr ⟨g, cap, cur, rfl, hB, (hk.block g (Array.getElem?_eq_some_iff.1 e2).1 (fun e' => h1 (by rw [← e']; rfl)) (fun e' => h2 g rfl e'.symm)).trans e2, e3⟩
theorem Own.ltHeap {e : TypeId} {w : World} {B : Nat} {v : Value} {l : List UInt8} (h : Own e w B v l) : ∀ k, v.ownBlock = some k → k < w.heap.size := fun k hk => (World.ownsRow.lt h k hk).2

theorem BB.grownKept {w w' : World} {B b n : Nat} {v : Value} {p : List UInt8} {r : Option Nat} (h : BB w B b v p n) (hg : w.grownBy w' r) (h1 : r ≠ some b) (h2 : ∀ k, r = some k → v.ownBlock ≠ some k) : BB w' B b v p n := by
  refine ⟨(hg.block b h.lt (fun e => h1 e.symm)).trans h.blk, h.row.kept hg ?_, h.low⟩
  cases r with
  | none =>
    cases hv : v.ownBlock with
    | none => exact .inl rfl
    | some k => exact .inr (by simp)
  | some k => exact .inr (h2 k rfl)

set_option maxHeartbeats 4000000 in
set_option maxRecDepth 100000 in
theorem oencode_c (TT : TabT) (w : World) (hs : ∀ q, q < 32 → (TT q).2.1.size ≤ 1000 ∧ (TT q).2.2.2.2.2.size ≤ 1000) (hok : TabOk TT) :
    Calls Tryz.prog 48 #[.agg (tabL TT 32).toArray] w fun e w' => ∃ v', e = .returned v' ∧ Own 5 w' w.heap.size v' (if okTo TT 32 then tabB TT else []) ∧ Below w.heap.size w w' := by
  have HRG := Go.Lib.hid (TO.new w TT)
  have HB := Go.Lib.hid (below_one w (.cells (tabL TT 32).toArray 43))
  have HV := Go.Lib.hid (tabV TT)
  have HRA := Go.Lib.hid (fun (W : World) g (h : TO W g TT) => h.range)
  have CM := Go.Lib.hid fun W => omay_c TT W hs
  have HREC := Go.Lib.hid (fun (h : okTo TT 32 = true) q (hq : q < 32) (h1 : (TT q).1 = true) => And.intro ((okTo_slot h hq).1 h1) (hok q hq))
  have HLEN := Go.Lib.hid (fun (h : okTo TT 32 = true) => bodyB_len h hok)
  generalize tabL TT 32 = TL at *
  generalize (fun b => (rowL TT b).toArray) = RL at *
  generalize (rowL (fun _ => (false, nullR)) 0).toArray = Z at *
  clear hs hok
  obtain ⟨g, hg⟩ : ∃ g, g = w.heap.size := ⟨_, rfl⟩
  have HG := Go.Lib.hid hg
  rw [← hg] at HRG HB ⊢
  clear hg
  have hz := HV.out.zero
  obtain ⟨OUT, hOUT⟩ : ∃ OUT, OUT = if okTo TT 32 then tabB TT else [] := ⟨_, rfl⟩
  rw [← hOUT]
  have HOUT := Go.Lib.hid hOUT
  clear hOUT
  go_enter Tryz.func48, Tryz.ntmps48
  go_upto_region 1 with (fail)
  rw [← HG.out]
  generalize w.alloc (.cells TL.toArray 43) = w1 at *
  have HRX := Go.Lib.hid (HRA.out _ _ HRG.out)
  go_wp2_with (first
    | (with_reducible show wpList _ _ _ (⟨some 9, _, _, _, _, _⟩ :: _) _ _; go_loud (refine wpList_load_mid rfl 43 (.tmp 1) rfl g 0 rfl TL _ HRX.out Tryz.underlying43 rfl HV.out.size ?_))
    | fail)
  refine (CM.out _).mono ?_
  rintro e w2 ⟨rfl, hc⟩
  have HT2 := Go.Lib.hid (HRG.out.below hc)
  have HB2 := Go.Lib.hid (HB.out.trans (hc.mono (by have := HB.out.size; have := HG.out; omega)))
  clear hc CM HRG HB HRX
  by_cases hok : okTo TT 32 = true
  · have HOUT := Go.Lib.hid (show OUT = tabB TT by rw [HOUT.out, if_pos hok])
    rw [hok]
    have HREC2 := Go.Lib.hid (HREC.out hok)
    have HLEN2 := Go.Lib.hid (HLEN.out hok)
    clear hok HREC HLEN
    go_upto_region 4 with (fail)
    have hb3 := below_one w2 (.cells #[.slice none 0 0, .int .i64 0] 80)
    have HBT := Go.Lib.hid ((BT.new w2).mono (B' := g) (by have := HB2.out.size; have := HG.out; omega))
    have HT3 := Go.Lib.hid (HT2.out.below hb3)
    have HB3 := Go.Lib.hid (HB2.out.trans (hb3.mono (by have := HB2.out.size; have := HG.out; omega)))
    have HHB := Go.Lib.hid (show g ≤ w2.heap.size by have := HB2.out.size; have := HG.out; omega)
    clear hb3 HT2 HB2
    obtain ⟨hb, hhb⟩ : ∃ h, h = w2.heap.size := ⟨_, rfl⟩
    rw [← hhb] at HBT HHB ⊢
    clear hhb
    generalize w2.alloc (.cells #[.slice none 0 0, .int .i64 0] 80) = w3 at *
    have HRX := Go.Lib.hid (HRA.out _ _ HT3.out)
    have HI := Go.Lib.hid (show EncI TT g hb 0 (.slice none 0 0) w3 from ⟨⟨_, HBT.out, (fun k hk => by cases hk)⟩, Own.nil _ _ _⟩)
    clear HT3 HBT HRA
    go_wp2_with (first
      | (with_reducible show wpList _ _ _ (⟨some 12, _, _, _, _, _⟩ :: _) _ _; go_loud (refine wpList_load_mid rfl 43 (.tmp 1) rfl g 0 rfl TL _ HRX.out Tryz.underlying43 rfl HV.out.size ?_))
      | fail)
    go_loopw [4, 13] (fun lv bv wr => ∃ (b : Nat) (u : Value), u = lv ∧ b ≤ 8 ∧ bv = .int .i64 (b : Int) ∧ Hid (EncI TT g hb (4 * b) u wr) ∧ Hid (Below g w wr)) (fun _ bv _ => 8 - (intOf bv).toNat)
    case atStart => exact ⟨0, _, rfl, by omega, rfl, HI, HB3⟩
    case round =>
      clear HI HRX HB3
      obtain ⟨b, u, rfl, hb8, rfl, HI, HB⟩ := hrel
      by_cases hlt : b < 8
      · have hltI : (b : Int) < 8 := by omega
        have hix := HV.out.row b hlt
        have hgw : g ≤ wr.heap.size := by have := HB.out.size; have := HG.out; omega
        have hb2 := below_one wr (.cells Z 41)
        have HZ := Go.Lib.hid (heap_alloc_new wr (.cells Z 41))
        have HX := Go.Lib.hid (setRow_heap _ wr.heap.size _ (RL b) 41 (0, 0) HZ.out)
        have hb3 := setRow_below (RL b) hb2 (Nat.le_refl _)
        have HB2 := Go.Lib.hid (HB.out.trans (hb3.mono hgw))
        have HI2 := Go.Lib.hid (HI.out.below hb3)
        clear hb2 hb3 HB HI
        go_upto_region 8 with (first
          | (with_reducible show wpList _ _ _ (⟨none, Op.store 41 (.tmp 6) (.tmp 15), _, _, _, _⟩ :: _) _ _; go_loud (refine wpList_store_row rfl 41 (.tmp 6) (.tmp 15) rfl wr.heap.size (RL b) rfl rfl 41 Z HZ.out (HV.out.rsize b) (HV.out.zsize b) (HV.out.rone b) ?_))
          | fail)
        obtain ⟨g2, hg2⟩ : ∃ g2, g2 = wr.heap.size := ⟨_, rfl⟩
        rw [← hg2] at HX HI2 HB2 ⊢
        clear hg2 HZ hix hz hgw
        generalize (wr.alloc (.cells Z 41)).setRow g2 (RL b) = w4 at *
        go_wp2_with (first
          | (with_reducible show wpList _ _ _ (⟨some 16, _, _, _, _, _⟩ :: _) _ _; go_loud (refine wpList_load_row rfl 41 (.tmp 6) rfl g2 rfl 41 (RL b) (0, 0) _ HX.out Tryz.underlying41 rfl (HV.out.rsize b) ?_))
          | fail)
        go_loopw [4, 17] (fun lv sv wr => ∃ (s : Nat) (u : Value), u = lv ∧ s ≤ 4 ∧ sv = .int .i64 (s : Int) ∧ Hid (EncI TT g hb (4 * b + s) u wr) ∧ Hid (Below g w wr)) (fun _ sv _ => 4 - (intOf sv).toNat)
        case atStart => exact ⟨0, _, rfl, by omega, rfl, HI2, HB2⟩
        case round =>
          clear HI2 HB2 HX
          obtain ⟨s, u, rfl, hs4, rfl, HI, HB⟩ := hrel
          by_cases hslt : s < 4
          · have hsI : (s : Int) < 4 := by omega
            have hgw : g ≤ wr.heap.size := by have := HB.out.size; have := HG.out; omega
            have hix2 := HV.out.slot b s hslt
            rw [slot6] at hix2
            have HN := Go.Lib.hid (show 4 * b + s < 32 by omega)
            have HRC := Go.Lib.hid (HREC2.out (4 * b + s) HN.out)
            have HBL := Go.Lib.hid (HLEN2.out (4 * b + s) (by omega))
            have HHN := Go.Lib.hid (show hasL TT (4 * b + (s + 1)) = hasL TT (4 * b + s) ++ [(TT (4 * b + s)).1] from hasL_succ TT (4 * b + s))
            have HBN := Go.Lib.hid (show bodyB TT (4 * b + (s + 1)) = bodyB TT (4 * b + s) ++ (if (TT (4 * b + s)).1 then entB (TT (4 * b + s)).2 else []) from bodyB_succ TT (4 * b + s))
            obtain ⟨vb, hbt, hap⟩ := HI.out.bt
            have HBT := Go.Lib.hid hbt
            have HAP := Go.Lib.hid hap
            have HOW := Go.Lib.hid HI.out.own
            have HHL := Go.Lib.hid (hasL_len TT (4 * b + s))
            clear HI hbt hap
            generalize hasL TT (4 * b + s) = HL at *
            generalize bodyB TT (4 * b + s) = BL at *
            generalize TT (4 * b + s) = y at *
            obtain ⟨hq, kx, gx, ax, nx, sx⟩ := y
            simp only [] at hix2 HRC HHN HBN
            have hbA := below_one wr (.cells #[.bool hq, .string kx, .bool gx, .int .i64 ax, .int .i64 nx, .string sx] 40)
            have HX := Go.Lib.hid (heap_alloc_new wr (.cells #[.bool hq, .string kx, .bool gx, .int .i64 ax, .int .i64 nx, .string sx] 40))
            have HBT2 := Go.Lib.hid (HBT.out.below hbA)
            have HOW2 := Go.Lib.hid (HOW.out.below hbA)
            have HB2 := Go.Lib.hid (HB.out.trans (hbA.mono hgw))
            clear hbA HBT HOW HB
            go_upto_region 11 with (fail)
            obtain ⟨g3, hg3⟩ : ∃ g, g = wr.heap.size := ⟨_, rfl⟩
            rw [← hg3] at HX ⊢
            clear hix2 hg3
            generalize wr.alloc (.cells #[.bool hq, .string kx, .bool gx, .int .i64 ax, .int .i64 nx, .string sx] 40) = w5 at *
            obtain ⟨x0, x1, x2, x3, x4, x5⟩ := row6 HX.out
            have CP := Go.Lib.hid (bitput_c hq w5 g hb vb HL HBT2.out (by have := HHL.out; have := HN.out; omega))
            go_wp2_with fail
            refine CP.out.mono ?_
            rintro e w6 ⟨rfl, vb6, hbt, htw, hnw⟩
            have HBT6 := Go.Lib.hid hbt
            have HOW6 := Go.Lib.hid (HOW2.out.twoKept htw (own_not HOW2.out HBT2.out.blk (by decide)) HAP.out)
            have HAP6 := Go.Lib.hid (show ∀ k, u.ownBlock = some k → vb6.ownBlock ≠ some k from fun k hk hv => by
              rcases hnw with h | h
              · exact HAP.out k hk (h.symm.trans hv)
              · have h1 := h k hv
                have h2 := HOW2.out.ltHeap k hk
                omega)
            have hw5 : g ≤ w5.heap.size := by have := HB2.out.size; have := HG.out; omega
            have HB6 := Go.Lib.hid (HB2.out.trans (htw.below HHB.out HBT2.out.rows hw5))
            have HX6 := Go.Lib.hid ((htw.block g3 (row_lt HX.out) (fun e => by have h1 := HX.out; rw [e, HBT2.out.blk] at h1; simp at h1) (fun e => own_not HBT2.out.row HX.out (by decide) e.symm)).trans HX.out)
            clear hbt htw hnw CP HBT2 HOW2 HAP HB2 HX x0 x1 x2 x3 x4 x5 hw5
            obtain ⟨x0, x1, x2, x3, x4, x5⟩ := row6 HX6.out
            cases hq with
            | false =>
              simp only [Bool.false_eq_true, if_false, List.append_nil] at HBN
              have HI8 := Go.Lib.hid (show EncI TT g hb (4 * b + (s + 1)) u w6 from ⟨⟨vb6, by rw [HHN.out]; exact HBT6.out, HAP6.out⟩, by rw [HBN.out]; exact HOW6.out⟩)
              go_wp2_with fail
              exact ⟨⟨s + 1, _, rfl, by omega, by go_num, HI8, HB6⟩, by simp only [intOf]; omega⟩
            | true =>
              simp only [if_true] at HBN
              have CE := Go.Lib.hid (entry_c kx gx ax nx sx w6 (HRC.out rfl).1 (HRC.out rfl).2)
              have HEL := Go.Lib.hid (show (entB (kx, gx, ax, nx, sx)).length ≤ 210 ∧ entB (kx, gx, ax, nx, sx) ≠ [] from by
                have := (recT_len (HRC.out rfl).1 (HRC.out rfl).2).2
                unfold entB
                simp only [List.length_cons]
                exact ⟨by omega, by simp⟩)
              generalize entB (kx, gx, ax, nx, sx) = EB at *
              go_wp2_with fail
              refine CE.out.mono ?_
              rintro e w7 ⟨v7, rfl, ho, hc⟩
              have hw6 : g ≤ w6.heap.size := by have := HB6.out.size; have := HG.out; omega
              have HR7 := Go.Lib.hid ho.rb
              have HBT7 := Go.Lib.hid (HBT6.out.below hc)
              have HOW7 := Go.Lib.hid (HOW6.out.below hc)
              have HB7 := Go.Lib.hid (HB6.out.trans (hc.mono hw6))
              clear ho hc CE HBT6 HOW6 HB6 hw6 x0 x1 x2 x3 x4 x5 HX6
              go_wp2_with (first
                | (with_reducible show wpList _ _ _ (⟨some 29, _, _, _, _, _⟩ :: _) _ _; go_loud (refine wpList_append_bytes rfl (.tmp 25) (.tmp 28) 47 rfl g 5 Tryz.underlying47 info8 u v7 BL EB rfl rfl HOW7.out HR7.out HEL.out.2 (by have := HBL.out; have := HEL.out.1; have := HN.out; omega) (by have := HB7.out.size; have := HG.out; omega) ?_); intro v8 w8 ho8 hg8 hn8)
                | fail)
              have HI8 := Go.Lib.hid (show EncI TT g hb (4 * b + (s + 1)) v8 w8 from by
                refine ⟨⟨vb6, ?_, fun k hk hv => ?_⟩, by rw [HBN.out]; exact ho8⟩
                · rw [HHN.out]
                  exact HBT7.out.grownKept hg8 (own_not HOW7.out HBT7.out.blk (by decide)) HAP6.out
                · rcases hn8 with h | h
                  · exact HAP6.out k (h.symm.trans hk) hv
                  · have h1 := h k hk
                    have h2 := HBT7.out.row.ltHeap k hv
                    omega)
              have HB8 := Go.Lib.hid (HB7.out.grown hg8 (by have := HB7.out.size; have := HG.out; omega) (fun j hj => HOW7.out.row j hj))
              clear ho8 hg8 hn8
              go_wp2_with fail
              exact ⟨⟨s + 1, _, rfl, by omega, by go_num, HI8, HB8⟩, by simp only [intOf]; omega⟩
          · obtain rfl : s = 4 := by omega
            go_wp2_with fail
            exact ⟨⟨b + 1, _, rfl, by omega, by go_num, HI, HB⟩, by simp only [intOf]; omega⟩
      · obtain rfl : b = 8 := by omega
        obtain ⟨vb, hbt, hap⟩ := HI.out.bt
        have hbt : BT wr g hb vb (hasL TT 32) := hbt
        have CB := Go.Lib.hid (bytes_c wr g hb vb _ _ hbt (by rw [headB_len]; omega))
        have HOW := Go.Lib.hid (show Own 5 wr g u (bodyB TT 32) from HI.out.own)
        have HLB := Go.Lib.hid (HLEN2.out 32 (by omega))
        clear HI hbt hap HREC2 HLEN2
        go_wp2_with fail
        refine CB.out.mono ?_
        rintro e w4 ⟨v4, rfl, ho, hc⟩
        have hgw : g ≤ wr.heap.size := by have := HB.out.size; have := HG.out; omega
        have HO4 := Go.Lib.hid (ho.mono hgw)
        have HR4 := Go.Lib.hid (HOW.out.below hc).rb
        have HB4 := Go.Lib.hid (HB.out.trans (hc.mono hgw))
        clear ho hc CB HOW HB hgw
        go_wp2_with (first
          | (with_reducible show wpList _ _ _ (⟨some 34, _, _, _, _, _⟩ :: _) _ _; go_loud (refine wpList_append_RB rfl (.tmp 32) (.tmp 33) 47 rfl g 5 Tryz.underlying47 info8 v4 u _ _ rfl rfl HO4.out HR4.out (by have := HLB.out; rw [headB_len]; omega) (by have := HB4.out.size; have := HG.out; omega) ?_); intro v5 w5 ho5 hg5)
          | fail)
        have HF := Go.Lib.hid (And.intro (show Own 5 w5 g v5 OUT by rw [HOUT.out]; exact ho5) (HB4.out.grown hg5 (by have := HB4.out.size; have := HG.out; omega) (fun j hj => HO4.out.row j hj)))
        clear ho5 hg5
        go_wp2_with fail
        go_ret
        exact ⟨_, rfl, HF.out.1, HF.out.2⟩
  · have hok : okTo TT 32 = false := by simpa using hok
    have HOUT := Go.Lib.hid (show OUT = [] by rw [HOUT.out, hok]; rfl)
    rw [hok]
    clear HREC HLEN
    go_wp2_with fail
    go_ret
    exact ⟨_, rfl, by rw [HOUT.out]; exact Own.nil _ _ _, HB2.out⟩
end Go.Proofs.YthbnecdeebmlhaaGreat

namespace Go.Proofs.YthbnecdeebmlhaaGreat
open Go.RowKit

theorem infoU64 : (Tryz.prog.info? 74).map (fun i => (i.zero, i.size, i.bytes)) = some (some (.int .u64 0), 1, 8) := by kernel_rfl
theorem infoI64 : (Tryz.prog.info? 3).map (fun i => (i.zero, i.size, i.bytes)) = some (some (.int .i64 0), 1, 8) := by kernel_rfl

/-- What stands while a word is appended (p: it has been) and stored (q: it has been). -/
def JN (w0 : World) (B b : Nat) (v1 v2 : Value) (l : List Bool) (k : Nat) (p q : Bool) (w : World) : Prop :=
  Below B w0 w ∧ if q then ∃ u, RKW w B b u v2 l (k + 1) k else (w.heap[b]? = some (.cells #[v1, v2, .int .i64 (l.length : Int)] 123) ∧ OwnV 3 w B v2 (zi .i64 (aheads l k)) ∧ (p = false → OwnV 74 w B v1 (zi .u64 (words l k))))
theorem JN.alloc {w0 w : World} {B b : Nat} {v1 v2 : Value} {l : List Bool} {k : Nat} {p q : Bool} (h : JN w0 B b v1 v2 l k p q w) (hB : B ≤ w.heap.size) (o : Obj) : JN w0 B b v1 v2 l k p q (w.alloc o) := by
  have hb : Below w.heap.size w (w.alloc o) := (Below.refl _ _).alloc (Nat.le_refl _) o
  refine ⟨h.1.trans (hb.mono hB), ?_⟩
  have h2 := h.2
  split
  · rename_i hq
    rw [if_pos hq] at h2
    obtain ⟨u, hu⟩ := h2
    exact ⟨u, hu.below hb⟩
  · rename_i hq
    rw [if_neg hq] at h2
    obtain ⟨a1, a2, a3⟩ := h2
    exact ⟨(hb.block b (Array.getElem?_eq_some_iff.1 a1).1).trans a1, a2.below hb, fun hp => (a3 hp).below hb⟩

def ahead8 (done : Nat → Bool) : Prop := (done 10 = true → done 4 = true ∧ done 9 = true) ∧ (done 13 = true → done 10 = true)
def IN (w0 : World) (B b : Nat) (v1 v2 : Value) (l : List Bool) (k : Nat) (done : Nat → Bool) (w : World) : Prop := ahead8 done ∧ JN w0 B b v1 v2 l k (done 10) (done 13) w
theorem IN.keep {w0 w w' : World} {B b : Nat} {v1 v2 : Value} {l : List Bool} {k : Nat} (done : Nat → Bool) (i : Nat) (hi : (i ≠ 10 ∧ i ≠ 13)) (h : IN w0 B b v1 v2 l k done w) (hw : JN w0 B b v1 v2 l k (done 10) (done 13) w → JN w0 B b v1 v2 l k (done 10) (done 13) w') : IN w0 B b v1 v2 l k (doneToo done i) w' := by
  obtain ⟨⟨h1, h2⟩, h3⟩ := h
  refine ⟨⟨?_, ?_⟩, ?_⟩
  · intro hd
    rw [doneToo_other (Ne.symm hi.1)] at hd
    obtain ⟨a, c⟩ := h1 hd
    exact ⟨by unfold doneToo; split <;> simp [a], by unfold doneToo; split <;> simp [c]⟩
  · intro hd
    rw [doneToo_other (Ne.symm hi.2)] at hd
    rw [doneToo_other (Ne.symm hi.1)]
    exact h2 hd
  · rw [doneToo_other (Ne.symm hi.1), doneToo_other (Ne.symm hi.2)]
    exact hw h3
def VN (r k x t s X : Nat) (v1 : Value) (l : List Bool) : Nat → World → Value → Prop
  | 35, _, v => v = .pointer (some ⟨r, 0, none⟩)
  | 36, _, v => v = .pointer (some ⟨r, 0, none⟩)
  | 37, _, v => v = .pointer (some ⟨r, 0, none⟩)
  | 38, _, v => v = .pointer (some ⟨r, 0, none⟩)
  | 39, _w, v => v = v1
  | 40, _, v => v = .int .u64 (x : Int)
  | 41, _, v => v = .int .i64 (t : Int)
  | 42, _, v => v = .int .i64 (s : Int)
  | 43, _, v => v = .int .u64 (X : Int)
  | 44, w, v => ∃ g, v = .slice (some ⟨g, 0, none⟩) 1 1 ∧ w.heap[g]? = some (.cells #[.int .u64 (X : Int)] 74) ∧ v1.ownBlock ≠ some g
  | 45, w, v => OwnV 74 w r v (zi .u64 (words l k ++ [X]))
  | 46, _, v => v = .pointer (some ⟨r, 0, none⟩)
  | 47, _, v => v = .pointer (some ⟨r, 0, none⟩)
  | _, _, _ => True

theorem rv_cell {w : World} {g : Nat} {x : Value} {e : TypeId} (h : w.heap[g]? = some (.cells #[x] e)) : RV w (.slice (some ⟨g, 0, none⟩) 1 1) [x] := by
  refine ⟨some ⟨g, 0, none⟩, 1, rfl, Nat.le_refl _, by simp [maxLen], (fun h => by cases h), fun _ => ⟨g, 0, rfl, fun i hi => ?_⟩⟩
  obtain rfl : i = 0 := by simp at hi; omega
  rw [cell_of_row w g 0 _ _ _ h]
  rfl
theorem VN_alloc (r k x t s X : Nat) (v1 : Value) (l : List Bool) (w : World) (o : Obj) : ∀ (i : Nat) (v : Value), VN r k x t s X v1 l i w v → VN r k x t s X v1 l i (w.alloc o) v := by
  intro i v h
  unfold VN at h ⊢
  split at h <;> first | exact h | trivial | exact h.alloc _ | exact (let ⟨g, h1, h2, h3⟩ := h; ⟨g, h1, (((Below.refl _ _).alloc (Nat.le_refl _) o).block g (Array.getElem?_eq_some_iff.1 h2).1).trans h2, h3⟩)
theorem OwnV.slice {e : TypeId} {w : World} {B : Nat} {v : Value} {xs : List Value} (h : OwnV e w B v xs) : ∃ a n c, v = .slice a n c := by
  rcases h.2 with ⟨rfl, -⟩ | ⟨g, cap, cur, rfl, -⟩
  · exact ⟨_, _, _, rfl⟩
  · exact ⟨_, _, _, rfl⟩
theorem below_set {w : World} {r o : Nat} {v : Value} (h : r < w.heap.size) : Below r w (w.setCell ⟨r, o, none⟩ v) :=
  ⟨rfl, rfl, rfl, by simp [World.setCell], fun k hk => Below.heap_setCell _ _ _ _ (by rintro rfl; exact absurd hk (Nat.lt_irrefl _))⟩
theorem VN_set (r k x t s X : Nat) (v1 : Value) (l : List Bool) (w : World) (u0 : Value) (a1 : Value) (a2 : Value) (hc : w.heap[r]? = some (.cells #[v1, a1, a2] 123)) (i : Nat) (v : Value) (h : VN r k x t s X v1 l i w v) : VN r k x t s X v1 l i (w.setCell ⟨r, 0, none⟩ u0) v := by
  unfold VN at h ⊢
  split at h <;> first | exact h | trivial | exact (let ⟨g, h1, h2, h3⟩ := h; ⟨g, h1, (Below.heap_setCell _ _ _ _ (by rintro rfl; rw [hc] at h2; simp at h2)).trans h2, h3⟩) | exact h.same fun g _ _ hg => Below.heap_setCell _ _ _ _ (by rintro rfl; exact row_not h hc (by decide) hg)
theorem VN_grown (r k x t s X : Nat) (v1 : Value) (l : List Bool) (w w' : World) (i : Nat) (v : Value) (hi : i ≠ 45) (hg : w.grownBy w' v1.ownBlock) (h : VN r k x t s X v1 l i w v) : VN r k x t s X v1 l i w' v := by
  unfold VN at h ⊢
  split at h <;> first | exact absurd rfl hi | exact h | trivial | exact (let ⟨g, h1, h2, h3⟩ := h; ⟨g, h1, (hg.block g (Array.getElem?_eq_some_iff.1 h2).1 (fun e => h3 e.symm)).trans h2, h3⟩)

/-- What stands behind the append to the second row, ahead of its store. -/
structure Step9 (w9 : World) (r : Nat) (u v2 v9 : Value) (l : List Bool) (k : Nat) : Prop where
  blk : w9.heap[r]? = some (.cells #[u, v2, .int .i64 (l.length : Int)] 123)
  ws : OwnV 74 w9 r u (zi .u64 (words l (k + 1)))
  hs : OwnV 3 w9 r v9 (zi .i64 (aheads l k) ++ [.int .i64 (ones l (64 * k) : Int)])
theorem two_step {w8 w9 : World} {r : Nat} {u v2 v9 : Value} {l : List Bool} {k : Nat} (h : RKW w8 r r u v2 l (k + 1) k) (ho : OwnV 3 w9 r v9 (zi .i64 (aheads l k) ++ [.int .i64 (ones l (64 * k) : Int)])) (hg : w8.grownBy w9 v2.ownBlock) : Step9 w9 r u v2 v9 l k :=
  ⟨(hg.block r h.lt (row_not h.hs h.blk (by decide)).symm).trans h.blk, h.ws.apart h.hs (by decide) hg, ho⟩
section
variable {w9 : World} {r : Nat} {u v2 v9 : Value} {l : List Bool} {k : Nat}
theorem Step9.c9 (h : Step9 w9 r u v2 v9 l k) : w9.cell? ⟨r, 1, none⟩ = some v2 := by rw [cell_of_row w9 r 1 _ _ _ h.blk]; rfl
theorem Step9.f9 (h : Step9 w9 r u v2 v9 l k) : w9.frozen? ⟨r, 1, none⟩ = false := frozen_of_row w9 r 1 _ _ h.blk
theorem Step9.lt9 (h : Step9 w9 r u v2 v9 l k) : r < w9.heap.size := (Array.getElem?_eq_some_iff.1 h.blk).1
theorem Step9.rw (h : Step9 w9 r u v2 v9 l k) (ha : aheads l (k + 1) = aheads l k ++ [ones l (64 * k)]) : RKW (w9.setCell ⟨r, 1, none⟩ v9) r r u v9 l (k + 1) (k + 1) := by
  refine ⟨by rw [heap_set h.blk]; rfl, h.ws.same fun g _ _ hg => Below.heap_setCell _ _ _ _ (by rintro rfl; exact row_not h.ws h.blk (by decide) hg), ?_, Nat.le_refl _⟩
  rw [ha, zi_append]
  exact h.hs.same fun g _ _ hg => Below.heap_setCell _ _ _ _ (by rintro rfl; exact row_not h.hs h.blk (by decide) hg)
end
set_option maxHeartbeats 2000000 in
set_option maxRecDepth 100000 in
theorem rnew_c (w : World) (B b : Nat) (v : Value) (l : List Bool) (h : BT w B b v l) (hl : l.length ≤ 1000000) :
    Calls Tryz.prog 45 #[.pointer (some ⟨b, 0, none⟩)] w fun e w' => ∃ a, e = .returned (.pointer (some a)) ∧ RK w' w.heap.size (some a) l ∧ Below w.heap.size w w' := by
  have C0 := Go.Lib.hid (len_c w B b v _ _ h)
  have H := Go.Lib.hid h
  obtain ⟨r, hr⟩ : ∃ r, r = w.heap.size := ⟨_, rfl⟩
  have hnew := heap_alloc_new w (.cells #[.slice none 0 0, .slice none 0 0, .int .i64 (l.length : Int)] 123)
  have hb0 : Below w.heap.size w (w.alloc (.cells #[.slice none 0 0, .slice none 0 0, .int .i64 (l.length : Int)] 123)) := (Below.refl _ _).alloc (Nat.le_refl _) _
  rw [← hr] at hnew hb0
  have H0 : Hid (RKW (w.alloc (.cells #[.slice none 0 0, .slice none 0 0, .int .i64 (l.length : Int)] 123)) r r (.slice none 0 0) (.slice none 0 0) l 0 0) := ⟨hnew, OwnV.nil _ _ _, OwnV.nil _ _ _, Nat.le_refl _⟩
  have HR := Go.Lib.hid hr
  clear h hnew
  go_enter Tryz.func45, Tryz.ntmps45
  go_wp2_with fail
  refine C0.out.mono ?_
  rintro e w1 ⟨rfl, rfl⟩
  go_wp2_with fail
  rw [← hr]
  clear hr C0
  go_loopw [4, 5] (fun ov av wr => ∃ (k : Nat) (v1 v2 : Value), k ≤ nw l ∧ av = .int .i64 (64 * (k : Int)) ∧ ov = .int .i64 (ones l (64 * k) : Int) ∧ RKW wr r r v1 v2 l k k ∧ Below r w wr) (fun _ av _ => l.length + 64 - (intOf av).toNat)
  case atStart => exact ⟨0, _, _, by omega, rfl, rfl, H0.out, hb0⟩
  case round =>
    obtain ⟨k, v1, v2, hk, rfl, rfl, hrw, hb⟩ := hrel
    clear hb0 H0
    have c2 := hrw.c2
    have honl := ones_le l (64 * k)
    have Hnw := Go.Lib.hid (show nw l = (l.length + 63) / 64 from rfl)
    by_cases hlt : 64 * k < l.length
    · obtain ⟨t, ht⟩ : ∃ t, t = min 64 (l.length - 64 * k) := ⟨_, rfl⟩
      have htI : min (64 : Int) ((l.length : Int) - 64 * (k : Int)) = (t : Int) := by omega
      have C1 := num_c (64 * k) t wr B b v l (H.out.below (by rw [← HR.out]; exact hb)) (by omega) (by omega) (by omega)
      rw [show ((64 * k : Nat) : Int) = 64 * (k : Int) from by omega] at C1
      have hws := word_shift l k t ht
      have hpl := pop_low l k t ht
      have hcp := ones64_c (val ((l.drop (64 * k)).take t))
      have hx64 : val ((l.drop (64 * k)).take t) < 18446744073709551616 := by
        have h1 := val_lt ((l.drop (64 * k)).take t)
        exact Nat.lt_of_lt_of_le h1 (Nat.le_trans (Nat.pow_le_pow_right (by omega) (show ((l.drop (64 * k)).take t).length ≤ 64 by rw [List.length_take]; omega)) (by decide))
      have hxx := word_lt l k
      have hws1 := words_succ l k
      have has1 := aheads_succ l k
      have hc64 : (numB (val ((l.drop (64 * k)).take t)) 64).count true ≤ 64 := by
        have : (numB (val ((l.drop (64 * k)).take t)) 64).count true ≤ (numB (val ((l.drop (64 * k)).take t)) 64).length := List.count_le_length
        rwa [numB_length] at this
      have Hknw : Hid (k + 1 ≤ nw l) := Go.Lib.hid (by rw [Hnw.out]; omega)
      obtain ⟨s, hs⟩ : ∃ s, s = 64 - t := ⟨_, rfl⟩
      rw [← hs] at hws
      have hsI : 64 - (t : Int) = (s : Int) := by omega
      have hs64 : s ≤ 64 := by omega
      have hX : IntKind.u64.wrap ((val ((l.drop (64 * k)).take t) : Int) * 2 ^ s) = (word l k : Int) := by
        have e : (val ((l.drop (64 * k)).take t) : Int) * 2 ^ s = (word l k : Int) := by rw [hws]; simp
        rw [e, IntKind.wrap_u64]
        omega
      have CP := fun W => Go.Lib.hid (hcp W hx64)
      have HPL := Go.Lib.hid hpl
      have HW1 := Go.Lib.hid hws1
      have HA1 := Go.Lib.hid has1
      clear hws hpl hcp hws1 has1 ht hs
      have C1 := Go.Lib.hid C1
      have HRW := Go.Lib.hid hrw
      have hat : 64 * k ≤ 1000000 := by omega
      have Hat := Go.Lib.hid (show 64 * k = 64 * k from rfl)
      generalize (numB (val ((l.drop (64 * k)).take t)) 64).count true = c at *
      generalize val ((l.drop (64 * k)).take t) = x at *
      clear hrw
      go_wp2_with fail
      refine C1.out.mono ?_
      rintro e w2 ⟨rfl, hb2⟩
      have hr2 : r ≤ wr.heap.size := Nat.le_of_lt HRW.out.lt
      have hbb2 := hb.trans (hb2.mono hr2)
      have HRW2 := Go.Lib.hid (HRW.out.below hb2)
      clear HRW hb2 c2 C1
      go_upto_region 8 with (fail)
      have hI0 : IN w r r v1 v2 l k (fun _ => false) w2.drew := by
        have h2 := HRW2.out.below (below_drewN (B := w2.heap.size) (Below.refl _ w2) 1)
        refine ⟨⟨fun h => (by cases h), fun h => (by cases h)⟩, hbb2.trans ((below_drewN (B := w2.heap.size) (Below.refl _ w2) 1).mono (by have := hbb2.size; have := HRW2.out.lt; omega)), ?_⟩
        exact ⟨h2.blk, h2.hs, fun _ => h2.ws⟩
      have hrlt : r < w2.heap.size := HRW2.out.lt
      have hsW : IntKind.i64.wrap (64 - (t : Int)) = (s : Int) := by rw [IntKind.wrap_i64]; omega
      have hkl : k ≤ 1000000 := by omega
      generalize hXe : word l k = X at *
      have hXm : IntKind.u64.wrap ((x : Int) * 2 ^ min s 64) = (X : Int) := by rw [Nat.min_eq_left hs64]; exact hX
      clear htI hlt hsI hxx hs64
      refine wp_region_inv2 (by kernel_rfl) (VN r k x t s X v1 l) (IN w r r v1 v2 l k) (by decide +kernel) (by decide +kernel) (by rfl) [35, 36, 37, 38, 39, 40, 41, 42, 43, 44, 45, 46, 47] (by rfl) (hI0) ?_ ?_
      · intro i o ho a w6 done hI hnot hr hlen hg
        match i, ho with
        | 0, ho =>
          obtain rfl := Option.some.inj ho
          have h3 := given_old hg 3 (by decide +kernel)
          clear hg
          exact st_yield ho (wanted_none rfl) (.pointer (some ⟨r, 0, none⟩)) w6 (by simp [execOp, Act.eval, h3, go_sem]) ⟨_, rfl, hI.keep done 0 (by decide) id, fun _ _ _ h => h, by rintro t' ⟨⟩; rfl⟩
        | 1, ho =>
          obtain rfl := Option.some.inj ho
          have h3 := given_old hg 3 (by decide +kernel)
          clear hg
          exact st_yield ho (wanted_none rfl) (.pointer (some ⟨r, 0, none⟩)) w6 (by simp [execOp, Act.eval, h3, go_sem]) ⟨_, rfl, hI.keep done 1 (by decide) id, fun _ _ _ h => h, by rintro t' ⟨⟩; rfl⟩
        | 2, ho =>
          obtain rfl := Option.some.inj ho
          obtain ⟨_, h36, rfl⟩ := given_fed hg 36 (by decide +kernel)
          clear hg
          exact st_yield ho (wanted_none rfl) (.pointer (some ⟨r, 0, none⟩)) w6 (by simp [execOp, Act.eval, h36, go_sem]) ⟨_, rfl, hI.keep done 2 (by decide) id, fun _ _ _ h => h, by rintro t' ⟨⟩; rfl⟩
        | 3, ho =>
          obtain rfl := Option.some.inj ho
          obtain ⟨_, h37, rfl⟩ := given_fed hg 37 (by decide +kernel)
          clear hg
          exact st_yield ho (wanted_none rfl) (.pointer (some ⟨r, 0, none⟩)) w6 (by simp [execOp, Act.eval, h37, go_sem]) ⟨_, rfl, hI.keep done 3 (by decide) id, fun _ _ _ h => h, by rintro t' ⟨⟩; rfl⟩
        | 4, ho =>
          obtain rfl := Option.some.inj ho
          obtain ⟨_, h38, rfl⟩ := given_fed hg 38 (by decide +kernel)
          clear hg
          have hq : done 13 = false := by cases h : done 13 with | false => rfl | true => have := (hI.1.1 (hI.1.2 h)).1; rw [hnot] at this; cases this
          have hc := hI.2.2
          rw [if_neg (by rw [hq]; decide)] at hc
          have k0 : w6.cell? ⟨r, 0, none⟩ = some v1 := by rw [cell_of_row w6 r 0 _ _ _ hc.1]; rfl
          exact st_yield ho (wanted_none rfl) v1 w6 (by simp [execOp, Act.eval, h38, go_sem, k0]) ⟨_, rfl, hI.keep done 4 (by decide) id, fun _ _ _ h => h, by rintro t' ⟨⟩; rfl⟩
        | 5, ho =>
          obtain rfl := Option.some.inj ho
          have h7 := given_old hg 7 (by decide +kernel)
          clear hg
          exact st_yield ho (wanted_none rfl) (.int .u64 (x : Int)) w6 (by simp [execOp, Act.eval, h7, go_sem]) ⟨_, rfl, hI.keep done 5 (by decide) id, fun _ _ _ h => h, by rintro t' ⟨⟩; rfl⟩
        | 6, ho =>
          obtain rfl := Option.some.inj ho
          have h6 := given_old hg 6 (by decide +kernel)
          clear hg
          exact st_yield ho (wanted_none rfl) (.int .i64 (t : Int)) w6 (by simp [execOp, Act.eval, h6, go_sem]) ⟨_, rfl, hI.keep done 6 (by decide) id, fun _ _ _ h => h, by rintro t' ⟨⟩; rfl⟩
        | 7, ho =>
          obtain rfl := Option.some.inj ho
          obtain ⟨_, h41, rfl⟩ := given_fed hg 41 (by decide +kernel)
          clear hg
          exact st_yield ho (wanted_none rfl) (.int .i64 (s : Int)) w6 (by simp [execOp, Act.eval, h41, go_sem, hsW]) ⟨_, rfl, hI.keep done 7 (by decide) id, fun _ _ _ h => h, by rintro t' ⟨⟩; rfl⟩
        | 8, ho =>
          obtain rfl := Option.some.inj ho
          obtain ⟨_, h40, rfl⟩ := given_fed hg 40 (by decide +kernel)
          obtain ⟨_, h42, rfl⟩ := given_fed hg 42 (by decide +kernel)
          clear hg
          exact st_yield ho (wanted_none rfl) (.int .u64 (X : Int)) w6 (by simp [execOp, Act.eval, h40, h42, go_sem, hXm]) ⟨_, rfl, hI.keep done 8 (by decide) id, fun _ _ _ h => h, by rintro t' ⟨⟩; rfl⟩
        | 9, ho =>
          obtain rfl := Option.some.inj ho
          obtain ⟨_, h43, rfl⟩ := given_fed hg 43 (by decide +kernel)
          clear hg
          have hp : done 10 = false := by cases h : done 10 with | false => rfl | true => have := (hI.1.1 h).2; rw [hnot] at this; cases this
          have hq : done 13 = false := by cases h : done 13 with | false => rfl | true => have := hI.1.2 h; rw [hp] at this; cases this
          have hc := hI.2.2
          rw [if_neg (by rw [hq]; decide)] at hc
          have hown := hc.2.2 hp
          have hrs : r ≤ w6.heap.size := Nat.le_of_lt (Array.getElem?_eq_some_iff.1 hc.1).1
          exact st_yield ho (wanted_none rfl) (.slice (some ⟨w6.heap.size, 0, none⟩) 1 1) (w6.alloc (.cells #[.int .u64 (X : Int)] 74)) (by simp [execOp, Act.eval, h43, go_sem]) ⟨_, rfl, hI.keep done 9 (by decide) (fun h => h.alloc hrs _), fun t u _ => VN_alloc _ _ _ _ _ _ _ _ _ _ t u, by rintro t' ⟨⟩; exact ⟨w6.heap.size, rfl, heap_alloc_new w6 _, fun e => by have := (World.ownsRow.lt hown _ e).2; omega⟩⟩
        | 10, ho =>
          obtain rfl := Option.some.inj ho
          obtain ⟨v39, h39, p39⟩ := given_fed hg 39 (by decide +kernel)
          obtain ⟨v44, h44, p44⟩ := given_fed hg 44 (by decide +kernel)
          clear hg
          have hq : done 13 = false := by cases h : done 13 with | false => rfl | true => have := hI.1.2 h; rw [hnot] at this; cases this
          have hc := hI.2.2
          rw [if_neg (by rw [hq]; decide)] at hc
          obtain ⟨hc1, hc2, hc3⟩ := hc
          have hown := hc3 hnot
          obtain ⟨g, rfl, hg, hgn⟩ := p44
          have hrs : r ≤ w6.heap.size := Nat.le_of_lt (Array.getElem?_eq_some_iff.1 hc1).1
          rw [p39] at h39
          have hone : RV w6 (.slice (some ⟨g, 0, none⟩) 1 1) [.int .u64 (X : Int)] := rv_cell hg
          have hl1 : ((zi .u64 (words l k)).length + [Value.int .u64 (X : Int)].length) * 8 ≤ 140737488355328 := by rw [zi_length, words_length]; simp; omega
          have hl2 : (zi .u64 (words l k)).length + [Value.int .u64 (X : Int)].length ≤ 140737488355328 := by rw [zi_length, words_length]; simp; omega
          refine st_list ho (wanted_none rfl) (fun Q' hQ => ?_)
          refine wpList_append_RV rfl (.tmp 39) (.tmp 44) 121 rfl r 74 Tryz.underlying121 (.int .u64 0) 8 rfl infoU64 v1 (.slice (some ⟨g, 0, none⟩) 1 1) (zi .u64 (words l k)) [.int .u64 (X : Int)] (by simp [Act.eval, h39]) (by simp [Act.eval, h44]) hown hone (by simp [Value.oneCell']) hl1 hl2 hrs ?_
          intro v7 w7 ho7 hg7
          refine hQ _ _ ⟨v7, rfl, ⟨⟨fun _ => ⟨?_, ?_⟩, fun _ => doneToo_self _ _⟩, ?_⟩, ?_, ?_⟩
          · unfold doneToo; split <;> simp [hr 4 (by decide +kernel)]
          · unfold doneToo; split <;> simp [hr 9 (by decide +kernel)]
          · rw [doneToo_self, doneToo_other (show (13 : Nat) ≠ 10 by decide), hq]
            refine ⟨hI.2.1.trans (grown_below hg7 hrs hown.row), ?_⟩
            rw [if_neg (by decide)]
            exact ⟨(hg7.block r (Array.getElem?_eq_some_iff.1 hc1).1 (row_not hown hc1 (by decide)).symm).trans hc1, hc2.apart hown (by decide) hg7, fun h => (by cases h)⟩
          · intro t' u hw hV
            have hne : t' ≠ 45 := by rintro rfl; exact not_wrote (i := 10) (by rfl) hnot hw
            exact VN_grown _ _ _ _ _ _ _ _ _ _ _ _ hne hg7 hV
          · rintro t' ⟨⟩
            show OwnV 74 w7 r v7 (zi .u64 (words l k ++ [X]))
            rw [show zi .u64 (words l k ++ [X]) = zi .u64 (words l k) ++ [.int .u64 (X : Int)] from by rw [zi_append]; rfl]
            exact ho7
        | 11, ho =>
          obtain rfl := Option.some.inj ho
          obtain ⟨_, h35, rfl⟩ := given_fed hg 35 (by decide +kernel)
          clear hg
          exact st_yield ho (wanted_none rfl) (.pointer (some ⟨r, 0, none⟩)) w6 (by simp [execOp, Act.eval, h35, go_sem]) ⟨_, rfl, hI.keep done 11 (by decide) id, fun _ _ _ h => h, by rintro t' ⟨⟩; rfl⟩
        | 12, ho =>
          obtain rfl := Option.some.inj ho
          obtain ⟨_, h46, rfl⟩ := given_fed hg 46 (by decide +kernel)
          clear hg
          exact st_yield ho (wanted_none rfl) (.pointer (some ⟨r, 0, none⟩)) w6 (by simp [execOp, Act.eval, h46, go_sem]) ⟨_, rfl, hI.keep done 12 (by decide) id, fun _ _ _ h => h, by rintro t' ⟨⟩; rfl⟩
        | 13, ho =>
          obtain rfl := Option.some.inj ho
          obtain ⟨_, h47, rfl⟩ := given_fed hg 47 (by decide +kernel)
          obtain ⟨v45, h45, p45⟩ := given_fed hg 45 (by decide +kernel)
          clear hg
          have hp := hr 10 (by decide +kernel)
          have hc := hI.2.2
          rw [if_neg (by rw [hnot]; decide)] at hc
          obtain ⟨hc1, hc2, -⟩ := hc
          have hfz : w6.frozen? ⟨r, 0, none⟩ = false := frozen_of_row w6 r 0 _ _ hc1
          have k0 : w6.cell? ⟨r, 0, none⟩ = some v1 := by rw [cell_of_row w6 r 0 _ _ _ hc1]; rfl
          have hkeep : ∀ {e : TypeId} {u : Value} {xs : List Value}, OwnV e w6 r u xs → e ≠ 123 → OwnV e (w6.setCell ⟨r, 0, none⟩ v45) r u xs := fun {e u xs} hu he => hu.same fun g _ _ hg => Below.heap_setCell _ _ _ _ (by rintro rfl; exact row_not hu hc1 he hg)
          have p45' : OwnV 74 w6 r v45 (zi .u64 (words l (k + 1))) := by rw [HW1.out]; exact p45
          have hset : (w6.setCell ⟨r, 0, none⟩ v45).heap[r]? = some (.cells #[v45, v2, .int .i64 (l.length : Int)] 123) := by rw [heap_set hc1]; rfl
          have hrs : r < w6.heap.size := (Array.getElem?_eq_some_iff.1 hc1).1
          have hp4 := (hI.1.1 hp).1
          have hp9 := (hI.1.1 hp).2
          obtain ⟨y1, y2, y3, rfl⟩ := OwnV.slice p45'
          refine st_done ho (wanted_none rfl) (w6.setCell ⟨r, 0, none⟩ (.slice y1 y2 y3)) (by simp [execOp, Act.eval, h45, h47, go_sem, hfz, k0]) ⟨_, rfl, ⟨⟨fun _ => ⟨?_, ?_⟩, fun _ => ?_⟩, ?_⟩, ?_, ?_⟩
          · unfold doneToo; split <;> simp [hp4]
          · unfold doneToo; split <;> simp [hp9]
          · unfold doneToo; split <;> simp [hp]
          · rw [doneToo_self]
            refine ⟨hI.2.1.trans (below_set hrs), ?_⟩
            rw [if_pos rfl]
            exact ⟨_, hset, hkeep p45' (by decide), hkeep hc2 (by decide), Nat.le_refl _⟩
          · intro t' u _ hV
            exact VN_set _ _ _ _ _ _ _ _ _ _ _ _ hc1 _ _ hV
          · rintro t' ⟨⟩
        | n + 14, ho => simp at ho
      · intro f w7 done hall hI hv
        have h10 := hall 10 (by decide)
        have h13 := hall 13 (by decide)
        obtain ⟨-, hI1, hI2⟩ := hI
        rw [if_pos h13] at hI2
        obtain ⟨u, hI3⟩ := hI2
        clear hv hall h10 h13
        unfold putAll
        simp only [List.foldl]
        go_simp
        have hrl7 := hI3.lt
        have hA : Below w7.heap.size w7 (w7.alloc (.cells #[.int .i64 (ones l (64 * k) : Int)] 3)) := (Below.refl _ _).alloc (Nat.le_refl _) _
        have hI4 := hI3.below hA
        have hbA := hI1.trans (hA.mono (Nat.le_of_lt hrl7))
        have c1 := hI3.c1
        have hone := RV.one w7 3 (.int .i64 (ones l (64 * k) : Int))
        have hown := hI4.hs
        have hsz : r ≤ (w7.alloc (.cells #[.int .i64 (ones l (64 * k) : Int)] 3)).heap.size := Nat.le_of_lt hI4.lt
        have hl1 : ((zi .i64 (aheads l k)).length + [Value.int .i64 (ones l (64 * k) : Int)].length) * 8 ≤ 140737488355328 := by rw [zi_length, aheads_length]; simp; omega
        have hl2 : (zi .i64 (aheads l k)).length + [Value.int .i64 (ones l (64 * k) : Int)].length ≤ 140737488355328 := by rw [zi_length, aheads_length]; simp; omega
        have H4 := Go.Lib.hid hI4
        clear hI3 hI1 hA hI4 hI0 HRW2 hX hXm HW1 hXe hsW hrlt hbb2
        go_wp2_with (first
          | (with_reducible show wpList _ _ _ (⟨some 55, _, _, _, _, _⟩ :: _) _ _; go_must (refine wpList_append_RV rfl (.tmp 52) (.tmp 54) 108 rfl r 3 Tryz.underlying108 (.int .i64 0) 8 rfl infoI64 v2 (.slice (some ⟨w7.heap.size, 0, none⟩) 1 1) (zi .i64 (aheads l k)) [.int .i64 (ones l (64 * k) : Int)] rfl rfl hown hone (by simp [Value.oneCell']) hl1 hl2 hsz ?_); go_must (intro v9 w9 ho9 hg9; obtain ⟨y1, y2, y3, rfl⟩ := OwnV.slice ho9; have h9 := two_step H4.out ho9 hg9; have hb9 := hbA.trans (grown_below hg9 hsz hown.row); have hc9 := h9.c9; have hf9 := h9.f9; have hbs := hb9.trans (below_set (o := 1) (v := .slice y1 y2 y3) h9.lt9); have H9 := Go.Lib.hid (h9.rw HA1.out); clear ho9 hg9 hown hone hl1 hl2 hsz H4 hbA h9 hb9))
          | fail)
        refine (CP _).out.mono ?_
        rintro e w11 ⟨rfl, rfl⟩
        go_wp2_with fail
        go_roundw
        case rel => exact ⟨k + 1, _, _, Hknw.out, by go_num, by rw [HPL.out]; rfl, H9.out, hbs⟩
        case measure => simp only [intOf]; omega
    · have hk2 : k = nw l := by have := Hnw.out; omega
      subst hk2
      have HRW := Go.Lib.hid hrw
      clear hrw
      go_wp2_with fail
      go_ret
      exact ⟨_, rfl, ⟨hl, .inr ⟨r, v1, v2, rfl, by rw [← HR.out]; exact HRW.out⟩⟩, by rw [← HR.out]; exact hb⟩

end Go.Proofs.YthbnecdeebmlhaaGreat
