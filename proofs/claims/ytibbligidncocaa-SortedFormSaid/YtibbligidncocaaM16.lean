/-
  Pairs by the generic laws of slices (XGenS): four cells; a pair is held as a record that is not gone.
  The reference's Less, Hashes.
  A region whose order is open, whose operations read and make memory but change none that stands: one condition for each slot that it writes, kept whatever comes up between; each operation is shown once, not once for each order.
-/
import Derived.Test.YtibbligidncocaaM15
import Derived.Test.YtibbligidncocaaM08
import Derived.Test.YtibbligidncocaaM14
import Derived.LoopTactic
import Derived.Deep.DeepMust
import Derived.Test.YtibbligidncocaaM01
import Derived.Orders
namespace Go.Proofs.Ytibbligidncocaa
open Go.RowKit

def pc4 (x : RecT) : List Value := [.string x.1, .int .i64 x.2.2.1, .int .i64 x.2.2.2.1, .string x.2.2.2.2]
def K4 : Lay RecT := ⟨pc4, 4, 42, 24, .agg #[.string ⟨#[]⟩, .int .i64 0, .int .i64 0, .string ⟨#[]⟩], 48⟩
theorem info4 : (Try.prog.info? 42).map (fun i => (i.zero, i.size, i.bytes)) = some (some (.agg #[.string ⟨#[]⟩, .int .i64 0, .int .i64 0, .string ⟨#[]⟩]), 4, 48) := by kernel_rfl
theorem K4_ok : K4.Ok Try.prog := ⟨by decide, fun _ => rfl, fun x u hu => by
  have hu : u ∈ pc4 x := hu
  simp only [pc4, List.mem_cons, List.not_mem_nil, or_false] at hu
  rcases hu with rfl | rfl | rfl | rfl <;> rfl, Try.underlying24, info4, rfl, by decide⟩
/-- A pair's cells. -/
theorem K4.at' {w : World} {a : Option Addr} {n cap : Nat} {l : List RecT} (h : K4.R w (.slice a n cap) l) (i : Nat) (hi : i < l.length) : ∃ b o, a = some ⟨b, o, none⟩ ∧ n = l.length ∧ b < w.heap.size ∧
    w.cell? ⟨b, o + i * 4, none⟩ = some (.string l[i].1) ∧ w.cell? ⟨b, o + i * 4 + 1, none⟩ = some (.int .i64 l[i].2.2.1) ∧ w.cell? ⟨b, o + i * 4 + 2, none⟩ = some (.int .i64 l[i].2.2.2.1) ∧ w.cell? ⟨b, o + i * 4 + 3, none⟩ = some (.string l[i].2.2.2.2) := by
  obtain ⟨b, o, h1, h2, h3, h4⟩ := h.at K4_ok i hi
  exact ⟨b, o, h1, h2, h3, h4 0 _ rfl, h4 1 _ rfl, h4 2 _ rfl, h4 3 _ rfl⟩
theorem idx4 (b o n cap j : Nat) (h : j < n) (W : World) : (Instr.indexAt 24 (.slice (some ⟨b, o, none⟩) n cap) (.int .i64 (j : Int))).run Try.prog W = .ok (.pointer (some ⟨b, o + j * 4, none⟩)) W := K4_ok.run_idx b o n cap j h W

end Go.Proofs.Ytibbligidncocaa

namespace Go.Proofs.Ytibbligidncocaa
open Go.RowKit

set_option maxRecDepth 100000 in
theorem rless_c (a b : ByteArray) (t : Bool) (w : World) (ha : a.size ≤ 1000000) (hb : b.size ≤ 1000000) (ht : lessK a b = t) :
    Calls Try.prog 20 #[.string a, .string b] w fun e w' => e = .returned (.bool t) ∧ Below w.heap.size w w' := by
  obtain ⟨x, hx⟩ : ∃ x, hashS a = x := ⟨_, rfl⟩
  obtain ⟨y, hy⟩ : ∃ y, hashS b = y := ⟨_, rfl⟩
  obtain ⟨s, hs⟩ : ∃ s, Go.Op.bytesLess a.toList b.toList = s := ⟨_, rfl⟩
  have C1 := Go.Lib.hid fun W => rhash_k a x hx W ha
  have C2 := Go.Lib.hid fun W => rhash_k b y hy W hb
  unfold lessK at ht
  rw [hx, hy, hs] at ht
  clear hx hy ha hb
  rcases Nat.lt_trichotomy x y with h | h | h
  · have hI : (x : Int) < (y : Int) := by omega
    obtain rfl : t = true := by rw [← ht, decide_eq_true h]; rfl
    clear ht hs
    go_enter Try.func20, Try.ntmps20
    go_wp2_with fail
    refine (C1.out _).mono ?_
    rintro e w1 ⟨rfl, hb1⟩
    go_wp2_with fail
    refine (C2.out _).mono ?_
    rintro e w2 ⟨rfl, hb2⟩
    have hb3 := hb1.trans (hb2.mono hb1.size)
    go_wp2_with fail
    go_ret
    exact ⟨rfl, hb3⟩
  · subst h
    obtain rfl : t = s := by rw [← ht]; simp
    clear ht
    go_enter Try.func20, Try.ntmps20
    go_wp2_with fail
    refine (C1.out _).mono ?_
    rintro e w1 ⟨rfl, hb1⟩
    go_wp2_with fail
    refine (C2.out _).mono ?_
    rintro e w2 ⟨rfl, hb2⟩
    have hb3 := hb1.trans (hb2.mono hb1.size)
    go_wp2_with fail
    go_ret
    exact ⟨rfl, hb3⟩
  · have hI : ¬ (x : Int) < (y : Int) := by omega
    have hE : ((x : Int) == (y : Int)) = false := by simp; omega
    obtain rfl : t = false := by rw [← ht, decide_eq_false (by omega), decide_eq_false (by omega)]; rfl
    clear ht hs
    go_enter Try.func20, Try.ntmps20
    go_wp2_with fail
    refine (C1.out _).mono ?_
    rintro e w1 ⟨rfl, hb1⟩
    go_wp2_with fail
    refine (C2.out _).mono ?_
    rintro e w2 ⟨rfl, hb2⟩
    have hb3 := hb1.trans (hb2.mono hb1.size)
    go_wp2_with fail
    go_ret
    exact ⟨ret_of (congrArg Value.bool (decide_eq_false (by omega))), hb3⟩

/-- Keys of no great size. -/
def SmallK (l : List RecT) : Prop := ∀ x ∈ l, x.1.size ≤ 1000000

set_option maxHeartbeats 1000000 in
set_option maxRecDepth 100000 in
theorem rhashes_c (v : Value) (l : List RecT) (w : World) (h : K4.R w v l) (hs : SmallK l) (hl : l.length ≤ 100000) :
    Calls Try.prog 58 #[v] w fun e w' => ∃ v', e = .returned v' ∧ KU.O w' w.heap.size v' (hashesG hR l) ∧ Below w.heap.size w w' := by
  obtain ⟨ad, cap, rfl, hm⟩ := h.form
  have H := Go.Lib.hid h
  have HS := Go.Lib.hid hs
  clear h hs
  go_enter Try.func58, Try.ntmps58
  go_wp2_with fail
  go_loopw [3, 4] (fun ov i' wr => ∃ i : Nat, i' = .int .i64 (i : Int) ∧ i ≤ l.length ∧ KU.O wr w.heap.size ov (hashesG hR (l.take i)) ∧ Below w.heap.size w wr) (fun _ i' _ => l.length - (intOf i').toNat)
  case atStart => exact ⟨0, rfl, by omega, Lay.O.nil _ _, Below.refl _ _⟩
  case round =>
    obtain ⟨i, rfl, hi, hO, hb⟩ := hrel
    have hlen := hashesG_length hR (l.take i)
    rw [List.length_take] at hlen
    by_cases hlt : i < l.length
    · have hsn := hashesG_snoc hR (l.take i) l[i]
      rw [← List.take_succ_eq_append_getElem hlt] at hsn
      obtain ⟨b, o, rfl, -, hbl, c0, -⟩ := K4.at' H.out i hlt
      have d0 := (hb.cell (p := ⟨b, o + i * 4, none⟩) hbl).trans c0
      have i1 := idx4 b o l.length cap i hlt
      have hk := HS.out l[i] (List.getElem_mem hlt)
      generalize l[i] = x at *
      unfold hashStep at hsn
      obtain ⟨y, hy⟩ : ∃ y, hashS x.1 = y := ⟨_, rfl⟩
      rw [show hR x = y from hy] at hsn
      have C := Go.Lib.hid fun W => rhash_k x.1 y hy W hk
      generalize x.1 = key at *
      generalize hashesG hR (l.take i) = m at *
      obtain ⟨ao, co, rfl, -⟩ := hO.r.form
      have hm6 : m.length + [y].length ≤ 1000000 := by simp; omega
      have HO := Go.Lib.hid hO
      have HSN := Go.Lib.hid hsn
      have HM6 := Go.Lib.hid hm6
      clear c0 hO hsn hk hy hm6
      go_wp2_with fail
      refine (C.out _).mono ?_
      rintro e w1 ⟨rfl, hb1⟩
      have hb2 := hb.trans (hb1.mono hb.size)
      have HO1 := Go.Lib.hid (HO.out.below hb1)
      clear hb hb1 HO d0 i1
      have hone := KU.one1 w1 y
      have hOa := HO1.out.alloc (.cells #[.int .u64 (y : Int)] 68)
      have hbA : Below w.heap.size w (w1.alloc (.cells #[.int .u64 (y : Int)] 68)) := hb2.alloc hb2.size _
      have hsz := hbA.size
      have Hone := Go.Lib.hid hone
      have HOa := Go.Lib.hid hOa
      have HbA := Go.Lib.hid hbA
      clear hone hOa hbA
      by_cases h0 : m = []
      · subst h0
        rw [if_neg (by simp)] at HSN
        have e0 : (([] : List Nat).length : Int) = 0 := rfl
        go_wp2_with (first
          | (with_reducible show wpList _ _ _ (⟨some 34, _, _, _, _, _⟩ :: _) _ _; go_must (refine KU_ok.append rfl (.tmp 31) (.tmp 33) rfl w.heap.size (.slice ao ([] : List Nat).length co) (.slice (some ⟨w1.heap.size, 0, none⟩) 1 1) [] [y] rfl rfl HOa.out Hone.out HM6.out hsz ?_); go_must (intro v3 w3 ho3 hg3; have hb3 := HbA.out.grown hg3 hsz HOa.out.row; have HO3 := Go.Lib.hid ho3; clear hg3 ho3))
          | fail)
        go_roundw
        case rel => exact ⟨i + 1, by go_num, by omega, by rw [HSN.out]; exact HO3.out, hb3⟩
        case measure => simp only [intOf]; omega
      · have hpos : 0 < m.length := List.length_pos_iff.2 h0
        have hlast : m.getLast? = some m[m.length - 1] := by rw [List.getLast?_eq_getElem?, List.getElem?_eq_getElem]
        obtain ⟨g, o', rfl, -, -, c1⟩ := KU.at' HO1.out.r (m.length - 1) (by omega)
        have i2 := idxU g o' m.length co (m.length - 1) (by omega)
        rw [hlast] at HSN
        generalize m[m.length - 1]'(by omega) = z at *
        have e1 : ((m.length - 1 : Nat) : Int) = (m.length : Int) - 1 := by omega
        rw [e1] at i2
        have hne : ((m.length : Int) == 0) = false := by simp; omega
        by_cases hzy : z = y
        · subst hzy
          rw [if_pos rfl] at HSN
          have hzz : ((z : Int) != (z : Int)) = false := by simp
          go_wp2_with fail
          go_roundw
          case rel => exact ⟨i + 1, by go_num, by omega, by rw [HSN.out]; exact HO1.out, hb2⟩
          case measure => simp only [intOf]; omega
        · rw [if_neg (by simp only [Option.some.injEq]; exact hzy)] at HSN
          have hzz : ((z : Int) != (y : Int)) = true := by simp; omega
          go_wp2_with (first
            | (with_reducible show wpList _ _ _ (⟨some 34, _, _, _, _, _⟩ :: _) _ _; go_must (refine KU_ok.append rfl (.tmp 31) (.tmp 33) rfl w.heap.size (.slice (some ⟨g, o', none⟩) m.length co) (.slice (some ⟨w1.heap.size, 0, none⟩) 1 1) m [y] rfl rfl HOa.out Hone.out HM6.out hsz ?_); go_must (intro v3 w3 ho3 hg3; have hb3 := HbA.out.grown hg3 hsz HOa.out.row; have HO3 := Go.Lib.hid ho3; clear hg3 ho3))
            | fail)
          go_roundw
          case rel => exact ⟨i + 1, by go_num, by omega, by rw [HSN.out]; exact HO3.out, hb3⟩
          case measure => simp only [intOf]; omega
    · obtain rfl : i = l.length := by omega
      rw [List.take_length] at hO
      have HO := Go.Lib.hid hO
      clear hO
      go_wp2_with fail
      go_ret
      exact ⟨_, rfl, HO.out, hb⟩

end Go.Proofs.Ytibbligidncocaa

namespace Go.Proofs.Ytibbligidncocaa
open Go.RowKit

/-- Has slot t been written ahead of operation o, by one that o waits for? -/
def fedB (ops : Array Oper) (o : Oper) (t : Nat) : Bool :=
  o.after.any fun e => Region.binds .any e && (match ops[e.on]? with | some p => p.dst == some t | none => false)
/-- Does whoever writes t wait for operation i? -/
def lateB (ops : Array Oper) (i t : Nat) : Bool :=
  (List.range ops.size).all fun j => match ops[j]? with
    | some p => p.dst != some t || (p.after.any fun e => Region.binds .any e && e.on == i)
    | none => true
/-- Each slot that an operation looks at is written ahead of it, or behind it. -/
def tidyB (ops : Array Oper) : Bool :=
  (List.range ops.size).all fun i => match ops[i]? with
    | some o => (o.looksAt ops).all fun t => fedB ops o t || lateB ops i t
    | none => true

/-- Each operation waits for earlier ones alone. -/
def lowB (ops : Array Oper) : Bool :=
  (List.range ops.size).all fun i => match ops[i]? with
    | some o => o.after.all fun e => !Region.binds .any e || decide (e.on < i)
    | none => true

theorem countP_lt {p q : Nat → Bool} {i : Nat} : ∀ {l : List Nat}, (∀ j ∈ l, q j = true → p j = true) → i ∈ l → p i = true → q i = false → l.countP q < l.countP p
  | [], _, hi, _, _ => by cases hi
  | x :: l, hpq, hi, hp, hq => by
    have hle : l.countP q ≤ l.countP p := List.countP_mono_left fun j hj => hpq j (List.mem_cons_of_mem _ hj)
    rcases List.mem_cons.1 hi with rfl | hi'
    · rw [List.countP_cons_of_pos hp, List.countP_cons_of_neg (by simp [hq])]
      omega
    · have ih := countP_lt (fun j hj => hpq j (List.mem_cons_of_mem _ hj)) hi' hp hq
      rw [List.countP_cons, List.countP_cons]
      have hx := hpq x (by simp)
      cases hqx : q x with
      | false => simp only [Bool.false_eq_true, if_false]; omega
      | true => simp only [hx hqx, if_true]; omega

theorem listed_all {ops : Array Oper} (hlow : lowB ops = true) {listed : Array Bool} (hs : listed.size = ops.size) (hr : Region.ready .any ops listed = []) :
    ∀ (i : Nat) (o : Oper), ops[i]? = some o → listed.getD i false = true := by
  intro i
  induction i using Nat.strongRecOn with
  | ind i ih =>
    intro o ho
    have hi : i < ops.size := (Array.getElem?_eq_some_iff.1 ho).1
    have hil : i < listed.size := by rw [hs]; exact hi
    cases hl : listed.getD i false with
    | true => rfl
    | false =>
      have hmem : i ∈ Region.ready .any ops listed := by
        rw [mem_ready]
        refine ⟨by simp [hil] at hl ⊢; exact hl, o, ho, fun e he hb => ?_⟩
        unfold lowB at hlow
        rw [List.all_eq_true] at hlow
        have h1 := hlow i (by rw [List.mem_range]; exact hi)
        rw [ho] at h1
        simp only [Array.all_eq_true] at h1
        obtain ⟨k, hk, rfl⟩ := Array.mem_iff_getElem.1 he
        have h2 := h1 k hk
        rw [hb] at h2
        have hlt : (o.after[k]).on < i := by simpa using h2
        have hlt' : (o.after[k]).on < ops.size := by omega
        exact ih _ hlt ops[(o.after[k]).on] (by simp [hlt'])
      rw [hr] at hmem
      cases hmem

section
variable {P : Program} {ops : Array Oper} {Q : Exit → Act → World → Prop}

/-- What is kept while the region goes on. -/
structure Held (ops : Array Oper) (V : Nat → World → Value → Prop) (a0 : Act) (w0 : World) (listed : Array Bool) (a : Act) (w : World) : Prop where
  size : listed.size = ops.size
  below : Below w0.heap.size w0 w
  defers : a.defers = a0.defers
  len : a.tmps.size = a0.tmps.size
  old : ∀ t : Nat, (∀ (i : Nat) (o : Oper), ops[i]? = some o → o.dst = some t → listed.getD i false = false) → a.tmps[t]? = a0.tmps[t]?
  new : ∀ (i : Nat) (o : Oper) (t : Nat), ops[i]? = some o → o.dst = some t → listed.getD i false = true → ∃ v, a.tmps[t]? = some v ∧ V t w v
  shut : ∀ (i : Nat) (o : Oper), ops[i]? = some o → listed.getD i false = true → ∀ e ∈ o.after, Region.binds .any e = true → listed.getD e.on false = true

/-- What operation o may take as given: the slots that it looks at. -/
def Given (ops : Array Oper) (V : Nat → World → Value → Prop) (a0 : Act) (o : Oper) (a : Act) (w : World) : Prop :=
  ∀ t ∈ o.looksAt ops, (fedB ops o t = true → ∃ v, a.tmps[t]? = some v ∧ V t w v) ∧ (fedB ops o t = false → a.tmps[t]? = a0.tmps[t]?)

theorem getD_false_of {l : Array Bool} {i : Nat} (h : i < l.size) (h1 : l.getD i true = false) : l.getD i false = false := by
  simp [h] at h1 ⊢; exact h1

theorem wp_region_kept {id : Nat} {a0 : Act} {w0 : World} (hm : P.follows .mixedOrders = true) (V : Nat → World → Value → Prop)
    (hV : ∀ t w w' v, V t w v → Below w.heap.size w w' → V t w' v) (htidy : tidyB ops = true) (hdst : ∀ (i : Nat) (o : Oper), ops[i]? = some o → ∃ t : Nat, o.dst = some t ∧ t < a0.tmps.size)
    (hstep : ∀ (i : Nat) (o : Oper), ops[i]? = some o → ∀ (a : Act) (w : World), Below w0.heap.size w0 w → a.tmps.size = a0.tmps.size → Given ops V a0 o a w →
      wpOp P ops Q i (fun a' w' => ∃ v, a' = a.put o.dst v ∧ Below w.heap.size w w' ∧ ∀ t, o.dst = some t → V t w' v) a w)
    (hend : ∀ (a : Act) (w : World), Below w0.heap.size w0 w → a.defers = a0.defers → a.tmps.size = a0.tmps.size → (∀ t : Nat, (∀ (i : Nat) (o : Oper), ops[i]? = some o → o.dst ≠ some t) → a.tmps[t]? = a0.tmps[t]?) →
      (∀ (i : Nat) (o : Oper) (t : Nat), ops[i]? = some o → o.dst = some t → ∃ v, a.tmps[t]? = some v ∧ V t w v) → Q .normal a w)
    (hlow : lowB ops = true) :
    (Code.region id ops true).wp P Q a0 w0 := by
  refine wp_region_any hm ?_
  have hfin : ∀ (listed : Array Bool) (a : Act) (w : World), Held ops V a0 w0 listed a w → Region.ready .any ops listed = [] → Q .normal a w := fun listed a w h hr =>
    hend a w h.below h.defers h.len (fun t ht => h.old t fun i o hi hd => absurd hd (ht i o hi)) fun i o t hi hd => h.new i o t hi hd (listed_all hlow h.size hr i o hi)
  have key : ∀ (fuel : Nat) (listed : Array Bool) (a : Act) (w : World), Held ops V a0 w0 listed a w →
      (List.range ops.size).countP (fun j => !listed.getD j true) ≤ fuel → wpAny P .any ops Q fuel listed a w := by
    intro fuel
    induction fuel with
    | zero =>
      intro listed a w h hcount
      have hr : Region.ready .any ops listed = [] := by
        cases hrr : Region.ready .any ops listed with
        | nil => rfl
        | cons x xs =>
          have hx : x ∈ Region.ready .any ops listed := by rw [hrr]; simp
          obtain ⟨hun, o, ho, -⟩ := mem_ready.1 hx
          have : 0 < (List.range ops.size).countP (fun j => !listed.getD j true) := List.countP_pos_iff.2 ⟨x, by rw [List.mem_range]; exact (Array.getElem?_eq_some_iff.1 ho).1, by rw [hun]; rfl⟩
          omega
      exact ⟨hr, hfin _ _ _ h hr⟩
    | succ fuel ih =>
      intro listed a w h hcount
      refine ⟨fun hr => hfin _ _ _ h hr, fun i hi => ?_⟩
      obtain ⟨hun, o, ho, hall⟩ := mem_ready.1 hi
      have hil : i < listed.size := by
        rw [h.size]
        exact (Array.getElem?_eq_some_iff.1 ho).1
      have hunf := getD_false_of hil hun
      have hgiven : Given ops V a0 o a w := by
        intro t ht
        refine ⟨fun hf => ?_, fun hf => ?_⟩
        · unfold fedB at hf
          rw [Array.any_eq_true] at hf
          obtain ⟨k, hk, hke⟩ := hf
          simp only [Bool.and_eq_true] at hke
          obtain ⟨hb, hw⟩ := hke
          have hl := hall o.after[k] (Array.getElem_mem hk) hb
          cases hp : ops[(o.after[k]).on]? with
          | none => rw [hp] at hw; cases hw
          | some p =>
            rw [hp] at hw
            exact h.new _ p t hp (by simpa using hw) hl
        · refine h.old t fun j p hj hd => ?_
          have hti := htidy
          unfold tidyB at hti
          rw [List.all_eq_true] at hti
          have h1 := hti i (by rw [List.mem_range]; exact (Array.getElem?_eq_some_iff.1 ho).1)
          rw [ho] at h1
          simp only [List.all_eq_true] at h1
          have h2 := h1 t ht
          rw [hf, Bool.false_or] at h2
          unfold lateB at h2
          rw [List.all_eq_true] at h2
          have h3 := h2 j (by rw [List.mem_range]; exact (Array.getElem?_eq_some_iff.1 hj).1)
          rw [hj] at h3
          simp only [hd, bne_self_eq_false, Bool.false_or, Array.any_eq_true, Bool.and_eq_true] at h3
          obtain ⟨k, hk, hb, hon⟩ := h3
          cases hlj : listed.getD j false with
          | false => rfl
          | true =>
            have := h.shut j p hj hlj p.after[k] (Array.getElem_mem hk) hb
            rw [show (p.after[k]).on = i from by simpa using hon, hunf] at this
            cases this
      refine wpOp_mono ?_ (hstep i o ho a w h.below h.len hgiven)
      rintro a' w' ⟨v, rfl, hb, hv⟩
      obtain ⟨d, hd, hdl⟩ := hdst i o ho
      have hset : ∀ j, (listed.setIfInBounds i true).getD j false = if j = i then true else listed.getD j false := by
        intro j
        by_cases hji : j = i
        · subst hji; simp [hil]
        · simp [hji, Array.getElem?_setIfInBounds_ne (Ne.symm hji), Array.getD_eq_getD_getElem?]
      refine ih _ _ _ ⟨by simpa using h.size, h.below.trans (hb.mono h.below.size), ?_, ?_, ?_, ?_, ?_⟩ ?_
      · rw [hd]; exact h.defers
      · rw [hd]; simp [Act.put, h.len]
      · intro t ht
        have hdt : d ≠ t := by
          intro e
          subst e
          have := ht i o ho hd
          rw [hset, if_pos rfl] at this
          cases this
        rw [hd]
        simp only [Act.put]
        rw [Array.getElem?_setIfInBounds_ne hdt]
        refine h.old t fun j p hj hdj => ?_
        have := ht j p hj hdj
        rw [hset] at this
        split at this
        · cases this
        · exact this
      · intro j p t hj hdj hlj
        rw [hd]
        simp only [Act.put]
        by_cases hdt : d = t
        · subst hdt
          have : d < a.tmps.size := by rw [h.len]; exact hdl
          exact ⟨v, by simp [this], hv d hd⟩
        · rw [Array.getElem?_setIfInBounds_ne hdt]
          rw [hset] at hlj
          split at hlj
          · rename_i hji
            subst hji
            rw [ho] at hj
            cases hj
            rw [hd] at hdj
            exact absurd (Option.some.inj hdj) hdt
          · obtain ⟨u, hu, hVu⟩ := h.new j p t hj hdj hlj
            exact ⟨u, hu, hV _ _ _ _ hVu hb⟩
      · intro j p hj hlj e he hbe
        rw [hset] at hlj ⊢
        split
        · rfl
        · split at hlj
          · rename_i hji
            subst hji
            rw [ho] at hj
            cases hj
            exact hall e he hbe
          · exact h.shut j p hj hlj e he hbe
      · have : (List.range ops.size).countP (fun j => !(listed.setIfInBounds i true).getD j true) < (List.range ops.size).countP (fun j => !listed.getD j true) := by
          refine countP_lt (i := i) (fun j hj hq => ?_) (by rw [List.mem_range, ← h.size]; exact hil) (by rw [hun]; rfl) (by simp [hil])
          by_cases hji : j = i
          · subst hji; rw [hun]; rfl
          · simp only [Array.getD_eq_getD_getElem?] at hq ⊢
            rwa [Array.getElem?_setIfInBounds_ne (Ne.symm hji)] at hq
        omega
  refine key ops.size _ _ _ ⟨by simp, ⟨rfl, rfl, rfl, Nat.le_refl _, fun _ _ => rfl⟩, rfl, rfl, fun _ _ => rfl, fun i o t hi _ hl => ?_, fun i o hi hl => ?_⟩ ?_
  · rw [Array.getD_eq_getD_getElem?, Array.getElem?_replicate] at hl
    split at hl <;> cases hl
  · rw [Array.getD_eq_getD_getElem?, Array.getElem?_replicate] at hl
    split at hl <;> cases hl
  · exact Nat.le_trans List.countP_le_length (by simp)

/-- The frame behind the region. -/
def putAll (a0 : Act) (f : Nat → Value) (l : List Nat) : Act := l.foldl (fun b t => b.put (some t) (f t)) a0

theorem putAll_tmps (f : Nat → Value) : ∀ (l : List Nat) (a0 : Act) (t : Nat), (putAll a0 f l).tmps[t]? = if t ∈ l ∧ t < a0.tmps.size then some (f t) else a0.tmps[t]?
  | [], a0, t => by simp [putAll]
  | x :: l, a0, t => by
    have ih := putAll_tmps f l (a0.put (some x) (f x)) t
    unfold putAll at ih ⊢
    rw [List.foldl_cons, ih]
    simp only [Act.put, Array.size_setIfInBounds, List.mem_cons]
    by_cases hxt : x = t
    · subst hxt
      by_cases hs : x < a0.tmps.size
      · by_cases hm : x ∈ l <;> simp [hm, hs]
      · simp [hs]
    · rw [Array.getElem?_setIfInBounds_ne hxt]
      simp [Ne.symm hxt]

theorem putAll_size (f : Nat → Value) : ∀ (l : List Nat) (a0 : Act), (putAll a0 f l).tmps.size = a0.tmps.size ∧ (putAll a0 f l).defers = a0.defers
  | [], a0 => ⟨rfl, rfl⟩
  | x :: l, a0 => by
    have ih := putAll_size f l (a0.put (some x) (f x))
    unfold putAll at ih ⊢
    rw [List.foldl_cons]
    exact ⟨ih.1.trans (by simp [Act.put]), ih.2.trans rfl⟩

/-- The slots that the region writes. -/
def dsts (ops : Array Oper) : List Nat := ops.toList.filterMap (·.dst)

theorem wp_region_each {id : Nat} {a0 : Act} {w0 : World} (hm : P.follows .mixedOrders = true) (V : Nat → World → Value → Prop)
    (hV : ∀ t w w' v, V t w v → Below w.heap.size w w' → V t w' v) (htidy : tidyB ops = true) (hlow : lowB ops = true) (hdst : (ops.toList.all fun o => match o.dst with | some t => decide (t < a0.tmps.size) | none => false) = true)
    (l : List Nat) (hl : dsts ops = l)
    (hstep : ∀ (i : Nat) (o : Oper), ops[i]? = some o → ∀ (a : Act) (w : World), Below w0.heap.size w0 w → a.tmps.size = a0.tmps.size → Given ops V a0 o a w →
      wpOp P ops Q i (fun a' w' => ∃ v, a' = a.put o.dst v ∧ Below w.heap.size w w' ∧ ∀ t, o.dst = some t → V t w' v) a w)
    (hend : ∀ (f : Nat → Value) (w : World), Below w0.heap.size w0 w → (∀ t, t ∈ l → V t w (f t)) → Q .normal (putAll a0 f l) w) :
    (Code.region id ops true).wp P Q a0 w0 := by
  have hd : ∀ (i : Nat) (o : Oper), ops[i]? = some o → ∃ t : Nat, o.dst = some t ∧ t < a0.tmps.size := by
    intro i o ho
    rw [List.all_eq_true] at hdst
    have h1 := hdst o (by obtain ⟨h, rfl⟩ := Array.getElem?_eq_some_iff.1 ho; simp)
    cases hod : o.dst with
    | none => rw [hod] at h1; cases h1
    | some t => rw [hod] at h1; exact ⟨t, rfl, of_decide_eq_true h1⟩
  have hmem : ∀ t, t ∈ l ↔ ∃ (i : Nat) (o : Oper), ops[i]? = some o ∧ o.dst = some t := by
    intro t
    rw [← hl, dsts, List.mem_filterMap]
    constructor
    · rintro ⟨o, ho, hot⟩
      obtain ⟨i, hi, rfl⟩ := List.mem_iff_getElem.1 ho
      have hi' : i < ops.size := by simpa using hi
      exact ⟨i, ops[i], by simp [hi'], by simpa using hot⟩
    · rintro ⟨i, o, ho, hot⟩
      obtain ⟨h, rfl⟩ := Array.getElem?_eq_some_iff.1 ho
      exact ⟨ops[i], by simp, hot⟩
  refine wp_region_kept hm V hV htidy hd hstep ?_ hlow
  intro a w hb hdef hlen hold hnew
  have hf : ∀ t, t ∈ l → ∃ v, a.tmps[t]? = some v ∧ V t w v := fun t ht => by
    obtain ⟨i, o, ho, hot⟩ := (hmem t).1 ht
    exact hnew i o t ho hot
  have ha : a = putAll a0 (fun t => a.tmps.getD t undef) l := by
    obtain ⟨tm, df⟩ := a
    obtain ⟨h1, h2⟩ := putAll_size (fun t => tm.getD t undef) l a0
    have h3 : tm = (putAll a0 (fun t => tm.getD t undef) l).tmps := by
      apply Array.ext_getElem?
      intro t
      rw [putAll_tmps]
      by_cases ht : t ∈ l
      · obtain ⟨v, hv, -⟩ := hf t ht
        simp only [] at hv
        have hts : t < a0.tmps.size := by rw [← hlen]; exact (Array.getElem?_eq_some_iff.1 hv).1
        rw [if_pos ⟨ht, hts⟩, Array.getD_eq_getD_getElem?, hv]
        rfl
      · rw [if_neg (fun h => ht h.1)]
        exact hold t fun i o ho hot => ht ((hmem t).2 ⟨i, o, ho, hot⟩)
    have h4 : df = (putAll a0 (fun t => tm.getD t undef) l).defers := by rw [h2]; exact hdef
    calc (⟨tm, df⟩ : Act) = ⟨(putAll a0 (fun t => tm.getD t undef) l).tmps, (putAll a0 (fun t => tm.getD t undef) l).defers⟩ := by rw [← h3, ← h4]
      _ = _ := rfl
  rw [ha]
  refine hend _ w hb fun t ht => ?_
  obtain ⟨v, hv, hVv⟩ := hf t ht
  rw [Array.getD_eq_getD_getElem?, hv]
  exact hVv

theorem st_yield {K : Act → World → Prop} {i : Nat} {o : Oper} {a : Act} {w : World} (ho : ops[i]? = some o) (hw : Region.wanted o (yielded ops a.tmps) = true) (v : Value) (w' : World)
    (hrun : (execOp a.eval o).run P w = .ok (.value v) w') (h : K (a.put o.dst v) w') : wpOp P ops Q i K a w := by
  unfold wpOp
  rw [ho]
  simp only [hw, if_true]
  refine .inl ?_
  unfold Oper.wp
  rw [hrun, Oper.upon_value]
  exact h

theorem st_enter {K : Act → World → Prop} {i : Nat} {o : Oper} {a : Act} {w w1 : World} (ho : ops[i]? = some o) (hw : Region.wanted o (yielded ops a.tmps) = true) (f : FuncId) (args : Array Value)
    (hrun : (execOp a.eval o).run P w = .ok (.enter f args) w1) (h : Calls P f args w1 fun e w' => ∃ v, e = .returned v ∧ K (a.put o.dst v) w') : wpOp P ops Q i K a w := by
  unfold wpOp
  rw [ho]
  simp only [hw, if_true]
  refine .inl ?_
  unfold Oper.wp
  rw [hrun, Oper.upon_enter]
  refine h.mono ?_
  rintro e w' ⟨v, rfl, hk⟩
  exact hk

theorem st_skip {K : Act → World → Prop} {i : Nat} {o : Oper} {a : Act} {w : World} (ho : ops[i]? = some o) (hw : Region.wanted o (yielded ops a.tmps) = false) (h : K (a.put o.dst undef) w) : wpOp P ops Q i K a w := by
  unfold wpOp
  rw [ho]
  simp only [hw, Bool.false_eq_true, if_false]
  exact h

theorem given_fed {V : Nat → World → Value → Prop} {a0 : Act} {o : Oper} {a : Act} {w : World} (hg : Given ops V a0 o a w) (t : Nat) (h : ((o.looksAt ops).contains t && fedB ops o t) = true) : ∃ v, a.tmps[t]? = some v ∧ V t w v := by
  rw [Bool.and_eq_true, List.contains_iff_mem] at h
  exact (hg t h.1).1 h.2
theorem given_old {V : Nat → World → Value → Prop} {a0 : Act} {o : Oper} {a : Act} {w : World} (hg : Given ops V a0 o a w) (t : Nat) (h : ((o.looksAt ops).contains t && !fedB ops o t) = true) : a.tmps[t]? = a0.tmps[t]? := by
  rw [Bool.and_eq_true, List.contains_iff_mem, Bool.not_eq_true'] at h
  exact (hg t h.1).2 h.2
theorem wanted_none {o : Oper} {y : Nat → Option Bool} (h : o.guard = none) : Region.wanted o y = true := by simp [Region.wanted, h]
theorem wanted_some {o : Oper} {tmps : Array Value} {g : Nat} {p b : Bool} {t : Nat} (h : o.guard = some (g, p)) (hp : (ops[g]?).bind (·.dst) = some t) (hv : tmps[t]? = some (.bool b)) (hb : b = p) : Region.wanted o (yielded ops tmps) = true := by
  subst hb
  simp [Region.wanted, h, yielded, hp, hv]
theorem wanted_undef {o : Oper} {tmps : Array Value} {g : Nat} {p : Bool} {t : Nat} (h : o.guard = some (g, p)) (hp : (ops[g]?).bind (·.dst) = some t) (hv : tmps[t]? = some undef) : Region.wanted o (yielded ops tmps) = false := by
  simp [Region.wanted, h, yielded, hp, hv, undef]
theorem wanted_not {o : Oper} {tmps : Array Value} {g : Nat} {p b : Bool} {t : Nat} (h : o.guard = some (g, p)) (hp : (ops[g]?).bind (·.dst) = some t) (hv : tmps[t]? = some (.bool b)) (hb : b ≠ p) : Region.wanted o (yielded ops tmps) = false := by
  simp [Region.wanted, h, yielded, hp, hv, hb]

end

end Go.Proofs.Ytibbligidncocaa
