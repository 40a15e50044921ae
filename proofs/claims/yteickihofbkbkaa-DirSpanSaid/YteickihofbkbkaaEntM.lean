/-
  Mathematics of stage 14 (of no code): which lists of entries may be, their bytes, how those are read; a number that is read is written so.
-/
import Derived.Test.YteickihofbkbkaaNumL
import Derived.Test.YteickihofbkbkaaEnt
import Derived.Test.YteickihofbkbkaaLess
import Derived.Test.YteickihofbkbkaaRunM
namespace Go.Proofs.Yteickihofbkbkaa
open Go.Op
open Go.Lib (uvarint zigzag)

/-! ### Numbers: what is read is written so. -/
theorem unzig_of (u : Nat) : zigzag (unzig u) = u := by
  unfold unzig zigzag
  split <;> split <;> omega

theorem getS_canon : ∀ (l : List UInt8) (k u : Nat) (n : Int) (m : Nat), k ≤ 9 → getS l k u = (n, m, 0) →
    ∃ x r, n = unzig (u + x * 128 ^ k) ∧ m = k + (uvarint x).length ∧ l = uvarint x ++ r ∧ (0 < k → 0 < x)
  | [], k, u, n, m, _, h => by simp [getS] at h
  | c :: r, k, u, n, m, hk, h => by
    rw [getS] at h
    have hc : c.toNat < 256 := c.toNat_lt
    split at h
    · simp at h
    · rename_i h9
      split at h
      · rename_i h128
        by_cases hk9 : k = 9
        · exact absurd ⟨hk9, by omega⟩ h9
        · obtain ⟨x, r', e1, e2, e3, e4⟩ := getS_canon r (k + 1) _ n m (by omega) h
          have hx := e4 (by omega)
          refine ⟨c.toNat % 128 + 128 * x, r', ?_, ?_, ?_, fun _ => by omega⟩
          · rw [e1, Nat.pow_succ]
            congr 1
            rw [Nat.add_mul, Nat.mul_assoc, Nat.mul_comm 128 (x * 128 ^ k), Nat.mul_assoc]
            omega
          · rw [Go.Lib.uvarint_big (by omega), e2, show (c.toNat % 128 + 128 * x) / 128 = x by omega, List.length_cons]
            omega
          · rw [Go.Lib.uvarint_big (by omega), show (c.toNat % 128 + 128 * x) / 128 = x by omega, show (c.toNat % 128 + 128 * x) % 128 + 128 = c.toNat by omega, e3]
            simp
      · split at h
        · simp at h
        · rename_i h1 h2
          simp only [Prod.mk.injEq, and_true] at h
          obtain ⟨rfl, rfl⟩ := h
          refine ⟨c.toNat, r, rfl, ?_, ?_, fun hk0 => by omega⟩
          · rw [Go.Lib.uvarint_small (by omega)]; simp
          · rw [Go.Lib.uvarint_small (by omega)]
            simp

theorem getB_canon {l : List UInt8} {n : Int} {m : Nat} (h : getB l = (n, m, 0)) : m = (uvarint (zigzag n)).length ∧ l = uvarint (zigzag n) ++ l.drop m := by
  obtain ⟨x, r, e1, e2, e3, -⟩ := getS_canon l 0 0 n m (by omega) h
  simp only [Nat.pow_zero, Nat.mul_one, Nat.zero_add] at e1 e2
  have hx : zigzag n = x := by rw [e1, unzig_of]
  rw [hx]
  refine ⟨e2, ?_⟩
  rw [e2]
  conv => rhs; rw [e3]
  simp [e3]

theorem textB_canon {l s : List UInt8} {m : Nat} (h : textB l = (s, m, 0)) : s.length ≤ 65536 ∧ l = putT s ++ l.drop m := by
  unfold textB at h
  split at h
  · rename_i h0
    simp only [Prod.mk.injEq] at h
    exact absurd h.2.2 h0
  · split at h
    · simp at h
    · split at h
      · simp at h
      · rename_i h0 h1 h2
        simp only [Prod.mk.injEq, and_true] at h
        obtain ⟨rfl, rfl⟩ := h
        have h0 : (getB l).2.2 = 0 := Classical.byContradiction fun hh => h0 hh
        rcases hr : getB l with ⟨n, k, e⟩
        rw [hr] at h0 h1 h2
        simp only [] at h0 h1 h2
        subst h0
        obtain ⟨-, e2⟩ := getB_canon hr
        have hsl : ((l.drop k).take n.toNat).length = n.toNat := by rw [List.length_take, List.length_drop]; omega
        refine ⟨by rw [hsl]; omega, ?_⟩
        unfold putT
        rw [hsl, show ((n.toNat : Nat) : Int) = n by omega, List.append_assoc, ← List.drop_drop, List.take_append_drop]
        exact e2

/-! ### Lists that may be. -/
def mayE (x : EntT) : Prop := 1 ≤ x.1.size ∧ x.1.size ≤ 20 ∧ 0 ≤ x.2.1 ∧ x.2.1 ≤ 65536 ∧ x.2.2.2 = (x.2.1 + 63) / 64 ∧ 0 ≤ x.2.2.1 ∧ x.2.2.1 ≤ 2048 ∧ (x.2.2.2 = 0 → x.2.2.1 = 0)
instance (x : EntT) : Decidable (mayE x) := by unfold mayE; infer_instance
def ltE (x y : EntT) : Bool := bytesLess x.1.toList y.1.toList
/-- The entry at i may stand there. -/
def fitE (l : List EntT) (i : Nat) : Prop := ∃ h : i < l.length, mayE l[i] ∧ (0 < i → ltE l[i - 1] l[i] = true)
def MayL (l : List EntT) : Prop := l.length ≤ 32 ∧ ∀ i, i < l.length → fitE l i
open Classical in
noncomputable def mayL (l : List EntT) : Bool := decide (MayL l)
open Classical in
theorem mayL_iff {l : List EntT} : mayL l = true ↔ MayL l := by unfold mayL; exact decide_eq_true_iff
open Classical in
theorem mayL_no {l : List EntT} (h : ¬ MayL l) : mayL l = false := by unfold mayL; exact decide_eq_false h

/-- The names rise, near and far. -/
theorem MayL.far {l : List EntT} (h : MayL l) : ∀ (j i : Nat) (hi : i < l.length) (hj : j < l.length), j < i → ltE l[j] l[i] = true
  | j, 0, hi, hj, h0 => by omega
  | j, i + 1, hi, hj, h0 => by
    obtain ⟨_, _, hs⟩ := h.2 (i + 1) hi
    have h1 := hs (by omega)
    simp only [Nat.add_sub_cancel] at h1
    by_cases hji : j = i
    · subst hji; exact h1
    · exact less_trans _ _ _ (MayL.far h j i (by omega) hj (by omega)) h1
theorem MayL.uniq {l : List EntT} (h : MayL l) {i j : Nat} (hi : i < l.length) (hj : j < l.length) (e : l[i].1 = l[j].1) : i = j := by
  rcases Nat.lt_trichotomy i j with hlt | rfl | hlt
  · have := h.far i j hj hi hlt
    unfold ltE at this
    rw [e, less_irr] at this
    cases this
  · rfl
  · have := h.far j i hi hj hlt
    unfold ltE at this
    rw [e, less_irr] at this
    cases this

/-! ### Their bytes. -/
def numP (n : Int) : List UInt8 := uvarint (zigzag n)
def entP (x : EntT) : List UInt8 := putT (bl x.1) ++ (numP x.2.1 ++ (numP x.2.2.1 ++ numP x.2.2.2))
def rowP (l : List EntT) : List UInt8 := l.flatMap entP
def lstB (l : List EntT) : List UInt8 := numP (l.length : Int) ++ rowP l
theorem rowP_snoc (l : List EntT) (x : EntT) : rowP (l ++ [x]) = rowP l ++ entP x := by simp [rowP]

theorem numP_len (n : Int) (h0 : -9223372036854775808 ≤ n) (h1 : n ≤ 9223372036854775807) : (numP n).length ≤ 10 ∧ 1 ≤ (numP n).length :=
  ⟨Go.Lib.uvarint_length64 (Go.Lib.zigzag_lt h0 h1), Go.Lib.uvarint_pos _⟩
/-- Fit to be written. -/
def putE (x : EntT) : Prop := x.1.size ≤ 65536 ∧ (-9223372036854775808 ≤ x.2.1 ∧ x.2.1 ≤ 9223372036854775807) ∧ (-9223372036854775808 ≤ x.2.2.1 ∧ x.2.2.1 ≤ 9223372036854775807) ∧ (-9223372036854775808 ≤ x.2.2.2 ∧ x.2.2.2 ≤ 9223372036854775807)
theorem putE_of {x : EntT} (h : mayE x) : putE x := by unfold mayE at h; unfold putE; omega
theorem entP_len {x : EntT} (h : putE x) : (entP x).length ≤ x.1.size + 40 := by
  obtain ⟨h0, ⟨a1, a2⟩, ⟨b1, b2⟩, c1, c2⟩ := h
  unfold entP putT
  have e0 := Go.Lib.uvarint_length64 (Go.Lib.zigzag_lt (x := ((bl x.1).length : Int)) (by omega) (by rw [← bl_size]; omega))
  have e1 := (numP_len _ a1 a2).1
  have e2 := (numP_len _ b1 b2).1
  have e3 := (numP_len _ c1 c2).1
  simp only [List.length_append]
  rw [bl_size]
  omega
theorem rowP_len (l : List EntT) (h : ∀ x ∈ l, putE x) : (rowP l).length ≤ l.length * 65576 := by
  induction l with
  | nil => simp [rowP]
  | cons x l ih =>
    show (entP x ++ rowP l).length ≤ _
    rw [List.length_append, List.length_cons]
    have h1 := entP_len (h x (by simp))
    have h2 := ih fun y hy => h y (by simp [hy])
    have h3 := (h x (by simp)).1
    omega

/-! ### How they are read. -/
abbrev StE := List UInt8 × Bool
noncomputable def numR (s : StE) : Int × StE := ((getB s.1).1, s.1.drop (getB s.1).2.1, s.2 || decide ((getB s.1).2.2 ≠ 0))
noncomputable def textR (s : StE) : List UInt8 × StE := ((textB s.1).1, s.1.drop (textB s.1).2.1, s.2 || decide ((textB s.1).2.2 ≠ 0))
noncomputable def entR (s : StE) : EntT × StE :=
  ((str (textR s).1, (numR (textR s).2).1, (numR (numR (textR s).2).2).1, (numR (numR (numR (textR s).2).2).2).1), (numR (numR (numR (textR s).2).2).2).2)
noncomputable def seqR : Nat → StE → List EntT × StE
  | 0, s => ([], s)
  | k + 1, s => ((seqR k s).1 ++ [(entR (seqR k s).2).1], (entR (seqR k s).2).2)
theorem seqR_len (k : Nat) (s : StE) : (seqR k s).1.length = k := by
  induction k with
  | zero => rfl
  | succ k ih => simp [seqR, ih]

theorem numR_put (n : Int) (h0 : -9223372036854775808 ≤ n) (h1 : n ≤ 9223372036854775807) (r : List UInt8) (b : Bool) : numR (numP n ++ r, b) = (n, r, b) := by
  unfold numR numP
  rw [getB_put n h0 h1 r]
  simp
theorem textR_put (s : List UInt8) (hs : s.length ≤ 65536) (r : List UInt8) (b : Bool) : textR (putT s ++ r, b) = (s, r, b) := by
  unfold textR
  rw [textB_put s r hs]
  simp
theorem entR_put {x : EntT} (h : putE x) (r : List UInt8) (b : Bool) : entR (entP x ++ r, b) = (x, r, b) := by
  obtain ⟨h0, ⟨a1, a2⟩, ⟨b1, b2⟩, c1, c2⟩ := h
  unfold entR entP
  simp only [List.append_assoc]
  rw [textR_put (bl x.1) (by rw [← bl_size]; exact h0), numR_put _ a1 a2, numR_put _ b1 b2, numR_put _ c1 c2, str_bl]
theorem seqR_put : ∀ (n : Nat) (l : List EntT) (r : List UInt8) (b : Bool), l.length = n → (∀ x ∈ l, putE x) → seqR n (rowP l ++ r, b) = (l, r, b)
  | 0, l, r, b, hn, _ => by
    obtain rfl : l = [] := List.eq_nil_of_length_eq_zero hn
    rfl
  | n + 1, l, r, b, hn, h => by
    rcases List.eq_nil_or_concat l with rfl | ⟨m, x, rfl⟩
    · simp at hn
    · rw [List.concat_eq_append] at hn h ⊢
      have hm : m.length = n := by simpa using hn
      rw [rowP_snoc, List.append_assoc]
      rw [seqR, seqR_put n m (entP x ++ r) b hm (fun y hy => h y (by simp [hy])), entR_put (h x (by simp))]

theorem numR_good {s : StE} (h : (numR s).2.2 = false) : s.2 = false ∧ s.1 = numP (numR s).1 ++ (numR s).2.1 := by
  unfold numR at h ⊢
  simp only [Bool.or_eq_false_iff, decide_eq_false_iff_not, ne_eq, Decidable.not_not] at h
  refine ⟨h.1, ?_⟩
  rcases hr : getB s.1 with ⟨n, m, e⟩
  rw [hr] at h
  obtain ⟨-, rfl⟩ := h
  exact (getB_canon hr).2
theorem textR_good {s : StE} (h : (textR s).2.2 = false) : s.2 = false ∧ s.1 = putT (textR s).1 ++ (textR s).2.1 := by
  unfold textR at h ⊢
  simp only [Bool.or_eq_false_iff, decide_eq_false_iff_not, ne_eq, Decidable.not_not] at h
  refine ⟨h.1, ?_⟩
  rcases hr : textB s.1 with ⟨n, m, e⟩
  rw [hr] at h
  obtain ⟨-, rfl⟩ := h
  exact (textB_canon hr).2
theorem entR_good {s : StE} (h : (entR s).2.2 = false) : s.2 = false ∧ s.1 = entP (entR s).1 ++ (entR s).2.1 := by
  obtain ⟨h3, e3⟩ := numR_good (s := (numR (numR (textR s).2).2).2) h
  obtain ⟨h2, e2⟩ := numR_good (s := (numR (textR s).2).2) h3
  obtain ⟨h1, e1⟩ := numR_good (s := (textR s).2) h2
  obtain ⟨h0, e0⟩ := textR_good h1
  refine ⟨h0, ?_⟩
  unfold entR entP
  simp only [List.append_assoc, bl_str]
  rw [← e3, ← e2, ← e1, ← e0]
theorem seqR_good : ∀ (k : Nat) (s : StE), (seqR k s).2.2 = false → s.2 = false ∧ s.1 = rowP (seqR k s).1 ++ (seqR k s).2.1
  | 0, s, h => ⟨h, by simp [seqR, rowP]⟩
  | k + 1, s, h => by
    obtain ⟨h1, e1⟩ := entR_good (s := (seqR k s).2) h
    obtain ⟨h0, e0⟩ := seqR_good k s h1
    refine ⟨h0, ?_⟩
    rw [seqR]
    simp only []
    rw [rowP_snoc, List.append_assoc, ← e1]
    exact e0

/-- The number says none that may be. -/
noncomputable def hdN (b : List UInt8) : Int := (numR (b, false)).1
noncomputable def hdS (b : List UInt8) : StE := (numR (b, false)).2
open Classical in
noncomputable def decB (b : List UInt8) : Option (List EntT) :=
  if hdN b < 0 ∨ 32 < hdN b then none
  else if (seqR (hdN b).toNat (hdS b)).2.2 = true ∨ (seqR (hdN b).toNat (hdS b)).2.1 ≠ [] ∨ mayL (seqR (hdN b).toNat (hdS b)).1 = false then none
  else some (seqR (hdN b).toNat (hdS b)).1

theorem decB_put {l : List EntT} (h : MayL l) : decB (lstB l) = some l := by
  have hl := h.1
  have hn : numR (lstB l, false) = ((l.length : Int), rowP l ++ [], false) := by
    unfold lstB
    rw [numR_put _ (by omega) (by omega), List.append_nil]
  have hp : ∀ x ∈ l, putE x := fun x hx => by
    obtain ⟨i, hi, rfl⟩ := List.mem_iff_getElem.1 hx
    obtain ⟨_, hm, _⟩ := h.2 i hi
    exact putE_of hm
  have hs := seqR_put l.length l [] false rfl hp
  unfold decB hdN hdS
  rw [hn]
  simp only [Int.toNat_natCast]
  rw [hs, if_neg (by omega), if_neg]
  rintro (h1 | h1 | h1)
  · cases h1
  · exact h1 rfl
  · rw [mayL_iff.2 h] at h1; cases h1
theorem decB_ok {b : List UInt8} {l : List EntT} (h : decB b = some l) : mayL l = true ∧ lstB l = b := by
  unfold decB at h
  split at h
  · cases h
  · split at h
    · cases h
    · rename_i h0 h1
      cases h
      simp only [not_or, Bool.not_eq_true, ne_eq, Decidable.not_not, Bool.not_eq_false] at h1
      obtain ⟨h1, h2, h3⟩ := h1
      refine ⟨h3, ?_⟩
      obtain ⟨g1, e1⟩ := seqR_good _ _ h1
      obtain ⟨-, e0⟩ := numR_good (s := (b, false)) g1
      unfold lstB
      rw [seqR_len, show (((hdN b).toNat : Nat) : Int) = hdN b by omega]
      rw [h2, List.append_nil] at e1
      rw [← e1]
      exact e0.symm
theorem lstB_inj {l m : List EntT} (hl : mayL l = true) (hm : mayL m = true) : lstB l = lstB m ↔ l = m := by
  constructor
  · intro e
    have h1 := decB_put (mayL_iff.1 hl)
    rw [e, decB_put (mayL_iff.1 hm)] at h1
    exact (Option.some.inj h1).symm
  · rintro rfl; rfl
theorem MayL.bytes {l : List EntT} (h : MayL l) : (lstB l).length ≤ 2000 ∧ 1 ≤ (lstB l).length := by
  have hl := h.1
  have e1 := numP_len (l.length : Int) (by omega) (by omega)
  have e2 : ∀ m : List EntT, (∀ x ∈ m, mayE x) → (rowP m).length ≤ m.length * 60 := by
    intro m
    induction m with
    | nil => intro _; simp [rowP]
    | cons x m ih =>
      intro hm
      show (entP x ++ rowP m).length ≤ _
      rw [List.length_append, List.length_cons]
      have h1 := hm x (by simp)
      have h2 := entP_len (putE_of h1)
      have h3 := ih fun y hy => hm y (by simp [hy])
      unfold mayE at h1
      omega
  have e3 := e2 l fun x hx => by
    obtain ⟨i, hi, rfl⟩ := List.mem_iff_getElem.1 hx
    obtain ⟨_, hm, _⟩ := h.2 i hi
    exact hm
  unfold lstB
  rw [List.length_append]
  omega

/-! ### Where a name stands. -/
def nmE (q : ByteArray) (x : EntT) : Bool := x.1.toList == q.toList
theorem nmE_iff {q : ByteArray} {x : EntT} : nmE q x = true ↔ x.1 = q := by
  unfold nmE
  rw [beq_iff_eq, ByteArray.toList_eq, ByteArray.toList_eq]
  exact ⟨fun h => ByteArray.ext (Array.toList_inj.1 h), fun h => by rw [h]⟩
/-- The first one; -1. -/
def idxE (p : EntT → Bool) (l : List EntT) : Int := if l.findIdx p < l.length then (l.findIdx p : Int) else -1
theorem idxE_of {p : EntT → Bool} {l : List EntT} {k : Nat} (hk : k < l.length) (h : p l[k] = true) (hj : ∀ (j : Nat) (hj : j < l.length), j < k → p l[j] = false) : idxE p l = (k : Int) := by
  have e : l.findIdx p = k := (List.findIdx_eq hk).2 ⟨h, fun j hjk => hj j (by omega) hjk⟩
  unfold idxE
  rw [e, if_pos hk]
theorem idxE_no {p : EntT → Bool} {l : List EntT} (h : ∀ (j : Nat) (hj : j < l.length), p l[j] = false) : idxE p l = -1 := by
  have e : ¬ l.findIdx p < l.length := by
    rw [List.findIdx_lt_length]
    rintro ⟨x, hx, hp⟩
    obtain ⟨j, hj, rfl⟩ := List.mem_iff_getElem.1 hx
    rw [h j hj] at hp
    cases hp
  unfold idxE
  rw [if_neg e]
def findE (l : List EntT) (q : ByteArray) : Int := idxE (nmE q) l
/-- In a list that may be a name stands once. -/
theorem findE_of {l : List EntT} (h : MayL l) {k : Nat} (hk : k < l.length) : findE l l[k].1 = (k : Int) :=
  idxE_of hk (nmE_iff.2 rfl) fun j hj hjk => by
    cases hn : nmE l[k].1 l[j] with
    | false => rfl
    | true => have := h.uniq hj hk (nmE_iff.1 hn); omega
theorem findE_none {l : List EntT} {q : ByteArray} (h : ∀ (j : Nat) (hj : j < l.length), l[j].1 ≠ q) : findE l q = -1 :=
  idxE_no fun j hj => by
    cases hn : nmE q l[j] with
    | false => rfl
    | true => exact absurd (nmE_iff.1 hn) (h j hj)

end Go.Proofs.Yteickihofbkbkaa
