/-
  What two sectors hold of a text, as mathematics: a number's bytes, a sector, what is found. Of no code.
-/
import Derived.Test.YtiejjiccncmeiaaDoorDevM
import Derived.Test.YtiejjiccncmeiaaDoorCrcM
namespace Go.Proofs.YtiejjiccncmeiaaDoor
open Go.RowKit

/-- A number's lowest k bytes, the lowest first. -/
def leN : Nat → Nat → List UInt8
  | 0, _ => []
  | k + 1, n => UInt8.ofNat n :: leN k (n / 256)
/-- The number of such bytes. -/
def getN : List UInt8 → Nat
  | [] => 0
  | c :: l => c.toNat + 256 * getN l
theorem leN_length (k n : Nat) : (leN k n).length = k := by
  induction k generalizing n with
  | zero => rfl
  | succ k ih => simp [leN, ih]
theorem leN_snoc (k n : Nat) : leN (k + 1) n = leN k n ++ [UInt8.ofNat (n / 256 ^ k)] := by
  induction k generalizing n with
  | zero => simp [leN]
  | succ k ih =>
    rw [leN, ih, leN, List.cons_append, Nat.div_div_eq_div_mul, Nat.pow_succ, Nat.mul_comm (256 ^ k)]
theorem getN_leN (k n : Nat) (h : n < 256 ^ k) : getN (leN k n) = n := by
  induction k generalizing n with
  | zero => simp at h; simp [leN, getN, h]
  | succ k ih =>
    have h1 : n / 256 < 256 ^ k := by rw [Nat.pow_succ] at h; omega
    rw [leN, getN, ih _ h1, UInt8.toNat_ofNat']
    omega
theorem getN_lt (l : List UInt8) : getN l < 256 ^ l.length := by
  induction l with
  | nil => simp [getN]
  | cons c l ih =>
    have := c.toNat_lt
    rw [getN, List.length_cons, Nat.pow_succ]
    omega
theorem getN_snoc (l : List UInt8) (c : UInt8) : getN (l ++ [c]) = getN l + c.toNat * 256 ^ l.length := by
  induction l with
  | nil => simp [getN]
  | cons d l ih =>
    rw [List.cons_append, getN, ih, getN, List.length_cons, Nat.pow_succ, Nat.mul_add]
    generalize 256 ^ l.length = q
    have e : c.toNat * (q * 256) = 256 * (c.toNat * q) := by rw [← Nat.mul_assoc, Nat.mul_comm]
    omega
theorem getN_or (l : List UInt8) (c : UInt8) : getN l ||| c.toNat * 2 ^ (8 * l.length) = getN (l ++ [c]) := by
  have h := getN_lt l
  rw [show (256 : Nat) = 2 ^ 8 from rfl, ← Nat.pow_mul] at h
  rw [getN_snoc, show (256 : Nat) = 2 ^ 8 from rfl, ← Nat.pow_mul, Nat.or_comm, ← Nat.shiftLeft_eq, ← Nat.shiftLeft_add_eq_or_of_lt h, Nat.add_comm]

/-- x lies from place o on. -/
def putAt (l : List UInt8) (o : Nat) (x : List UInt8) : List UInt8 := l.take o ++ x ++ l.drop (o + x.length)
theorem putAt_length {l x : List UInt8} {o : Nat} (h : o + x.length ≤ l.length) : (putAt l o x).length = l.length := by
  simp [putAt]; omega
theorem putAt_nil (l : List UInt8) (o : Nat) : putAt l o [] = l := by simp [putAt]
theorem putAt_set (l x : List UInt8) (o : Nat) (c : UInt8) (h : o + x.length < l.length) : (putAt l o x).set (o + x.length) c = putAt l o (x ++ [c]) := by
  unfold putAt
  have ho : (l.take o).length = o := by rw [List.length_take]; omega
  rw [List.set_append_right _ _ (by simp [ho]), List.length_append, ho, Nat.sub_self, List.drop_eq_getElem_cons h, List.set_cons_zero]
  simp [Nat.add_assoc]

/-- What the sum is reckoned of. -/
def bodyS (text : List UInt8) (t : Nat) : List UInt8 := leN 8 t ++ (UInt8.ofNat text.length :: (text ++ List.replicate (51 - text.length) 0))
theorem bodyS_length {text : List UInt8} (h : text.length ≤ 51) (t : Nat) : (bodyS text t).length = 60 := by simp [bodyS, leN_length]; omega
/-- A sector that holds a text. -/
def encS (text : List UInt8) (t : Nat) : List UInt8 := leN 4 (crcSum (bodyS text t)).toNat ++ bodyS text t
theorem encS_length {text : List UInt8} (h : text.length ≤ 51) (t : Nat) : (encS text t).length = 64 := by rw [encS, List.length_append, leN_length, bodyS_length h]
theorem encS_drop4 (text : List UInt8) (t : Nat) : (encS text t).drop 4 = bodyS text t := by
  rw [encS, List.drop_left' (leN_length _ _)]
theorem encS_turn (text : List UInt8) (t : Nat) : ((encS text t).take 12).drop 4 = leN 8 t := by
  rw [List.drop_take, encS_drop4, bodyS, List.take_left' (leN_length _ _)]
theorem encS_len (text : List UInt8) (t : Nat) : (encS text t)[12]? = some (UInt8.ofNat text.length) := by
  have h : (encS text t).drop 12 = UInt8.ofNat text.length :: (text ++ List.replicate (51 - text.length) 0) := by
    rw [show 12 = 4 + 8 from rfl, ← List.drop_drop, encS_drop4, bodyS, List.drop_left' (leN_length _ _)]
  have h2 := congrArg (fun l => l[0]?) h
  simpa [List.getElem?_drop] using h2
theorem encS_text {text : List UInt8} (t : Nat) : ((encS text t).take (13 + text.length)).drop 13 = text := by
  rw [List.drop_take, show 13 = 4 + (8 + 1) from rfl, ← List.drop_drop, encS_drop4, bodyS, ← List.drop_drop, List.drop_left' (leN_length _ _), List.drop_one, List.tail_cons]
  rw [show 4 + (8 + 1) + text.length - (4 + (8 + 1)) = text.length from by omega, List.take_left]

/-- How a sector is laid. -/
theorem encS_made (text : List UInt8) (t : Nat) (h : text.length ≤ 51) :
    putAt (putAt ((putAt (List.replicate 64 0) 4 (leN 8 t)).set 12 (UInt8.ofNat text.length)) 13 text) 0 (leN 4 (crcSum ((putAt ((putAt (List.replicate 64 0) 4 (leN 8 t)).set 12 (UInt8.ofNat text.length)) 13 text).drop 4)).toNat) = encS text t := by
  have e1 : putAt (List.replicate 64 0) 4 (leN 8 t) = List.replicate 4 0 ++ (leN 8 t ++ List.replicate 52 0) := by
    simp [putAt, leN_length]
  have e2 : (putAt (List.replicate 64 0) 4 (leN 8 t)).set 12 (UInt8.ofNat text.length) = List.replicate 4 0 ++ (leN 8 t ++ (UInt8.ofNat text.length :: List.replicate 51 0)) := by
    rw [e1, List.set_append_right _ _ (by simp), List.set_append_right _ _ (by simp [leN_length])]
    simp only [List.length_replicate, leN_length]
    rfl
  have e3 : putAt ((putAt (List.replicate 64 0) 4 (leN 8 t)).set 12 (UInt8.ofNat text.length)) 13 text = List.replicate 4 0 ++ bodyS text t := by
    rw [e2]
    unfold putAt bodyS
    have ha : (List.replicate 4 (0 : UInt8) ++ (leN 8 t ++ (UInt8.ofNat text.length :: List.replicate 51 0))) = (List.replicate 4 (0 : UInt8) ++ leN 8 t ++ [UInt8.ofNat text.length]) ++ List.replicate 51 0 := by simp
    have hl : (List.replicate 4 (0 : UInt8) ++ leN 8 t ++ [UInt8.ofNat text.length]).length = 13 := by simp [leN_length]
    rw [ha, List.take_left' hl, List.drop_append, hl, List.drop_of_length_le (by rw [hl]; omega), List.nil_append, List.drop_replicate]
    simp
  rw [e3]
  have h4 : (List.replicate 4 (0 : UInt8) ++ bodyS text t).drop 4 = bodyS text t := List.drop_left' (by simp)
  rw [h4]
  unfold putAt encS
  rw [leN_length, List.take_zero, List.nil_append, Nat.zero_add, h4]

/-- What a sector holds: a text and its turn; turn 0: none. -/
def decS (l : List UInt8) : List UInt8 × Nat :=
  if (l.getD 12 0).toNat ≤ 40 ∧ getN ((l.take 12).drop 4) ≤ 1099511627776 ∧ l = encS ((l.take (13 + (l.getD 12 0).toNat)).drop 13) (getN ((l.take 12).drop 4)) then ((l.take (13 + (l.getD 12 0).toNat)).drop 13, getN ((l.take 12).drop 4)) else ([], 0)
theorem decS_enc (text : List UInt8) (t : Nat) (h : text.length ≤ 40) (ht : t ≤ 1099511627776) : decS (encS text t) = (text, t) := by
  have h12 : ((encS text t).getD 12 0).toNat = text.length := by
    rw [List.getD_eq_getElem?_getD, encS_len, Option.getD_some, UInt8.toNat_ofNat']
    omega
  have ht2 : getN (((encS text t).take 12).drop 4) = t := by rw [encS_turn, getN_leN _ _ (by omega)]
  unfold decS
  rw [h12, ht2, encS_text, if_pos ⟨h, ht, rfl⟩]
theorem decS_zeros : (decS zeros).2 = 0 := by
  unfold decS
  split
  · decide
  · rfl
theorem decS_fits (l : List UInt8) : (decS l).1.length ≤ 40 ∧ (decS l).2 ≤ 1099511627776 := by
  unfold decS
  split
  · rename_i h
    exact ⟨by simp only [List.length_drop, List.length_take]; omega, h.2.1⟩
  · simp

/-- What is found: the slot, its text, its turn. -/
structure Found where
  slot : Nat
  text : List UInt8
  turn : Nat
def none0 : Found := ⟨0, [], 0⟩
def seeS (f : Found) (i : Nat) (l : List UInt8) : Found := if f.turn < (decS l).2 then ⟨i, (decS l).1, (decS l).2⟩ else f
def newestS (F : Nat → List UInt8) (p : Nat) : Found := seeS (seeS none0 0 (F p)) 1 (F (p + 1))
structure Found.Fits (f : Found) : Prop where
  slot : f.slot ≤ 1
  text : f.text.length ≤ 40
  turn : f.turn ≤ 1099511627776
theorem none0_fits : none0.Fits := ⟨by decide, by decide, by decide⟩
theorem Found.Fits.see {f : Found} (h : f.Fits) {i : Nat} (hi : i ≤ 1) (l : List UInt8) : (seeS f i l).Fits := by
  unfold seeS
  split
  · exact ⟨hi, (decS_fits l).1, (decS_fits l).2⟩
  · exact h

/-- A device's sectors, all of them lasting. -/
def calmS (F : Nat → List UInt8) : Nat → Sec := fun j => ⟨F j, F j, false⟩
def upF (F : Nat → List UInt8) (i : Nat) (l : List UInt8) : Nat → List UInt8 := fun j => if j = i then l else F j
theorem upF_self (F : Nat → List UInt8) (i : Nat) (l : List UInt8) : upF F i l i = l := by unfold upF; rw [if_pos rfl]
theorem upF_other (F : Nat → List UInt8) {i j : Nat} (l : List UInt8) (h : j ≠ i) : upF F i l j = F j := by unfold upF; rw [if_neg h]
theorem newS_calm : newS = calmS (fun _ => zeros) := rfl
theorem flS_wr (F : Nat → List UInt8) (i : Nat) (b : List UInt8) : flS (wrS (calmS F) i b) = calmS (upF F i (over (F i) b)) := by
  funext j
  unfold flS wrS upS calmS upF flSec
  by_cases h : j = i
  · subst h; simp
  · simp [h]
/-- What is not loose lasts. -/
def Tidy (S : Nat → Sec) : Prop := ∀ j, (S j).loose = false → (S j).kept = (S j).now
theorem Tidy.calm (F : Nat → List UInt8) : Tidy (calmS F) := fun _ _ => rfl
theorem Tidy.wr {S : Nat → Sec} (h : Tidy S) (i : Nat) (b : List UInt8) : Tidy (wrS S i b) := fun j hj => by
  unfold wrS upS at hj ⊢
  split at hj
  · cases hj
  · rename_i hne
    rw [if_neg hne]
    exact h j hj
theorem flS_tidy {S : Nat → Sec} {F : Nat → List UInt8} {n i : Nat} {b : List UInt8} (h : Tidy S) (hF : ∀ j, j < n → (S j).now = F j) (hb : over (S i).now b = b) : ∀ j, j < n → calmS (upF F i b) j = flS (wrS S i b) j := fun j hj => by
  unfold flS wrS upS calmS upF flSec
  by_cases hji : j = i
  · subst hji
    simp [hb]
  · simp only [hji, if_false]
    cases hl : (S j).loose with
    | true => simp [hF j hj]
    | false =>
      have hk := h j hl
      have hn := hF j hj
      simp only [Bool.false_eq_true, if_false]
      rcases hs : S j with ⟨a, b, c⟩
      rw [hs] at hk hn hl
      simp only at hk hn hl
      rw [hk, hn, hl]
theorem lf_calm (F : Nat → List UInt8) (n : Nat) : looseL (lf (calmS F)) n = [] := looseL_none fun _ _ => rfl
theorem crS_calm (F : Nat → List UInt8) (keep : List Bool) : crS (calmS F) keep = calmS F := by
  funext j
  simp [crS, keptS, calmS]
theorem crS_wr (F : Nat → List UInt8) (i : Nat) (b : List UInt8) (keep : List Bool) : crS (wrS (calmS F) i b) keep = calmS F ∨ crS (wrS (calmS F) i b) keep = calmS (upF F i (over (F i) b)) := by
  have hr : rankD (lf (wrS (calmS F) i b)) i = 0 := by
    unfold rankD
    rw [looseL_none]
    · rfl
    · intro j hj
      unfold lf wrS upS calmS
      rw [if_neg (by omega)]
  have hother : ∀ j, j ≠ i → crS (wrS (calmS F) i b) keep j = ⟨F j, F j, false⟩ := by
    intro j h
    unfold crS keptS wrS upS calmS
    simp [h]
  have hself : crS (wrS (calmS F) i b) keep i = if keep.getD 0 false = true then ⟨over (F i) b, over (F i) b, false⟩ else ⟨F i, F i, false⟩ := by
    unfold crS keptS
    rw [hr]
    unfold wrS upS calmS
    simp only [List.getD_eq_getElem?_getD, if_true, true_and]
    split <;> simp
  by_cases hk : keep.getD 0 false = true
  · right
    rw [if_pos hk] at hself
    funext j
    by_cases h : j = i
    · subst h
      rw [hself]
      unfold calmS upF
      rw [if_pos rfl]
    · rw [hother j h]
      unfold calmS upF
      rw [if_neg h]
  · left
    rw [if_neg hk] at hself
    funext j
    by_cases h : j = i
    · subst h
      rw [hself]
      rfl
    · rw [hother j h]; rfl

/-- The two sectors from p on hold f, and an earlier text, or the same turn's. -/
structure Good (F : Nat → List UInt8) (p : Nat) (f : Found) : Prop where
  fits : f.Fits
  now : F (p + f.slot) = encS f.text f.turn
  other : ∃ (x : List UInt8) (y : Nat), F (p + (1 - f.slot)) = encS x y ∧ x.length ≤ 40 ∧ y ≤ 1099511627776 ∧ (y < f.turn ∨ y = f.turn ∧ f.slot = 0)
  one : 1 ≤ f.turn
theorem Good.found {F : Nat → List UInt8} {p : Nat} {f : Found} (h : Good F p f) : newestS F p = f := by
  obtain ⟨⟨hs, ht, hn⟩, now, ⟨x, y, ho, hx, hy, hyt⟩, one⟩ := h
  obtain ⟨s, t, n⟩ := f
  simp only at *
  have d1 := decS_enc t n ht hn
  have d2 := decS_enc x y hx hy
  unfold newestS
  rcases (show s = 0 ∨ s = 1 by omega) with rfl | rfl
  · rw [Nat.add_zero] at now
    rw [show p + (1 - 0) = p + 1 from rfl] at ho
    rw [now, ho]
    unfold seeS none0
    rw [d1, d2]
    simp only
    rw [if_pos (show 0 < n by omega)]
    simp only
    rw [if_neg (by omega)]
  · rw [show p + (1 - 1) = p from rfl] at ho
    rw [now, ho]
    unfold seeS none0
    rw [d1, d2]
    simp only
    have hyn : y < n := by omega
    by_cases h0 : 0 < y
    · rw [if_pos h0]
      simp only
      rw [if_pos hyn]
    · rw [if_neg h0]
      simp only
      rw [if_pos (by omega)]
theorem Good.save {F : Nat → List UInt8} {p : Nat} {f : Found} (h : Good F p f) {l : List UInt8} (hl : l.length ≤ 40) (ht : f.turn + 1 ≤ 1099511627776) : Good (upF F (p + (1 - f.slot)) (encS l (f.turn + 1))) p ⟨1 - f.slot, l, f.turn + 1⟩ := by
  obtain ⟨⟨h1, h2, h3⟩, h4, -, h6⟩ := h
  refine ⟨⟨by simp only; omega, hl, ht⟩, upF_self _ _ _, ⟨f.text, f.turn, ?_, h2, h3, .inl (by simp only; omega)⟩, by simp only; omega⟩
  simp only
  rw [upF_other _ _ (by omega), show 1 - (1 - f.slot) = f.slot from by omega, h4]
/-- What stands elsewhere is nothing to it. -/
theorem Good.away {F G : Nat → List UInt8} {p : Nat} {f : Found} (h : Good F p f) (h0 : G p = F p) (h1 : G (p + 1) = F (p + 1)) : Good G p f := by
  have e : ∀ s, s ≤ 1 → G (p + s) = F (p + s) := fun s hs => by
    rcases (show s = 0 ∨ s = 1 by omega) with rfl | rfl
    · exact h0
    · exact h1
  obtain ⟨fits, now, ⟨x, y, ho, hx⟩, one⟩ := h
  exact ⟨fits, (e _ fits.slot).trans now, ⟨x, y, (e _ (by omega)).trans ho, hx⟩, one⟩
/-- Both sectors are laid with one text, turn 1, the first slot last. -/
theorem Good.made (F : Nat → List UInt8) (p : Nat) (l : List UInt8) (hl : l.length ≤ 40) : Good (upF (upF F (p + 1) (encS l 1)) p (encS l 1)) p ⟨0, l, 1⟩ := by
  refine ⟨⟨Nat.zero_le _, hl, by simp only; omega⟩, upF_self _ _ _, ⟨l, 1, ?_, hl, by omega, .inr ⟨rfl, rfl⟩⟩, Nat.le_refl _⟩
  show upF _ _ _ (p + 1) = _
  rw [upF_other _ _ (by omega), upF_self]
theorem newest_zeros {F : Nat → List UInt8} {p : Nat} (h0 : F p = zeros) (h1 : F (p + 1) = zeros) : newestS F p = none0 := by
  unfold newestS seeS
  rw [h0, h1, decS_zeros, if_neg (by simp [none0]), if_neg (by simp [none0])]

attribute [irreducible] encS decS leN

end Go.Proofs.YtiejjiccncmeiaaDoor
