/-
  Files by name as mathematics: rising lists, setting one, puts in a row. Of no code.
  What a store's device holds, what an Apply makes of it, what a crash leaves. Of no code.
  Store's small methods; slices.ContainsFunc over puts.
  The contract of store's Apply.
  The contracts of store's load, Open, Make.
-/
import Derived.Test.YtnalokjnbccjnaaGreatDoorM09
import Derived.Test.YtnalokjnbccjnaaGreatDoorM11
import Derived.Test.YtnalokjnbccjnaaGreatDoorM04
namespace Go.Proofs.YtnalokjnbccjnaaGreatDoor
open Go.RowKit Go.Op

/-- Files: names and bytes. -/
abbrev FL := List (ByteArray × List UInt8)
def lookF : FL → ByteArray → Option (List UInt8)
  | [], _ => none
  | x :: L, q => if x.1 = q then some x.2 else lookF L q
def ltN (a b : ByteArray) : Bool := bytesLess a.toList b.toList
theorem ltN_irr (a : ByteArray) : ltN a a = false := less_irr _
theorem ltN_trans {a b c : ByteArray} (h : ltN a b = true) (k : ltN b c = true) : ltN a c = true := less_trans _ _ _ h k
theorem toList_inj {a b : ByteArray} (h : a.toList = b.toList) : a = b := by
  rw [ByteArray.toList_eq, ByteArray.toList_eq] at h
  exact ByteArray.ext (Array.toList_inj.1 h)
theorem ltN_tri (a b : ByteArray) : ltN a b = true ∨ a = b ∨ ltN b a = true := by
  rcases less_tri a.toList b.toList with h | h | h
  · exact .inl h
  · exact .inr (.inl (toList_inj h))
  · exact .inr (.inr h)
theorem ltN_ne {a b : ByteArray} (h : ltN a b = true) : a ≠ b := by
  rintro rfl
  rw [ltN_irr] at h
  cases h
/-- The names rise. -/
def RiseF (L : FL) : Prop := L.Pairwise fun x y => ltN x.1 y.1 = true
theorem RiseF.tail {x : ByteArray × List UInt8} {L : FL} (h : RiseF (x :: L)) : RiseF L := (List.pairwise_cons.1 h).2
theorem RiseF.head {x : ByteArray × List UInt8} {L : FL} (h : RiseF (x :: L)) : ∀ y ∈ L, ltN x.1 y.1 = true := (List.pairwise_cons.1 h).1
theorem look_none {q : ByteArray} : ∀ {L : FL}, lookF L q = none ↔ ∀ y ∈ L, y.1 ≠ q
  | [] => by simp [lookF]
  | x :: L => by
    unfold lookF
    by_cases h : x.1 = q
    · rw [if_pos h]; simp [h]
    · rw [if_neg h, look_none (L := L)]
      simp [h]
theorem look_mem {q : ByteArray} {b : List UInt8} : ∀ {L : FL}, lookF L q = some b → (q, b) ∈ L
  | [], h => by cases h
  | x :: L, h => by
    unfold lookF at h
    by_cases hx : x.1 = q
    · rw [if_pos hx] at h
      obtain rfl := Option.some.inj h
      rw [← hx]
      exact List.mem_cons_self ..
    · rw [if_neg hx] at h
      exact List.mem_cons_of_mem _ (look_mem h)
/-- Rising lists with the same answers are the same. -/
theorem look_ext : ∀ {L M : FL}, RiseF L → RiseF M → (∀ q, lookF L q = lookF M q) → L = M
  | [], [], _, _, _ => rfl
  | [], y :: M, _, _, h => by
    have := h y.1
    simp [lookF] at this
  | x :: L, [], _, _, h => by
    have := h x.1
    simp [lookF] at this
  | x :: L, y :: M, hL, hM, h => by
    have hxy : x.1 = y.1 := by
      rcases ltN_tri x.1 y.1 with h1 | h1 | h1
      · have h2 := h x.1
        have h3 : lookF (y :: M) x.1 = none := look_none.2 fun z hz => by
          rcases List.mem_cons.1 hz with rfl | hz
          · exact (ltN_ne h1).symm
          · exact (ltN_ne (ltN_trans h1 (hM.head z hz))).symm
        rw [h3] at h2
        simp [lookF] at h2
      · exact h1
      · have h2 := h y.1
        have h3 : lookF (x :: L) y.1 = none := look_none.2 fun z hz => by
          rcases List.mem_cons.1 hz with rfl | hz
          · exact (ltN_ne h1).symm
          · exact (ltN_ne (ltN_trans h1 (hL.head z hz))).symm
        rw [h3] at h2
        simp [lookF] at h2
    have hb : x.2 = y.2 := by
      have := h x.1
      simpa [lookF, hxy] using this
    have ht : L = M := look_ext hL.tail hM.tail fun q => by
      have := h q
      unfold lookF at this
      by_cases hq : x.1 = q
      · have e1 : lookF L q = none := look_none.2 fun z hz => by rw [← hq]; exact (ltN_ne (hL.head z hz)).symm
        have e2 : lookF M q = none := look_none.2 fun z hz => by rw [← hq, hxy]; exact (ltN_ne (hM.head z hz)).symm
        rw [e1, e2]
      · rwa [if_neg hq, if_neg (by rw [← hxy]; exact hq)] at this
    rw [ht, show x = y from Prod.ext hxy hb]

/-- What is there, set as the law sets it; dn: it has been written, or is not to be. -/
def putGo (nm : ByteArray) (b : List UInt8) : Bool → FL → FL
  | true, [] => []
  | false, [] => [(nm, b)]
  | true, x :: L => (if x.1 = nm then [] else [x]) ++ putGo nm b true L
  | false, x :: L => if ltN x.1 nm = true then (if x.1 = nm then [] else [x]) ++ putGo nm b false L else (nm, b) :: ((if x.1 = nm then [] else [x]) ++ putGo nm b true L)
def setL (L : FL) (nm : ByteArray) (b : List UInt8) (gone : Bool) : FL := putGo nm b gone L
theorem set_true_mem {nm : ByteArray} {b : List UInt8} : ∀ {L : FL} {y : ByteArray × List UInt8}, y ∈ putGo nm b true L → y ∈ L ∧ y.1 ≠ nm
  | [], y, h => by cases h
  | x :: L, y, h => by
    unfold putGo at h
    rcases List.mem_append.1 h with h | h
    · split at h
      · cases h
      · rename_i hx
        rcases List.mem_singleton.1 h with rfl
        exact ⟨List.mem_cons_self .., hx⟩
    · obtain ⟨h1, h2⟩ := set_true_mem h
      exact ⟨List.mem_cons_of_mem _ h1, h2⟩
theorem set_false_mem {nm : ByteArray} {b : List UInt8} : ∀ {L : FL} {y : ByteArray × List UInt8}, y ∈ putGo nm b false L → y = (nm, b) ∨ y ∈ L ∧ y.1 ≠ nm
  | [], y, h => .inl (List.mem_singleton.1 h)
  | x :: L, y, h => by
    unfold putGo at h
    split at h
    · rename_i hlt
      rcases List.mem_append.1 h with h | h
      · split at h
        · cases h
        · rename_i hx
          rcases List.mem_singleton.1 h with rfl
          exact .inr ⟨List.mem_cons_self .., hx⟩
      · rcases set_false_mem h with h1 | ⟨h1, h2⟩
        · exact .inl h1
        · exact .inr ⟨List.mem_cons_of_mem _ h1, h2⟩
    · rcases List.mem_cons.1 h with rfl | h
      · exact .inl rfl
      · rcases List.mem_append.1 h with h | h
        · split at h
          · cases h
          · rename_i hx
            rcases List.mem_singleton.1 h with rfl
            exact .inr ⟨List.mem_cons_self .., hx⟩
        · obtain ⟨h1, h2⟩ := set_true_mem h
          exact .inr ⟨List.mem_cons_of_mem _ h1, h2⟩
theorem rise_true {nm : ByteArray} {b : List UInt8} : ∀ {L : FL}, RiseF L → RiseF (putGo nm b true L)
  | [], _ => List.Pairwise.nil
  | x :: L, h => by
    unfold putGo
    by_cases hx : x.1 = nm
    · rw [if_pos hx]
      exact rise_true h.tail
    · rw [if_neg hx]
      exact List.pairwise_cons.2 ⟨fun y hy => h.head y (set_true_mem hy).1, rise_true h.tail⟩
theorem rise_false {nm : ByteArray} {b : List UInt8} : ∀ {L : FL}, RiseF L → RiseF (putGo nm b false L)
  | [], _ => List.pairwise_singleton _ _
  | x :: L, h => by
    unfold putGo
    by_cases hlt : ltN x.1 nm = true
    · rw [if_pos hlt, if_neg (ltN_ne hlt)]
      refine List.pairwise_cons.2 ⟨fun y hy => ?_, rise_false h.tail⟩
      rcases set_false_mem hy with rfl | ⟨h1, -⟩
      · exact hlt
      · exact h.head y h1
    · rw [if_neg hlt]
      have hr : RiseF ((if x.1 = nm then [] else [x]) ++ putGo nm b true L) := by
        have := rise_true (nm := nm) (b := b) h
        unfold putGo at this
        exact this
      refine List.pairwise_cons.2 ⟨fun y hy => ?_, hr⟩
      show ltN nm y.1 = true
      have hx : x.1 ≠ nm → ltN nm x.1 = true := fun hne => by
        rcases ltN_tri x.1 nm with h1 | h1 | h1
        · exact absurd h1 hlt
        · exact absurd h1 hne
        · exact h1
      rcases List.mem_append.1 hy with hy | hy
      · split at hy
        · cases hy
        · rename_i hne
          rcases List.mem_singleton.1 hy with rfl
          exact hx hne
      · have h2 := h.head y (set_true_mem hy).1
        by_cases hne : x.1 = nm
        · rw [← hne]; exact h2
        · exact ltN_trans (hx hne) h2
theorem rise_set {L : FL} (h : RiseF L) (nm : ByteArray) (b : List UInt8) (gone : Bool) : RiseF (setL L nm b gone) := by
  unfold setL
  cases gone
  · exact rise_false h
  · exact rise_true h
theorem look_true {nm : ByteArray} {b : List UInt8} (q : ByteArray) : ∀ {L : FL}, lookF (putGo nm b true L) q = if q = nm then none else lookF L q
  | [] => by simp [putGo, lookF]
  | x :: L => by
    unfold putGo
    have ih := look_true (nm := nm) (b := b) q (L := L)
    by_cases hx : x.1 = nm
    · rw [if_pos hx, List.nil_append, ih]
      by_cases hq : q = nm
      · rw [if_pos hq, if_pos hq]
      · rw [if_neg hq, if_neg hq]
        unfold lookF
        rw [if_neg (by rw [hx]; exact fun e => hq e.symm)]
        cases L <;> rfl
    · rw [if_neg hx]
      show (if x.1 = q then some x.2 else lookF (putGo nm b true L) q) = _
      rw [ih]
      by_cases hq : q = nm
      · rw [if_pos hq, if_pos hq, if_neg (by rw [hq]; exact hx)]
      · rw [if_neg hq, if_neg hq]; rfl
theorem look_false {nm : ByteArray} {b : List UInt8} (q : ByteArray) : ∀ {L : FL}, lookF (putGo nm b false L) q = if q = nm then some b else lookF L q
  | [] => by
    by_cases hq : q = nm
    · simp [putGo, lookF, hq]
    · simp [putGo, lookF, hq, Ne.symm hq]
  | x :: L => by
    unfold putGo
    by_cases hlt : ltN x.1 nm = true
    · rw [if_pos hlt, if_neg (ltN_ne hlt)]
      show (if x.1 = q then some x.2 else lookF (putGo nm b false L) q) = _
      rw [look_false q (L := L)]
      by_cases hq : q = nm
      · rw [if_pos hq, if_pos hq, if_neg (by rw [hq]; exact ltN_ne hlt)]
      · rw [if_neg hq, if_neg hq]; rfl
    · rw [if_neg hlt]
      show (if nm = q then some b else lookF ((if x.1 = nm then [] else [x]) ++ putGo nm b true L) q) = _
      have h2 := look_true (nm := nm) (b := b) q (L := x :: L)
      unfold putGo at h2
      rw [h2]
      by_cases hq : q = nm
      · rw [if_pos hq, if_pos hq.symm, if_pos hq]
      · rw [if_neg hq, if_neg (Ne.symm hq), if_neg hq]
theorem look_set (L : FL) (nm : ByteArray) (b : List UInt8) (gone : Bool) (q : ByteArray) : lookF (setL L nm b gone) q = if q = nm then (if gone = true then none else some b) else lookF L q := by
  unfold setL
  cases gone
  · rw [look_false]; simp
  · rw [look_true]; simp

/-- What is there behind some puts. -/
def doneL : FL → List PutT → FL
  | L, [] => L
  | L, x :: l => doneL (setL L x.1 x.2.2.2 x.2.1) l
theorem doneL_append (L : FL) (l m : List PutT) : doneL L (l ++ m) = doneL (doneL L l) m := by
  induction l generalizing L with
  | nil => rfl
  | cons x l ih => exact ih _
theorem rise_done {L : FL} (h : RiseF L) : ∀ l, RiseF (doneL L l) := by
  intro l
  induction l generalizing L with
  | nil => exact h
  | cons x l ih => exact ih (rise_set h _ _ _)
/-- The last put of a name. -/
def lookP : List PutT → ByteArray → Option PutT
  | [], _ => none
  | x :: l, q => match lookP l q with
    | some y => some y
    | none => if x.1 = q then some x else none
def valP (y : PutT) : Option (List UInt8) := if y.2.1 = true then none else some y.2.2.2
theorem look_done (q : ByteArray) : ∀ (l : List PutT) (L : FL), lookF (doneL L l) q = match lookP l q with | some y => valP y | none => lookF L q
  | [], L => rfl
  | x :: l, L => by
    show lookF (doneL (setL L x.1 x.2.2.2 x.2.1) l) q = _
    rw [look_done q l]
    show _ = (match (match lookP l q with | some y => some y | none => if x.1 = q then some x else none) with | some y => valP y | none => lookF L q)
    cases hl : lookP l q with
    | some y => rfl
    | none =>
      simp only
      rw [look_set]
      by_cases hx : x.1 = q
      · rw [if_pos hx.symm, if_pos hx]; rfl
      · rw [if_neg (Ne.symm hx), if_neg hx]
theorem lookP_none {q : ByteArray} : ∀ {l : List PutT}, lookP l q = none ↔ ∀ y ∈ l, y.1 ≠ q
  | [] => by simp [lookP]
  | x :: l => by
    have ih := lookP_none (q := q) (l := l)
    unfold lookP
    cases hl : lookP l q with
    | some y =>
      simp only
      constructor
      · intro h; cases h
      · intro h
        have := ih.2 fun y hy => h y (List.mem_cons_of_mem _ hy)
        rw [hl] at this
        cases this
    | none =>
      simp only
      have h2 := ih.1 hl
      by_cases hx : x.1 = q
      · rw [if_pos hx]
        simp [hx]
      · rw [if_neg hx]
        refine ⟨fun _ y hy => ?_, fun _ => rfl⟩
        rcases List.mem_cons.1 hy with rfl | hy
        · exact hx
        · exact h2 y hy
theorem lookP_iff {q : ByteArray} {y : PutT} : ∀ {l : List PutT}, lookP l q = some y ↔ ∃ k, ∃ hk : k < l.length, l[k] = y ∧ y.1 = q ∧ ∀ j (hj : j < l.length), k < j → l[j].1 ≠ q
  | [] => by simp [lookP]
  | x :: l => by
    have ih := lookP_iff (q := q) (y := y) (l := l)
    unfold lookP
    cases hl : lookP l q with
    | some z =>
      simp only [Option.some.injEq]
      constructor
      · rintro rfl
        obtain ⟨k, hk, h1, h2, h3⟩ := (lookP_iff (q := q) (y := z) (l := l)).1 hl
        exact ⟨k + 1, by simp; omega, by simpa using h1, h2, fun j hj hkj => by
          obtain ⟨i, rfl⟩ : ∃ i, j = i + 1 := ⟨j - 1, by omega⟩
          rw [List.getElem_cons_succ]
          exact h3 i (by simpa using hj) (by omega)⟩
      · rintro ⟨k, hk, h1, h2, h3⟩
        have h4 : lookP l q ≠ none := by rw [hl]; simp
        match k with
        | 0 =>
          exfalso
          refine h4 (lookP_none.2 fun w hw => ?_)
          obtain ⟨i, hi, rfl⟩ := List.mem_iff_getElem.1 hw
          have := h3 (i + 1) (by simpa using hi) (by omega)
          rwa [List.getElem_cons_succ] at this
        | k + 1 =>
          have h5 := ih.2 ⟨k, by simpa using hk, by simpa using h1, h2, fun j hj hkj => by have := h3 (j + 1) (by simpa using hj) (by omega); rwa [List.getElem_cons_succ] at this⟩
          rw [hl] at h5
          exact Option.some.inj h5
    | none =>
      simp only
      have h0 := lookP_none.1 hl
      by_cases hx : x.1 = q
      · rw [if_pos hx]
        constructor
        · intro h
          obtain rfl := Option.some.inj h
          exact ⟨0, by simp, rfl, hx, fun j hj h0j => by
            obtain ⟨i, rfl⟩ : ∃ i, j = i + 1 := ⟨j - 1, by omega⟩
            simp only [List.getElem_cons_succ]
            exact h0 _ (List.getElem_mem _)⟩
        · rintro ⟨k, hk, h1, h2, h3⟩
          match k with
          | 0 => rw [← h1]; rfl
          | k + 1 =>
            exfalso
            rw [List.getElem_cons_succ] at h1
            exact h0 _ (List.getElem_mem (by simpa using hk)) (by rw [h1]; exact h2)
      · rw [if_neg hx]
        constructor
        · intro h; cases h
        · rintro ⟨k, hk, h1, h2, h3⟩
          match k with
          | 0 => exact absurd (by rw [← h1] at h2; exact h2) hx
          | k + 1 =>
            exfalso
            rw [List.getElem_cons_succ] at h1
            exact h0 _ (List.getElem_mem (by simpa using hk)) (by rw [h1]; exact h2)
theorem lastP_iff {l : List PutT} {i : Nat} (hi : i < l.length) : lastP l i = true ↔ ∀ j (hj : j < l.length), i < j → l[j].1 ≠ l[i].1 := by
  unfold lastP
  rw [List.all_eq_true]
  have e : l.getD i default = l[i] := by rw [List.getD, List.getElem?_eq_getElem hi]; rfl
  rw [e]
  constructor
  · intro h j hj hij
    have := h l[j] (by
      rw [List.mem_iff_getElem]
      exact ⟨j - (i + 1), by rw [List.length_drop]; omega, by rw [List.getElem_drop]; congr 1; omega⟩)
    simpa using this
  · intro h x hx
    obtain ⟨k, hk, rfl⟩ := List.mem_iff_getElem.1 hx
    rw [List.getElem_drop]
    rw [List.length_drop] at hk
    simpa using h (i + 1 + k) (by omega) (by omega)
theorem mem_wantK {l : List PutT} {y : PutT} : ∀ {n : Nat}, n ≤ l.length → (y ∈ wantK l n ↔ ∃ k, ∃ hk : k < l.length, k < n ∧ l[k] = y ∧ y.2.1 = false ∧ lastP l k = true)
  | 0, _ => by simp [wantK]
  | n + 1, h => by
    have ih := mem_wantK (l := l) (y := y) (n := n) (by omega)
    have e : l.getD n default = l[n] := by rw [List.getD, List.getElem?_eq_getElem h]; rfl
    unfold wantK
    rw [List.mem_append, ih, e]
    constructor
    · rintro (⟨k, hk, h1, h2, h3, h4⟩ | h5)
      · exact ⟨k, hk, by omega, h2, h3, h4⟩
      · split at h5
        · rename_i hc
          rcases List.mem_singleton.1 h5 with rfl
          exact ⟨n, h, by omega, rfl, hc.2, hc.1⟩
        · cases h5
    · rintro ⟨k, hk, h1, h2, h3, h4⟩
      by_cases hkn : k = n
      · subst hkn
        refine .inr ?_
        rw [if_pos ⟨h4, by rw [h2]; exact h3⟩, h2]
        exact List.mem_singleton.2 rfl
      · exact .inl ⟨k, hk, by omega, h2, h3, h4⟩
theorem mem_wantF {l : List PutT} {y : PutT} : y ∈ wantF l ↔ lookP l y.1 = some y ∧ y.2.1 = false := by
  unfold wantF
  rw [mem_wantK (Nat.le_refl _), lookP_iff]
  constructor
  · rintro ⟨k, hk, -, rfl, h3, h4⟩
    exact ⟨⟨k, hk, rfl, rfl, (lastP_iff hk).1 h4⟩, h3⟩
  · rintro ⟨⟨k, hk, h1, h2, h3⟩, h4⟩
    subst h1
    exact ⟨k, hk, hk, rfl, h4, (lastP_iff hk).2 h3⟩
theorem wantK_names (l : List PutT) : ∀ n, n ≤ l.length → ((wantK l n).map (·.1)).Nodup
  | 0, _ => List.nodup_nil
  | n + 1, h => by
    have ih := wantK_names l n (by omega)
    have e : l.getD n default = l[n] := by rw [List.getD, List.getElem?_eq_getElem h]; rfl
    unfold wantK
    rw [List.map_append, e]
    split
    · rw [List.nodup_append]
      refine ⟨ih, by simp, fun a ha b hb hab => ?_⟩
      obtain ⟨y, hy, rfl⟩ := List.mem_map.1 ha
      obtain ⟨k, hk, h1, rfl, h3, h4⟩ := (mem_wantK (by omega)).1 hy
      have hb' : b = l[n].1 := by simpa using hb
      exact (lastP_iff hk).1 h4 n h h1 (hb' ▸ hab.symm)
    · simpa using ih
theorem wantF_names (l : List PutT) : ((wantF l).map (·.1)).Nodup := wantK_names l _ (Nat.le_refl _)
theorem wantF_len (l : List PutT) : (wantF l).length ≤ l.length := by
  have : ∀ n, (wantK l n).length ≤ n := by
    intro n
    induction n with
    | zero => exact Nat.le_refl _
    | succ n ih =>
      unfold wantK
      rw [List.length_append]
      split <;> simp <;> omega
  exact this _
theorem mem_keptE {es : List EntT} {l : List PutT} {x : EntT} : x ∈ keptE es l ↔ x ∈ es ∧ lookP l x.1 = none := by
  unfold keptE
  rw [List.mem_filter, lookP_none]
  simp

/-- A shuffle of an image is an image of a shuffle. -/
theorem perm_lift {α β : Type} (g : α → β) {X Y : List β} (h : X.Perm Y) : ∀ B : List α, Y = B.map g → ∃ Z : List α, Z.Perm B ∧ Z.map g = X := by
  induction h with
  | nil =>
    intro B hB
    have : B = [] := by simpa using hB.symm
    subst this
    exact ⟨[], List.Perm.nil, rfl⟩
  | cons x _ ih =>
    intro B hB
    match B, hB with
    | b :: B, hB =>
      rw [List.map_cons] at hB
      obtain ⟨rfl, h2⟩ := List.cons.inj hB
      obtain ⟨Z, hZ, rfl⟩ := ih B h2
      exact ⟨b :: Z, hZ.cons _, rfl⟩
  | swap x y l =>
    intro B hB
    match B, hB with
    | b :: c :: B, hB =>
      rw [List.map_cons, List.map_cons] at hB
      obtain ⟨rfl, h2⟩ := List.cons.inj hB
      obtain ⟨rfl, rfl⟩ := List.cons.inj h2
      exact ⟨c :: b :: B, List.Perm.swap _ _ _, rfl⟩
  | trans _ _ ih1 ih2 =>
    intro B hB
    obtain ⟨Z, hZ, hZ2⟩ := ih2 B hB
    obtain ⟨Z', hZ', rfl⟩ := ih1 Z hZ2.symm
    exact ⟨Z', hZ'.trans hZ, rfl⟩

end Go.Proofs.YtnalokjnbccjnaaGreatDoor

namespace Go.Proofs.YtnalokjnbccjnaaGreatDoor
open Go.RowKit Go.Op

/-- A file's bytes, all files. -/
def contE (F : Nat → List UInt8) (e : EntT) : List UInt8 := readF F (spanE e) e.2.1.toNat
def filesF (F : Nat → List UInt8) (es : List EntT) : FL := es.map fun e => (e.1, contE F e)
theorem filesF_len (F : Nat → List UInt8) (es : List EntT) : (filesF F es).length = es.length := by simp [filesF]
theorem may_rise {es : List EntT} (h : MayL es) (F : Nat → List UInt8) : RiseF (filesF F es) := by
  unfold RiseF filesF
  rw [List.pairwise_map, List.pairwise_iff_getElem]
  intro i j hi hj hij
  exact h.far i j hj hi hij
theorem may_names {es : List EntT} (h : MayL es) : (es.map (·.1)).Nodup := by
  rw [List.Nodup, List.pairwise_map, List.pairwise_iff_getElem]
  intro i j hi hj hij
  exact ltN_ne (h.far i j hj hi hij)
theorem look_of {q : ByteArray} {b : List UInt8} : ∀ {L : FL}, RiseF L → (q, b) ∈ L → lookF L q = some b
  | [], _, h => by cases h
  | x :: L, hr, h => by
    unfold lookF
    rcases List.mem_cons.1 h with rfl | h
    · rw [if_pos rfl]
    · rw [if_neg (ltN_ne (hr.head _ h)), look_of hr.tail h]
/-- What a store's device holds: the newest text says where the list stands, the list where the files. -/
structure OkF (n : Nat) (F : Nat → List UInt8) (f : Found) (es : List EntT) (ls : List Nat) : Prop where
  good : Good F 0 f
  text : ∃ tx, f.text = headT tx ls ∧ ls.length = secs tx.length ∧ readF F ls tx.length = tx ∧ tx.length ≤ 896 ∧ (tx = [] ∧ es = [] ∨ tx = lstB es)
  may : MayL es
  small : ∀ x ∈ es, x.2.1 ≤ 4000
  used : UsedOk n es ls
theorem UsedOk.lows {n : Nat} {es : List EntT} {ls : List Nat} (h : UsedOk n es ls) : ∀ j ∈ usedL es ls, 2 ≤ j ∧ j < n := by
  intro j hj
  unfold usedL at hj
  rcases List.mem_append.1 hj with hj | hj
  · obtain ⟨x, hx, hj⟩ := List.mem_flatMap.1 hj
    unfold spanE at hj
    have h1 := mem_rowL.1 hj
    have h2 := h.files x hx (by omega)
    omega
  · exact h.list j hj
theorem OkF.same {n : Nat} {F G : Nat → List UInt8} {f : Found} {es : List EntT} {ls : List Nat} (h : OkF n F f es ls) (hs : ∀ j, (j = 0 ∨ j = 1 ∨ j ∈ usedL es ls) → G j = F j) : OkF n G f es ls ∧ filesF G es = filesF F es := by
  obtain ⟨tx, h1, h2, h3, h4, h5⟩ := h.text
  refine ⟨⟨h.good.away (hs 0 (.inl rfl)) (hs 1 (.inr (.inl rfl))), ⟨tx, h1, h2, ?_, h4, h5⟩, h.may, h.small, h.used⟩, ?_⟩
  · rw [← h3]
    have : readF G ls tx.length = readF F ls tx.length := readF_congr fun j hj => hs j (.inr (.inr (List.mem_append_right _ hj)))
    rw [h3] at this ⊢
    exact this
  · unfold filesF
    refine List.map_congr_left fun e he => ?_
    unfold contE
    rw [readF_congr fun j hj => hs j (.inr (.inr (List.mem_append_left _ (List.mem_flatMap.2 ⟨e, he, hj⟩))))]

theorem filter_flat {α β : Type} (p : α → Bool) (g : α → List β) : ∀ l : List α, ((l.filter p).flatMap g).Sublist (l.flatMap g)
  | [] => List.Sublist.refl _
  | x :: l => by
    have ih := filter_flat p g l
    rw [List.filter_cons]
    split
    · rw [List.flatMap_cons, List.flatMap_cons]
      exact ih.append_left _
    · rw [List.flatMap_cons]
      exact ih.trans (List.sublist_append_right _ _)
/-- Puts that may be. -/
def OkP (l : List PutT) : Prop := ∀ x ∈ l, 1 ≤ x.1.size ∧ x.1.size ≤ 20 ∧ x.2.2.2.length ≤ 4000
section
variable {n : Nat} {F : Nat → List UInt8} {f : Found} {es : List EntT} {ls : List Nat} {l : List PutT} {F' : List FreshT} {es' : List EntT}
theorem fresh_put (hp : (F'.map stripF).Perm (((wantF l).map freshP).map stripF)) : ∀ x ∈ F', ∃ z ∈ wantF l, stripF x = stripF (freshP z) := by
  intro x hx
  have h1 := (hp.mem_iff (a := stripF x)).1 (List.mem_map_of_mem hx)
  rw [List.map_map] at h1
  obtain ⟨z, hz, h2⟩ := List.mem_map.1 h1
  exact ⟨z, hz, h2.symm⟩
theorem want_mem {z : PutT} (h : z ∈ wantF l) : z ∈ l := by
  obtain ⟨k, hk, h1, -⟩ := lookP_iff.1 (mem_wantF.1 h).1
  rw [← h1]
  exact List.getElem_mem hk
theorem strip_eq {x : FreshT} {z : PutT} (h : stripF x = stripF (freshP z)) : x.1.1 = z.1 ∧ x.1.2.1 = (z.2.2.2.length : Int) ∧ x.2 = z.2.2.1 := by
  unfold stripF freshP at h
  simp only [Prod.mk.injEq] at h
  exact ⟨h.1, h.2.1, h.2.2⟩
theorem next_names (h : MayL es) (hp : (F'.map stripF).Perm (((wantF l).map freshP).map stripF)) : ((keptE es l ++ F'.map (·.1)).map (·.1)).Nodup := by
  have h1 : ((keptE es l).map (·.1)).Nodup := by
    unfold keptE
    exact (List.filter_sublist.map _).nodup (may_names h)
  have h2 : (F'.map (·.1.1)).Nodup := by
    have h3 := hp.map (·.1)
    rw [List.map_map, List.map_map, List.map_map] at h3
    have h4 : F'.map (·.1.1) = F'.map ((·.1) ∘ stripF) := rfl
    rw [h4]
    refine h3.nodup_iff.2 ?_
    exact wantF_names l
  rw [List.map_append, List.nodup_append, List.map_map]
  refine ⟨h1, h2, fun a ha b hb hab => ?_⟩
  obtain ⟨x, hx, rfl⟩ := List.mem_map.1 ha
  obtain ⟨y, hy, rfl⟩ := List.mem_map.1 hb
  obtain ⟨z, hz, hs⟩ := fresh_put hp y hy
  have e1 := (mem_keptE.1 hx).2
  have e2 := (mem_wantF.1 hz).1
  have e3 : x.1 = z.1 := hab.trans (strip_eq hs).1
  rw [e3, e2] at e1
  cases e1
theorem fresh_may {U : List Nat} (hn : n ≤ 2048) (hl : OkP l) (hp : (F'.map stripF).Perm (((wantF l).map freshP).map stripF)) (hpl : Pl n U F') : ∀ x ∈ F', mayE x.1 := by
  intro x hx
  obtain ⟨z, hz, hs⟩ := fresh_put hp x hx
  obtain ⟨e1, e2, -⟩ := strip_eq hs
  obtain ⟨h1, h2, h3⟩ := hl z (want_mem hz)
  unfold mayE
  rw [e1, e2]
  rcases hpl.each x hx with ⟨h4, h5⟩ | ⟨h4, a, h5, h6, h7⟩
  · rw [e2] at h4
    rw [h5]
    exact ⟨h1, h2, by omega, by omega, by simp only; omega, by simp only; omega, by simp only; omega, fun _ => rfl⟩
  · rw [h5]
    rw [e2] at h7 ⊢
    simp only [Int.toNat_natCast] at h7 ⊢
    have e4 : (secs z.2.2.2.length : Int) = ((z.2.2.2.length : Int) + 63) / 64 := by unfold secs; omega
    have e5 : 0 < z.2.2.2.length := by rw [e2] at h4; omega
    have e6 : 0 < secs z.2.2.2.length := by unfold secs; omega
    exact ⟨h1, h2, by omega, by omega, by omega, by omega, by omega, fun h => by omega⟩
theorem may_next (h : MayL es) (hn : n ≤ 2048) (hl : OkP l) (hcnt : (keptE es l).length + (wantF l).length ≤ 32) {U : List Nat}
    (hp : (F'.map stripF).Perm (((wantF l).map freshP).map stripF)) (hpl : Pl n U F') (hpe : es'.Perm (keptE es l ++ F'.map (·.1))) (hr : RiseN es') : MayL es' := by
  have hnd : (es'.map (·.1)).Nodup := (hpe.map _).nodup_iff.2 (next_names h hp)
  have hlen : F'.length = (wantF l).length := by have := hp.length_eq; simpa using this
  have hlen2 := hpe.length_eq
  rw [List.length_append, List.length_map] at hlen2
  refine ⟨by omega, fun i hi => ⟨hi, ?_, fun h0 => ?_⟩⟩
  · have hm := (hpe.mem_iff (a := es'[i])).1 (List.getElem_mem hi)
    rcases List.mem_append.1 hm with hm | hm
    · exact h.mem _ (mem_keptE.1 hm).1
    · obtain ⟨x, hx, hx2⟩ := List.mem_map.1 hm
      rw [← hx2]
      exact fresh_may hn hl hp hpl x hx
  · have h1 := hr (i - 1) i (by omega) hi (by omega)
    have h2 : es'[i - 1].1 ≠ es'[i].1 := by
      rw [List.Nodup, List.pairwise_map, List.pairwise_iff_getElem] at hnd
      exact hnd (i - 1) i (by omega) hi (by omega)
    rcases ltN_tri es'[i - 1].1 es'[i].1 with h3 | h3 | h3
    · exact h3
    · exact absurd h3 h2
    · unfold ltE at h1
      unfold ltN at h3
      rw [h3] at h1
      cases h1

theorem layB_mem {at_ : List Nat} {b : List UInt8} {k : Nat} (h : k < at_.length) : (at_[k], pieceB b k) ∈ layB at_ b := by
  rw [← layB_get at_ b k h]
  exact List.getElem_mem _
theorem allW_fst : ∀ G : List (FreshT × List UInt8), (allW G).map (·.1) = (G.map (·.1)).flatMap spanFr
  | [] => rfl
  | y :: G => by
    have ih := allW_fst G
    unfold allW at ih ⊢
    rw [List.flatMap_cons, List.map_append, ih, List.map_cons, List.flatMap_cons]
    unfold lay1
    rw [layB_fst]
theorem allL_fst (G : List (FreshT × List UInt8)) (text : List UInt8) (ls : List Nat) : (allL G text ls).map (·.1) = (G.map (·.1)).flatMap spanFr ++ ls := by
  unfold allL
  rw [List.map_append, allW_fst, layB_fst]
theorem flat_len {α β : Type} (g : α → List β) (m : Nat) : ∀ l : List α, (∀ x ∈ l, (g x).length ≤ m) → (l.flatMap g).length ≤ m * l.length
  | [], _ => by simp
  | x :: l, h => by
    have h1 := h x (by simp)
    have h2 := flat_len g m l fun y hy => h y (List.mem_cons_of_mem _ hy)
    rw [List.flatMap_cons, List.length_append, List.length_cons]
    rw [Nat.mul_add]
    omega

/-- The files beside their bytes. -/
theorem fresh_bytes (hp : (F'.map stripF).Perm (((wantF l).map freshP).map stripF)) : ∃ G : List (FreshT × List UInt8), G.map (·.1) = F' ∧ (∀ y ∈ G, ∃ z ∈ wantF l, stripF y.1 = stripF (freshP z) ∧ y.2 = z.2.2.2) ∧ ∀ z ∈ wantF l, ∃ y ∈ G, stripF y.1 = stripF (freshP z) ∧ y.2 = z.2.2.2 := by
  rw [List.map_map] at hp
  obtain ⟨Z, hZ, hm⟩ := perm_lift (stripF ∘ freshP) hp (wantF l) rfl
  have hlen : Z.length = F'.length := by have := congrArg List.length hm; simpa using this
  have hget : ∀ i (h1 : i < Z.length) (h2 : i < F'.length), stripF F'[i] = stripF (freshP Z[i]) := by
    intro i h1 h2
    have h3 : (Z.map (stripF ∘ freshP))[i]? = (F'.map stripF)[i]? := by rw [hm]
    rw [List.getElem?_map, List.getElem?_map, List.getElem?_eq_getElem h1, List.getElem?_eq_getElem h2] at h3
    exact (Option.some.inj h3).symm
  refine ⟨F'.zip (Z.map (·.2.2.2)), ?_, ?_, ?_⟩
  · rw [List.map_fst_zip]
    rw [List.length_map]; omega
  · intro y hy
    obtain ⟨i, hi, rfl⟩ := List.mem_iff_getElem.1 hy
    rw [List.length_zip, List.length_map] at hi
    rw [List.getElem_zip]
    refine ⟨Z[i]'(by omega), (hZ.mem_iff).1 (List.getElem_mem _), hget i (by omega) (by omega), ?_⟩
    rw [List.getElem_map]
  · intro z hz
    obtain ⟨i, hi, rfl⟩ := List.mem_iff_getElem.1 ((hZ.mem_iff).2 hz)
    refine ⟨(F'[i]'(by omega), Z[i].2.2.2), ?_, hget i hi (by omega), rfl⟩
    rw [List.mem_iff_getElem]
    refine ⟨i, by rw [List.length_zip, List.length_map]; omega, ?_⟩
    rw [List.getElem_zip, List.getElem_map]
end

/-- What stands behind a lay. -/
def Fnew (F : Nat → List UInt8) (f : Found) (G : List (FreshT × List UInt8)) (text : List UInt8) (ls : List Nat) : Nat → List UInt8 := upF (nowF (wrW (calmS F) (allL G text ls))) (0 + (1 - f.slot)) (encS (headT text ls) (f.turn + 1))
def fnew (f : Found) (text : List UInt8) (ls : List Nat) : Found := ⟨1 - f.slot, headT text ls, f.turn + 1⟩
section
variable {n : Nat} {F : Nat → List UInt8} {f : Found} {es : List EntT} {ls ls' : List Nat} {l : List PutT} {F' : List FreshT} {es' : List EntT} {G : List (FreshT × List UInt8)}
theorem next_ok (h : OkF n F f es ls) (h64 : ∀ i, i < n → (F i).length = 64) (hn : 64 ≤ n) (hn2 : n ≤ 2048) (hl : OkP l) (hturn : f.turn + 1 ≤ 1099511627776)
    (hp : (F'.map stripF).Perm (((wantF l).map freshP).map stripF)) (hpl : Pl n (usedL es ls) F') (hpe : es'.Perm (keptE es l ++ F'.map (·.1))) (hm : MayL es')
    (hnl : NewL n (usedL es ls ++ F'.flatMap spanFr) ls') (hlen : ls'.length = secs (lstB es').length)
    (hG : G.map (·.1) = F') (hG1 : ∀ y ∈ G, ∃ z ∈ wantF l, stripF y.1 = stripF (freshP z) ∧ y.2 = z.2.2.2) (hG2 : ∀ z ∈ wantF l, ∃ y ∈ G, stripF y.1 = stripF (freshP z) ∧ y.2 = z.2.2.2) :
    OkF n (Fnew F f G (lstB es') ls') (fnew f (lstB es') ls') es' ls' ∧ filesF (Fnew F f G (lstB es') ls') es' = doneL (filesF F es) l ∧ ls'.length ≤ 14 ∧ (lstB es').length ≤ 896 ∧
      (∀ S', LayCut F (allL G (lstB es') ls') (0 + (1 - f.slot)) (encS (headT (lstB es') ls') (f.turn + 1)) S' → ∀ keep, ∃ F3, crS S' keep = calmS F3 ∧
        ((OkF n F3 f es ls ∧ filesF F3 es = filesF F es) ∨ (OkF n F3 (fnew f (lstB es') ls') es' ls' ∧ filesF F3 es' = doneL (filesF F es) l))) := by
  have hfst := allL_fst G (lstB es') ls'
  rw [hG] at hfst
  have hU := h.used.lows
  -- the sectors that are written
  have hW : ∀ j ∈ (allL G (lstB es') ls').map (·.1), 2 ≤ j ∧ j < n ∧ j ∉ usedL es ls := by
    intro j hj
    rw [hfst] at hj
    rcases List.mem_append.1 hj with hj | hj
    · refine ⟨?_, ?_, hpl.apart j hj⟩ <;>
      · obtain ⟨x, hx, hjx⟩ := List.mem_flatMap.1 hj
        unfold spanFr spanE at hjx
        have h1 := mem_rowL.1 hjx
        rcases hpl.each x hx with ⟨-, h2⟩ | ⟨-, a, h2, h3, h4⟩
        · rw [h2] at h1; simp only at h1; omega
        · rw [h2] at h1; simp only [Int.toNat_natCast] at h1; omega
    · obtain ⟨h1, h2, h3⟩ := hnl.free j hj
      exact ⟨h1, h2, fun hm => h3 (List.mem_append_left _ hm)⟩
  have hnd : ((allL G (lstB es') ls').map (·.1)).Nodup := by
    rw [hfst, List.nodup_append]
    refine ⟨hpl.nodup, hnl.nodup, fun a ha b hb hab => ?_⟩
    exact (hnl.free b hb).2.2 (List.mem_append_right _ (hab ▸ ha))
  have hslot : 0 + (1 - f.slot) ≤ 1 := by omega
  -- what is there
  have hoff : ∀ j, j ∉ (allL G (lstB es') ls').map (·.1) → nowF (wrW (calmS F) (allL G (lstB es') ls')) j = F j := by
    intro j hj
    unfold nowF
    rw [wrW_other _ _ _ hj]
    rfl
  have hup : ∀ j, 2 ≤ j → Fnew F f G (lstB es') ls' j = nowF (wrW (calmS F) (allL G (lstB es') ls')) j := by
    intro j hj
    unfold Fnew
    exact upF_other _ _ (by omega)
  have hon : ∀ p ∈ allL G (lstB es') ls', Fnew F f G (lstB es') ls' p.1 = over (F p.1) p.2 := by
    intro p hp
    rw [hup p.1 (hW _ (List.mem_map_of_mem hp)).1]
    exact wrW_now _ (calmS F) hnd p hp
  have hold : ∀ j ∈ usedL es ls, Fnew F f G (lstB es') ls' j = F j := by
    intro j hj
    rw [hup j (hU j hj).1]
    exact hoff j fun hm => (hW j hm).2.2 hj
  -- the list
  have hsm : ∀ x ∈ es', x.2.1 ≤ 4000 := by
    intro x hx
    rcases List.mem_append.1 ((hpe.mem_iff).1 hx) with hx | hx
    · exact h.small x (mem_keptE.1 hx).1
    · obtain ⟨y, hy, rfl⟩ := List.mem_map.1 hx
      obtain ⟨z, hz, hs⟩ := fresh_put hp y hy
      rw [(strip_eq hs).2.1]
      have := (hl z (want_mem hz)).2.2
      omega
  have htl := lstB_small hm hsm
  have hll : ls'.length ≤ 14 := by rw [hlen]; unfold secs; omega
  have hread : readF (Fnew F f G (lstB es') ls') ls' (lstB es').length = lstB es' := by
    refine read_lay ls' (lstB es') (by rw [hlen]; unfold secs; omega) fun k hk => ⟨F ls'[k], h64 _ (hnl.free _ (List.getElem_mem hk)).2.1, ?_⟩
    exact hon (ls'[k], pieceB (lstB es') k) (List.mem_append_right _ (layB_mem hk))
  -- the files
  have hcont : ∀ y ∈ G, contE (Fnew F f G (lstB es') ls') y.1.1 = y.2 := by
    intro y hy
    obtain ⟨z, hz, hs, hb⟩ := hG1 y hy
    have hlen2 : y.1.1.2.1 = (y.2.length : Int) := by rw [(strip_eq hs).2.1, hb]
    have hyF : y.1 ∈ F' := by rw [← hG]; exact List.mem_map_of_mem hy
    unfold contE
    rw [hlen2, Int.toNat_natCast]
    refine read_lay (spanE y.1.1) y.2 ?_ fun k hk => ?_
    · rcases hpl.each _ hyF with ⟨h1, -⟩ | ⟨h1, a, h2, -⟩
      · rw [hlen2] at h1; omega
      · unfold spanE
        rw [rowL_length, h2, hlen2]
        simp only [Int.toNat_natCast]
        unfold secs
        omega
    · have hin : ((spanE y.1.1)[k], pieceB y.2 k) ∈ allL G (lstB es') ls' := by
        refine List.mem_append_left _ (List.mem_flatMap.2 ⟨y, hy, ?_⟩)
        exact layB_mem (at_ := spanFr y.1) hk
      exact ⟨F (spanE y.1.1)[k], h64 _ (hW _ (List.mem_map_of_mem hin)).2.1, hon _ hin⟩
  have hkept : ∀ e ∈ es, contE (Fnew F f G (lstB es') ls') e = contE F e := by
    intro e he
    unfold contE
    exact readF_congr fun j hj => hold j (List.mem_append_left _ (List.mem_flatMap.2 ⟨e, he, hj⟩))
  have hfiles : filesF (Fnew F f G (lstB es') ls') es' = doneL (filesF F es) l := by
    refine look_ext (may_rise hm _) (rise_done (may_rise h.may _) l) fun q => ?_
    rw [look_done]
    have hin : ∀ e ∈ es', (e.1, contE (Fnew F f G (lstB es') ls') e) ∈ filesF (Fnew F f G (lstB es') ls') es' := fun e he => List.mem_map.2 ⟨e, he, rfl⟩
    have hnone : (∀ e ∈ es', e.1 ≠ q) → lookF (filesF (Fnew F f G (lstB es') ls') es') q = none := fun hq => look_none.2 fun y hy => by
      obtain ⟨e, he, rfl⟩ := List.mem_map.1 hy
      exact hq e he
    cases hlp : lookP l q with
    | some y =>
      simp only
      obtain ⟨k, hk, hk1, hk2, -⟩ := lookP_iff.1 hlp
      unfold valP
      cases hg : y.2.1 with
      | false =>
        rw [if_neg (by decide)]
        have hy : y ∈ wantF l := mem_wantF.2 ⟨by rw [hk2]; exact hlp, hg⟩
        obtain ⟨x, hx, hs, hb⟩ := hG2 y hy
        have hxe : x.1.1 ∈ es' := (hpe.mem_iff).2 (List.mem_append_right _ (by rw [← hG, List.map_map]; exact List.mem_map.2 ⟨x, hx, rfl⟩))
        have h1 := hin x.1.1 hxe
        rw [hcont x hx, (strip_eq hs).1, hk2, hb] at h1
        exact look_of (may_rise hm _) h1
      | true =>
        rw [if_pos rfl]
        refine hnone fun e he heq => ?_
        rcases List.mem_append.1 ((hpe.mem_iff).1 he) with he | he
        · have := (mem_keptE.1 he).2
          rw [heq, hlp] at this
          cases this
        · obtain ⟨x, hx, rfl⟩ := List.mem_map.1 he
          obtain ⟨z, hz, hs⟩ := fresh_put hp x hx
          have h1 := mem_wantF.1 hz
          rw [← (strip_eq hs).1, heq, hlp] at h1
          have := Option.some.inj h1.1
          rw [← this, hg] at h1
          exact absurd h1.2 (by decide)
    | none =>
      simp only
      by_cases hq : ∃ e ∈ es, e.1 = q
      · obtain ⟨e, he, rfl⟩ := hq
        have hxe : e ∈ es' := (hpe.mem_iff).2 (List.mem_append_left _ (mem_keptE.2 ⟨he, hlp⟩))
        have h1 := hin e hxe
        rw [hkept e he] at h1
        rw [look_of (may_rise hm _) h1, look_of (may_rise h.may F) (List.mem_map.2 ⟨e, he, rfl⟩)]
      · rw [hnone fun e he heq => ?_]
        · refine (look_none.2 fun y hy heq => ?_).symm
          obtain ⟨e, he, rfl⟩ := List.mem_map.1 hy
          exact hq ⟨e, he, heq⟩
        · rcases List.mem_append.1 ((hpe.mem_iff).1 he) with he | he
          · exact hq ⟨e, (mem_keptE.1 he).1, heq⟩
          · obtain ⟨x, hx, rfl⟩ := List.mem_map.1 he
            obtain ⟨z, hz, hs⟩ := fresh_put hp x hx
            have h1 := (mem_wantF.1 hz).1
            rw [← (strip_eq hs).1, heq, hlp] at h1
            cases h1
  -- the sectors
  have hused : UsedOk n es' ls' := by
    constructor
    · unfold usedL
      have h1 : (es'.flatMap spanE).Perm ((keptE es l).flatMap spanE ++ F'.flatMap spanFr) := by
        have := hpe.flatMap_right spanE
        rw [List.flatMap_append, List.flatMap_map] at this
        exact this
      have h2 : ((keptE es l).flatMap spanE).Sublist (es.flatMap spanE) := by unfold keptE; exact filter_flat _ _ _
      have h3 : (es.flatMap spanE).Nodup := by
        have := h.used.nodup
        unfold usedL at this
        exact (List.nodup_append.1 this).1
      rw [((h1.append_right ls').nodup_iff), List.nodup_append, List.nodup_append]
      refine ⟨⟨h2.nodup h3, hpl.nodup, fun a ha b hb hab => ?_⟩, hnl.nodup, fun a ha b hb hab => ?_⟩
      · exact hpl.apart b hb (List.mem_append_left _ (hab ▸ h2.subset ha))
      · subst hab
        rcases List.mem_append.1 ha with ha | ha
        · exact (hnl.free a hb).2.2 (List.mem_append_left _ (List.mem_append_left _ (h2.subset ha)))
        · exact (hnl.free a hb).2.2 (List.mem_append_right _ ha)
    · intro x hx h0
      rcases List.mem_append.1 ((hpe.mem_iff).1 hx) with hx | hx
      · exact h.used.files x (mem_keptE.1 hx).1 h0
      · obtain ⟨y, hy, rfl⟩ := List.mem_map.1 hx
        rcases hpl.each y hy with ⟨-, h2⟩ | ⟨-, a, h2, h3, h4⟩
        · rw [h2] at h0; simp only at h0; omega
        · rw [h2]; simp only; omega
    · intro i hi
      exact ⟨(hnl.free i hi).1, (hnl.free i hi).2.1⟩
  have hls : ∀ i ∈ ls', i < n := fun i hi => (hnl.free i hi).2.1
  have hhl := headT_len (text := lstB es') (ls := ls') (by omega) hls hn2 hll
  have haway : ∀ F3 : Nat → List UInt8, (∀ j, j ∉ (allL G (lstB es') ls').map (·.1) → F3 j = F j) → OkF n F3 f es ls ∧ filesF F3 es = filesF F es := by
    intro F3 h3
    refine h.same fun j hj => h3 j fun hm => ?_
    have h4 := hW j hm
    rcases hj with rfl | rfl | hj
    · omega
    · omega
    · exact h4.2.2 hj
  have hgood1 : Good (nowF (wrW (calmS F) (allL G (lstB es') ls'))) 0 f := (haway _ hoff).1.good
  have hnew : OkF n (Fnew F f G (lstB es') ls') (fnew f (lstB es') ls') es' ls' := ⟨hgood1.save (by omega) hturn, ⟨lstB es', rfl, hlen, hread, by omega, .inr rfl⟩, hm, hsm, hused⟩
  refine ⟨hnew, hfiles, hll, by omega, fun S' hc keep => ?_⟩
  rcases hc with ⟨Wp, hpre, rfl⟩ | rfl | rfl
  · obtain ⟨F3, h1, h2⟩ := crS_off (F := F) (l := Wp) keep
    refine ⟨F3, h1, .inl (haway F3 fun j hj => h2 j fun hm => hj ?_)⟩
    obtain ⟨p, hp', rfl⟩ := List.mem_map.1 hm
    exact List.mem_map_of_mem (hpre.subset hp')
  · exact ⟨_, crS_calm _ keep, .inl (haway _ hoff)⟩
  · have hov : over (nowF (wrW (calmS F) (allL G (lstB es') ls')) (0 + (1 - f.slot))) (encS (headT (lstB es') ls') (f.turn + 1)) = encS (headT (lstB es') ls') (f.turn + 1) := by
      rw [hoff _ fun hm => by have := hW _ hm; omega]
      exact over_all (by rw [encS_length (by omega), h64 _ (by omega)])
    rcases crS_wr (nowF (wrW (calmS F) (allL G (lstB es') ls'))) (0 + (1 - f.slot)) (encS (headT (lstB es') ls') (f.turn + 1)) keep with h1 | h1
    · exact ⟨_, h1, .inl (haway _ hoff)⟩
    · rw [hov] at h1
      exact ⟨_, h1, .inr ⟨hnew, hfiles⟩⟩
end

end Go.Proofs.YtnalokjnbccjnaaGreatDoor

namespace Go.Proofs.YtnalokjnbccjnaaGreatDoor
open Go.RowKit

section
variable (w : World)
set_option maxRecDepth 100000
theorem onone_nil : Calls Tryz.prog 33 #[.pointer none] w fun e w' => e = .returned (.bool true) ∧ w = w' := by
  go_enter Tryz.func33, Tryz.ntmps33
  go_wp2_with fail
  go_ret
  exact ⟨rfl, rfl⟩
theorem odown_nil : Calls Tryz.prog 15 #[.pointer none] w fun e w' => e = .returned (.bool true) ∧ w = w' := by
  have C := Go.Lib.hid (onone_nil w)
  go_enter Tryz.func15, Tryz.ntmps15
  go_wp2_with fail
  refine C.out.mono ?_
  rintro e w1 ⟨rfl, rfl⟩
  go_wp2_with fail
  go_ret
  exact ⟨rfl, rfl⟩
theorem ofree_nil : Calls Tryz.prog 22 #[.pointer none] w fun e w' => e = .returned (.int .i64 0) ∧ w = w' := by
  have C := Go.Lib.hid (onone_nil w)
  go_enter Tryz.func22, Tryz.ntmps22
  go_wp2_with fail
  refine C.out.mono ?_
  rintro e w1 ⟨rfl, rfl⟩
  go_wp2_with fail
  go_ret
  exact ⟨rfl, rfl⟩
theorem onames_nil : Calls Tryz.prog 23 #[.pointer none] w fun e w' => e = .returned (.slice none 0 0) ∧ w = w' := by
  have C := Go.Lib.hid (onone_nil w)
  go_enter Tryz.func23, Tryz.ntmps23
  go_wp2_with fail
  refine C.out.mono ?_
  rintro e w1 ⟨rfl, rfl⟩
  go_wp2_with fail
  go_ret
  exact ⟨rfl, rfl⟩
theorem oget_nil (q : ByteArray) : Calls Tryz.prog 24 #[.pointer none, .string q] w fun e w' => e = .returned (.tuple #[.slice none 0 0, .int .i64 7]) ∧ w = w' := by
  have C := Go.Lib.hid (onone_nil w)
  go_enter Tryz.func24, Tryz.ntmps24
  go_wp2_with fail
  refine C.out.mono ?_
  rintro e w1 ⟨rfl, rfl⟩
  go_wp2_with fail
  go_ret2
  exact ⟨rfl, rfl⟩
theorem oapply_nil (v : Value) : Calls Tryz.prog 16 #[.pointer none, v] w fun e w' => e = .returned (.int .i64 7) ∧ w = w' := by
  have C := Go.Lib.hid (odown_nil w)
  go_enter Tryz.func16, Tryz.ntmps16
  go_wp2_with fail
  refine C.out.mono ?_
  rintro e w1 ⟨rfl, rfl⟩
  go_wp2_with fail
  go_ret
  exact ⟨rfl, rfl⟩
variable {w}
variable {B s d p g n : Nat} {S : Nat → Sec} {L : Life} {es : List EntT} {ls : List Nat} {dn : Bool}
theorem onone_c (hs : ST w B s d p es ls dn) : Calls Tryz.prog 33 #[.pointer (some ⟨s, 0, none⟩)] w fun e w' => e = .returned (.bool false) ∧ w = w' := by
  obtain ⟨a1, n1, c1, a2, n2, c2, h1, h2, x0, -⟩ := hs.cells
  clear h1 h2 hs
  go_enter Tryz.func33, Tryz.ntmps33
  go_wp2_with fail
  go_ret
  exact ⟨rfl, rfl⟩
theorem odown_c (hs : ST w B s d p es ls dn) : Calls Tryz.prog 15 #[.pointer (some ⟨s, 0, none⟩)] w fun e w' => e = .returned (.bool dn) ∧ w = w' := by
  have C := Go.Lib.hid (onone_c hs)
  obtain ⟨a1, n1, c1, a2, n2, c2, h1, h2, x0, -, -, -, x4, -⟩ := hs.cells
  clear h1 h2 hs
  go_enter Tryz.func15, Tryz.ntmps15
  go_wp2_with fail
  refine C.out.mono ?_
  rintro e w1 ⟨rfl, rfl⟩
  go_wp2_with fail
  go_ret
  exact ⟨rfl, rfl⟩
theorem oget_none (hs : ST w B s d p es ls dn) (q : ByteArray) (hq : ∀ (j : Nat) (hj : j < es.length), es[j].1 ≠ q) : Calls Tryz.prog 24 #[.pointer (some ⟨s, 0, none⟩), .string q] w fun e w' => e = .returned (.tuple #[.slice none 0 0, .int .i64 6]) ∧ Below w.heap.size w w' := by
  have C := Go.Lib.hid (onone_c hs)
  obtain ⟨a1, n1, c1, a2, n2, c2, h1, h2, x0, -, x2, -⟩ := hs.cells
  have C2 := Go.Lib.hid (find_c _ es q w h1.re)
  rw [findE_none hq] at C2
  clear h1 h2 hs hq
  go_enter Tryz.func24, Tryz.ntmps24
  go_wp2_with fail
  refine C.out.mono ?_
  rintro e w1 ⟨rfl, rfl⟩
  go_wp2_with fail
  refine C2.out.mono ?_
  rintro e w1 ⟨rfl, hb⟩
  have HB := Go.Lib.hid hb
  clear hb
  go_wp2_with fail
  go_ret2
  exact ⟨rfl, HB.out⟩
end

/-! ### Puts. -/
def putV (x : PutT) : Value := .agg #[.string x.1, .bool x.2.1, slV x.2.2.1]
section
variable {w : World}
set_option maxHeartbeats 1000000 in
set_option maxRecDepth 100000 in
theorem indexput_c (g : Nat) (q : PutT → Bool) (v : Value) (l : List PutT) (hv : RPt w v l) (hl : l.length ≤ 1000) (eg : ∀ args w, (callFunc g args).run Tryz.prog w = .ok (.enter g args) w)
    (hf : ∀ x ∈ l, ∀ (W : World), Below w.heap.size w W → Calls Tryz.prog g #[putV x] W fun e w' => e = .returned (.bool (q x)) ∧ Below W.heap.size W w') :
    Calls Tryz.prog 53 #[v, .func (.func g) #[] #[]] w fun e w' => ∃ r : Int, e = .returned (.int .i64 r) ∧ decide (0 ≤ r) = l.any q ∧ Below w.heap.size w w' := by
  obtain ⟨a, cap, rfl⟩ := hv.form
  have HV := Go.Lib.hid hv
  have HF := Go.Lib.hid hf
  clear hf hv
  go_enter Tryz.func53, Tryz.ntmps53
  go_wp2_with fail
  go_loopw [8] (fun i wr => ∃ k : Nat, k ≤ l.length ∧ i = .int .i64 (k : Int) ∧ Hid (∀ (j : Nat) (hj : j < l.length), j < k → q l[j] = false) ∧ Below w.heap.size w wr) (fun i _ => l.length - (intOf i).toNat)
  case atStart => exact ⟨0, by omega, rfl, Go.Lib.hid (fun j hj h => by omega), Below.refl _ _⟩
  case round =>
    obtain ⟨k, hk, rfl, hno, hbc⟩ := hrel
    by_cases hlt : k < l.length
    · obtain ⟨b, rfl, -, c0, c1, c2⟩ := (HV.out.below hbc).at k hlt
      have hkM : (k : Int) ≤ 1000 := by omega
      have Hyes := Go.Lib.hid (fun (h : q l[k] = true) => List.any_eq_true.2 ⟨l[k], List.getElem_mem hlt, h⟩)
      have Hnot := Go.Lib.hid (fun (h : q l[k] = false) => show ∀ (j : Nat) (hj : j < l.length), j < k + 1 → q l[j] = false from fun j hj hj1 => by
        rcases Nat.lt_or_ge j k with h2 | h2
        · exact hno.out j hj h2
        · obtain rfl : j = k := by omega
          exact h)
      have Hlt := Go.Lib.hid hlt
      have hc := HF.out l[k] (List.getElem_mem hlt) wr hbc
      generalize hx : l[k] = x at *
      obtain ⟨nm, gn, sl, bs⟩ := x
      unfold slV at c2
      unfold putV slV at hc
      simp only [] at c0 c1 c2 hc
      have HBC := Go.Lib.hid hbc
      cases hp : q (nm, gn, sl, bs) with
      | true =>
        rw [hp] at hc
        have HC := Go.Lib.hid hc
        have HY := Go.Lib.hid (Hyes.out hp)
        clear hp hc hx hno Hyes Hnot hbc
        go_wp2_with (go_at_fn g; refine HC.out.mono ?_; rintro e w2 ⟨rfl, hb2⟩)
        go_ret
        exact ⟨_, rfl, by rw [HY.out]; exact decide_eq_true (by omega), HBC.out.trans (hb2.mono HBC.out.size)⟩
      | false =>
        rw [hp] at hc
        have HC := Go.Lib.hid hc
        have HN := Go.Lib.hid (Hnot.out hp)
        clear hp hc hx hno Hyes Hnot hbc
        go_wp2_with (go_at_fn g; refine HC.out.mono ?_; rintro e w2 ⟨rfl, hb2⟩)
        go_roundw
        case rel => exact ⟨k + 1, by have := Hlt.out; omega, by go_num, HN, HBC.out.trans (hb2.mono HBC.out.size)⟩
        case measure => simp only [intOf]; have := Hlt.out; omega
    · obtain rfl : k = l.length := by omega
      have HN := Go.Lib.hid (show l.any q = false from List.any_eq_false.2 fun x hx => by
        obtain ⟨j, hj, rfl⟩ := List.mem_iff_getElem.1 hx
        rw [hno.out j hj hj]
        decide)
      clear hno hlt
      go_wp2_with fail
      go_ret
      exact ⟨_, rfl, by rw [HN.out]; rfl, hbc⟩
set_option maxRecDepth 100000 in
theorem containsput_c (g : Nat) (q : PutT → Bool) (v : Value) (l : List PutT) (hv : RPt w v l) (hl : l.length ≤ 1000) (eg : ∀ args w, (callFunc g args).run Tryz.prog w = .ok (.enter g args) w)
    (hf : ∀ x ∈ l, ∀ (W : World), Below w.heap.size w W → Calls Tryz.prog g #[putV x] W fun e w' => e = .returned (.bool (q x)) ∧ Below W.heap.size W w') :
    Calls Tryz.prog 34 #[v, .func (.func g) #[] #[]] w fun e w' => e = .returned (.bool (l.any q)) ∧ Below w.heap.size w w' := by
  have C := Go.Lib.hid (indexput_c g q v l hv hl eg hf)
  obtain ⟨a, cap, rfl⟩ := hv.form
  clear hv hf
  go_enter Tryz.func34, Tryz.ntmps34
  go_wp2_with fail
  refine C.out.mono ?_
  rintro e w1 ⟨r, rfl, hr, hb⟩
  have HR := Go.Lib.hid (And.intro hr hb)
  clear hr hb C
  go_wp2_with fail
  go_ret
  rw [← HR.out.1]
  exact ⟨rfl, HR.out.2⟩

def misP (x : PutT) : Bool := decide (x.1.size < 1) || decide (20 < x.1.size)
def longP (x : PutT) : Bool := decide (65536 < x.2.2.2.length)
set_option maxRecDepth 100000 in
theorem misnamed_c (x : PutT) : Calls Tryz.prog 35 #[putV x] w fun e w' => e = .returned (.bool (misP x)) ∧ Below w.heap.size w w' := by
  obtain ⟨nm, gn, sl, bs⟩ := x
  unfold putV slV misP
  obtain ⟨x0, x1, x2⟩ := cell_of3 (heap_alloc_new w (.cells #[.string nm, .bool gn, .slice sl.1 sl.2.1 sl.2.2] 47))
  have HB := Go.Lib.hid (newB w (.cells #[.string nm, .bool gn, .slice sl.1 sl.2.1 sl.2.2] 47))
  obtain ⟨m, hm⟩ : ∃ m, m = nm.size := ⟨_, rfl⟩
  by_cases h1 : nm.size < 1
  · have h1I : (nm.size : Int) < 1 := by omega
    simp only []
    rw [decide_eq_true h1, Bool.true_or]
    clear h1 hm
    go_enter Tryz.func35, Tryz.ntmps35
    go_wp2_with fail
    go_ret
    exact ⟨rfl, HB.out⟩
  · simp only []
    rw [decide_eq_false h1, Bool.false_or]
    have h1I : ¬ (nm.size : Int) < 1 := by omega
    by_cases h2 : 20 < nm.size
    · have h2I : (20 : Int) < (nm.size : Int) := by omega
      rw [decide_eq_true h2]
      clear h1 h2 hm
      go_enter Tryz.func35, Tryz.ntmps35
      go_wp2_with fail
      go_ret
      exact ⟨rfl, HB.out⟩
    · have h2I : ¬ (20 : Int) < (nm.size : Int) := by omega
      rw [decide_eq_false h2]
      clear h1 h2 hm
      go_enter Tryz.func35, Tryz.ntmps35
      go_wp2_with fail
      go_ret
      exact ⟨rfl, HB.out⟩
set_option maxRecDepth 100000 in
theorem toolong_c (x : PutT) (hx : x.2.2.1.2.1 = x.2.2.2.length) : Calls Tryz.prog 36 #[putV x] w fun e w' => e = .returned (.bool (longP x)) ∧ Below w.heap.size w w' := by
  obtain ⟨nm, gn, ⟨sa, sn, sc⟩, bs⟩ := x
  unfold putV slV longP
  simp only at hx
  obtain ⟨x0, x1, x2⟩ := cell_of3 (heap_alloc_new w (.cells #[.string nm, .bool gn, .slice sa sn sc] 47))
  have HB := Go.Lib.hid (newB w (.cells #[.string nm, .bool gn, .slice sa sn sc] 47))
  have hI : decide (65536 < bs.length) = decide ((65536 : Int) < (sn : Int)) := by rw [decide_eq_decide]; omega
  simp only []
  rw [hI]
  clear hI hx
  go_enter Tryz.func36, Tryz.ntmps36
  go_wp2_with fail
  go_ret
  exact ⟨rfl, HB.out⟩
theorem put_len {x : PutT} (h : TX w (slV x.2.2.1) x.2.2.2) : x.2.2.1.2.1 = x.2.2.2.length := by
  obtain ⟨a, c, e, -⟩ := h.1
  unfold slV at e
  simp only [Value.slice.injEq] at e
  exact e.2.1
theorem ismis_c (v : Value) (l : List PutT) (hv : RPt w v l) (hl : l.length ≤ 1000) : Calls Tryz.prog 34 #[v, .func (.func 35) #[] #[]] w fun e w' => e = .returned (.bool (l.any misP)) ∧ Below w.heap.size w w' :=
  containsput_c 35 misP v l hv hl (enters_of Tryz.func35 (by kernel_rfl) rfl) fun x _ _ _ => misnamed_c x
theorem islong_c (v : Value) (l : List PutT) (hv : RPt w v l) (hl : l.length ≤ 1000) : Calls Tryz.prog 34 #[v, .func (.func 36) #[] #[]] w fun e w' => e = .returned (.bool (l.any longP)) ∧ Below w.heap.size w w' :=
  containsput_c 36 longP v l hv hl (enters_of Tryz.func36 (by kernel_rfl) rfl) fun x hx _ _ => toolong_c x (put_len (hv.2 x hx))
end

end Go.Proofs.YtnalokjnbccjnaaGreatDoor

namespace Go.Proofs.YtnalokjnbccjnaaGreatDoor
open Go.RowKit

/-- A store that answers. -/
structure LV (w : World) (B s d g p n : Nat) (F : Nat → List UInt8) (L : Life) (f : Found) (es : List EntT) (ls : List Nat) : Prop where
  st : ST w B s d p es ls false
  dv : DV w B d g n (calmS F) L
  su : ∃ tx, SU w B p d 0 ⟨f.slot, tx, f.turn⟩
  ok : OkF n F f es ls
  n0 : 64 ≤ n
theorem LV.below {w w' : World} {B s d g p n : Nat} {F : Nat → List UInt8} {L : Life} {f : Found} {es : List EntT} {ls : List Nat} (h : LV w B s d g p n F L f es ls) (hb : Below w.heap.size w w') : LV w' B s d g p n F L f es ls := ⟨h.st.below hb, h.dv.below hb, h.su.imp fun _ h => h.below hb, h.ok, h.n0⟩
theorem LV.mono {w : World} {B B' s d g p n : Nat} {F : Nat → List UInt8} {L : Life} {f : Found} {es : List EntT} {ls : List Nat} (h : LV w B s d g p n F L f es ls) (hB : B' ≤ B) : LV w B' s d g p n F L f es ls := ⟨h.st.mono hB, h.dv.mono hB, h.su.imp fun _ h => h.mono hB, h.ok, h.n0⟩
/-- Why there is no room. -/
def NoRoom (n : Nat) (es : List EntT) (ls : List Nat) (l : List PutT) : Prop :=
  NoFit n (usedL es ls) ((wantF l).map freshP) ∨
  ∃ (F' : List FreshT) (es' : List EntT), (F'.map stripF).Perm (((wantF l).map freshP).map stripF) ∧ Pl n (usedL es ls) F' ∧ es'.Perm (keptE es l ++ F'.map (·.1)) ∧ MayL es' ∧
    (takeL n (usedL es ls ++ F'.flatMap spanFr) (secs (lstB es').length)).length < secs (lstB es').length ∧ ∀ i, 2 ≤ i → i < n → i ∈ usedL es ls ++ F'.flatMap spanFr ++ takeL n (usedL es ls ++ F'.flatMap spanFr) (secs (lstB es').length)
/-- What a crash may leave. -/
def After (n : Nat) (F : Nat → List UInt8) (f : Found) (es : List EntT) (ls : List Nat) (l : List PutT) (f' : Found) (es' : List EntT) (ls' : List Nat) (S' : Nat → Sec) : Prop :=
  ∀ keep, ∃ F3, crS S' keep = calmS F3 ∧ ((OkF n F3 f es ls ∧ filesF F3 es = filesF F es) ∨ (OkF n F3 f' es' ls' ∧ filesF F3 es' = doneL (filesF F es) l))
/-- How an Apply ends. -/
def ApEnd (w w' : World) (B s d g p n : Nat) (F : Nat → List UInt8) (L : Life) (f : Found) (es : List EntT) (ls : List Nat) (l : List PutT) (r : Int) : Prop :=
  (r = 1 ∧ l.any misP = true ∧ Below w.heap.size w w') ∨
  (r = 0 ∧ l = [] ∧ Below w.heap.size w w') ∨
  (r = 5 ∧ (l ≠ [] ∧ l.any misP = false) ∧ 32 < (keptE es l).length + (wantF l).length ∧ Below w.heap.size w w') ∨
  (r = 4 ∧ (l ≠ [] ∧ l.any misP = false) ∧ (keptE es l).length + (wantF l).length ≤ 32 ∧ NoRoom n es ls l ∧ Below w.heap.size w w') ∨
  ((l ≠ [] ∧ l.any misP = false) ∧ (keptE es l).length + (wantF l).length ≤ 32 ∧ Offs [s, d, g, p] w w' ∧ Tab w' ∧ ∃ f' es' ls' j, f'.turn = f.turn + 1 ∧ j ≤ 1400 ∧
    ((r = 0 ∧ ∃ F', LV w' B s d g p n F' (tickN L j) f' es' ls' ∧ filesF F' es' = doneL (filesF F es) l) ∨
     (r = 7 ∧ (tickN L j).dead = true ∧ ST w' B s d p es ls true ∧ ∃ S', DV w' B d g n S' (tickN L j) ∧ After n F f es ls l f' es' ls' S')))

/-- Nineteen puts at most, or none of them has bytes. -/
def SrtP (l : List PutT) : Prop := l.length ≤ 19 ∨ (l.length ≤ 32 ∧ ∀ x ∈ l, x.2.2.2 = [])
theorem SrtP.len {l : List PutT} (h : SrtP l) : l.length ≤ 32 := by
  rcases h with h | h
  · omega
  · exact h.1
theorem SrtP.zero {l : List PutT} (h : SrtP l) (h19 : 19 < l.length) : ∀ x ∈ l, x.2.2.2 = [] := by
  rcases h with h | h
  · omega
  · exact h.2
theorem SrtP.want {l : List PutT} (h : SrtP l) : SrtF ((wantF l).map freshP) := by
  have h1 := wantF_len l
  rcases h with h | ⟨h, hz⟩
  · exact .inl (by rw [List.length_map]; omega)
  · refine .inr ⟨by rw [List.length_map]; omega, fun x hx => ?_⟩
    obtain ⟨z, hz2, rfl⟩ := List.mem_map.1 hx
    have := hz z (want_mem hz2)
    unfold freshP
    rw [this]
    rfl
theorem any_mis_ok {l : List PutT} (h : l.any misP = false) (hb : ∀ x ∈ l, x.2.2.2.length ≤ 4000) : OkP l := by
  intro x hx
  have h1 := List.any_eq_false.1 h x hx
  unfold misP at h1
  simp only [Bool.or_eq_true, decide_eq_true_eq, not_or] at h1
  exact ⟨by omega, by omega, hb x hx⟩
theorem no_long {l : List PutT} (hb : ∀ x ∈ l, x.2.2.2.length ≤ 4000) : l.any longP = false := List.any_eq_false.2 fun x hx => by
  have := hb x hx
  unfold longP
  simp
  omega
theorem row_offs {e : TypeId} {w w' : World} {B Bd Bs s m d g n p at_ : Nat} {f : Found} {S : Nat → Sec} {L : Life} {v : Value} {xs : List Value} (h : w.ownsRow B e s v m xs) (hd : DV w Bd d g n S L) (hs : SU w Bs p d at_ f) (hk : Offs [d, g, p] w w') (h1 : e ≠ 64) (h2 : e ≠ 88) (h3 : e ≠ 125) : w'.ownsRow B e s v m xs :=
  row_keep h fun k _ _ _ hc => (hk.block k (Array.getElem?_eq_some_iff.1 hc).1 (by
    have a := ap_dev hd hc h1 h2
    have b := ap_su hs hc h3
    simp [a.1, a.2, b]))

theorem row_mono {e : TypeId} {w : World} {B B' s m : Nat} {v : Value} {xs : List Value} (h : w.ownsRow B e s v m xs) (hB : B' ≤ B) : w.ownsRow B' e s v m xs := by
  refine ⟨h.1, ?_⟩
  rcases h.2 with h' | ⟨g, cap, cur, h1, h2, h3⟩
  · exact .inl h'
  · exact .inr ⟨g, cap, cur, h1, Nat.le_trans hB h2, h3⟩
/-- What stands while the new files and the new list are kept. -/
structure KS (w0 : World) (s b7 : Nat) (p0 p1 vf vl v0 v1 v2 : Value) (d8 d11 : Bool) (w : World) : Prop where
  st : w.heap[s]? = some (.cells #[p0, p1, if d8 = true then v0 else vf, if d11 = true then v2 else vl, .bool false] 73)
  pl : w.heap[b7]? = some (.cells #[v0, v1, v2] 80)
  of : Offs [s] w0 w
section
variable {w0 w : World} {s b7 : Nat} {p0 p1 vf vl v0 v1 v2 : Value} {d8 d11 : Bool} {done : Nat → Bool}
theorem KS.drew (h : KS w0 s b7 p0 p1 vf vl v0 v1 v2 d8 d11 w) : KS w0 s b7 p0 p1 vf vl v0 v1 v2 d8 d11 w.drew := ⟨h.st, h.pl, ⟨h.of.os, h.of.tape, h.of.output, h.of.size, h.of.block⟩⟩
theorem KS.keep (h : KS w0 s b7 p0 p1 vf vl v0 v1 v2 (done 8) (done 11) w) (i : Nat) (h8 : 8 ≠ i) (h11 : 11 ≠ i) : KS w0 s b7 p0 p1 vf vl v0 v1 v2 (doneToo done i 8) (doneToo done i 11) w := by
  rw [doneToo_other h8, doneToo_other h11]
  exact h
theorem KS.ne (h : KS w0 s b7 p0 p1 vf vl v0 v1 v2 d8 d11 w) : b7 ≠ s := by
  rintro rfl
  have h1 := h.st
  rw [h.pl] at h1
  simp only [Option.some.injEq, Obj.cells.injEq] at h1
  exact absurd h1.2.1 (by decide)
theorem KS.set8 (h : KS w0 s b7 p0 p1 vf vl v0 v1 v2 (done 8) (done 11) w) : KS w0 s b7 p0 p1 vf vl v0 v1 v2 (doneToo done 8 8) (doneToo done 8 11) (w.setCell ⟨s, 2, none⟩ v0) := by
  rw [doneToo_self, doneToo_other (by decide)]
  exact ⟨heap_set h.st 2 v0, (Below.heap_setCell _ _ _ _ h.ne).trans h.pl, h.of.set (by simp) _ _⟩
theorem KS.set11 (h : KS w0 s b7 p0 p1 vf vl v0 v1 v2 (done 8) (done 11) w) : KS w0 s b7 p0 p1 vf vl v0 v1 v2 (doneToo done 11 8) (doneToo done 11 11) (w.setCell ⟨s, 3, none⟩ v2) := by
  rw [doneToo_self, doneToo_other (by decide)]
  exact ⟨heap_set h.st 3 v2, (Below.heap_setCell _ _ _ _ h.ne).trans h.pl, h.of.set (by simp) _ _⟩
end
def VK (s b7 : Nat) (v0 v2 : Value) : Nat → Value → Prop
  | 54, v => v = .pointer (some ⟨s, 0, none⟩)
  | 55, v => v = .pointer (some ⟨s, 0, none⟩)
  | 56, v => v = .pointer (some ⟨b7, 0, none⟩)
  | 57, v => v = v0
  | 58, v => v = .pointer (some ⟨b7, 2, none⟩)
  | 59, v => v = v2
  | 60, v => v = .pointer (some ⟨s, 0, none⟩)
  | 61, v => v = .pointer (some ⟨s, 2, none⟩)
  | 62, v => v = .pointer (some ⟨s, 0, none⟩)
  | 63, v => v = .pointer (some ⟨s, 3, none⟩)
  | _, _ => True

theorem row_s {e : TypeId} {w w' : World} {B sz m s : Nat} {v : Value} {xs : List Value} {cs : Array Value} (h : w.ownsRow B e sz v m xs) (hs : w.heap[s]? = some (.cells cs 73)) (hk : Offs [s] w w') (he : e ≠ 73) : w'.ownsRow B e sz v m xs :=
  row_keep h fun k _ _ _ hc => hk.block k (Array.getElem?_eq_some_iff.1 hc).1 (by
    simp only [List.mem_singleton]
    rintro rfl
    rw [hs] at hc
    simp only [Option.some.injEq, Obj.cells.injEq] at hc
    exact he hc.2.1.symm)
theorem tab_s {w w' : World} {s B : Nat} (hT : Tab w) (hk : Offs [s] w w') (hB : 0 < B) (hs : B ≤ s) : Tab w' := fun i hi => hk.cell (hT i hi) (by simp only [List.mem_singleton]; omega)

section
variable {w : World} {B s d p g n : Nat} {L : Life} {f : Found} {F : Nat → List UInt8} {es : List EntT} {ls : List Nat}
set_option maxHeartbeats 8000000 in
set_option maxRecDepth 100000 in
theorem oapply_c (h : LV w B s d g p n F L f es ls) (hT : Tab w) (hB : 0 < B) (v : Value) (l : List PutT) (hv : RPt w v l) (hsrt : SrtP l) (hb : ∀ x ∈ l, x.2.2.2.length ≤ 4000) (hc : L.calls ≤ 900000) (hturn : f.turn ≤ 1000000) :
    Calls Tryz.prog 16 #[.pointer (some ⟨s, 0, none⟩), v] w fun e w' => ∃ r, e = .returned (.int .i64 r) ∧ ApEnd w w' B s d g p n F L f es ls l r := by
  have H := Go.Lib.hid h
  obtain ⟨tx0, hsu0⟩ := h.su
  have HSU0 := Go.Lib.hid hsu0
  have HT := Go.Lib.hid hT
  have HB := Go.Lib.hid hB
  have HV := Go.Lib.hid hv
  have hl : l.length ≤ 32 := hsrt.len
  have HSRT := Go.Lib.hid hsrt
  have HL := Go.Lib.hid hl
  have HLB := Go.Lib.hid hb
  have HC := Go.Lib.hid hc
  have HTN := Go.Lib.hid hturn
  have CD := Go.Lib.hid (odown_c h.st)
  have CM := Go.Lib.hid (ismis_c v l hv (by omega))
  have HBS := Go.Lib.hid (show B ≤ w.heap.size from by have := h.st.low; have := h.st.lt; omega)
  obtain ⟨av, qv, rfl⟩ := hv.form
  clear h hT hB hv hl hsrt hb hc hturn hsu0
  go_enter Tryz.func16, Tryz.ntmps16
  go_wp2_with fail
  refine CD.out.mono ?_
  rintro e w1 ⟨rfl, rfl⟩
  go_wp2_with fail
  refine CM.out.mono ?_
  rintro e w1 ⟨rfl, hb1⟩
  have HB1 := Go.Lib.hid hb1
  cases hmis : l.any misP with
  | true =>
    have HM := Go.Lib.hid hmis
    clear hmis hb1 CD CM
    go_wp2_with fail
    go_ret
    exact ⟨1, rfl, .inl ⟨rfl, HM.out, HB1.out⟩⟩
  | false =>
    have HM := Go.Lib.hid hmis
    have HOK := Go.Lib.hid (any_mis_ok hmis HLB.out)
    have CL := islong_c _ l (HV.out.below hb1) (by have := HL.out; omega)
    rw [no_long HLB.out] at CL
    have CL := Go.Lib.hid CL
    clear hmis hb1 CD CM
    go_wp2_with fail
    refine CL.out.mono ?_
    rintro e w2 ⟨rfl, hb2⟩
    have HB2 := Go.Lib.hid (below_to HB1.out (Nat.le_refl _) hb2)
    clear hb2 CL
    by_cases hnil : l = []
    · have hl0 : l.length = 0 := by rw [hnil]; rfl
      have HN := Go.Lib.hid hnil
      rw [hl0]
      clear hnil hl0
      go_wp2_with fail
      go_ret
      exact ⟨0, rfl, .inr (.inl ⟨rfl, HN.out, HB2.out⟩)⟩
    · have HNN := Go.Lib.hid (And.intro hnil HM.out)
      have hl0 : ¬ (l.length : Int) = 0 := fun e => hnil (List.eq_nil_of_length_eq_zero (by omega))
      have hb2' := HB2.out
      have CS := Go.Lib.hid (split_c (H.out.st.below hb2') _ l (HV.out.below hb2') (by have := HL.out; omega) (fun x hx => ⟨(HOK.out x hx).2.1, by have := (HOK.out x hx).2.2; omega⟩) H.out.ok.may.1 (fun x hx => by have := (H.out.ok.may.mem x hx).2.1; omega))
      clear hnil hb2'
      go_wp2_with fail
      refine CS.out.mono ?_
      rintro e w3 ⟨vk, vw, rfl, hk, hf, hb3⟩
      obtain ⟨pk, ck, rfl, -⟩ := hk.re.form
      obtain ⟨pf, cf, rfl⟩ : ∃ q c, vw = .slice q (wantF l).length c := by
        have hlen : ((wantF l).map freshP).length = (wantF l).length := by rw [List.length_map]
        rcases fresh_form hf with ⟨h0, q, c, h1⟩ | ⟨q, c, h1, -⟩
        · exact ⟨q, c, by rw [h1, ← hlen, h0]; rfl⟩
        · exact ⟨_, c, by rw [h1, hlen]⟩
      have HB3 := Go.Lib.hid (below_to HB2.out (Nat.le_refl _) hb3)
      have HK := Go.Lib.hid (hk.mono (B' := w.heap.size) HB2.out.size)
      have HF := Go.Lib.hid (show OwnFr w3 w.heap.size (.slice pf (wantF l).length cf) ((wantF l).map freshP) from row_mono hf HB2.out.size)
      have HKL := Go.Lib.hid (show (keptE es l).length ≤ 32 from Nat.le_trans (by unfold keptE; exact List.length_filter_le _ _) H.out.ok.may.1)
      have HWL := Go.Lib.hid (show (wantF l).length ≤ 32 from Nat.le_trans (wantF_len l) HL.out)
      have hkl := HKL.out
      have hwl := HWL.out
      obtain ⟨nk, hnk⟩ : ∃ nk, nk = (keptE es l).length := ⟨_, rfl⟩
      obtain ⟨nw, hnw⟩ : ∃ nw, nw = (wantF l).length := ⟨_, rfl⟩
      have HNKW := Go.Lib.hid (And.intro hnk hnw)
      rw [← hnk] at hkl ⊢
      rw [← hnw] at hwl ⊢
      rw [← hnk] at HK
      rw [← hnw] at HF
      clear hk hf hb3 CS hnk hnw
      by_cases hmany : 32 < nk + nw
      · have hmI : (32 : Int) < (nk : Int) + (nw : Int) := by omega
        have HMANY := Go.Lib.hid hmany
        clear hmany
        go_wp2_with fail
        go_ret
        exact ⟨5, rfl, .inr (.inr (.inl ⟨rfl, HNN.out, by rw [← HNKW.out.1, ← HNKW.out.2]; exact HMANY.out, HB3.out⟩))⟩
      · have hmI : ¬ (32 : Int) < (nk : Int) + (nw : Int) := by omega
        have HCNT := Go.Lib.hid (show (keptE es l).length + (wantF l).length ≤ 32 from by rw [← HNKW.out.1, ← HNKW.out.2]; omega)
        have hb3 := HB3.out
        have HN2 := Go.Lib.hid H.out.dv.n1
        have CP := Go.Lib.hid (prepare_c (w0 := w) (H.out.st.below hb3) (H.out.dv.below hb3) H.out.n0 H.out.ok.used (.slice pk nk ck) (.slice pf nw cf) (keptE es l) ((wantF l).map freshP) HK.out HF.out hb3 HSRT.out.want HKL.out (fun x hx => by
          obtain ⟨z, hz, rfl⟩ := List.mem_map.1 hx
          have := (HOK.out z (want_mem hz)).2.2
          unfold freshP
          exact ⟨by simp only; omega, by simp only; omega, rfl⟩) (fun F' es' h1 h2 h3 h4 => may_next H.out.ok.may HN2.out HOK.out HCNT.out h1 h2 h3 h4))
        clear hmany hb3
        go_wp2_with fail
        refine CP.out.mono ?_
        rintro e w4 ⟨hb4, hcase⟩
        have HB4 := Go.Lib.hid hb4
        clear hb4 CP
        rcases hcase with ⟨rfl, hno⟩ | ⟨F', es', v0, v1, v2, hp, hpl, hpe, hmay, hof, ho0, ho1, rfl, ho2, hnl, htk⟩
        · have HNO := Go.Lib.hid hno
          clear hno
          have HB5 := Go.Lib.hid (below_to HB4.out (Nat.le_refl _) (newB w4 (.cells #[.slice none 0 0, .slice none 0 0, .slice none 0 0] 80)))
          go_wp2_with fail
          go_ret
          exact ⟨4, rfl, .inr (.inr (.inr (.inl ⟨rfl, HNN.out, HCNT.out, .inl HNO.out, HB5.out⟩)))⟩
        · obtain ⟨TL, hTL⟩ : ∃ TL, TL = takeL n (usedL es ls ++ F'.flatMap spanFr) (secs (lstB es').length) := ⟨_, rfl⟩
          rw [← hTL] at ho2 hnl htk ⊢
          by_cases hwhole : TL.length = secs (lstB es').length
          · rw [wholeL_yes hwhole] at ho2
            rw [decide_eq_true hwhole]
            obtain ⟨G, hG, hG1, hG2⟩ := fresh_bytes hp
            obtain ⟨hok', hfiles, hll, htl, hcrash⟩ := next_ok H.out.ok (fun i hi => H.out.dv.whole64 hi) H.out.n0 HN2.out HOK.out (by have := HTN.out; omega) hp hpl hpe hmay hnl hwhole hG hG1 hG2
            have hGl : G.length ≤ (wantF l).length := by
              have h1 := congrArg List.length hG
              have h2 := hp.length_eq
              simp only [List.length_map] at h1 h2
              have := HWL.out
              omega
            have hspan : ∀ y ∈ G, ∃ a m : Nat, y.1.1.2.2 = ((a : Int), (m : Int)) ∧ a + m ≤ n ∧ m ≤ 63 ∧ (19 < l.length → m = 0) := by
              intro y hy
              obtain ⟨z, hz, hs, -⟩ := hG1 y hy
              have h3 := (HOK.out z (want_mem hz)).2.2
              have h4 := (strip_eq hs).2.1
              rcases hpl.each y.1 (by rw [← hG]; exact List.mem_map_of_mem hy) with ⟨-, h2⟩ | ⟨hpos, a, h2, -, h5⟩
              · exact ⟨0, 0, h2, by omega, by omega, fun _ => rfl⟩
              · refine ⟨a, _, h2, by omega, ?_, fun h19 => ?_⟩
                · rw [h4]
                  unfold secs
                  omega
                · exfalso
                  rw [h4, HSRT.out.zero h19 z (want_mem hz)] at hpos
                  simp at hpos
            have hal : (allL G (lstB es') TL).length ≤ 1300 := by
              unfold allL
              rw [List.length_append, layB_len]
              by_cases h19 : 19 < l.length
              · have h1 := flat_len lay1 0 G fun y hy => by
                  obtain ⟨a, m, h1, -, -, h2⟩ := hspan y hy
                  unfold lay1
                  rw [layB_len]
                  unfold spanFr spanE
                  rw [rowL_length, h1, h2 h19]
                  simp
                unfold allW
                omega
              · have h1 := flat_len lay1 63 G fun y hy => by
                  obtain ⟨a, m, h1, -, h2, -⟩ := hspan y hy
                  unfold lay1
                  rw [layB_len]
                  unfold spanFr spanE
                  rw [rowL_length, h1]
                  simpa using h2
                have h0 := wantF_len l
                unfold allW
                omega
            obtain ⟨a0, c0, rfl, -⟩ := ho0.re.form
            obtain ⟨a1, c1, rfl, -⟩ := ho1.rb
            obtain ⟨a2, n2, c2, rfl⟩ := rv_sl ho2.rv
            obtain ⟨n0, hn0⟩ : ∃ n0, n0 = es'.length := ⟨_, rfl⟩
            obtain ⟨n1, hn1⟩ : ∃ n1, n1 = (lstB es').length := ⟨_, rfl⟩
            rw [← hn0] at ho0 ⊢
            rw [← hn1] at ho1 ⊢
            have h5 := newB w4 (.cells #[.slice a0 n0 c0, .slice a1 n1 c1, .slice a2 n2 c2] 80)
            have hpl5 := heap_alloc_new w4 (.cells #[.slice a0 n0 c0, .slice a1 n1 c1, .slice a2 n2 c2] 80)
            obtain ⟨w5, hw5⟩ : ∃ w5, w5 = w4.alloc (.cells #[.slice a0 n0 c0, .slice a1 n1 c1, .slice a2 n2 c2] 80) := ⟨_, rfl⟩
            rw [← hw5] at h5 hpl5
            obtain ⟨b7, hb7⟩ : ∃ b7, b7 = w4.heap.size := ⟨_, rfl⟩
            rw [← hb7] at hpl5
            have hb5 := below_to HB4.out (Nat.le_refl _) h5
            obtain ⟨vf, vl, hblk5, hvf5, hvl5⟩ := (H.out.st.below hb5).blk
            have hown5 : OwnFr w5 w.heap.size (.slice pf nw cf) (G.map (·.1)) := by
              rw [hG]
              exact row_keep hof fun k _ _ _ hk => h5.block k (Array.getElem?_eq_some_iff.1 hk).1
            have CLAY := Go.Lib.hid (lay_c (dn := false) (v0 := .slice a0 n0 c0) (H.out.dv.below hb5) hblk5 (HSU0.out.below hb5) (HT.out.below hb5) HB.out G (by have := HWL.out; omega) hown5 (fun y hy => by
              obtain ⟨z, hz, hs, hbb⟩ := hG1 y hy
              obtain ⟨a, m, h1, h2, -⟩ := hspan y hy
              refine ⟨?_, a, m, h1, h2⟩
              rw [(strip_eq hs).2.2, hbb]
              exact (HV.out.2 z (want_mem hz)).below hb5) (lstB es') TL (ho1.below h5) (ho2.below h5) (fun i hi => (hnl.free i hi).2.1) hll htl (by have := H.out.n0; omega) (by have := HC.out; omega) (by have := HTN.out; show f.turn + 1 ≤ 1099511627776; omega))
            have HX := Go.Lib.hid (And.intro (ho0.below h5) (ho2.below h5))
            have HX5 := Go.Lib.hid (And.intro hvf5 hvl5)
            have HB5 := Go.Lib.hid hb5
            have HPL5 := Go.Lib.hid hpl5
            have HBLK5 := Go.Lib.hid hblk5
            have HOKN := Go.Lib.hid (And.intro hok' (And.intro hfiles hcrash))
            have HAL := Go.Lib.hid hal
            have HW5 := Go.Lib.hid (And.intro hw5 hb7)
            obtain ⟨z0, z1, z2⟩ := cell_of3 (heap_alloc_new w4 (.cells #[.slice a0 n0 c0, .slice a1 n1 c1, .slice a2 n2 c2] 80))
            have HLOW := Go.Lib.hid (show B ≤ w.heap.size from HBS.out)
            have HH5 := Go.Lib.hid (And.intro (H.out.dv.below hb5) (And.intro (HSU0.out.below hb5) (HT.out.below hb5)))
            clear hp hpl hpe hmay hof ho0 ho1 ho2 hnl htk hTL hG hG1 hG2 hok' hfiles hll htl hcrash hGl hspan hal hn0 hn1 hb5 hvf5 hvl5 hblk5 hown5 hpl5 h5
            go_wp2_with fail
            rw [← HW5.out.1, ← HW5.out.2]
            refine CLAY.out.mono ?_
            rintro e w6 ⟨ho6, ht6, r, rfl, hend⟩
            obtain ⟨hd5, hs5, ht5⟩ := HH5.out
            have hpl6 := cells_offs ho6 HPL5.out (by have a := ap_dev hd5 HPL5.out (by decide) (by decide); have b := ap_su hs5 HPL5.out (by decide); simp [a.1, a.2, b])
            have hst6 := cells_offs ho6 HBLK5.out (by have a := ap_dev hd5 HBLK5.out (by decide) (by decide); have b := ap_su hs5 HBLK5.out (by decide); simp [a.1, a.2, b])
            have HO6 := Go.Lib.hid (And.intro ho6 ht6)
            have HPL6 := Go.Lib.hid hpl6
            have HST6 := Go.Lib.hid hst6
            have HSB := Go.Lib.hid (show B ≤ s from H.out.st.low)
            rcases hend with ⟨rfl, hd6, hs6⟩ | ⟨rfl, hs6, S', j, hj, hdead, hd6, hcut⟩
            · have HD6 := Go.Lib.hid (And.intro hd6 hs6)
              have HI0 := Go.Lib.hid (show KS w6 s b7 (.pointer (some ⟨d, 0, none⟩)) (.pointer (some ⟨p, 0, none⟩)) vf vl (.slice a0 n0 c0) (.slice a1 n1 c1) (.slice a2 n2 c2) false false w6 from ⟨hst6, hpl6, Offs.refl _ _⟩)
              clear z0 z1 z2 hd5 hs5 ht5 hpl6 hst6 ho6 ht6 hd6 hs6 CLAY
              go_upto_region 19 with (fail)
              refine wp_region_inv (by kernel_rfl) (fun t _ v => VK s b7 (.slice a0 n0 c0) (.slice a2 n2 c2) t v) (fun done W => KS w6 s b7 (.pointer (some ⟨d, 0, none⟩)) (.pointer (some ⟨p, 0, none⟩)) vf vl (.slice a0 n0 c0) (.slice a1 n1 c1) (.slice a2 n2 c2) (done 8) (done 11) W) (by decide +kernel) (by decide +kernel) (by rfl) [54, 55, 56, 57, 58, 59, 60, 61, 62, 63] (by rfl) HI0.out.drew ?_ ?_
              · intro i o ho a w6 done hI hnot hr hlen hg
                match i, ho with
                | 0, ho =>
                  obtain rfl := Option.some.inj ho
                  have h0 := given_old hg 0 (by decide +kernel)
                  clear hg
                  exact st_yield ho (wanted_none rfl) (.pointer (some ⟨s, 0, none⟩)) w6 (by simp [execOp, Act.eval, h0, go_sem]) ⟨_, rfl, hI.keep 0 (by decide) (by decide), fun _ _ h => h, by rintro t' ⟨⟩; rfl⟩
                | 1, ho =>
                  obtain rfl := Option.some.inj ho
                  have h0 := given_old hg 0 (by decide +kernel)
                  clear hg
                  exact st_yield ho (wanted_none rfl) (.pointer (some ⟨s, 0, none⟩)) w6 (by simp [execOp, Act.eval, h0, go_sem]) ⟨_, rfl, hI.keep 1 (by decide) (by decide), fun _ _ h => h, by rintro t' ⟨⟩; rfl⟩
                | 2, ho =>
                  obtain rfl := Option.some.inj ho
                  have h7 := given_old hg 7 (by decide +kernel)
                  clear hg
                  exact st_yield ho (wanted_none rfl) (.pointer (some ⟨b7, 0, none⟩)) w6 (by simp [execOp, Act.eval, h7, go_sem]) ⟨_, rfl, hI.keep 2 (by decide) (by decide), fun _ _ h => h, by rintro t' ⟨⟩; rfl⟩
                | 3, ho =>
                  obtain rfl := Option.some.inj ho
                  obtain ⟨_, h56, rfl⟩ := given_fed hg 56 (by decide +kernel)
                  clear hg
                  have hc0 := (cell_of3 hI.pl).1
                  exact st_yield ho (wanted_none rfl) (.slice a0 n0 c0) w6 (by simp [execOp, Act.eval, h56, hc0, go_sem]) ⟨_, rfl, hI.keep 3 (by decide) (by decide), fun _ _ h => h, by rintro t' ⟨⟩; rfl⟩
                | 4, ho =>
                  obtain rfl := Option.some.inj ho
                  have h7 := given_old hg 7 (by decide +kernel)
                  clear hg
                  exact st_yield ho (wanted_none rfl) (.pointer (some ⟨b7, 2, none⟩)) w6 (by simp [execOp, Act.eval, h7, go_sem]) ⟨_, rfl, hI.keep 4 (by decide) (by decide), fun _ _ h => h, by rintro t' ⟨⟩; rfl⟩
                | 5, ho =>
                  obtain rfl := Option.some.inj ho
                  obtain ⟨_, h58, rfl⟩ := given_fed hg 58 (by decide +kernel)
                  clear hg
                  have hc2 := (cell_of3 hI.pl).2.2
                  exact st_yield ho (wanted_none rfl) (.slice a2 n2 c2) w6 (by simp [execOp, Act.eval, h58, hc2, go_sem]) ⟨_, rfl, hI.keep 5 (by decide) (by decide), fun _ _ h => h, by rintro t' ⟨⟩; rfl⟩
                | 6, ho =>
                  obtain rfl := Option.some.inj ho
                  obtain ⟨_, h54, rfl⟩ := given_fed hg 54 (by decide +kernel)
                  clear hg
                  exact st_yield ho (wanted_none rfl) (.pointer (some ⟨s, 0, none⟩)) w6 (by simp [execOp, Act.eval, h54, go_sem]) ⟨_, rfl, hI.keep 6 (by decide) (by decide), fun _ _ h => h, by rintro t' ⟨⟩; rfl⟩
                | 7, ho =>
                  obtain rfl := Option.some.inj ho
                  obtain ⟨_, h60, rfl⟩ := given_fed hg 60 (by decide +kernel)
                  clear hg
                  exact st_yield ho (wanted_none rfl) (.pointer (some ⟨s, 2, none⟩)) w6 (by simp [execOp, Act.eval, h60, go_sem]) ⟨_, rfl, hI.keep 7 (by decide) (by decide), fun _ _ h => h, by rintro t' ⟨⟩; rfl⟩
                | 8, ho =>
                  obtain rfl := Option.some.inj ho
                  obtain ⟨_, h61, rfl⟩ := given_fed hg 61 (by decide +kernel)
                  obtain ⟨_, h57, rfl⟩ := given_fed hg 57 (by decide +kernel)
                  clear hg
                  have hfz := frozen_of_row w6 s 2 _ _ hI.st
                  have hc := (cell_of5 hI.st).2.2.1
                  exact st_done ho (wanted_none rfl) (w6.setCell ⟨s, 2, none⟩ (.slice a0 n0 c0)) (by simp [execOp, Act.eval, h61, h57, go_sem, hfz, hc]) ⟨_, rfl, hI.set8, fun _ _ h => h, by rintro t' ⟨⟩⟩
                | 9, ho =>
                  obtain rfl := Option.some.inj ho
                  obtain ⟨_, h55, rfl⟩ := given_fed hg 55 (by decide +kernel)
                  clear hg
                  exact st_yield ho (wanted_none rfl) (.pointer (some ⟨s, 0, none⟩)) w6 (by simp [execOp, Act.eval, h55, go_sem]) ⟨_, rfl, hI.keep 9 (by decide) (by decide), fun _ _ h => h, by rintro t' ⟨⟩; rfl⟩
                | 10, ho =>
                  obtain rfl := Option.some.inj ho
                  obtain ⟨_, h62, rfl⟩ := given_fed hg 62 (by decide +kernel)
                  clear hg
                  exact st_yield ho (wanted_none rfl) (.pointer (some ⟨s, 3, none⟩)) w6 (by simp [execOp, Act.eval, h62, go_sem]) ⟨_, rfl, hI.keep 10 (by decide) (by decide), fun _ _ h => h, by rintro t' ⟨⟩; rfl⟩
                | 11, ho =>
                  obtain rfl := Option.some.inj ho
                  obtain ⟨_, h63, rfl⟩ := given_fed hg 63 (by decide +kernel)
                  obtain ⟨_, h59, rfl⟩ := given_fed hg 59 (by decide +kernel)
                  clear hg
                  have hfz := frozen_of_row w6 s 3 _ _ hI.st
                  have hc := (cell_of5 hI.st).2.2.2.1
                  exact st_done ho (wanted_none rfl) (w6.setCell ⟨s, 3, none⟩ (.slice a2 n2 c2)) (by simp [execOp, Act.eval, h63, h59, go_sem, hfz, hc]) ⟨_, rfl, hI.set11, fun _ _ h => h, by rintro t' ⟨⟩⟩
                | n + 12, ho => simp at ho
              · intro f5 w7 done hall hI hv
                have h8 := hall 8 (by decide)
                have h11 := hall 11 (by decide)
                simp only [h8, h11] at hI
                have HI := Go.Lib.hid hI
                clear hI hv hall h8 h11 HI0
                unfold putAll
                simp only [List.foldl]
                go_simp
                go_wp2_with fail
                go_ret
                obtain ⟨hst7, hpl7, ho7⟩ := HI.out
                obtain ⟨hd6, hs6⟩ := HD6.out
                obtain ⟨hd5, hs5, ht5⟩ := HH5.out
                obtain ⟨ho6, ht6⟩ := HO6.out
                have aps := ap_dev hd6 HST6.out (by decide) (by decide)
                have app := ap_su hs6 HST6.out (by decide)
                have hrow : ∀ {e : TypeId} {Bz sz m : Nat} {v : Value} {xs : List Value}, w5.ownsRow Bz e sz v m xs → e ≠ 64 → e ≠ 88 → e ≠ 125 → e ≠ 73 → w7.ownsRow Bz e sz v m xs := fun hr e1 e2 e3 e4 =>
                  row_s (row_offs hr hd5 hs5 ho6 e1 e2 e3) HST6.out ho7 e4
                refine ⟨0, rfl, .inr (.inr (.inr (.inr ⟨HNN.out, HCNT.out, ?_, ?_, fnew f (lstB es') TL, es', TL, (allL G (lstB es') TL).length + 3, rfl, by have := HAL.out; omega, .inl ⟨rfl, _, ⟨⟨⟨_, _, hst7, OwnE.mono (hrow HX.out.1 (by decide) (by decide) (by decide) (by decide)) HLOW.out, OwnV.mono (hrow HX.out.2 (by decide) (by decide) (by decide) (by decide)) HLOW.out⟩, HSB.out⟩, hd6.offs ho7 (by simp; exact Ne.symm aps.1) (by simp; exact Ne.symm aps.2), ⟨_, hs6.offs ho7 (by simp; exact Ne.symm app) ?_⟩, HOKN.out.1, H.out.n0⟩, HOKN.out.2.1⟩⟩)))⟩
                · exact ((Offs.of_below HB5.out).trans (ho6.more (by simp +contextual))).trans (ho7.more (by simp +contextual))
                · exact tab_s ht6 ho7 HB.out HSB.out
                · intro k hk cs fr e
                  obtain rfl : k = s := by simpa using hk
                  rw [HST6.out] at e
                  simp only [Option.some.injEq, Obj.cells.injEq] at e
                  exact absurd e.2.1 (by decide)
            · have HD6 := Go.Lib.hid (And.intro hd6 (And.intro hs6 (And.intro hdead (And.intro hcut hj))))
              obtain ⟨-, -, -, -, y4⟩ := cell_of5 hst6
              have yfr := frozen_of_row w6 s 4 _ _ hst6
              have HS7 := Go.Lib.hid (heap_set hst6 4 (.bool true))
              clear z0 z1 z2 hd5 hs5 ht5 hpl6 hst6 ho6 ht6 hd6 hs6 CLAY hdead hcut hj
              go_wp2_with fail
              go_ret
              obtain ⟨hd6, hs6, hdead, hcut, hj⟩ := HD6.out
              obtain ⟨hd5, hs5, ht5⟩ := HH5.out
              obtain ⟨ho6, ht6⟩ := HO6.out
              have aps := ap_dev hd6 HST6.out (by decide) (by decide)
              have ho7 : Offs [s] w6 (w6.setCell ⟨s, 4, none⟩ (.bool true)) := (Offs.refl [s] w6).set (by simp) _ _
              have hrow : ∀ {e : TypeId} {Bz sz m : Nat} {v : Value} {xs : List Value}, w5.ownsRow Bz e sz v m xs → e ≠ 64 → e ≠ 88 → e ≠ 125 → e ≠ 73 → (w6.setCell ⟨s, 4, none⟩ (.bool true)).ownsRow Bz e sz v m xs := fun hr e1 e2 e3 e4 =>
                row_s (row_offs hr hd5 hs5 ho6 e1 e2 e3) HST6.out ho7 e4
              refine ⟨7, rfl, .inr (.inr (.inr (.inr ⟨HNN.out, HCNT.out, ?_, ?_, fnew f (lstB es') TL, es', TL, j, rfl, by have := HAL.out; omega, .inr ⟨rfl, hdead, ⟨⟨_, _, HS7.out, hrow HX5.out.1 (by decide) (by decide) (by decide) (by decide), hrow HX5.out.2 (by decide) (by decide) (by decide) (by decide)⟩, HSB.out⟩, S', hd6.offs ho7 (by simp; exact Ne.symm aps.1) (by simp; exact Ne.symm aps.2), HOKN.out.2.2 S' hcut⟩⟩)))⟩
              · exact ((Offs.of_below HB5.out).trans (ho6.more (by simp +contextual))).trans (ho7.more (by simp +contextual))
              · exact tab_s ht6 ho7 HB.out HSB.out
          · rw [decide_eq_false hwhole]
            have HNO := Go.Lib.hid (show NoRoom n es ls l from .inr ⟨F', es', hp, hpl, hpe, hmay, by
              rw [← hTL]
              rcases htk with h1 | ⟨h1, h2⟩
              · exact absurd h1 hwhole
              · exact ⟨h1, h2⟩⟩)
            obtain ⟨a0, c0, rfl, -⟩ := ho0.re.form
            obtain ⟨a1, c1, rfl, -⟩ := ho1.rb
            obtain ⟨a2, n2, c2, rfl⟩ := rv_sl ho2.rv
            obtain ⟨n0, hn0⟩ : ∃ n0, n0 = es'.length := ⟨_, rfl⟩
            obtain ⟨n1, hn1⟩ : ∃ n1, n1 = (lstB es').length := ⟨_, rfl⟩
            rw [← hn0, ← hn1]
            have HB5 := Go.Lib.hid (below_to HB4.out (Nat.le_refl _) (newB w4 (.cells #[.slice a0 n0 c0, .slice a1 n1 c1, .slice a2 n2 c2] 80)))
            clear ho0 ho1 ho2 hTL hnl htk hof hp hpl hpe hmay hwhole hn0 hn1
            go_wp2_with fail
            go_ret
            exact ⟨4, rfl, .inr (.inr (.inr (.inl ⟨rfl, HNN.out, HCNT.out, HNO.out, HB5.out⟩)))⟩
end

end Go.Proofs.YtnalokjnbccjnaaGreatDoor

namespace Go.Proofs.YtnalokjnbccjnaaGreatDoor
open Go.RowKit

/-- What stands while the files and the list are taken in. -/
structure KL (w0 : World) (s b3 : Nat) (p0 p1 z0 z1 vl vf : Value) (d7 d10 : Bool) (w : World) : Prop where
  st : w.heap[s]? = some (.cells #[p0, p1, if d7 = true then vf else .slice none 0 0, if d10 = true then vl else .slice none 0 0, .bool false] 73)
  pl : w.heap[b3]? = some (.cells #[z0, z1, vl] 69)
  of : Offs [s] w0 w
section
variable {w0 w : World} {s b3 : Nat} {p0 p1 z0 z1 vl vf : Value} {d7 d10 : Bool} {done : Nat → Bool}
theorem KL.drew (h : KL w0 s b3 p0 p1 z0 z1 vl vf d7 d10 w) : KL w0 s b3 p0 p1 z0 z1 vl vf d7 d10 w.drew := ⟨h.st, h.pl, ⟨h.of.os, h.of.tape, h.of.output, h.of.size, h.of.block⟩⟩
theorem KL.keep (h : KL w0 s b3 p0 p1 z0 z1 vl vf (done 7) (done 10) w) (i : Nat) (h7 : 7 ≠ i) (h10 : 10 ≠ i) : KL w0 s b3 p0 p1 z0 z1 vl vf (doneToo done i 7) (doneToo done i 10) w := by
  rw [doneToo_other h7, doneToo_other h10]
  exact h
theorem KL.ne (h : KL w0 s b3 p0 p1 z0 z1 vl vf d7 d10 w) : b3 ≠ s := by
  rintro rfl
  have h1 := h.st
  rw [h.pl] at h1
  simp only [Option.some.injEq, Obj.cells.injEq] at h1
  exact absurd h1.2.1 (by decide)
theorem KL.set7 (h : KL w0 s b3 p0 p1 z0 z1 vl vf (done 7) (done 10) w) : KL w0 s b3 p0 p1 z0 z1 vl vf (doneToo done 7 7) (doneToo done 7 10) (w.setCell ⟨s, 2, none⟩ vf) := by
  rw [doneToo_self, doneToo_other (by decide)]
  exact ⟨heap_set h.st 2 vf, (Below.heap_setCell _ _ _ _ h.ne).trans h.pl, h.of.set (by simp) _ _⟩
theorem KL.set10 (h : KL w0 s b3 p0 p1 z0 z1 vl vf (done 7) (done 10) w) : KL w0 s b3 p0 p1 z0 z1 vl vf (doneToo done 10 7) (doneToo done 10 10) (w.setCell ⟨s, 3, none⟩ vl) := by
  rw [doneToo_self, doneToo_other (by decide)]
  exact ⟨heap_set h.st 3 vl, (Below.heap_setCell _ _ _ _ h.ne).trans h.pl, h.of.set (by simp) _ _⟩
end
def VD (b3 sz : Nat) (sm : Int) (va vl : Value) : Nat → World → Value → Prop
  | 29, _, v => v = .bool true
  | 30, _, v => v = .bool false
  | 31, _, v => v = .bool false
  | 32, _, v => v = va
  | 33, _, v => v = .pointer (some ⟨b3, 2, none⟩)
  | 34, _, v => v = vl
  | 35, _, v => v = .agg #[.int .i64 (sz : Int), .int .i64 sm, vl]
  | 36, _, v => v = .int .i64 sm
  | 37, _, v => v = .pointer (some ⟨b3, 1, none⟩)
  | 38, _, v => v = .int .i64 sm
  | 39, _, v => v = .bool false
  | 40, _, v => v = .bool false
  | _, _, _ => True

theorem VD_below (b3 sz : Nat) (sm : Int) (va vl : Value) : ∀ (i : Nat) (w w' : World) (v : Value), VD b3 sz sm va vl i w v → Below w.heap.size w w' → VD b3 sz sm va vl i w' v := by
  intro i w w' v h hb
  unfold VD at h ⊢
  split at h <;> first | exact h | trivial | exact RB.below h hb | exact Own.below h hb

def VE8 (s b3 : Nat) (vf vl : Value) : Nat → Value → Prop
  | 41, v => v = .pointer (some ⟨s, 0, none⟩)
  | 42, v => v = .pointer (some ⟨s, 0, none⟩)
  | 43, v => v = vf
  | 44, v => v = .pointer (some ⟨b3, 2, none⟩)
  | 45, v => v = vl
  | 46, v => v = .pointer (some ⟨s, 0, none⟩)
  | 47, v => v = .pointer (some ⟨s, 2, none⟩)
  | 48, v => v = .pointer (some ⟨s, 0, none⟩)
  | 49, v => v = .pointer (some ⟨s, 3, none⟩)
  | _, _ => True
theorem field_sum (a b : Int) (v : Value) (W : World) : (Instr.field 69 (.agg #[.int .i64 a, .int .i64 b, v]) 1).run Tryz.prog W = .ok (.int .i64 b) W := by kernel_rfl

theorem ofiles_u {w : World} {v : Value} {tx : List UInt8} {es : List EntT} (hv : RB w v tx) (h : tx = [] ∧ es = [] ∨ tx = lstB es) (hm : MayL es) : Calls Tryz.prog 67 #[v] w fun e w' => ∃ v', e = .returned (.tuple #[v', .bool true]) ∧ OwnE w' w.heap.size v' es ∧ Below w.heap.size w w' := by
  rcases h with ⟨rfl, rfl⟩ | rfl
  · refine (ofiles_nil w v hv).mono ?_
    rintro e w' ⟨rfl, rfl⟩
    exact ⟨_, rfl, OwnE.nil _ _, Below.refl _ _⟩
  · refine ofiles_c hv ?_
    have h1 := lstB_pos es
    unfold filesB
    rw [if_neg (fun e => by rw [e] at h1; simp at h1)]
    exact decB_put hm

section
variable {w : World} {B B' s d p g n : Nat} {L : Life} {f : Found} {F : Nat → List UInt8} {es : List EntT} {ls : List Nat}
set_option maxHeartbeats 8000000 in
set_option maxRecDepth 100000 in
theorem oload_c (hd : DV w B d g n (calmS F) L) (hsu : SU w B' p d 0 f) (hT : Tab w) (hok : OkF n F f es ls) (hn : 64 ≤ n)
    (hs : w.heap[s]? = some (.cells #[.pointer (some ⟨d, 0, none⟩), .pointer (some ⟨p, 0, none⟩), .slice none 0 0, .slice none 0 0, .bool false] 73)) :
    Calls Tryz.prog 42 #[.pointer (some ⟨s, 0, none⟩)] w fun e w' => e = .returned (.bool true) ∧ Offs [s] w w' ∧ ST w' s s d p es ls false := by
  obtain ⟨tx, htx, hls, hrd, hlen, hes⟩ := hok.text
  obtain ⟨x0, x1, -⟩ := cell_of5 hs
  have HSLT := Go.Lib.hid (Array.getElem?_eq_some_iff.1 hs).1
  have HD := Go.Lib.hid hd
  have HT := Go.Lib.hid hT
  have HOK := Go.Lib.hid hok
  have HN := Go.Lib.hid hn
  have HS := Go.Lib.hid hs
  have HRD := Go.Lib.hid hrd
  have HES := Go.Lib.hid hes
  have HLEN := Go.Lib.hid (And.intro hlen hls)
  have HLOW := Go.Lib.hid (show ∀ i ∈ ls, i < n from fun i hi => (hok.used.list i hi).2)
  have HTX := Go.Lib.hid htx
  have C1 := Go.Lib.hid (stext_c hsu)
  obtain ⟨sz, hsz⟩ : ∃ sz : Nat, sz = tx.length := ⟨_, rfl⟩
  obtain ⟨sm, hsm⟩ : ∃ sm : Int, sm = ((crcSum tx).toNat : Int) := ⟨_, rfl⟩
  have HZ := Go.Lib.hid (And.intro hsz hsm)
  clear hd hsu hT hok hn hs htx hls hrd hlen hes hsz hsm
  go_enter Tryz.func42, Tryz.ntmps42
  go_wp2_with fail
  refine C1.out.mono ?_
  rintro e w1 ⟨v1, rfl, ho1, hb1⟩
  have C2 := odecode_c (w := w1) (v := v1) (size := tx.length) (sum := ((crcSum tx).toNat : Int)) (ls := ls) (by have := ho1.rb; rw [HTX.out] at this; exact this) (by have := HLEN.out.1; omega) ⟨by omega, by have := (crcSum tx).isLt; omega⟩ HLEN.out.2 (fun i hi => by have := HLOW.out i hi; have := HD.out.n1; omega)
  rw [← HZ.out.1, ← HZ.out.2] at C2
  have C2 := Go.Lib.hid C2
  obtain ⟨a1, c1, rfl, -⟩ := ho1.rb
  have HB1 := Go.Lib.hid hb1
  clear ho1 hb1 C1
  go_wp2_with fail
  refine C2.out.mono ?_
  rintro e w2 ⟨vl, rfl, ho2, hb2⟩
  obtain ⟨a2, n2, c2, rfl⟩ := rv_sl ho2.rv
  have hb12 := below_to HB1.out (Nat.le_refl _) hb2
  have hal := newB w2 (.cells #[.int .i64 (sz : Int), .int .i64 sm, .slice a2 n2 c2] 69)
  have hpl := heap_alloc_new w2 (.cells #[.int .i64 (sz : Int), .int .i64 sm, .slice a2 n2 c2] 69)
  obtain ⟨z0, z1, z2⟩ := cell_of3 hpl
  have hb13 := below_to hb12 (Nat.le_refl _) hal
  have ho23 := (OwnV.mono ho2 (B' := w.heap.size) HB1.out.size).below hal
  have C3 := oread_c (HD.out.below hb13) (keptR HS.out hb13) (.slice a2 n2 c2) ls sz (sz : Int) rfl (by rw [HZ.out.1]; have := HLEN.out.1; omega) ho23.rv HLOW.out
  rw [HZ.out.1, show readF (nowF (calmS F)) ls tx.length = tx from HRD.out, ← HZ.out.1] at C3
  have C3 := Go.Lib.hid C3
  have HB13 := Go.Lib.hid hb13
  have HO23 := Go.Lib.hid ho23
  have HPL := Go.Lib.hid hpl
  clear ho2 hb2 hb12 hal hpl hb13 ho23 C2
  go_wp2_with fail
  refine C3.out.mono ?_
  rintro e w4 ⟨v4, rfl, ho4, hb4⟩
  have C4 := Go.Lib.hid (ofiles_u ho4.rb HES.out HOK.out.may)
  have HO4 := Go.Lib.hid (ho4.mono (B' := w.heap.size) HB13.out.size)
  obtain ⟨a4, n4, c4, rfl⟩ : ∃ a n c, v4 = .slice a n c := by obtain ⟨a, c, h, -⟩ := ho4.rb; exact ⟨a, _, c, h⟩
  have HB14 := Go.Lib.hid (below_to HB13.out (Nat.le_refl _) hb4)
  have HB34 := Go.Lib.hid hb4
  clear ho4 hb4 C3
  go_wp2_with fail
  refine C4.out.mono ?_
  rintro e w5 ⟨vf, rfl, ho5, hb5⟩
  have HO5 := Go.Lib.hid (OwnE.mono ho5 (B' := w.heap.size) HB14.out.size)
  obtain ⟨a5, n5, c5, rfl⟩ : ∃ a n c, vf = .slice a n c := by obtain ⟨a, c, h, -⟩ := ho5.re.form; exact ⟨a, _, c, h⟩
  have HB15 := Go.Lib.hid (below_to HB14.out (Nat.le_refl _) hb5)
  have hb35 := below_to HB34.out (Nat.le_refl _) hb5
  obtain ⟨b3, hb3⟩ : ∃ b3, b3 = w2.heap.size := ⟨_, rfl⟩
  have HPL5 := Go.Lib.hid (show w5.heap[b3]? = some (.cells #[.int .i64 (sz : Int), .int .i64 sm, .slice a2 n2 c2] 69) from by rw [hb3]; exact keptR HPL.out hb35)
  have HV5 := Go.Lib.hid (HO4.out.below hb5)
  have HL5 := Go.Lib.hid (HO23.out.below hb35)
  have HB3 := Go.Lib.hid hb3
  have CH := Go.Lib.hid (show ∀ W, Below w5.heap.size w5 W → Calls Tryz.prog 64 #[.slice a4 n4 c4, .slice a2 n2 c2] W fun e w' => e = .returned (.agg #[.int .i64 (sz : Int), .int .i64 sm, .slice a2 n2 c2]) ∧ Below W.heap.size W w' from fun W hW => by
    rw [HZ.out.1, HZ.out.2]
    exact oheadof_c ((HT.out.below HB15.out).below hW) (HV5.out.below hW).rb (HL5.out.below hW).rv)
  have HCC := Go.Lib.hid (show ∀ W, Below w5.heap.size w5 W → W.cell? ⟨b3, 1, none⟩ = some (.int .i64 sm) ∧ W.cell? ⟨b3, 2, none⟩ = some (.slice a2 n2 c2) from fun W hW => (cell_of3 (keptR HPL5.out hW)).2)
  clear ho5 hb5 C4 hb35 x0 x1 z0 z1 z2
  go_upto_region 6 with (fail)
  rw [← hb3]
  clear hb3
  refine wp_region_each (by kernel_rfl) (VD b3 sz sm (.slice a4 n4 c4) (.slice a2 n2 c2)) (VD_below b3 sz sm (.slice a4 n4 c4) (.slice a2 n2 c2)) (by decide +kernel) (by decide +kernel) (by rfl) [29, 30, 31, 32, 33, 34, 35, 36, 37, 38, 39, 40] (by rfl) ?_ ?_
  · intro i o ho a w6 hb6 hlen hg
    have hcc := HCC.out w6 hb6
    match i, ho with
    | 0, ho =>
      obtain rfl := Option.some.inj ho
      have h4 := given_old hg 4 (by decide +kernel)
      clear hg
      exact st_yield ho (wanted_none rfl) (.bool true) w6 (by simp [execOp, Act.eval, h4, go_sem]) ⟨_, rfl, Below.refl _ _, by rintro t' ⟨⟩; rfl⟩
    | 1, ho =>
      obtain rfl := Option.some.inj ho
      obtain ⟨_, h29, rfl⟩ := given_fed hg 29 (by decide +kernel)
      clear hg
      exact st_yield ho (wanted_none rfl) (.bool false) w6 (by simp [execOp, Act.eval, h29, go_sem]) ⟨_, rfl, Below.refl _ _, by rintro t' ⟨⟩; rfl⟩
    | 2, ho =>
      obtain rfl := Option.some.inj ho
      obtain ⟨_, h30, rfl⟩ := given_fed hg 30 (by decide +kernel)
      clear hg
      exact st_yield ho (wanted_none rfl) (.bool false) w6 (by simp [execOp, Act.eval, h30, go_sem]) ⟨_, rfl, Below.refl _ _, by rintro t' ⟨⟩; rfl⟩
    | 3, ho =>
      obtain rfl := Option.some.inj ho
      have h5 := given_old hg 5 (by decide +kernel)
      obtain ⟨_, h31, rfl⟩ := given_fed hg 31 (by decide +kernel)
      clear hg
      exact st_yield ho (wanted_some rfl rfl h31 rfl) (.slice a4 n4 c4) w6 (by simp [execOp, Act.eval, h5, go_sem]) ⟨_, rfl, Below.refl _ _, by rintro t' ⟨⟩; rfl⟩
    | 4, ho =>
      obtain rfl := Option.some.inj ho
      have h3 := given_old hg 3 (by decide +kernel)
      obtain ⟨_, h31, rfl⟩ := given_fed hg 31 (by decide +kernel)
      clear hg
      exact st_yield ho (wanted_some rfl rfl h31 rfl) (.pointer (some ⟨b3, 2, none⟩)) w6 (by simp [execOp, Act.eval, h3, go_sem]) ⟨_, rfl, Below.refl _ _, by rintro t' ⟨⟩; rfl⟩
    | 5, ho =>
      obtain rfl := Option.some.inj ho
      obtain ⟨_, h33, rfl⟩ := given_fed hg 33 (by decide +kernel)
      obtain ⟨_, h31, rfl⟩ := given_fed hg 31 (by decide +kernel)
      clear hg
      exact st_yield ho (wanted_some rfl rfl h31 rfl) (.slice a2 n2 c2) w6 (by simp [execOp, Act.eval, h33, go_sem, hcc.2]) ⟨_, rfl, Below.refl _ _, by rintro t' ⟨⟩; rfl⟩
    | 6, ho =>
      obtain rfl := Option.some.inj ho
      obtain ⟨_, h32, rfl⟩ := given_fed hg 32 (by decide +kernel)
      obtain ⟨_, h34, rfl⟩ := given_fed hg 34 (by decide +kernel)
      obtain ⟨_, h31, rfl⟩ := given_fed hg 31 (by decide +kernel)
      clear hg
      exact st_enter (w1 := w6) ho (wanted_some rfl rfl h31 rfl) 64 #[.slice a4 n4 c4, .slice a2 n2 c2] (by simp [execOp, Act.eval, h32, h34, resolve, go_sem]) ((CH.out w6 hb6).mono (by rintro e w7 ⟨rfl, hb7⟩; exact ⟨_, rfl, _, rfl, hb7, by rintro t' ⟨⟩; rfl⟩))
    | 7, ho =>
      obtain rfl := Option.some.inj ho
      obtain ⟨_, h35, rfl⟩ := given_fed hg 35 (by decide +kernel)
      obtain ⟨_, h31, rfl⟩ := given_fed hg 31 (by decide +kernel)
      clear hg
      exact st_yield ho (wanted_some rfl rfl h31 rfl) (.int .i64 sm) w6 (by simp [execOp, Act.eval, h35, go_sem, field_sum, Result.andThen]) ⟨_, rfl, Below.refl _ _, by rintro t' ⟨⟩; rfl⟩
    | 8, ho =>
      obtain rfl := Option.some.inj ho
      have h3 := given_old hg 3 (by decide +kernel)
      obtain ⟨_, h31, rfl⟩ := given_fed hg 31 (by decide +kernel)
      clear hg
      exact st_yield ho (wanted_some rfl rfl h31 rfl) (.pointer (some ⟨b3, 1, none⟩)) w6 (by simp [execOp, Act.eval, h3, go_sem]) ⟨_, rfl, Below.refl _ _, by rintro t' ⟨⟩; rfl⟩
    | 9, ho =>
      obtain rfl := Option.some.inj ho
      obtain ⟨_, h37, rfl⟩ := given_fed hg 37 (by decide +kernel)
      obtain ⟨_, h31, rfl⟩ := given_fed hg 31 (by decide +kernel)
      clear hg
      exact st_yield ho (wanted_some rfl rfl h31 rfl) (.int .i64 sm) w6 (by simp [execOp, Act.eval, h37, go_sem, hcc.1]) ⟨_, rfl, Below.refl _ _, by rintro t' ⟨⟩; rfl⟩
    | 10, ho =>
      obtain rfl := Option.some.inj ho
      obtain ⟨_, h36, rfl⟩ := given_fed hg 36 (by decide +kernel)
      obtain ⟨_, h38, rfl⟩ := given_fed hg 38 (by decide +kernel)
      obtain ⟨_, h31, rfl⟩ := given_fed hg 31 (by decide +kernel)
      clear hg
      exact st_yield ho (wanted_some rfl rfl h31 rfl) (.bool false) w6 (by simp [execOp, Act.eval, h36, h38, go_sem]) ⟨_, rfl, Below.refl _ _, by rintro t' ⟨⟩; rfl⟩
    | 11, ho =>
      obtain rfl := Option.some.inj ho
      obtain ⟨_, h31, rfl⟩ := given_fed hg 31 (by decide +kernel)
      obtain ⟨_, h39, rfl⟩ := given_fed hg 39 (by decide +kernel)
      clear hg
      exact st_yield ho (wanted_none rfl) (.bool false) w6 (by simp [execOp, Act.eval, h31, h39, go_sem]) ⟨_, rfl, Below.refl _ _, by rintro t' ⟨⟩; rfl⟩
    | n + 12, ho => simp at ho
  · intro f5 w6 hb6 hv
    have h40 := hv 40 (by decide)
    simp only [VD] at h40
    have HB16 := Go.Lib.hid (below_to HB15.out (Nat.le_refl _) hb6)
    have HI0 := Go.Lib.hid (show KL w6 s b3 (.pointer (some ⟨d, 0, none⟩)) (.pointer (some ⟨p, 0, none⟩)) (.int .i64 (sz : Int)) (.int .i64 sm) (.slice a2 n2 c2) (.slice a5 n5 c5) false false w6 from ⟨keptR HS.out HB16.out, keptR HPL5.out hb6, Offs.refl _ _⟩)
    have HX := Go.Lib.hid (And.intro (HO5.out.below hb6) (HL5.out.below hb6))
    clear hv hb6 CH HCC
    unfold putAll
    simp only [List.foldl]
    simp only [h40]
    go_simp
    clear h40
    go_upto_region 8 with (fail)
    refine wp_region_inv (by kernel_rfl) (fun t _ v => VE8 s b3 (.slice a5 n5 c5) (.slice a2 n2 c2) t v) (fun done W => KL w6 s b3 (.pointer (some ⟨d, 0, none⟩)) (.pointer (some ⟨p, 0, none⟩)) (.int .i64 (sz : Int)) (.int .i64 sm) (.slice a2 n2 c2) (.slice a5 n5 c5) (done 7) (done 10) W) (by decide +kernel) (by decide +kernel) (by rfl) [41, 42, 43, 44, 45, 46, 47, 48, 49] (by rfl) HI0.out.drew ?_ ?_
    · intro i o ho a w6 done hI hnot hr hlen hg
      match i, ho with
      | 0, ho =>
        obtain rfl := Option.some.inj ho
        have h0 := given_old hg 0 (by decide +kernel)
        clear hg
        exact st_yield ho (wanted_none rfl) (.pointer (some ⟨s, 0, none⟩)) w6 (by simp [execOp, Act.eval, h0, go_sem]) ⟨_, rfl, hI.keep 0 (by decide) (by decide), fun _ _ h => h, by rintro t' ⟨⟩; rfl⟩
      | 1, ho =>
        obtain rfl := Option.some.inj ho
        have h0 := given_old hg 0 (by decide +kernel)
        clear hg
        exact st_yield ho (wanted_none rfl) (.pointer (some ⟨s, 0, none⟩)) w6 (by simp [execOp, Act.eval, h0, go_sem]) ⟨_, rfl, hI.keep 1 (by decide) (by decide), fun _ _ h => h, by rintro t' ⟨⟩; rfl⟩
      | 2, ho =>
        obtain rfl := Option.some.inj ho
        have h6 := given_old hg 6 (by decide +kernel)
        clear hg
        exact st_yield ho (wanted_none rfl) (.slice a5 n5 c5) w6 (by simp [execOp, Act.eval, h6, go_sem]) ⟨_, rfl, hI.keep 2 (by decide) (by decide), fun _ _ h => h, by rintro t' ⟨⟩; rfl⟩
      | 3, ho =>
        obtain rfl := Option.some.inj ho
        have h3 := given_old hg 3 (by decide +kernel)
        clear hg
        exact st_yield ho (wanted_none rfl) (.pointer (some ⟨b3, 2, none⟩)) w6 (by simp [execOp, Act.eval, h3, go_sem]) ⟨_, rfl, hI.keep 3 (by decide) (by decide), fun _ _ h => h, by rintro t' ⟨⟩; rfl⟩
      | 4, ho =>
        obtain rfl := Option.some.inj ho
        obtain ⟨_, h44, rfl⟩ := given_fed hg 44 (by decide +kernel)
        clear hg
        have hc2 := (cell_of3 hI.pl).2.2
        exact st_yield ho (wanted_none rfl) (.slice a2 n2 c2) w6 (by simp [execOp, Act.eval, h44, hc2, go_sem]) ⟨_, rfl, hI.keep 4 (by decide) (by decide), fun _ _ h => h, by rintro t' ⟨⟩; rfl⟩
      | 5, ho =>
        obtain rfl := Option.some.inj ho
        obtain ⟨_, h41, rfl⟩ := given_fed hg 41 (by decide +kernel)
        clear hg
        exact st_yield ho (wanted_none rfl) (.pointer (some ⟨s, 0, none⟩)) w6 (by simp [execOp, Act.eval, h41, go_sem]) ⟨_, rfl, hI.keep 5 (by decide) (by decide), fun _ _ h => h, by rintro t' ⟨⟩; rfl⟩
      | 6, ho =>
        obtain rfl := Option.some.inj ho
        obtain ⟨_, h46, rfl⟩ := given_fed hg 46 (by decide +kernel)
        clear hg
        exact st_yield ho (wanted_none rfl) (.pointer (some ⟨s, 2, none⟩)) w6 (by simp [execOp, Act.eval, h46, go_sem]) ⟨_, rfl, hI.keep 6 (by decide) (by decide), fun _ _ h => h, by rintro t' ⟨⟩; rfl⟩
      | 7, ho =>
        obtain rfl := Option.some.inj ho
        obtain ⟨_, h47, rfl⟩ := given_fed hg 47 (by decide +kernel)
        obtain ⟨_, h43, rfl⟩ := given_fed hg 43 (by decide +kernel)
        clear hg
        have hfz := frozen_of_row w6 s 2 _ _ hI.st
        have hc := (cell_of5 hI.st).2.2.1
        exact st_done ho (wanted_none rfl) (w6.setCell ⟨s, 2, none⟩ (.slice a5 n5 c5)) (by simp [execOp, Act.eval, h47, h43, go_sem, hfz, hc]) ⟨_, rfl, hI.set7, fun _ _ h => h, by rintro t' ⟨⟩⟩
      | 8, ho =>
        obtain rfl := Option.some.inj ho
        obtain ⟨_, h42, rfl⟩ := given_fed hg 42 (by decide +kernel)
        clear hg
        exact st_yield ho (wanted_none rfl) (.pointer (some ⟨s, 0, none⟩)) w6 (by simp [execOp, Act.eval, h42, go_sem]) ⟨_, rfl, hI.keep 8 (by decide) (by decide), fun _ _ h => h, by rintro t' ⟨⟩; rfl⟩
      | 9, ho =>
        obtain rfl := Option.some.inj ho
        obtain ⟨_, h48, rfl⟩ := given_fed hg 48 (by decide +kernel)
        clear hg
        exact st_yield ho (wanted_none rfl) (.pointer (some ⟨s, 3, none⟩)) w6 (by simp [execOp, Act.eval, h48, go_sem]) ⟨_, rfl, hI.keep 9 (by decide) (by decide), fun _ _ h => h, by rintro t' ⟨⟩; rfl⟩
      | 10, ho =>
        obtain rfl := Option.some.inj ho
        obtain ⟨_, h49, rfl⟩ := given_fed hg 49 (by decide +kernel)
        obtain ⟨_, h45, rfl⟩ := given_fed hg 45 (by decide +kernel)
        clear hg
        have hfz := frozen_of_row w6 s 3 _ _ hI.st
        have hc := (cell_of5 hI.st).2.2.2.1
        exact st_done ho (wanted_none rfl) (w6.setCell ⟨s, 3, none⟩ (.slice a2 n2 c2)) (by simp [execOp, Act.eval, h49, h45, go_sem, hfz, hc]) ⟨_, rfl, hI.set10, fun _ _ h => h, by rintro t' ⟨⟩⟩
      | n + 11, ho => simp at ho
    · intro f6 w7 done hall hI hv
      have h7 := hall 7 (by decide)
      have h10 := hall 10 (by decide)
      simp only [h7, h10] at hI
      have hrow : ∀ {e : TypeId} {Bz sz m : Nat} {v : Value} {xs : List Value}, w6.ownsRow Bz e sz v m xs → e ≠ 73 → w7.ownsRow Bz e sz v m xs := fun hr e4 => row_s hr (keptR HS.out HB16.out) hI.of e4
      have hst7 : ST w7 s s d p es ls false := ⟨⟨_, _, hI.st, OwnE.mono (hrow HX.out.1 (by decide)) (Nat.le_of_lt HSLT.out), OwnV.mono (hrow HX.out.2 (by decide)) (Nat.le_of_lt HSLT.out)⟩, Nat.le_refl _⟩
      have hd7 : DV w7 0 d g n (calmS F) L := by
        have hd6 := (HD.out.below HB16.out).mono (B' := 0) (Nat.zero_le _)
        have aps := ap_dev hd6 (keptR HS.out HB16.out) (by decide) (by decide)
        exact hd6.offs hI.of (by simp; exact Ne.symm aps.1) (by simp; exact Ne.symm aps.2)
      have C5 := Go.Lib.hid (left_c hst7 hd7 HN.out HOK.out.used)
      have HF := Go.Lib.hid (And.intro hst7 ((Offs.of_below (l := [s]) HB16.out).trans hI.of))
      clear hI hv hall h7 h10 HI0 hrow hst7 hd7
      unfold putAll
      simp only [List.foldl]
      go_simp
      go_wp2_with fail
      refine C5.out.mono ?_
      rintro e w8 ⟨rf, rl, vf8, vl8, rfl, -, hb8⟩
      have HB8 := Go.Lib.hid hb8
      clear hb8 C5
      go_wp2_with fail
      go_ret
      exact ⟨rfl, HF.out.2.trans (Offs.of_below HB8.out), HF.out.1.below HB8.out⟩
end

end Go.Proofs.YtnalokjnbccjnaaGreatDoor
