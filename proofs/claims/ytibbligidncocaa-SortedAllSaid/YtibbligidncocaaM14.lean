/-
  Mathematics of stage 17 (of no code): who lies where. A hash's two buckets, told as a pair; slots that hold just what is there; who has room.
  Which record may be, of a record as one letter.
  Mathematics of a log (of no code): records of different keys in the order in which they came, their entries, the same ones by rising keys.
-/
import Derived.Test.YtibbligidncocaaM04
import Derived.Test.YtibbligidncocaaM12
import Derived.Test.YtibbligidncocaaM13
import Derived.Test.YtibbligidncocaaM06
namespace Go.Proofs.Ytibbligidncocaa

/-! ### Two buckets. -/
def othN (b t : Nat) : Nat := b ^^^ (1 + t % 7)
theorem xor_facts : ∀ b c : Fin 8, ∀ m : Fin 7, (b.val ^^^ (1 + m.val) < 8 ∧ (b.val ^^^ (1 + m.val)) ^^^ (1 + m.val) = b.val ∧ b.val ^^^ (1 + m.val) ≠ b.val ∧
    (min b.val (b.val ^^^ (1 + m.val)) = min c.val (c.val ^^^ (1 + m.val)) ↔ (b.val = c.val ∨ b.val = c.val ^^^ (1 + m.val)))) := by decide +kernel
theorem oth_all {b c : Nat} (t : Nat) (hb : b < 8) (hc : c < 8) : othN b t < 8 ∧ othN (othN b t) t = b ∧ othN b t ≠ b ∧ (min b (othN b t) = min c (othN c t) ↔ (b = c ∨ b = othN c t)) :=
  xor_facts ⟨b, hb⟩ ⟨c, hc⟩ ⟨t % 7, Nat.mod_lt _ (by omega)⟩
theorem oth_lt {b : Nat} (t : Nat) (hb : b < 8) : othN b t < 8 := (oth_all t hb hb).1
theorem oth_oth {b : Nat} (t : Nat) (hb : b < 8) : othN (othN b t) t = b := (oth_all t hb hb).2.1
theorem oth_ne {b : Nat} (t : Nat) (hb : b < 8) : othN b t ≠ b := (oth_all t hb hb).2.2.1
theorem first_lt (h : Nat) : firstN h < 8 := by unfold firstN; omega
theorem tag_lt (h : Nat) : tagN h < 32768 := by unfold tagN; omega
theorem otherI_nat {b t : Nat} (hb : b < 8) (ht : t < 32768) : otherI (b : Int) (t : Int) = (othN b t : Int) := otherI_ok (by omega) (by omega)

/-- The pair that bucket b and its other one are, with the tag. -/
def keyN (b t : Nat) : Nat × Nat := (min b (othN b t), t)
theorem keyN_iff {b c t u : Nat} (hb : b < 8) (hc : c < 8) : keyN b t = keyN c u ↔ t = u ∧ (b = c ∨ b = othN c u) := by
  unfold keyN
  rw [Prod.mk.injEq]
  constructor
  · rintro ⟨h1, h2⟩
    subst h2
    exact ⟨rfl, (oth_all t hb hc).2.2.2.1 h1⟩
  · rintro ⟨h1, h2⟩
    subst h1
    exact ⟨(oth_all t hb hc).2.2.2.2 h2, rfl⟩
theorem keyN_oth {b : Nat} (t : Nat) (hb : b < 8) : keyN (othN b t) t = keyN b t := (keyN_iff (oth_lt t hb) hb).2 ⟨rfl, .inr rfl⟩
/-- An entry: its hash, its number. -/
abbrev EnT := Nat × Int
def keyH (h : Nat) : Nat × Nat := keyN (firstN h) (tagN h)
def keyE (e : EnT) : (Nat × Nat) × Int := (keyH e.1, e.2)
def nearN (a b : Nat) : Bool := tagN a == tagN b && (firstN a == firstN b || firstN a == othN (firstN b) (tagN b))
theorem near_iff (a b : Nat) : nearN a b = true ↔ keyH a = keyH b := by
  unfold nearN keyH
  rw [keyN_iff (first_lt a) (first_lt b)]
  simp

/-! ### Slots: eight buckets of four; slot 4 * b + s. -/
abbrev SlT := Nat → Option (Nat × Int)
/-- Bucket, tag, number. -/
def slL (T : SlT) : List (Nat × Nat × Int) := (List.range 32).filterMap fun q => (T q).map fun x => (q / 4, x.1, x.2)
def keyS (x : Nat × Nat × Int) : (Nat × Nat) × Int := (keyN x.1 x.2.1, x.2.2)
/-- The slots hold just those that are there. -/
def Fits (T : SlT) (es : List EnT) : Prop := ((slL T).map keyS).Perm (es.map keyE)
def TOk (T : SlT) : Prop := ∀ q x, T q = some x → q < 32 ∧ x.1 < 32768
theorem slL_bucket {T : SlT} {x : Nat × Nat × Int} (h : x ∈ slL T) : x.1 < 8 := by
  obtain ⟨q, hq, hx⟩ := List.mem_filterMap.1 h
  rw [Option.map_eq_some_iff] at hx
  obtain ⟨y, -, rfl⟩ := hx
  have := List.mem_range.1 hq
  show q / 4 < 8
  omega
theorem slL_none {T : SlT} (h : ∀ q, q < 32 → T q = none) : slL T = [] := by
  unfold slL
  rw [List.filterMap_eq_nil_iff]
  intro q hq
  rw [h q (List.mem_range.1 hq)]
  rfl
theorem Fits.empty {T : SlT} (h : ∀ q, q < 32 → T q = none) : Fits T [] := by unfold Fits; rw [slL_none h]; exact List.Perm.refl _
theorem Fits.length {T : SlT} {es : List EnT} (h : Fits T es) : (slL T).length = es.length := by
  have := List.Perm.length_eq h
  simpa using this
theorem Fits.perm {T : SlT} {es fs : List EnT} (h : Fits T es) (g : (es.map keyE).Perm (fs.map keyE)) : Fits T fs := List.Perm.trans h g

/-- A slot is written. -/
def layT (T : SlT) (q : Nat) (x : Option (Nat × Int)) : SlT := fun k => if k = q then x else T k
theorem fm_congr {α β : Type} {f g : α → Option β} : ∀ {l : List α}, (∀ x ∈ l, f x = g x) → l.filterMap f = l.filterMap g
  | [], _ => rfl
  | x :: l, h => by
    rw [List.filterMap_cons, List.filterMap_cons, h x (List.mem_cons_self ..), fm_congr (l := l) fun y hy => h y (List.mem_cons_of_mem _ hy)]
theorem range_split {q : Nat} (h : q < 32) : List.range 32 = List.range q ++ q :: (List.range (31 - q)).map (fun k => q + 1 + k) := by
  apply List.ext_getElem
  · simp; omega
  · intro i h1 h2
    rw [List.getElem_range]
    by_cases hi : i < q
    · rw [List.getElem_append_left (by simpa using hi), List.getElem_range]
    · by_cases hq : i = q
      · subst hq; simp
      · rw [List.getElem_append_right (by simp; omega)]
        simp only [List.length_range]
        rw [List.getElem_cons, dif_neg (by omega), List.getElem_map, List.getElem_range]
        omega
theorem slL_split (T : SlT) {q : Nat} (h : q < 32) : ∃ a b, (∀ x, slL (layT T q x) = a ++ ((x.map fun y => (q / 4, y.1, y.2)).toList ++ b)) ∧ slL T = a ++ (((T q).map fun y => (q / 4, y.1, y.2)).toList ++ b) := by
  refine ⟨(List.range q).filterMap fun k => (T k).map fun x => (k / 4, x.1, x.2), ((List.range (31 - q)).map (fun k => q + 1 + k)).filterMap fun k => (T k).map fun x => (k / 4, x.1, x.2), fun x => ?_, ?_⟩
  · unfold slL
    rw [range_split h, List.filterMap_append]
    congr 1
    · exact fm_congr fun k hk => by
        have := List.mem_range.1 hk
        unfold layT
        rw [if_neg (by omega)]
    · have e : ((List.range (31 - q)).map (fun k => q + 1 + k)).filterMap (fun k => (layT T q x k).map fun x => (k / 4, x.1, x.2)) = ((List.range (31 - q)).map (fun k => q + 1 + k)).filterMap fun k => (T k).map fun x => (k / 4, x.1, x.2) := fm_congr fun k hk => by
        obtain ⟨j, -, rfl⟩ := List.mem_map.1 hk
        unfold layT
        rw [if_neg (by omega)]
      rw [List.filterMap_cons, e]
      unfold layT
      rw [if_pos rfl]
      cases x <;> rfl
  · unfold slL
    rw [range_split h, List.filterMap_append]
    congr 1
    rw [List.filterMap_cons]
    cases T q <;> rfl
/-- An empty slot is filled with an entry of the pair. -/
theorem Fits.fill {T : SlT} {es : List EnT} (h : Fits T es) {q : Nat} (hq : q < 32) (he : T q = none) (e : EnT) (hk : keyN (q / 4) (tagN e.1) = keyH e.1) : Fits (layT T q (some (tagN e.1, e.2))) (es ++ [e]) := by
  obtain ⟨a, b, h1, h2⟩ := slL_split T hq
  unfold Fits at *
  rw [h1]
  rw [h2, he] at h
  simp only [Option.map_none, Option.toList_none, List.nil_append, List.map_append] at h
  simp only [Option.map_some, Option.toList_some, List.map_append, List.map_cons, List.map_nil, List.singleton_append]
  have e1 : keyS (q / 4, tagN e.1, e.2) = keyE e := by unfold keyS keyE; simp only []; rw [hk]
  rw [e1]
  exact (List.perm_middle.trans (List.Perm.cons _ h)).trans (List.perm_append_singleton _ _).symm
/-- An entry moves to an empty slot of its pair. -/
theorem Fits.move {T : SlT} {es : List EnT} (h : Fits T es) {p q : Nat} (hp : p < 32) (hq : q < 32) {x : Nat × Int} (hx : T p = some x) (he : T q = none) (hk : keyN (q / 4) x.1 = keyN (p / 4) x.1) : Fits (layT (layT T q (some x)) p none) es := by
  have hpq : p ≠ q := by intro e; subst e; rw [hx] at he; cases he
  obtain ⟨a, b, h1, h2⟩ := slL_split T hq
  obtain ⟨c, d, h3, h4⟩ := slL_split (layT T q (some x)) hp
  have e1 : layT T q (some x) p = some x := by unfold layT; rw [if_neg hpq]; exact hx
  unfold Fits at *
  have hP : ((slL (layT T q (some x))).map keyS).Perm (keyS (q / 4, x.1, x.2) :: (slL T).map keyS) := by
    rw [h1, h2, he]
    simp only [Option.map_some, Option.map_none, Option.toList_some, Option.toList_none, List.nil_append, List.map_append, List.map_cons, List.singleton_append]
    exact List.perm_middle
  have hQ : (keyS (p / 4, x.1, x.2) :: (slL (layT (layT T q (some x)) p none)).map keyS).Perm ((slL (layT T q (some x))).map keyS) := by
    rw [h3, h4, e1]
    simp only [Option.map_some, Option.map_none, Option.toList_some, Option.toList_none, List.nil_append, List.map_append, List.map_cons, List.singleton_append]
    exact List.perm_middle.symm
  have e2 : keyS (q / 4, x.1, x.2) = keyS (p / 4, x.1, x.2) := by unfold keyS; simp only []; rw [hk]
  rw [e2] at hP
  exact ((List.Perm.cons_inv (hQ.trans hP))).trans h
theorem erase_perm {α : Type} : ∀ (l : List α) (k : Nat) (h : k < l.length), l.Perm (l[k] :: l.eraseIdx k)
  | x :: l, 0, _ => List.Perm.refl _
  | x :: l, k + 1, h => ((erase_perm l k (by simpa using h)).cons x).trans (List.Perm.swap _ _ _)
/-- A slot's number turns. -/
theorem Fits.turn {T : SlT} {es : List EnT} (h : Fits T es) {q : Nat} (hq : q < 32) {x : Nat × Int} (hx : T q = some x) {k : Nat} (hk : k < es.length) (he : keyE es[k] = keyS (q / 4, x.1, x.2)) (i : Int) : Fits (layT T q (some (x.1, i))) (es.set k (es[k].1, i)) := by
  obtain ⟨a, b, h1, h2⟩ := slL_split T hq
  unfold Fits at *
  rw [h1]
  rw [h2, hx] at h
  simp only [Option.map_some, Option.toList_some, List.map_append, List.map_cons, List.singleton_append] at h ⊢
  have e1 : es.Perm (es[k] :: es.eraseIdx k) := erase_perm es k hk
  have e2 : (es.set k (es[k].1, i)).Perm ((es[k].1, i) :: es.eraseIdx k) := by
    have hk2 : k < (es.set k (es[k].1, i)).length := by rw [List.length_set]; exact hk
    have := erase_perm _ k hk2
    rw [List.getElem_set_self, List.eraseIdx_set_eq] at this
    exact this
  have h3 := (List.perm_middle.symm.trans h).trans (e1.map keyE)
  rw [List.map_cons, ← he] at h3
  have h4 := List.Perm.cons_inv h3
  refine (List.perm_middle.trans ?_).trans (e2.map keyE).symm
  rw [List.map_cons]
  have e3 : keyS (q / 4, x.1, i) = keyE (es[k].1, i) := by
    unfold keyS keyE at *
    simp only [Prod.mk.injEq] at he ⊢
    exact ⟨he.1.symm, trivial⟩
  rw [e3]
  exact List.Perm.cons _ h4

/-! ### Who has room. -/
def bitN (S b : Nat) : Nat := S / 2 ^ b % 2
def roomN (S : Nat) : Nat := ((List.range 8).map fun b => 4 * bitN S b).sum
def inS (S h : Nat) : Bool := bitN S (firstN h) == 1 && bitN S (othN (firstN h) (tagN h)) == 1
def cntN (S : Nat) (hs : List Nat) : Nat := hs.countP (inS S)
def roomB (hs : List Nat) : Bool := (List.range 256).all fun S => decide (cntN S hs ≤ roomN S)
theorem room_slots : ∀ S : Fin 256, (List.range 32).countP (fun q => bitN S.val (q / 4) == 1) = roomN S.val := by decide +kernel
/-- Are both buckets of a pair in the set? -/
def inK (S : Nat) (k : (Nat × Nat) × Int) : Bool := bitN S k.1.1 == 1 && bitN S (othN k.1.1 k.1.2) == 1
theorem inK_of (S b t : Nat) (i : Int) (hb : b < 8) : inK S (keyN b t, i) = (bitN S b == 1 && bitN S (othN b t) == 1) := by
  unfold inK keyN
  simp only []
  rcases Nat.le_total b (othN b t) with h | h
  · rw [Nat.min_eq_left h]
  · rw [Nat.min_eq_right h, oth_oth t hb, Bool.and_comm]
theorem inK_e (S : Nat) (e : EnT) : inK S (keyE e) = inS S e.1 := inK_of S _ _ _ (first_lt e.1)
theorem cnt_keys (S : Nat) (es : List EnT) : cntN S (es.map Prod.fst) = (es.map keyE).countP (inK S) := by
  unfold cntN
  rw [List.countP_map, List.countP_map]
  exact List.countP_congr fun e _ => by simp only [Function.comp]; rw [inK_e]
theorem cnt_slots {T : SlT} {es : List EnT} (h : Fits T es) (S : Nat) : cntN S (es.map Prod.fst) = (slL T).countP fun x => bitN S x.1 == 1 && bitN S (othN x.1 x.2.1) == 1 := by
  rw [cnt_keys, ← List.Perm.countP_eq _ h, List.countP_map]
  exact List.countP_congr fun x hx => by simp only [Function.comp]; unfold keyS; rw [inK_of _ _ _ _ (slL_bucket hx)]
theorem slL_count (T : SlT) (p : Nat × Nat × Int → Bool) : (slL T).countP p = (List.range 32).countP fun q => match T q with | some x => p (q / 4, x.1, x.2) | none => false := by
  unfold slL
  induction List.range 32 with
  | nil => rfl
  | cons q l ih =>
    rw [List.filterMap_cons]
    cases hT : T q with
    | none => simp only [Option.map_none]; rw [ih, List.countP_cons_of_neg (by rw [hT]; simp)]
    | some x =>
      simp only [Option.map_some]
      rw [List.countP_cons, List.countP_cons, ih, hT]
/-- Those that lie have room. -/
theorem room_of_fits {T : SlT} {es : List EnT} (h : Fits T es) : roomB (es.map Prod.fst) = true := by
  unfold roomB
  rw [List.all_eq_true]
  intro S hS
  rw [decide_eq_true_eq, cnt_slots h, slL_count, ← room_slots ⟨S, List.mem_range.1 hS⟩]
  refine List.countP_mono_left fun q _ hq => ?_
  cases hT : T q with
  | none => rw [hT] at hq; cases hq
  | some x => rw [hT] at hq; simp only [Bool.and_eq_true] at hq; exact hq.1
/-- A set of buckets that are full, whose entries all have both of theirs in it: one more has no room. -/
theorem no_room {T : SlT} {es : List EnT} (h : Fits T es) {S h' : Nat} (hS : S < 256) (hh : inS S h' = true)
    (hfull : ∀ q, q < 32 → bitN S (q / 4) = 1 → ∃ x, T q = some x ∧ bitN S (othN (q / 4) x.1) = 1) : roomB (es.map Prod.fst ++ [h']) = false := by
  have hc : cntN S (es.map Prod.fst ++ [h']) = cntN S (es.map Prod.fst) + 1 := by
    unfold cntN
    rw [List.countP_append, List.countP_cons_of_pos hh]
    rfl
  have hle : roomN S ≤ cntN S (es.map Prod.fst) := by
    rw [cnt_slots h, slL_count, ← room_slots ⟨S, hS⟩]
    refine List.countP_mono_left fun q hq hb => ?_
    have hb1 : bitN S (q / 4) = 1 := by simpa using hb
    obtain ⟨x, hx, hx1⟩ := hfull q (List.mem_range.1 hq) hb1
    rw [hx]
    simp [hb1, hx1]
  unfold roomB
  rw [List.all_eq_false]
  refine ⟨S, List.mem_range.2 hS, ?_⟩
  rw [decide_eq_true_eq, hc]
  omega
theorem room_le {hs : List Nat} {h : Nat} (g : roomB (hs ++ [h]) = true) : roomB hs = true := by
  unfold roomB at *
  rw [List.all_eq_true] at *
  intro S hS
  have := g S hS
  rw [decide_eq_true_eq] at *
  unfold cntN at *
  rw [List.countP_append] at this
  omega
theorem room_perm {hs gs : List Nat} (h : hs.Perm gs) : roomB hs = roomB gs := by
  unfold roomB cntN
  congr 1
  funext S
  rw [h.countP_eq]
theorem room_nil : roomB [] = true := by
  unfold roomB
  rw [List.all_eq_true]
  intro S _
  simp [cntN]

end Go.Proofs.Ytibbligidncocaa

namespace Go.Proofs.Ytibbligidncocaa
open Go.RowKit

def mayT (x : RecT) : Bool := mayRec x.1 x.2.1 x.2.2.1 x.2.2.2.1 x.2.2.2.2
/-- What may be is short. -/
theorem mayT_short {x : RecT} (h : mayT x = true) : x.1.size ≤ 16 ∧ x.2.2.2.2.size ≤ 24 := by
  obtain ⟨key, gone, k, n, s⟩ := x
  have hz : ∀ s : ByteArray, s.toList.isEmpty = true → s.size ≤ 24 := by
    intro s hs
    rw [ByteArray.toList_eq, List.isEmpty_iff] at hs
    have : s.size = 0 := by
      show s.data.size = 0
      rw [← Array.length_toList, hs]; rfl
    omega
  unfold mayT mayRec mayK at h
  simp only [Bool.and_eq_true, decide_eq_true_eq] at h
  refine ⟨h.1.2, ?_⟩
  show s.size ≤ 24
  have h2 := h.2
  cases gone with
  | true =>
    simp only [if_true, Bool.and_eq_true] at h2
    exact hz _ h2.2
  | false =>
    simp only [Bool.false_eq_true, if_false] at h2
    unfold mayR at h2
    split at h2
    · exact hz _ h2
    · split at h2
      · simp only [Bool.and_eq_true, decide_eq_true_eq] at h2
        exact h2.1.2
      · cases h2

end Go.Proofs.Ytibbligidncocaa

namespace Go.Proofs.Ytibbligidncocaa

def hR (x : RecT) : Nat := hashS x.1
def esL (L : List RecT) : List EnT := L.zipIdx.map fun p => (hR p.1, (p.2 : Int))
theorem esL_len (L : List RecT) : (esL L).length = L.length := by simp [esL]
theorem esL_at {L : List RecT} {i : Nat} (h : i < L.length) : (esL L)[i]'(by rw [esL_len]; exact h) = (hR L[i], (i : Int)) := by simp [esL]
theorem esL_fst (L : List RecT) : (esL L).map Prod.fst = L.map hR := by
  apply List.ext_getElem
  · simp [esL_len]
  · intro i h1 h2
    have : i < L.length := by simpa [esL_len] using h1
    rw [List.getElem_map, List.getElem_map, esL_at this]
theorem esL_snoc (L : List RecT) (x : RecT) : esL (L ++ [x]) = esL L ++ [(hR x, (L.length : Int))] := by simp [esL, List.zipIdx_append]
theorem esL_set {L : List RecT} {i : Nat} (h : i < L.length) {x : RecT} (hx : hR x = hR L[i]) : esL (L.set i x) = esL L := by
  apply List.ext_getElem
  · simp [esL_len]
  · intro j h1 h2
    have hj : j < L.length := by simpa [esL_len] using h1
    rw [esL_at (by rw [List.length_set]; exact hj), esL_at hj, List.getElem_set]
    split
    · rename_i e; subst e; rw [hx]
    · rfl

/-! ### What is found of a key. -/
def KeysOk (L : List RecT) : Prop := (L.map keyR).Nodup
theorem keyR_eq {x : RecT} {k : ByteArray} : keyR x = k.toList ↔ x.1 = k := by
  unfold keyR
  rw [ByteArray.toList_eq, ByteArray.toList_eq]
  exact ⟨fun h => ByteArray.ext (Array.toList_inj.1 h), fun h => by rw [h]⟩
theorem find_iff {L : List RecT} (h : KeysOk L) (k : List UInt8) (x : RecT) : findK keyR L k = some x ↔ x ∈ L ∧ keyR x = k := by
  induction L with
  | nil => simp [findK]
  | cons y t ih =>
    have hn := List.nodup_cons.1 (by simpa [KeysOk] using h : (keyR y :: t.map keyR).Nodup)
    have ih := ih hn.2
    unfold findK at ih ⊢
    rw [List.find?_cons]
    by_cases hy : keyR y = k
    · simp only [hy, decide_true, Option.some.injEq, List.mem_cons]
      constructor
      · rintro rfl; exact ⟨.inl rfl, hy⟩
      · rintro ⟨rfl | hx, hk⟩
        · rfl
        · exact absurd (List.mem_map.2 ⟨x, hx, hk.trans hy.symm⟩) hn.1
    · simp only [hy, decide_false, ih, List.mem_cons]
      constructor
      · rintro ⟨h1, h2⟩; exact ⟨.inr h1, h2⟩
      · rintro ⟨rfl | h1, h2⟩
        · exact absurd h2 hy
        · exact ⟨h1, h2⟩
theorem find_none {L : List RecT} (k : List UInt8) : findK keyR L k = none ↔ ∀ x ∈ L, keyR x ≠ k := by
  unfold findK
  rw [List.find?_eq_none]
  simp
theorem opt_ext {α : Type} {a b : Option α} (h : ∀ x, a = some x ↔ b = some x) : a = b := by
  cases a with
  | none => cases b with
    | none => rfl
    | some y => exact ((h y).2 rfl)
  | some x => exact ((h x).1 rfl).symm
theorem find_congr {L M : List RecT} (hL : KeysOk L) (hM : KeysOk M) (h : ∀ x, x ∈ L ↔ x ∈ M) (k : List UInt8) : findK keyR L k = findK keyR M k :=
  opt_ext fun x => by rw [find_iff hL, find_iff hM, h]
theorem KeysOk.rev {L : List RecT} (h : KeysOk L) : KeysOk L.reverse := by
  unfold KeysOk at *
  rw [List.map_reverse]
  exact List.pairwise_reverse.2 (h.imp fun hn e => hn e.symm)
theorem KeysOk.perm {L M : List RecT} (h : KeysOk L) (g : L.Perm M) : KeysOk M := (g.map keyR).nodup_iff.1 h
theorem KeysOk.nodup {L : List RecT} (h : KeysOk L) : L.Nodup := (List.pairwise_map.1 h).imp fun hn e => hn (by rw [e])
theorem rising_keys {L : List RecT} (h : Rising keyR Go.Op.bytesLess L) : KeysOk L := by
  unfold KeysOk
  exact List.pairwise_map.2 (h.imp fun hl e => by rw [e, ordR.irr] at hl; cases hl)
theorem newest_rising (L : List RecT) : Rising keyR Go.Op.bytesLess (newestR L) := newestK_rising ordR L
theorem newest_keys (L : List RecT) : KeysOk (newestR L) := rising_keys (newest_rising L)
theorem newest_find {L : List RecT} (h : KeysOk L) (k : List UInt8) : findK keyR (newestR L) k = findK keyR L k := by
  rw [newestK_find ordR]
  exact find_congr h.rev h (fun x => by simp) k
theorem newest_mem {L : List RecT} (h : KeysOk L) (x : RecT) : x ∈ newestR L ↔ x ∈ L := by
  have h1 := find_iff (newest_keys L) (keyR x) x
  have h2 := find_iff h (keyR x) x
  rw [newest_find h, h2] at h1
  simpa using h1.symm
theorem newest_perm {L : List RecT} (h : KeysOk L) : (newestR L).Perm L := (List.perm_ext_iff_of_nodup (newest_keys L).nodup h.nodup).2 (newest_mem h)
theorem newest_congr {L M : List RecT} (hL : KeysOk L) (hM : KeysOk M) (h : ∀ x, x ∈ L ↔ x ∈ M) : newestR L = newestR M :=
  rising_ext ordR _ _ (newest_rising L) (newest_rising M) fun k => by rw [newest_find hL, newest_find hM, find_congr hL hM h]
theorem newest_len {L : List RecT} (h : KeysOk L) : (newestR L).length = L.length := (newest_perm h).length_eq

/-! ### One record more, or in place of another one. -/
theorem keys_set {L : List RecT} {i : Nat} (h : i < L.length) {x : RecT} (hx : keyR x = keyR L[i]) : (L.set i x).map keyR = L.map keyR := by
  apply List.ext_getElem
  · simp
  · intro j h1 h2
    rw [List.getElem_map, List.getElem_map, List.getElem_set]
    split
    · rename_i e; subst e; exact hx
    · rfl
theorem KeysOk.set {L : List RecT} (hL : KeysOk L) {i : Nat} (h : i < L.length) {x : RecT} (hx : keyR x = keyR L[i]) : KeysOk (L.set i x) := by
  unfold KeysOk
  rw [keys_set h hx]
  exact hL
theorem KeysOk.snoc {L : List RecT} (hL : KeysOk L) {x : RecT} (hx : ∀ y ∈ L, keyR y ≠ keyR x) : KeysOk (L ++ [x]) := by
  unfold KeysOk at *
  rw [List.map_append]
  refine List.nodup_append.2 ⟨hL, by simp, ?_⟩
  intro a ha b hb
  obtain ⟨y, hy, rfl⟩ := List.mem_map.1 ha
  simp only [List.map_cons, List.map_nil, List.mem_singleton] at hb
  subst hb
  exact hx y hy
theorem newest_snoc (L : List RecT) (x : RecT) : newestR (L ++ [x]) = setR (newestR L) x := by
  unfold newestR newestK
  rw [List.foldl_append]
  rfl
theorem mem_set_keys {L : List RecT} (hL : KeysOk L) {i : Nat} (h : i < L.length) {x : RecT} (hx : keyR x = keyR L[i]) (y : RecT) : y ∈ L.set i x ↔ y = x ∨ (y ∈ L ∧ keyR y ≠ keyR x) := by
  constructor
  · intro hy
    by_cases hk : keyR y = keyR x
    · left
      have h1 := find_iff (hL.set h hx) (keyR x) y
      have h2 := find_iff (hL.set h hx) (keyR x) x
      have h3 : x ∈ L.set i x := List.mem_set h x
      have e1 := h1.2 ⟨hy, hk⟩
      have e2 := h2.2 ⟨h3, rfl⟩
      rw [e1] at e2
      exact Option.some.inj e2
    · right
      rcases List.mem_or_eq_of_mem_set hy with g | g
      · exact ⟨g, hk⟩
      · exact absurd (by rw [g]) hk
  · rintro (rfl | ⟨hy, hk⟩)
    · exact List.mem_set h y
    · obtain ⟨j, hj, rfl⟩ := List.getElem_of_mem hy
      have hne : i ≠ j := by rintro rfl; exact hk hx.symm
      have : (L.set i x)[j]'(by rw [List.length_set]; exact hj) = L[j] := by rw [List.getElem_set, if_neg hne]
      rw [← this]
      exact List.getElem_mem _
theorem newest_set {L : List RecT} (hL : KeysOk L) {i : Nat} (h : i < L.length) {x : RecT} (hx : keyR x = keyR L[i]) : newestR (L.set i x) = setR (newestR L) x := by
  refine rising_ext ordR _ _ (newest_rising _) (setGo_rising ordR x _ (newest_rising L)) fun k => ?_
  rw [newest_find (hL.set h hx), setGo_find ordR x k _ (newest_rising L), newest_find hL]
  refine opt_ext fun y => ?_
  rw [find_iff (hL.set h hx), mem_set_keys hL h hx]
  by_cases hk : keyR x = k
  · rw [if_pos hk]
    subst hk
    constructor
    · rintro ⟨rfl | ⟨-, g⟩, e⟩
      · rfl
      · exact absurd e g
    · intro e
      cases e
      exact ⟨.inl rfl, rfl⟩
  · rw [if_neg hk, find_iff hL]
    constructor
    · rintro ⟨rfl | ⟨g, -⟩, e⟩
      · exact absurd e hk
      · exact ⟨g, e⟩
    · rintro ⟨g, e⟩
      exact ⟨.inr ⟨g, fun h => hk (h.symm.trans e)⟩, e⟩

/-! ### Room, reads. -/
def roomR (L : List RecT) (k : ByteArray) : Bool := (findK keyR L k.toList).isSome || roomB (L.map hR ++ [hashS k])
def readsR (L : List RecT) (k : ByteArray) : Nat := L.countP fun x => nearN (hashS k) (hR x)
theorem roomR_newest {L : List RecT} (h : KeysOk L) (k : ByteArray) : roomR (newestR L) k = roomR L k := by
  unfold roomR
  rw [newest_find h, room_perm (((newest_perm h).map hR).append_right _)]
theorem readsR_newest {L : List RecT} (h : KeysOk L) (k : ByteArray) : readsR (newestR L) k = readsR L k := (newest_perm h).countP_eq _
theorem reads_len (L : List RecT) (k : ByteArray) : ((esL L).filter fun e => nearN (hashS k) e.1).length = readsR L k := by
  rw [← List.countP_eq_length_filter]
  unfold readsR
  have e : (esL L).countP (fun e => nearN (hashS k) e.1) = ((esL L).map Prod.fst).countP (nearN (hashS k)) := by rw [List.countP_map]; rfl
  rw [e, esL_fst, List.countP_map]
  rfl
theorem near_self (a : Nat) : nearN a a = true := (near_iff a a).2 rfl
/-- The numbers that are found: those whose record is near. -/
theorem near_mem {L : List RecT} {k : ByteArray} {F : List Int} (hp : F.Perm (((esL L).filter fun e => nearN (hashS k) e.1).map Prod.snd)) (z : Int) : z ∈ F ↔ ∃ i, ∃ h : i < L.length, z = (i : Int) ∧ nearN (hashS k) (hR L[i]) = true := by
  rw [hp.mem_iff, List.mem_map]
  constructor
  · rintro ⟨e, he, rfl⟩
    obtain ⟨hm, hn⟩ := List.mem_filter.1 he
    obtain ⟨i, hi, rfl⟩ := List.getElem_of_mem hm
    have h : i < L.length := by rw [esL_len] at hi; exact hi
    rw [esL_at h] at hn ⊢
    exact ⟨i, h, rfl, hn⟩
  · rintro ⟨i, h, rfl, hn⟩
    refine ⟨(hR L[i], (i : Int)), List.mem_filter.2 ⟨?_, hn⟩, rfl⟩
    rw [← esL_at h]
    exact List.getElem_mem _
/-- A put: the record of its key is x now. -/
def putL (L : List RecT) (x : RecT) : List RecT := match L.findIdx? fun y => decide (keyR y = keyR x) with
  | some i => L.set i x
  | none => L ++ [x]
theorem putL_in {L : List RecT} (hL : KeysOk L) {i : Nat} (h : i < L.length) {x : RecT} (hx : keyR L[i] = keyR x) : putL L x = L.set i x := by
  unfold putL
  have : L.findIdx? (fun y => decide (keyR y = keyR x)) = some i := by
    rw [List.findIdx?_eq_some_iff_getElem]
    refine ⟨h, by simpa using hx, fun j hj => ?_⟩
    simp only [decide_eq_true_eq]
    intro e
    have hn := List.pairwise_map.1 hL
    have := List.pairwise_iff_getElem.1 hn j i (by omega) h hj
    exact this (e.trans hx.symm)
  rw [this]
theorem putL_new {L : List RecT} {x : RecT} (hx : ∀ y ∈ L, keyR y ≠ keyR x) : putL L x = L ++ [x] := by
  unfold putL
  have : L.findIdx? (fun y => decide (keyR y = keyR x)) = none := by
    rw [List.findIdx?_eq_none_iff]
    intro y hy
    simpa using hx y hy
  rw [this]
theorem find_cases {L : List RecT} (k : List UInt8) : (∃ i, ∃ h : i < L.length, keyR L[i] = k) ∨ ∀ y ∈ L, keyR y ≠ k := by
  by_cases h : ∃ y ∈ L, keyR y = k
  · obtain ⟨y, hy, e⟩ := h
    obtain ⟨i, hi, rfl⟩ := List.getElem_of_mem hy
    exact .inl ⟨i, hi, e⟩
  · exact .inr fun y hy e => h ⟨y, hy, e⟩
theorem KeysOk.put {L : List RecT} (hL : KeysOk L) (x : RecT) : KeysOk (putL L x) := by
  rcases find_cases (L := L) (keyR x) with ⟨i, h, e⟩ | h
  · rw [putL_in hL h e]; exact hL.set h e.symm
  · rw [putL_new h]; exact hL.snoc h
theorem newest_put {L : List RecT} (hL : KeysOk L) (x : RecT) : newestR (putL L x) = setR (newestR L) x := by
  rcases find_cases (L := L) (keyR x) with ⟨i, h, e⟩ | h
  · rw [putL_in hL h e]; exact newest_set hL h e.symm
  · rw [putL_new h]; exact newest_snoc L x
theorem find_put {L : List RecT} (hL : KeysOk L) (x : RecT) (k : List UInt8) : findK keyR (putL L x) k = if keyR x = k then some x else findK keyR L k := by
  rw [← newest_find (hL.put x), newest_put hL, setGo_find ordR x k _ (newest_rising L), newest_find hL]

end Go.Proofs.Ytibbligidncocaa
