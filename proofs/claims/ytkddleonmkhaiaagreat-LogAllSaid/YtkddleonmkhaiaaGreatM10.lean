/-
  Mathematics of stage 17 (of no code): who lies where. A hash's two buckets, told as a pair; slots that hold just what is there; who has room.
  What elements of []rune and []int are.
  The contract of the reference's Runes.
-/
import Derived.Test.YtkddleonmkhaiaaGreatM09
import Derived.Test.YtkddleonmkhaiaaGreatM01
import Derived.Test.YtkddleonmkhaiaaGreatM04
import Derived.Test.YtkddleonmkhaiaaGreatM03
namespace Go.Proofs.YtkddleonmkhaiaaGreat

/-! ### Two buckets. -/
def othN (b t : Nat) : Nat := b ^^^ (1 + t % 7)
theorem xor_facts : ∀ b c : Fin 8, ∀ m : Fin 7, (b.val ^^^ (1 + m.val) < 8 ∧ (b.val ^^^ (1 + m.val)) ^^^ (1 + m.val) = b.val ∧ b.val ^^^ (1 + m.val) ≠ b.val ∧
    (min b.val (b.val ^^^ (1 + m.val)) = min c.val (c.val ^^^ (1 + m.val)) ↔ (b.val = c.val ∨ b.val = c.val ^^^ (1 + m.val)))) := by decide +kernel
theorem oth_all {b c : Nat} (t : Nat) (hb : b < 8) (hc : c < 8) : othN b t < 8 ∧ othN (othN b t) t = b ∧ othN b t ≠ b ∧ (min b (othN b t) = min c (othN c t) ↔ (b = c ∨ b = othN c t)) :=
  xor_facts ⟨b, hb⟩ ⟨c, hc⟩ ⟨t % 7, Nat.mod_lt _ (by omega)⟩
theorem oth_lt {b : Nat} (t : Nat) (hb : b < 8) : othN b t < 8 := (oth_all t hb hb).1
theorem oth_oth {b : Nat} (t : Nat) (hb : b < 8) : othN (othN b t) t = b := (oth_all t hb hb).2.1
theorem oth_ne {b : Nat} (t : Nat) (hb : b < 8) : othN b t ≠ b := (oth_all t hb hb).2.2.1
theorem first_lt (h : Nat) : firstN h < 8 := by unfold firstN; omega
theorem tag_lt (h : Nat) : tagN h < 32768 := by unfold tagN; omega
theorem otherI_nat {b t : Nat} (hb : b < 8) (ht : t < 32768) : otherI (b : Int) (t : Int) = (othN b t : Int) := otherI_ok (by omega) (by omega)

/-- The pair that bucket b and its other one are, with the tag. -/
def keyN (b t : Nat) : Nat × Nat := (min b (othN b t), t)
theorem keyN_iff {b c t u : Nat} (hb : b < 8) (hc : c < 8) : keyN b t = keyN c u ↔ t = u ∧ (b = c ∨ b = othN c u) := by
  unfold keyN
  rw [Prod.mk.injEq]
  constructor
  · rintro ⟨h1, h2⟩
    subst h2
    exact ⟨rfl, (oth_all t hb hc).2.2.2.1 h1⟩
  · rintro ⟨h1, h2⟩
    subst h1
    exact ⟨(oth_all t hb hc).2.2.2.2 h2, rfl⟩
theorem keyN_oth {b : Nat} (t : Nat) (hb : b < 8) : keyN (othN b t) t = keyN b t := (keyN_iff (oth_lt t hb) hb).2 ⟨rfl, .inr rfl⟩
/-- An entry: its hash, its number. -/
abbrev EnT := Nat × Int
def keyH (h : Nat) : Nat × Nat := keyN (firstN h) (tagN h)
def keyE (e : EnT) : (Nat × Nat) × Int := (keyH e.1, e.2)
def nearN (a b : Nat) : Bool := tagN a == tagN b && (firstN a == firstN b || firstN a == othN (firstN b) (tagN b))
theorem near_iff (a b : Nat) : nearN a b = true ↔ keyH a = keyH b := by
  unfold nearN keyH
  rw [keyN_iff (first_lt a) (first_lt b)]
  simp

/-! ### Slots: eight buckets of four; slot 4 * b + s. -/
abbrev SlT := Nat → Option (Nat × Int)
/-- Bucket, tag, number. -/
def slL (T : SlT) : List (Nat × Nat × Int) := (List.range 32).filterMap fun q => (T q).map fun x => (q / 4, x.1, x.2)
def keyS (x : Nat × Nat × Int) : (Nat × Nat) × Int := (keyN x.1 x.2.1, x.2.2)
/-- The slots hold just those that are there. -/
def Fits (T : SlT) (es : List EnT) : Prop := ((slL T).map keyS).Perm (es.map keyE)
def TOk (T : SlT) : Prop := ∀ q x, T q = some x → q < 32 ∧ x.1 < 32768
theorem slL_bucket {T : SlT} {x : Nat × Nat × Int} (h : x ∈ slL T) : x.1 < 8 := by
  obtain ⟨q, hq, hx⟩ := List.mem_filterMap.1 h
  rw [Option.map_eq_some_iff] at hx
  obtain ⟨y, -, rfl⟩ := hx
  have := List.mem_range.1 hq
  show q / 4 < 8
  omega
theorem slL_none {T : SlT} (h : ∀ q, q < 32 → T q = none) : slL T = [] := by
  unfold slL
  rw [List.filterMap_eq_nil_iff]
  intro q hq
  rw [h q (List.mem_range.1 hq)]
  rfl
theorem Fits.empty {T : SlT} (h : ∀ q, q < 32 → T q = none) : Fits T [] := by unfold Fits; rw [slL_none h]; exact List.Perm.refl _
theorem Fits.length {T : SlT} {es : List EnT} (h : Fits T es) : (slL T).length = es.length := by
  have := List.Perm.length_eq h
  simpa using this
theorem Fits.perm {T : SlT} {es fs : List EnT} (h : Fits T es) (g : (es.map keyE).Perm (fs.map keyE)) : Fits T fs := List.Perm.trans h g

/-- A slot is written. -/
def layT (T : SlT) (q : Nat) (x : Option (Nat × Int)) : SlT := fun k => if k = q then x else T k
theorem fm_congr {α β : Type} {f g : α → Option β} : ∀ {l : List α}, (∀ x ∈ l, f x = g x) → l.filterMap f = l.filterMap g
  | [], _ => rfl
  | x :: l, h => by
    rw [List.filterMap_cons, List.filterMap_cons, h x (List.mem_cons_self ..), fm_congr (l := l) fun y hy => h y (List.mem_cons_of_mem _ hy)]
theorem range_split {q : Nat} (h : q < 32) : List.range 32 = List.range q ++ q :: (List.range (31 - q)).map (fun k => q + 1 + k) := by
  apply List.ext_getElem
  · simp; omega
  · intro i h1 h2
    rw [List.getElem_range]
    by_cases hi : i < q
    · rw [List.getElem_append_left (by simpa using hi), List.getElem_range]
    · by_cases hq : i = q
      · subst hq; simp
      · rw [List.getElem_append_right (by simp; omega)]
        simp only [List.length_range]
        rw [List.getElem_cons, dif_neg (by omega), List.getElem_map, List.getElem_range]
        omega
theorem slL_split (T : SlT) {q : Nat} (h : q < 32) : ∃ a b, (∀ x, slL (layT T q x) = a ++ ((x.map fun y => (q / 4, y.1, y.2)).toList ++ b)) ∧ slL T = a ++ (((T q).map fun y => (q / 4, y.1, y.2)).toList ++ b) := by
  refine ⟨(List.range q).filterMap fun k => (T k).map fun x => (k / 4, x.1, x.2), ((List.range (31 - q)).map (fun k => q + 1 + k)).filterMap fun k => (T k).map fun x => (k / 4, x.1, x.2), fun x => ?_, ?_⟩
  · unfold slL
    rw [range_split h, List.filterMap_append]
    congr 1
    · exact fm_congr fun k hk => by
        have := List.mem_range.1 hk
        unfold layT
        rw [if_neg (by omega)]
    · have e : ((List.range (31 - q)).map (fun k => q + 1 + k)).filterMap (fun k => (layT T q x k).map fun x => (k / 4, x.1, x.2)) = ((List.range (31 - q)).map (fun k => q + 1 + k)).filterMap fun k => (T k).map fun x => (k / 4, x.1, x.2) := fm_congr fun k hk => by
        obtain ⟨j, -, rfl⟩ := List.mem_map.1 hk
        unfold layT
        rw [if_neg (by omega)]
      rw [List.filterMap_cons, e]
      unfold layT
      rw [if_pos rfl]
      cases x <;> rfl
  · unfold slL
    rw [range_split h, List.filterMap_append]
    congr 1
    rw [List.filterMap_cons]
    cases T q <;> rfl
/-- An empty slot is filled with an entry of the pair. -/
theorem Fits.fill {T : SlT} {es : List EnT} (h : Fits T es) {q : Nat} (hq : q < 32) (he : T q = none) (e : EnT) (hk : keyN (q / 4) (tagN e.1) = keyH e.1) : Fits (layT T q (some (tagN e.1, e.2))) (es ++ [e]) := by
  obtain ⟨a, b, h1, h2⟩ := slL_split T hq
  unfold Fits at *
  rw [h1]
  rw [h2, he] at h
  simp only [Option.map_none, Option.toList_none, List.nil_append, List.map_append] at h
  simp only [Option.map_some, Option.toList_some, List.map_append, List.map_cons, List.map_nil, List.singleton_append]
  have e1 : keyS (q / 4, tagN e.1, e.2) = keyE e := by unfold keyS keyE; simp only []; rw [hk]
  rw [e1]
  exact (List.perm_middle.trans (List.Perm.cons _ h)).trans (List.perm_append_singleton _ _).symm
/-- An entry moves to an empty slot of its pair. -/
theorem Fits.move {T : SlT} {es : List EnT} (h : Fits T es) {p q : Nat} (hp : p < 32) (hq : q < 32) {x : Nat × Int} (hx : T p = some x) (he : T q = none) (hk : keyN (q / 4) x.1 = keyN (p / 4) x.1) : Fits (layT (layT T q (some x)) p none) es := by
  have hpq : p ≠ q := by intro e; subst e; rw [hx] at he; cases he
  obtain ⟨a, b, h1, h2⟩ := slL_split T hq
  obtain ⟨c, d, h3, h4⟩ := slL_split (layT T q (some x)) hp
  have e1 : layT T q (some x) p = some x := by unfold layT; rw [if_neg hpq]; exact hx
  unfold Fits at *
  have hP : ((slL (layT T q (some x))).map keyS).Perm (keyS (q / 4, x.1, x.2) :: (slL T).map keyS) := by
    rw [h1, h2, he]
    simp only [Option.map_some, Option.map_none, Option.toList_some, Option.toList_none, List.nil_append, List.map_append, List.map_cons, List.singleton_append]
    exact List.perm_middle
  have hQ : (keyS (p / 4, x.1, x.2) :: (slL (layT (layT T q (some x)) p none)).map keyS).Perm ((slL (layT T q (some x))).map keyS) := by
    rw [h3, h4, e1]
    simp only [Option.map_some, Option.map_none, Option.toList_some, Option.toList_none, List.nil_append, List.map_append, List.map_cons, List.singleton_append]
    exact List.perm_middle.symm
  have e2 : keyS (q / 4, x.1, x.2) = keyS (p / 4, x.1, x.2) := by unfold keyS; simp only []; rw [hk]
  rw [e2] at hP
  exact ((List.Perm.cons_inv (hQ.trans hP))).trans h
theorem erase_perm {α : Type} : ∀ (l : List α) (k : Nat) (h : k < l.length), l.Perm (l[k] :: l.eraseIdx k)
  | x :: l, 0, _ => List.Perm.refl _
  | x :: l, k + 1, h => ((erase_perm l k (by simpa using h)).cons x).trans (List.Perm.swap _ _ _)
/-- A slot's number turns. -/
theorem Fits.turn {T : SlT} {es : List EnT} (h : Fits T es) {q : Nat} (hq : q < 32) {x : Nat × Int} (hx : T q = some x) {k : Nat} (hk : k < es.length) (he : keyE es[k] = keyS (q / 4, x.1, x.2)) (i : Int) : Fits (layT T q (some (x.1, i))) (es.set k (es[k].1, i)) := by
  obtain ⟨a, b, h1, h2⟩ := slL_split T hq
  unfold Fits at *
  rw [h1]
  rw [h2, hx] at h
  simp only [Option.map_some, Option.toList_some, List.map_append, List.map_cons, List.singleton_append] at h ⊢
  have e1 : es.Perm (es[k] :: es.eraseIdx k) := erase_perm es k hk
  have e2 : (es.set k (es[k].1, i)).Perm ((es[k].1, i) :: es.eraseIdx k) := by
    have hk2 : k < (es.set k (es[k].1, i)).length := by rw [List.length_set]; exact hk
    have := erase_perm _ k hk2
    rw [List.getElem_set_self, List.eraseIdx_set_eq] at this
    exact this
  have h3 := (List.perm_middle.symm.trans h).trans (e1.map keyE)
  rw [List.map_cons, ← he] at h3
  have h4 := List.Perm.cons_inv h3
  refine (List.perm_middle.trans ?_).trans (e2.map keyE).symm
  rw [List.map_cons]
  have e3 : keyS (q / 4, x.1, i) = keyE (es[k].1, i) := by
    unfold keyS keyE at *
    simp only [Prod.mk.injEq] at he ⊢
    exact ⟨he.1.symm, trivial⟩
  rw [e3]
  exact List.Perm.cons _ h4

/-! ### Who has room. -/
def bitN (S b : Nat) : Nat := S / 2 ^ b % 2
def roomN (S : Nat) : Nat := ((List.range 8).map fun b => 4 * bitN S b).sum
def inS (S h : Nat) : Bool := bitN S (firstN h) == 1 && bitN S (othN (firstN h) (tagN h)) == 1
def cntN (S : Nat) (hs : List Nat) : Nat := hs.countP (inS S)
def roomB (hs : List Nat) : Bool := (List.range 256).all fun S => decide (cntN S hs ≤ roomN S)
theorem room_slots : ∀ S : Fin 256, (List.range 32).countP (fun q => bitN S.val (q / 4) == 1) = roomN S.val := by decide +kernel
/-- Are both buckets of a pair in the set? -/
def inK (S : Nat) (k : (Nat × Nat) × Int) : Bool := bitN S k.1.1 == 1 && bitN S (othN k.1.1 k.1.2) == 1
theorem inK_of (S b t : Nat) (i : Int) (hb : b < 8) : inK S (keyN b t, i) = (bitN S b == 1 && bitN S (othN b t) == 1) := by
  unfold inK keyN
  simp only []
  rcases Nat.le_total b (othN b t) with h | h
  · rw [Nat.min_eq_left h]
  · rw [Nat.min_eq_right h, oth_oth t hb, Bool.and_comm]
theorem inK_e (S : Nat) (e : EnT) : inK S (keyE e) = inS S e.1 := inK_of S _ _ _ (first_lt e.1)
theorem cnt_keys (S : Nat) (es : List EnT) : cntN S (es.map Prod.fst) = (es.map keyE).countP (inK S) := by
  unfold cntN
  rw [List.countP_map, List.countP_map]
  exact List.countP_congr fun e _ => by simp only [Function.comp]; rw [inK_e]
theorem cnt_slots {T : SlT} {es : List EnT} (h : Fits T es) (S : Nat) : cntN S (es.map Prod.fst) = (slL T).countP fun x => bitN S x.1 == 1 && bitN S (othN x.1 x.2.1) == 1 := by
  rw [cnt_keys, ← List.Perm.countP_eq _ h, List.countP_map]
  exact List.countP_congr fun x hx => by simp only [Function.comp]; unfold keyS; rw [inK_of _ _ _ _ (slL_bucket hx)]
theorem slL_count (T : SlT) (p : Nat × Nat × Int → Bool) : (slL T).countP p = (List.range 32).countP fun q => match T q with | some x => p (q / 4, x.1, x.2) | none => false := by
  unfold slL
  induction List.range 32 with
  | nil => rfl
  | cons q l ih =>
    rw [List.filterMap_cons]
    cases hT : T q with
    | none => simp only [Option.map_none]; rw [ih, List.countP_cons_of_neg (by rw [hT]; simp)]
    | some x =>
      simp only [Option.map_some]
      rw [List.countP_cons, List.countP_cons, ih, hT]
/-- Those that lie have room. -/
theorem room_of_fits {T : SlT} {es : List EnT} (h : Fits T es) : roomB (es.map Prod.fst) = true := by
  unfold roomB
  rw [List.all_eq_true]
  intro S hS
  rw [decide_eq_true_eq, cnt_slots h, slL_count, ← room_slots ⟨S, List.mem_range.1 hS⟩]
  refine List.countP_mono_left fun q _ hq => ?_
  cases hT : T q with
  | none => rw [hT] at hq; cases hq
  | some x => rw [hT] at hq; simp only [Bool.and_eq_true] at hq; exact hq.1
/-- A set of buckets that are full, whose entries all have both of theirs in it: one more has no room. -/
theorem no_room {T : SlT} {es : List EnT} (h : Fits T es) {S h' : Nat} (hS : S < 256) (hh : inS S h' = true)
    (hfull : ∀ q, q < 32 → bitN S (q / 4) = 1 → ∃ x, T q = some x ∧ bitN S (othN (q / 4) x.1) = 1) : roomB (es.map Prod.fst ++ [h']) = false := by
  have hc : cntN S (es.map Prod.fst ++ [h']) = cntN S (es.map Prod.fst) + 1 := by
    unfold cntN
    rw [List.countP_append, List.countP_cons_of_pos hh]
    rfl
  have hle : roomN S ≤ cntN S (es.map Prod.fst) := by
    rw [cnt_slots h, slL_count, ← room_slots ⟨S, hS⟩]
    refine List.countP_mono_left fun q hq hb => ?_
    have hb1 : bitN S (q / 4) = 1 := by simpa using hb
    obtain ⟨x, hx, hx1⟩ := hfull q (List.mem_range.1 hq) hb1
    rw [hx]
    simp [hb1, hx1]
  unfold roomB
  rw [List.all_eq_false]
  refine ⟨S, List.mem_range.2 hS, ?_⟩
  rw [decide_eq_true_eq, hc]
  omega
theorem room_le {hs : List Nat} {h : Nat} (g : roomB (hs ++ [h]) = true) : roomB hs = true := by
  unfold roomB at *
  rw [List.all_eq_true] at *
  intro S hS
  have := g S hS
  rw [decide_eq_true_eq] at *
  unfold cntN at *
  rw [List.countP_append] at this
  omega
theorem room_perm {hs gs : List Nat} (h : hs.Perm gs) : roomB hs = roomB gs := by
  unfold roomB cntN
  congr 1
  funext S
  rw [h.countP_eq]
theorem room_nil : roomB [] = true := by
  unfold roomB
  rw [List.all_eq_true]
  intro S _
  simp [cntN]

end Go.Proofs.YtkddleonmkhaiaaGreat

namespace Go.Proofs.YtkddleonmkhaiaaGreat
open Go.RowKit

theorem info32 : (Tryz.prog.info? 21).map (fun i => (i.zero, i.size, i.bytes)) = some (some (.int .i32 0), 1, 4) := by kernel_rfl

theorem info64 : (Tryz.prog.info? 3).map (fun i => (i.zero, i.size, i.bytes)) = some (some (.int .i64 0), 1, 8) := by kernel_rfl

end Go.Proofs.YtkddleonmkhaiaaGreat

namespace Go.Proofs.YtkddleonmkhaiaaGreat
open Go.RowKit

/-- Where each begins. -/
def posl (l : List UInt8) : List Nat := (List.range (toks l).length).map (posOf l)

theorem posl_length (l : List UInt8) : (posl l).length = (toks l).length := by simp [posl]

theorem posl_at (l : List UInt8) (i : Nat) (h : i < (posl l).length) : (posl l)[i] = posOf l i := by simp [posl]

theorem posl_more (l : List UInt8) (n : Nat) (h : n < (toks l).length) : zi .i64 ((posl l).take n) ++ [.int .i64 (posOf l n : Int)] = zi .i64 ((posl l).take (n + 1)) := by
  have h' : n < (posl l).length := by rw [posl_length]; exact h
  rw [List.take_succ_eq_append_getElem h', zi_append, posl_at]
  rfl

set_option maxHeartbeats 1000000 in
set_option maxRecDepth 100000 in
theorem rrunes_c (s : ByteArray) (w : World) (hm : s.size ≤ 1000000000) :
    Calls Tryz.prog 44 #[.string s] w fun e w' => ∃ v1 v2, e = .returned (.tuple #[v1, v2]) ∧ OwnV 21 w' w.heap.size v1 (zi .i32 (runesOf (toks (bl s)))) ∧ OwnV 3 w' w.heap.size v2 (zi .i64 (posl (bl s))) ∧ Below w.heap.size w w' := by
  have hl1 := toks_length (bl s)
  rw [← bl_size] at hl1
  obtain ⟨T, hT⟩ : ∃ T, T = (toks (bl s)).length := ⟨_, rfl⟩
  rw [← hT] at hl1
  have HT := Go.Lib.hid hT; clear hT
  go_enter Tryz.func44, Tryz.ntmps44
  go_wp2
  go_loopw [4, 5, 6] (fun u1 u2 u wr => ∃ (n p : Nat) (v1 v2 : Value), v1 = u1 ∧ v2 = u2 ∧ n ≤ T ∧ u = .int .i64 (p : Int) ∧ p ≤ s.size ∧ Hid (p = posOf (bl s) n) ∧ OwnV 21 wr w.heap.size v1 (zi .i32 ((runesOf (toks (bl s))).take n)) ∧ OwnV 3 wr w.heap.size v2 (zi .i64 ((posl (bl s)).take n)) ∧ Below w.heap.size w wr) (fun _ _ u _ => s.size - (intOf u).toNat)
  case atStart => exact ⟨0, 0, _, _, rfl, rfl, by omega, rfl, by omega, rfl, OwnV.nil _ _ _, OwnV.nil _ _ _, Below.refl _ _⟩
  case round =>
    obtain ⟨n, p, v1, v2, rfl, rfl, hn, rfl, hps, hp, hown1, hown2, hbw⟩ := hrel
    by_cases hlt : n < T
    · have hT' : n < (toks (bl s)).length := by rw [← HT.out]; exact hlt
      have hne := drop_ne (bl s) n hT'
      rw [← hp.out] at hne
      have hplt : p < s.size := by
        rw [bl_size]
        exact Nat.lt_of_not_le fun hh => hne (List.drop_eq_nil_of_le hh)
      have hsz : (s.extract p s.size).size ≤ maxLen := by rw [ByteArray.size_extract]; unfold maxLen; omega
      have C := fun W => decode_c (s.extract p s.size) W (by rw [drop_bl]; exact hne) hsz
      rw [drop_bl] at C
      have hsucc := posOf_succ (bl s) n hT'
      have hm1 := Go.Lib.hid (zi_more .i32 (toks (bl s)) n hT')
      have hm2 := Go.Lib.hid (posl_more (bl s) n hT')
      have hg := congrArg Prod.fst (get_toks (bl s) n hT')
      have hple := posOf_le (bl s) (n + 1)
      rw [← bl_size] at hple
      rw [← hp.out] at hsucc hg hm2
      have hdw := (dw_le _ hne).1
      rw [hsucc] at hple
      have hn1 : (zi .i32 ((runesOf (toks (bl s))).take n)).length = n := by rw [zi_length, List.length_take, runesOf_length]; omega
      have hn2 : (zi .i64 ((posl (bl s)).take n)).length = n := by rw [zi_length, List.length_take, posl_length]; omega
      simp only at hg
      rw [hg] at hm1
      clear hsz hne hg
      unfold dv at C
      generalize (bl s).drop p = L at *
      have Hsucc := Go.Lib.hid hsucc; clear hsucc
      have HC := Go.Lib.hid C; clear C
      generalize dr L = r at *
      generalize dw L = d at *
      generalize okB L = ok at *
      have Hn1 := Go.Lib.hid hn1; clear hn1
      have Hn2 := Go.Lib.hid hn2; clear hn2
      generalize zi .i32 ((runesOf (toks (bl s))).take n) = z1 at *
      generalize zi .i64 ((posl (bl s)).take n) = z2 at *
      go_wp2_with (first
        | (refine (HC.out _).mono ?_; rintro e w1 ⟨rfl, rfl⟩)
        | (with_reducible show wpList _ _ _ (⟨some 25, _, _, _, _, _⟩ :: _) _ _; go_loud (refine wpList_append_RV rfl (.tmp 22) (.tmp 24) 83 rfl w.heap.size 21 Tryz.underlying83 (.int .i32 0) 4 rfl info32 v1 (.slice (some ⟨wr.heap.size, 0, none⟩) 1 1) z1 [.int .i32 (r : Int)] rfl rfl (hown1.alloc _) (RV.one _ _ _) (one_one _ _) (by rw [Hn1.out]; simp only [List.length_cons, List.length_nil]; omega) (by rw [Hn1.out]; simp only [List.length_cons, List.length_nil]; omega) (hbw.alloc hbw.size _).size ?_); intro v3 w3 hown3 hg3; have hb3 := (hbw.alloc hbw.size _).grown hg3 (hbw.alloc hbw.size _).size hown1.row; have hown2' := (hown2.alloc _).kept hg3 (own_apart (by decide) hown1 hown2))
        | (with_reducible show wpList _ _ _ (⟨some 29, _, _, _, _, _⟩ :: _) _ _; go_loud (refine wpList_append_RV rfl (.tmp 26) (.tmp 28) 63 rfl w.heap.size 3 Tryz.underlying63 (.int .i64 0) 8 rfl info64 v2 (.slice (some ⟨w3.heap.size, 0, none⟩) 1 1) z2 [.int .i64 (p : Int)] rfl rfl (hown2'.alloc _) (RV.one _ _ _) (one_one _ _) (by rw [Hn2.out]; simp only [List.length_cons, List.length_nil]; omega) (by rw [Hn2.out]; simp only [List.length_cons, List.length_nil]; omega) (hb3.alloc hb3.size _).size ?_); intro v5 w5 hown5 hg5; have hb5 := (hb3.alloc hb3.size _).grown hg5 (hb3.alloc hb3.size _).size hown2'.row; have hown3' := (hown3.alloc _).kept hg5 (own_apart (by decide) hown2' hown3))
        | fail)
      go_roundw
      case rel => exact ⟨n + 1, p + d, _, _, rfl, rfl, by omega, by go_num, by omega, Hsucc.out.symm, by rw [← hm1.out]; exact hown3', by rw [← hm2.out]; exact hown5, hb5⟩
      case measure => simp [intOf]; omega
    · have hpe : p = s.size := by
        rw [hp.out, posOf_all (bl s) n (by rw [← HT.out]; omega), bl_size]
      rw [List.take_of_length_le (by rw [runesOf_length, ← HT.out]; omega)] at hown1
      rw [List.take_of_length_le (by rw [posl_length, ← HT.out]; omega)] at hown2
      clear hp
      subst hpe
      go_wp2
      go_ret2
      exact ⟨_, _, rfl, hown1, hown2, hbw⟩

end Go.Proofs.YtkddleonmkhaiaaGreat
