/-
  Mathematics of ways (of no code): the slots along which entries give way, one to the next.
-/
import Derived.Test.YtgbaeipemlcbcaaCucM
namespace Go.Proofs.Ytgbaeipemlcbcaa

/-- From bucket c on: each slot of the way is full, its entry can move to the next one's bucket, the last one's to bucket e. -/
def Chain (T : SlT) : Nat → List (Nat × Nat) → Nat → Prop
  | c, [], e => c = e
  | c, p :: P, e => p.1 = c ∧ p.2 < 4 ∧ ∃ x, T (4 * c + p.2) = some x ∧ Chain T (othN c x.1) P e
theorem Chain.snoc {T : SlT} {x : Nat × Int} {s : Nat} : ∀ {P : List (Nat × Nat)} {c e : Nat}, Chain T c P e → s < 4 → T (4 * e + s) = some x → Chain T c (P ++ [(e, s)]) (othN e x.1)
  | [], c, e, h, hs, hT => by
    have h : c = e := h
    subst h
    exact ⟨rfl, hs, x, hT, rfl⟩
  | p :: P, c, e, h, hs, hT => by
    obtain ⟨h1, h2, y, h3, h4⟩ := h
    exact ⟨h1, h2, y, h3, Chain.snoc h4 hs hT⟩

theorem chain_slot {T : SlT} : ∀ {P : List (Nat × Nat)} {c e : Nat}, Chain T c P e → ∀ p ∈ P, p.2 < 4
  | [], c, e, _, p, hp => by cases hp
  | q :: P, c, e, h, p, hp => by
    obtain ⟨h1, h2, y, h3, h4⟩ := h
    rcases List.mem_cons.1 hp with rfl | hp
    · exact h2
    · exact chain_slot h4 p hp

/-- What is held is put down at each slot, what lay there is taken up. -/
def shiftT : SlT → Option (Nat × Int) → List (Nat × Nat) → SlT × Option (Nat × Int)
  | U, x, [] => (U, x)
  | U, x, p :: P => shiftT (putT U (4 * p.1 + p.2) x) (U (4 * p.1 + p.2)) P
theorem shift_snoc (p : Nat × Nat) : ∀ (P : List (Nat × Nat)) (U : SlT) (x : Option (Nat × Int)), shiftT U x (P ++ [p]) = (putT (shiftT U x P).1 (4 * p.1 + p.2) (shiftT U x P).2, (shiftT U x P).1 (4 * p.1 + p.2))
  | [], _U, _x => rfl
  | q :: P, U, x => shift_snoc p P (putT U (4 * q.1 + q.2) x) (U (4 * q.1 + q.2))

theorem put_key (U : SlT) {q : Nat} (hq : q < 32) (x : Nat × Int) : ((keyS (q / 4, x.1, x.2) :: (slL U).map keyS).Perm (((U q).map fun y => keyS (q / 4, y.1, y.2)).toList ++ (slL (putT U q (some x))).map keyS)) := by
  obtain ⟨a, b, h1, h2⟩ := slL_split U hq
  rw [h1, h2]
  cases hU : U q with
  | none =>
    simp only [Option.map_none, Option.toList_none, List.nil_append, Option.map_some, Option.toList_some, List.map_append, List.map_cons, List.singleton_append]
    exact List.perm_middle.symm
  | some y =>
    simp only [Option.map_some, Option.toList_some, List.map_append, List.map_cons, List.singleton_append]
    refine (List.Perm.cons _ List.perm_middle).trans ((List.Perm.swap _ _ _).trans (List.Perm.cons _ List.perm_middle.symm))
theorem putT_other {U : SlT} {q k : Nat} {x : Option (Nat × Int)} (h : k ≠ q) : putT U q x k = U k := by unfold putT; rw [if_neg h]

/-- Along a way all go one further; what was held ahead lies with the others. -/
theorem shift_perm (T : SlT) {s e : Nat} (he : e < 8) (hs : s < 4) (hT : T (4 * e + s) = none) : ∀ (P : List (Nat × Nat)) (c : Nat) (U : SlT) (x : Nat × Int), Chain T c P e → (∀ p ∈ P, p.1 < 8) → (P.map Prod.fst ++ [e]).Nodup →
    (∀ b ∈ P.map Prod.fst ++ [e], ∀ k, k < 4 → U (4 * b + k) = T (4 * b + k)) → ((slL (shiftT U (some x) (P ++ [(e, s)])).1).map keyS).Perm (keyS (c, x.1, x.2) :: (slL U).map keyS)
  | [], c, U, x, h, _, _, hU => by
    have h : c = e := h
    subst h
    have hq : 4 * c + s < 32 := by omega
    have e4 : (4 * c + s) / 4 = c := by omega
    have h1 := put_key U hq x
    rw [hU c (by simp) s hs, hT, e4] at h1
    exact h1.symm
  | p :: P, c, U, x, h, h8, hn, hU => by
    obtain ⟨h1, h2, y, h3, h4⟩ := h
    subst h1
    have hp8 := h8 p (List.mem_cons_self ..)
    have hq : 4 * p.1 + p.2 < 32 := by omega
    have e4 : (4 * p.1 + p.2) / 4 = p.1 := by omega
    have hUp : U (4 * p.1 + p.2) = some y := (hU p.1 (by simp) p.2 h2).trans h3
    have hn' : p.1 ∉ P.map Prod.fst ++ [e] ∧ (P.map Prod.fst ++ [e]).Nodup := by
      have : (p.1 :: (P.map Prod.fst ++ [e])).Nodup := hn
      exact List.nodup_cons.1 this
    have ih := shift_perm T he hs hT P (othN p.1 y.1) (putT U (4 * p.1 + p.2) (some x)) y h4 (fun q hq => h8 q (List.mem_cons_of_mem _ hq)) hn'.2 (fun b hb k hk => by
      rw [putT_other (by
        intro hc
        have : b = p.1 := by omega
        exact hn'.1 (this ▸ hb))]
      exact hU b (List.mem_cons_of_mem _ hb) k hk)
    have h5 := put_key U hq x
    rw [hUp, e4] at h5
    simp only [Option.map_some, Option.toList_some, List.singleton_append] at h5
    have hk : keyS (othN p.1 y.1, y.1, y.2) = keyS (p.1, y.1, y.2) := by unfold keyS; simp only []; rw [keyN_oth _ hp8]
    rw [hk] at ih
    show ((slL (shiftT (putT U (4 * p.1 + p.2) (some x)) (U (4 * p.1 + p.2)) (P ++ [(e, s)])).1).map keyS).Perm _
    rw [hUp]
    exact ih.trans h5.symm
theorem shift_fits {T : SlT} {es : List EnT} (h : Fits T es) {s e c : Nat} (he : e < 8) (hs : s < 4) (hT : T (4 * e + s) = none) {P : List (Nat × Nat)} (hc : Chain T c P e) (h8 : ∀ p ∈ P, p.1 < 8) (hn : (P.map Prod.fst ++ [e]).Nodup) {x : Nat} {i : Int} (hk : keyN c (tagN x) = keyH x) :
    Fits (shiftT T (some (tagN x, i)) (P ++ [(e, s)])).1 (es ++ [(x, i)]) := by
  have h1 := shift_perm T he hs hT P c T (tagN x, i) hc h8 hn (fun _ _ _ _ => rfl)
  unfold Fits at *
  refine h1.trans ?_
  have e1 : keyS (c, tagN x, i) = keyE (x, i) := by unfold keyS keyE; simp only []; rw [hk]
  rw [show ((tagN x, i) : Nat × Int).1 = tagN x from rfl, show ((tagN x, i) : Nat × Int).2 = i from rfl, e1, List.map_append]
  exact (List.Perm.cons _ h).trans (List.perm_append_singleton _ _).symm

/-! ### Sets of buckets, as a number. -/
theorem mask_all : ∀ b0 b1 b2 b3 b4 b5 b6 b7 : Bool, ∃ S : Fin 256, bitN S.val 0 = b0.toNat ∧ bitN S.val 1 = b1.toNat ∧ bitN S.val 2 = b2.toNat ∧ bitN S.val 3 = b3.toNat ∧ bitN S.val 4 = b4.toNat ∧ bitN S.val 5 = b5.toNat ∧ bitN S.val 6 = b6.toNat ∧ bitN S.val 7 = b7.toNat := by
  intro b0 b1 b2 b3 b4 b5 b6 b7
  refine ⟨⟨b0.toNat + 2 * b1.toNat + 4 * b2.toNat + 8 * b3.toNat + 16 * b4.toNat + 32 * b5.toNat + 64 * b6.toNat + 128 * b7.toNat, ?_⟩, ?_⟩
  · cases b0 <;> cases b1 <;> cases b2 <;> cases b3 <;> cases b4 <;> cases b5 <;> cases b6 <;> cases b7 <;> decide
  · revert b0 b1 b2 b3 b4 b5 b6 b7
    decide +kernel
theorem mask_of (f : Nat → Bool) : ∃ S, S < 256 ∧ ∀ b, b < 8 → bitN S b = (f b).toNat := by
  obtain ⟨S, h0, h1, h2, h3, h4, h5, h6, h7⟩ := mask_all (f 0) (f 1) (f 2) (f 3) (f 4) (f 5) (f 6) (f 7)
  refine ⟨S.val, S.isLt, fun b hb => ?_⟩
  rcases (by omega : b = 0 ∨ b = 1 ∨ b = 2 ∨ b = 3 ∨ b = 4 ∨ b = 5 ∨ b = 6 ∨ b = 7) with rfl | rfl | rfl | rfl | rfl | rfl | rfl | rfl <;> assumption

/-! ### The buckets that are reached. -/
/-- A bucket and the way to it. -/
abbrev ReT := Nat × List (Nat × Nat)
def bks (L : List ReT) : List Nat := L.map Prod.fst
structure LineOk (T : SlT) (a b : Nat) (L : List ReT) : Prop where
  nodup : (bks L).Nodup
  lt : ∀ x ∈ L, x.1 < 8
  hasA : a ∈ bks L
  hasB : b ∈ bks L
  way : ∀ x ∈ L, ∃ c, (c = a ∨ c = b) ∧ Chain T c x.2 x.1 ∧ (x.2.map Prod.fst ++ [x.1]).Nodup ∧ ∀ p ∈ x.2, p.1 ∈ bks L
theorem LineOk.lt' {T : SlT} {a b : Nat} {L : List ReT} (h : LineOk T a b L) {c : Nat} (hc : c ∈ bks L) : c < 8 := by
  obtain ⟨x, hx, rfl⟩ := List.mem_map.1 hc
  exact h.lt x hx
theorem LineOk.start {T : SlT} {a b : Nat} (ha : a < 8) (hb : b < 8) (hab : a ≠ b) : LineOk T a b [(a, []), (b, [])] := by
  refine ⟨?_, ?_, by simp [bks], by simp [bks], ?_⟩
  · simp [bks, hab]
  · intro x hx
    simp only [List.mem_cons, List.not_mem_nil, or_false] at hx
    rcases hx with rfl | rfl
    · exact ha
    · exact hb
  · intro x hx
    simp only [List.mem_cons, List.not_mem_nil, or_false] at hx
    rcases hx with rfl | rfl
    · exact ⟨a, .inl rfl, rfl, by simp, by simp⟩
    · exact ⟨b, .inr rfl, rfl, by simp, by simp⟩
theorem nodup_le8 {l : List Nat} (hn : l.Nodup) (h8 : ∀ x ∈ l, x < 8) : l.length ≤ 8 := by
  have hp : l.Perm ((List.range 8).filter fun x => decide (x ∈ l)) := by
    rw [List.perm_ext_iff_of_nodup hn (List.Pairwise.filter _ List.nodup_range)]
    intro x
    rw [List.mem_filter, List.mem_range, decide_eq_true_eq]
    exact ⟨fun h => ⟨h8 x h, h⟩, fun h => h.2⟩
  rw [hp.length_eq]
  have := List.length_filter_le (fun x => decide (x ∈ l)) (List.range 8)
  rw [List.length_range] at this
  exact this
theorem LineOk.len {T : SlT} {a b : Nat} {L : List ReT} (h : LineOk T a b L) : L.length ≤ 8 := by
  have := nodup_le8 h.nodup (fun c hc => h.lt' hc)
  rw [bks, List.length_map] at this
  exact this
/-- One more bucket, reached by way of slot s of bucket i. -/
theorem LineOk.more {T : SlT} {a b : Nat} {L : List ReT} (h : LineOk T a b L) {i s : Nat} (hi : i < L.length) (hs : s < 4) {x : Nat × Int} (hT : T (4 * L[i].1 + s) = some x) (hnew : othN L[i].1 x.1 ∉ bks L) :
    LineOk T a b (L ++ [(othN L[i].1 x.1, L[i].2 ++ [(L[i].1, s)])]) := by
  have hm := List.getElem_mem hi
  have h8 := h.lt _ hm
  obtain ⟨c, hc, hch, hnd, hin⟩ := h.way _ hm
  have hb : ∀ L' : List ReT, ∀ c, c ∈ bks L → c ∈ bks (L ++ L') := fun L' c hc => by unfold bks at *; rw [List.map_append]; exact List.mem_append_left _ hc
  have hib : L[i].1 ∈ bks L := List.mem_map.2 ⟨_, hm, rfl⟩
  refine ⟨?_, ?_, hb _ _ h.hasA, hb _ _ h.hasB, ?_⟩
  · unfold bks at *
    rw [List.map_append, List.nodup_append]
    exact ⟨h.nodup, by simp, fun u hu v hv => by
      simp only [List.map_cons, List.map_nil, List.mem_singleton] at hv
      subst hv
      intro e
      exact hnew (e ▸ hu)⟩
  · intro y hy
    rcases List.mem_append.1 hy with hy | hy
    · exact h.lt y hy
    · rw [List.mem_singleton.1 hy]
      exact oth_lt _ h8
  · intro y hy
    rcases List.mem_append.1 hy with hy | hy
    · obtain ⟨c', h1, h2, h3, h4⟩ := h.way y hy
      exact ⟨c', h1, h2, h3, fun p hp => hb _ _ (h4 p hp)⟩
    · rw [List.mem_singleton.1 hy]
      refine ⟨c, hc, hch.snoc hs hT, ?_, fun p hp => ?_⟩
      · simp only [List.map_append, List.map_cons, List.map_nil]
        rw [List.nodup_append]
        refine ⟨hnd, by simp, fun u hu v hv => ?_⟩
        rw [List.mem_singleton.1 hv]
        intro e
        apply hnew
        rw [← e]
        rcases List.mem_append.1 hu with hu | hu
        · obtain ⟨p, hp, rfl⟩ := List.mem_map.1 hu
          exact hin p hp
        · rw [List.mem_singleton.1 hu]; exact hib
      · simp only [] at hp
        rcases List.mem_append.1 hp with hp | hp
        · exact hb _ _ (hin p hp)
        · rw [List.mem_singleton.1 hp]; exact hb _ _ hib
/-- What was looked at ahead of slot s of bucket i is full, and can move only to buckets that are reached. -/
def DoneT (T : SlT) (L : List ReT) (i s : Nat) : Prop := ∀ j, j ≤ i → ∀ (hj : j < L.length), ∀ k, k < 4 → (j < i ∨ k < s) → ∃ x, T (4 * L[j].1 + k) = some x ∧ othN L[j].1 x.1 ∈ bks L
theorem DoneT.zero (T : SlT) (L : List ReT) : DoneT T L 0 0 := fun j hj _ k _ h => by omega
theorem DoneT.next {T : SlT} {L : List ReT} {i : Nat} (h : DoneT T L i 4) : DoneT T L (i + 1) 0 := fun j hj hjl k hk hh => h j (by omega) hjl k hk (by omega)
theorem DoneT.step {T : SlT} {L : List ReT} {i s : Nat} (h : DoneT T L i s) (hi : i < L.length) {x : Nat × Int} (hT : T (4 * L[i].1 + s) = some x) (hin : othN L[i].1 x.1 ∈ bks L) : DoneT T L i (s + 1) := fun j hj hjl k hk hh => by
  by_cases hc : j < i ∨ k < s
  · exact h j hj hjl k hk hc
  · have h1 : j = i := by omega
    have h2 : k = s := by omega
    subst h1 h2
    exact ⟨x, hT, hin⟩
theorem DoneT.grow {T : SlT} {L : List ReT} {i s : Nat} (h : DoneT T L i s) (hi : i < L.length) (y : ReT) : DoneT T (L ++ [y]) i s := fun j hj hjl k hk hh => by
  have hjl' : j < L.length := by omega
  obtain ⟨x, h1, h2⟩ := h j hj hjl' k hk hh
  have e : (L ++ [y])[j] = L[j] := List.getElem_append_left hjl'
  refine ⟨x, by rw [e]; exact h1, ?_⟩
  rw [e]
  unfold bks at *
  rw [List.map_append]
  exact List.mem_append_left _ h2
/-- All looked at, no slot empty: one more finds no room. -/
theorem stuck {T : SlT} {es : List EnT} (hf : Fits T es) {x : Nat} {L : List ReT} (h : LineOk T (firstN x) (othN (firstN x) (tagN x)) L) (hd : DoneT T L L.length 0) : roomB (es.map Prod.fst ++ [x]) = false := by
  obtain ⟨S, hS, hbit⟩ := mask_of fun b => decide (b ∈ bks L)
  have hin : ∀ c, c ∈ bks L → bitN S c = 1 := fun c hc => by rw [hbit c (h.lt' hc), decide_eq_true hc]; rfl
  refine no_room hf hS ?_ ?_
  · unfold inS
    rw [hin _ h.hasA, hin _ h.hasB]
    rfl
  · intro q hq hb
    have hq8 : q / 4 < 8 := by omega
    rw [hbit _ hq8] at hb
    have hm : q / 4 ∈ bks L := by
      by_cases hc : q / 4 ∈ bks L
      · exact hc
      · rw [decide_eq_false hc] at hb; cases hb
    obtain ⟨y, hy, hye⟩ := List.mem_map.1 hm
    obtain ⟨j, hj, rfl⟩ := List.mem_iff_getElem.1 hy
    obtain ⟨z, h1, h2⟩ := hd j (Nat.le_of_lt hj) hj (q % 4) (Nat.mod_lt _ (by omega)) (.inl hj)
    rw [hye] at h1 h2
    rw [show 4 * (q / 4) + q % 4 = q by omega] at h1
    exact ⟨z, h1, hin _ h2⟩

end Go.Proofs.Ytgbaeipemlcbcaa
