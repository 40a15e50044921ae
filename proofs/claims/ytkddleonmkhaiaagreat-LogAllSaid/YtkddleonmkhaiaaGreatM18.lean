/-
  Mathematics of ways (of no code): the slots along which entries give way, one to the next.
  'append' to what the call itself owns, with one thing more than the library's law says: the row is the one it was, or a new one.
  Stage 17: the buckets that are reached, in memory; slices.Clone of places.
-/
import Derived.Test.YtkddleonmkhaiaaGreatM10
import Derived.Test.YtkddleonmkhaiaaGreatM01
import Derived.Test.YtkddleonmkhaiaaGreatM15
import Derived.Lib.SliceRun
namespace Go.Proofs.YtkddleonmkhaiaaGreat

/-- From bucket c on: each slot of the way is full, its entry can move to the next one's bucket, the last one's to bucket e. -/
def Chain (T : SlT) : Nat → List (Nat × Nat) → Nat → Prop
  | c, [], e => c = e
  | c, p :: P, e => p.1 = c ∧ p.2 < 4 ∧ ∃ x, T (4 * c + p.2) = some x ∧ Chain T (othN c x.1) P e
theorem Chain.snoc {T : SlT} {x : Nat × Int} {s : Nat} : ∀ {P : List (Nat × Nat)} {c e : Nat}, Chain T c P e → s < 4 → T (4 * e + s) = some x → Chain T c (P ++ [(e, s)]) (othN e x.1)
  | [], c, e, h, hs, hT => by
    have h : c = e := h
    subst h
    exact ⟨rfl, hs, x, hT, rfl⟩
  | p :: P, c, e, h, hs, hT => by
    obtain ⟨h1, h2, y, h3, h4⟩ := h
    exact ⟨h1, h2, y, h3, Chain.snoc h4 hs hT⟩

theorem chain_slot {T : SlT} : ∀ {P : List (Nat × Nat)} {c e : Nat}, Chain T c P e → ∀ p ∈ P, p.2 < 4
  | [], c, e, _, p, hp => by cases hp
  | q :: P, c, e, h, p, hp => by
    obtain ⟨h1, h2, y, h3, h4⟩ := h
    rcases List.mem_cons.1 hp with rfl | hp
    · exact h2
    · exact chain_slot h4 p hp

/-- What is held is put down at each slot, what lay there is taken up. -/
def shiftT : SlT → Option (Nat × Int) → List (Nat × Nat) → SlT × Option (Nat × Int)
  | U, x, [] => (U, x)
  | U, x, p :: P => shiftT (layT U (4 * p.1 + p.2) x) (U (4 * p.1 + p.2)) P
theorem shift_snoc (p : Nat × Nat) : ∀ (P : List (Nat × Nat)) (U : SlT) (x : Option (Nat × Int)), shiftT U x (P ++ [p]) = (layT (shiftT U x P).1 (4 * p.1 + p.2) (shiftT U x P).2, (shiftT U x P).1 (4 * p.1 + p.2))
  | [], _U, _x => rfl
  | q :: P, U, x => shift_snoc p P (layT U (4 * q.1 + q.2) x) (U (4 * q.1 + q.2))

theorem put_key (U : SlT) {q : Nat} (hq : q < 32) (x : Nat × Int) : ((keyS (q / 4, x.1, x.2) :: (slL U).map keyS).Perm (((U q).map fun y => keyS (q / 4, y.1, y.2)).toList ++ (slL (layT U q (some x))).map keyS)) := by
  obtain ⟨a, b, h1, h2⟩ := slL_split U hq
  rw [h1, h2]
  cases hU : U q with
  | none =>
    simp only [Option.map_none, Option.toList_none, List.nil_append, Option.map_some, Option.toList_some, List.map_append, List.map_cons, List.singleton_append]
    exact List.perm_middle.symm
  | some y =>
    simp only [Option.map_some, Option.toList_some, List.map_append, List.map_cons, List.singleton_append]
    refine (List.Perm.cons _ List.perm_middle).trans ((List.Perm.swap _ _ _).trans (List.Perm.cons _ List.perm_middle.symm))
theorem putT_other {U : SlT} {q k : Nat} {x : Option (Nat × Int)} (h : k ≠ q) : layT U q x k = U k := by unfold layT; rw [if_neg h]

/-- Along a way all go one further; what was held ahead lies with the others. -/
theorem shift_perm (T : SlT) {s e : Nat} (he : e < 8) (hs : s < 4) (hT : T (4 * e + s) = none) : ∀ (P : List (Nat × Nat)) (c : Nat) (U : SlT) (x : Nat × Int), Chain T c P e → (∀ p ∈ P, p.1 < 8) → (P.map Prod.fst ++ [e]).Nodup →
    (∀ b ∈ P.map Prod.fst ++ [e], ∀ k, k < 4 → U (4 * b + k) = T (4 * b + k)) → ((slL (shiftT U (some x) (P ++ [(e, s)])).1).map keyS).Perm (keyS (c, x.1, x.2) :: (slL U).map keyS)
  | [], c, U, x, h, _, _, hU => by
    have h : c = e := h
    subst h
    have hq : 4 * c + s < 32 := by omega
    have e4 : (4 * c + s) / 4 = c := by omega
    have h1 := put_key U hq x
    rw [hU c (by simp) s hs, hT, e4] at h1
    exact h1.symm
  | p :: P, c, U, x, h, h8, hn, hU => by
    obtain ⟨h1, h2, y, h3, h4⟩ := h
    subst h1
    have hp8 := h8 p (List.mem_cons_self ..)
    have hq : 4 * p.1 + p.2 < 32 := by omega
    have e4 : (4 * p.1 + p.2) / 4 = p.1 := by omega
    have hUp : U (4 * p.1 + p.2) = some y := (hU p.1 (by simp) p.2 h2).trans h3
    have hn' : p.1 ∉ P.map Prod.fst ++ [e] ∧ (P.map Prod.fst ++ [e]).Nodup := by
      have : (p.1 :: (P.map Prod.fst ++ [e])).Nodup := hn
      exact List.nodup_cons.1 this
    have ih := shift_perm T he hs hT P (othN p.1 y.1) (layT U (4 * p.1 + p.2) (some x)) y h4 (fun q hq => h8 q (List.mem_cons_of_mem _ hq)) hn'.2 (fun b hb k hk => by
      rw [putT_other (by
        intro hc
        have : b = p.1 := by omega
        exact hn'.1 (this ▸ hb))]
      exact hU b (List.mem_cons_of_mem _ hb) k hk)
    have h5 := put_key U hq x
    rw [hUp, e4] at h5
    simp only [Option.map_some, Option.toList_some, List.singleton_append] at h5
    have hk : keyS (othN p.1 y.1, y.1, y.2) = keyS (p.1, y.1, y.2) := by unfold keyS; simp only []; rw [keyN_oth _ hp8]
    rw [hk] at ih
    show ((slL (shiftT (layT U (4 * p.1 + p.2) (some x)) (U (4 * p.1 + p.2)) (P ++ [(e, s)])).1).map keyS).Perm _
    rw [hUp]
    exact ih.trans h5.symm
theorem shift_fits {T : SlT} {es : List EnT} (h : Fits T es) {s e c : Nat} (he : e < 8) (hs : s < 4) (hT : T (4 * e + s) = none) {P : List (Nat × Nat)} (hc : Chain T c P e) (h8 : ∀ p ∈ P, p.1 < 8) (hn : (P.map Prod.fst ++ [e]).Nodup) {x : Nat} {i : Int} (hk : keyN c (tagN x) = keyH x) :
    Fits (shiftT T (some (tagN x, i)) (P ++ [(e, s)])).1 (es ++ [(x, i)]) := by
  have h1 := shift_perm T he hs hT P c T (tagN x, i) hc h8 hn (fun _ _ _ _ => rfl)
  unfold Fits at *
  refine h1.trans ?_
  have e1 : keyS (c, tagN x, i) = keyE (x, i) := by unfold keyS keyE; simp only []; rw [hk]
  rw [show ((tagN x, i) : Nat × Int).1 = tagN x from rfl, show ((tagN x, i) : Nat × Int).2 = i from rfl, e1, List.map_append]
  exact (List.Perm.cons _ h).trans (List.perm_append_singleton _ _).symm

/-! ### Sets of buckets, as a number. -/
theorem mask_all : ∀ b0 b1 b2 b3 b4 b5 b6 b7 : Bool, ∃ S : Fin 256, bitN S.val 0 = b0.toNat ∧ bitN S.val 1 = b1.toNat ∧ bitN S.val 2 = b2.toNat ∧ bitN S.val 3 = b3.toNat ∧ bitN S.val 4 = b4.toNat ∧ bitN S.val 5 = b5.toNat ∧ bitN S.val 6 = b6.toNat ∧ bitN S.val 7 = b7.toNat := by
  intro b0 b1 b2 b3 b4 b5 b6 b7
  refine ⟨⟨b0.toNat + 2 * b1.toNat + 4 * b2.toNat + 8 * b3.toNat + 16 * b4.toNat + 32 * b5.toNat + 64 * b6.toNat + 128 * b7.toNat, ?_⟩, ?_⟩
  · cases b0 <;> cases b1 <;> cases b2 <;> cases b3 <;> cases b4 <;> cases b5 <;> cases b6 <;> cases b7 <;> decide
  · revert b0 b1 b2 b3 b4 b5 b6 b7
    decide +kernel
theorem mask_of (f : Nat → Bool) : ∃ S, S < 256 ∧ ∀ b, b < 8 → bitN S b = (f b).toNat := by
  obtain ⟨S, h0, h1, h2, h3, h4, h5, h6, h7⟩ := mask_all (f 0) (f 1) (f 2) (f 3) (f 4) (f 5) (f 6) (f 7)
  refine ⟨S.val, S.isLt, fun b hb => ?_⟩
  rcases (by omega : b = 0 ∨ b = 1 ∨ b = 2 ∨ b = 3 ∨ b = 4 ∨ b = 5 ∨ b = 6 ∨ b = 7) with rfl | rfl | rfl | rfl | rfl | rfl | rfl | rfl <;> assumption

/-! ### The buckets that are reached. -/
/-- A bucket and the way to it. -/
abbrev ReT := Nat × List (Nat × Nat)
def bks (L : List ReT) : List Nat := L.map Prod.fst
structure LineOk (T : SlT) (a b : Nat) (L : List ReT) : Prop where
  nodup : (bks L).Nodup
  lt : ∀ x ∈ L, x.1 < 8
  hasA : a ∈ bks L
  hasB : b ∈ bks L
  way : ∀ x ∈ L, ∃ c, (c = a ∨ c = b) ∧ Chain T c x.2 x.1 ∧ (x.2.map Prod.fst ++ [x.1]).Nodup ∧ ∀ p ∈ x.2, p.1 ∈ bks L
theorem LineOk.lt' {T : SlT} {a b : Nat} {L : List ReT} (h : LineOk T a b L) {c : Nat} (hc : c ∈ bks L) : c < 8 := by
  obtain ⟨x, hx, rfl⟩ := List.mem_map.1 hc
  exact h.lt x hx
theorem LineOk.start {T : SlT} {a b : Nat} (ha : a < 8) (hb : b < 8) (hab : a ≠ b) : LineOk T a b [(a, []), (b, [])] := by
  refine ⟨?_, ?_, by simp [bks], by simp [bks], ?_⟩
  · simp [bks, hab]
  · intro x hx
    simp only [List.mem_cons, List.not_mem_nil, or_false] at hx
    rcases hx with rfl | rfl
    · exact ha
    · exact hb
  · intro x hx
    simp only [List.mem_cons, List.not_mem_nil, or_false] at hx
    rcases hx with rfl | rfl
    · exact ⟨a, .inl rfl, rfl, by simp, by simp⟩
    · exact ⟨b, .inr rfl, rfl, by simp, by simp⟩
theorem nodup_le8 {l : List Nat} (hn : l.Nodup) (h8 : ∀ x ∈ l, x < 8) : l.length ≤ 8 := by
  have hp : l.Perm ((List.range 8).filter fun x => decide (x ∈ l)) := by
    rw [List.perm_ext_iff_of_nodup hn (List.Pairwise.filter _ List.nodup_range)]
    intro x
    rw [List.mem_filter, List.mem_range, decide_eq_true_eq]
    exact ⟨fun h => ⟨h8 x h, h⟩, fun h => h.2⟩
  rw [hp.length_eq]
  have := List.length_filter_le (fun x => decide (x ∈ l)) (List.range 8)
  rw [List.length_range] at this
  exact this
theorem LineOk.len {T : SlT} {a b : Nat} {L : List ReT} (h : LineOk T a b L) : L.length ≤ 8 := by
  have := nodup_le8 h.nodup (fun c hc => h.lt' hc)
  rw [bks, List.length_map] at this
  exact this
/-- One more bucket, reached by way of slot s of bucket i. -/
theorem LineOk.more {T : SlT} {a b : Nat} {L : List ReT} (h : LineOk T a b L) {i s : Nat} (hi : i < L.length) (hs : s < 4) {x : Nat × Int} (hT : T (4 * L[i].1 + s) = some x) (hnew : othN L[i].1 x.1 ∉ bks L) :
    LineOk T a b (L ++ [(othN L[i].1 x.1, L[i].2 ++ [(L[i].1, s)])]) := by
  have hm := List.getElem_mem hi
  have h8 := h.lt _ hm
  obtain ⟨c, hc, hch, hnd, hin⟩ := h.way _ hm
  have hb : ∀ L' : List ReT, ∀ c, c ∈ bks L → c ∈ bks (L ++ L') := fun L' c hc => by unfold bks at *; rw [List.map_append]; exact List.mem_append_left _ hc
  have hib : L[i].1 ∈ bks L := List.mem_map.2 ⟨_, hm, rfl⟩
  refine ⟨?_, ?_, hb _ _ h.hasA, hb _ _ h.hasB, ?_⟩
  · unfold bks at *
    rw [List.map_append, List.nodup_append]
    exact ⟨h.nodup, by simp, fun u hu v hv => by
      simp only [List.map_cons, List.map_nil, List.mem_singleton] at hv
      subst hv
      intro e
      exact hnew (e ▸ hu)⟩
  · intro y hy
    rcases List.mem_append.1 hy with hy | hy
    · exact h.lt y hy
    · rw [List.mem_singleton.1 hy]
      exact oth_lt _ h8
  · intro y hy
    rcases List.mem_append.1 hy with hy | hy
    · obtain ⟨c', h1, h2, h3, h4⟩ := h.way y hy
      exact ⟨c', h1, h2, h3, fun p hp => hb _ _ (h4 p hp)⟩
    · rw [List.mem_singleton.1 hy]
      refine ⟨c, hc, hch.snoc hs hT, ?_, fun p hp => ?_⟩
      · simp only [List.map_append, List.map_cons, List.map_nil]
        rw [List.nodup_append]
        refine ⟨hnd, by simp, fun u hu v hv => ?_⟩
        rw [List.mem_singleton.1 hv]
        intro e
        apply hnew
        rw [← e]
        rcases List.mem_append.1 hu with hu | hu
        · obtain ⟨p, hp, rfl⟩ := List.mem_map.1 hu
          exact hin p hp
        · rw [List.mem_singleton.1 hu]; exact hib
      · simp only [] at hp
        rcases List.mem_append.1 hp with hp | hp
        · exact hb _ _ (hin p hp)
        · rw [List.mem_singleton.1 hp]; exact hb _ _ hib
/-- What was looked at ahead of slot s of bucket i is full, and can move only to buckets that are reached. -/
def DoneT (T : SlT) (L : List ReT) (i s : Nat) : Prop := ∀ j, j ≤ i → ∀ (hj : j < L.length), ∀ k, k < 4 → (j < i ∨ k < s) → ∃ x, T (4 * L[j].1 + k) = some x ∧ othN L[j].1 x.1 ∈ bks L
theorem DoneT.zero (T : SlT) (L : List ReT) : DoneT T L 0 0 := fun j hj _ k _ h => by omega
theorem DoneT.next {T : SlT} {L : List ReT} {i : Nat} (h : DoneT T L i 4) : DoneT T L (i + 1) 0 := fun j hj hjl k hk hh => h j (by omega) hjl k hk (by omega)
theorem DoneT.step {T : SlT} {L : List ReT} {i s : Nat} (h : DoneT T L i s) (hi : i < L.length) {x : Nat × Int} (hT : T (4 * L[i].1 + s) = some x) (hin : othN L[i].1 x.1 ∈ bks L) : DoneT T L i (s + 1) := fun j hj hjl k hk hh => by
  by_cases hc : j < i ∨ k < s
  · exact h j hj hjl k hk hc
  · have h1 : j = i := by omega
    have h2 : k = s := by omega
    subst h1 h2
    exact ⟨x, hT, hin⟩
theorem DoneT.grow {T : SlT} {L : List ReT} {i s : Nat} (h : DoneT T L i s) (hi : i < L.length) (y : ReT) : DoneT T (L ++ [y]) i s := fun j hj hjl k hk hh => by
  have hjl' : j < L.length := by omega
  obtain ⟨x, h1, h2⟩ := h j hj hjl' k hk hh
  have e : (L ++ [y])[j] = L[j] := List.getElem_append_left hjl'
  refine ⟨x, by rw [e]; exact h1, ?_⟩
  rw [e]
  unfold bks at *
  rw [List.map_append]
  exact List.mem_append_left _ h2
/-- All looked at, no slot empty: one more finds no room. -/
theorem stuck {T : SlT} {es : List EnT} (hf : Fits T es) {x : Nat} {L : List ReT} (h : LineOk T (firstN x) (othN (firstN x) (tagN x)) L) (hd : DoneT T L L.length 0) : roomB (es.map Prod.fst ++ [x]) = false := by
  obtain ⟨S, hS, hbit⟩ := mask_of fun b => decide (b ∈ bks L)
  have hin : ∀ c, c ∈ bks L → bitN S c = 1 := fun c hc => by rw [hbit c (h.lt' hc), decide_eq_true hc]; rfl
  refine no_room hf hS ?_ ?_
  · unfold inS
    rw [hin _ h.hasA, hin _ h.hasB]
    rfl
  · intro q hq hb
    have hq8 : q / 4 < 8 := by omega
    rw [hbit _ hq8] at hb
    have hm : q / 4 ∈ bks L := by
      by_cases hc : q / 4 ∈ bks L
      · exact hc
      · rw [decide_eq_false hc] at hb; cases hb
    obtain ⟨y, hy, hye⟩ := List.mem_map.1 hm
    obtain ⟨j, hj, rfl⟩ := List.mem_iff_getElem.1 hy
    obtain ⟨z, h1, h2⟩ := hd j (Nat.le_of_lt hj) hj (q % 4) (Nat.mod_lt _ (by omega)) (.inl hj)
    rw [hye] at h1 h2
    rw [show 4 * (q / 4) + q % 4 = q by omega] at h1
    exact ⟨z, h1, hin _ h2⟩

end Go.Proofs.YtkddleonmkhaiaaGreat

namespace Go.Proofs.YtkddleonmkhaiaaGreat
open Go.RowKit

section
variable {P : Program} (w : World)

theorem run_append_where (base : Nat) (t ty e : TypeId) (i : TypeInfo) (z : Value) (size bytes : Nat) (ht : P.underlying t = some (.slice e)) (hi : P.info? e = some i) (hz : i.zero = some z)
    (hsize : i.size = size) (hby : i.bytes = bytes) (hzs : z.cells.size = size) (hsz : 0 < size)
    (v : Value) (n : Nat) (xs : List Value) (hown : w.ownsRow base e size v n xs)
    (a : Addr) (m c : Nat) (news : List Value) (hl : news.length = m * size) (hnews : ∀ j u, news[j]? = some u → w.cell? (a.add j) = some u) (h1 : ∀ u ∈ news, u.oneCell' = true)
    (h63 : n + m ≤ maxLen) (hbytes : (n + m) * bytes ≤ 140737488355328) (hbase : base ≤ w.heap.size) :
    ∃ v' w', (Builtin.append_ #[t, t] ty #[v, .slice (some a) m c]).run P w = .ok v' w' ∧ w'.ownsRow base e size v' (n + m) (xs ++ news) ∧ w.grownBy w' v.ownBlock ∧
      (v'.ownBlock = v.ownBlock ∨ ∀ k, v'.ownBlock = some k → w.heap.size ≤ k) := by
  obtain ⟨v', w', hr, h2, h3, -⟩ := run_append_own (P := P) w base t ty e i z size bytes ht hi hz hsize hby hzs hsz v n xs hown a m c news hl hnews h1 h63 hbytes hbase
  refine ⟨v', w', hr, h2, h3, ?_⟩
  rcases hown.2 with ⟨rfl, rfl⟩ | ⟨g, cap, cur, rfl, hbg, hg, hnc, hcm, hcs, htake⟩
  · right
    obtain ⟨v2, w2, hr2, k2, -, -⟩ := run_append_own (P := P) w w.heap.size t ty e i z size bytes ht hi hz hsize hby hzs hsz (.slice none 0 0) 0 xs ⟨hown.1, .inl ⟨rfl, rfl⟩⟩ a m c news hl hnews h1 h63 hbytes (Nat.le_refl _)
    rw [hr] at hr2
    cases hr2
    exact fun k hk => (World.ownsRow.lt k2 k hk).1
  · by_cases hroom : n + m ≤ cap
    · left
      obtain ⟨w2, hr2, -, -⟩ := run_append_fits (P := P) w base t ty e i size ht hi hsize g n cap xs hown a m c news hl hnews h1 hroom
      rw [hr] at hr2
      cases hr2
      rfl
    · right
      have hsmall : n + m ≤ 9223372036854775807 := by simp only [maxLen] at h63; omega
      have holds : ∀ j u, xs[j]? = some u → w.cell? ((⟨g, 0, none⟩ : Addr).add j) = some u := hown.cells (g := g) rfl
      subst hsize hby
      have hr2 := run_append_grow (P := P) w t ty e i z ht hi hz ⟨g, 0, none⟩ n cap xs hown.1 holds a m c news hl hnews (by omega) (by omega) (growslice_fits (by omega) hbytes)
      rw [hr] at hr2
      cases hr2
      intro k hk
      simp only [Value.ownBlock, Option.some.injEq] at hk
      omega

theorem wpList_append_where {ops : Array Oper} {rest : List Oper} {o : Oper} {a : Act} {Q : Exit → Act → World → Prop} (hgd : o.guard = none) (s x : Operand) (t : TypeId)
    (ho : o.op = .call { callee := .builtin .append, args := #[s, x], argTypes := #[t, t] })
    (base : Nat) (e : TypeId) (ht : P.underlying t = some (.slice e)) (z : Value) (size bytes : Nat) (hinfo : (P.info? e).map (fun i => (i.zero, i.size, i.bytes)) = some (some z, size, bytes)) (hzs : z.cells.size = size) (hsz : 0 < size)
    (v : Value) (n : Nat) (xs : List Value) (hs : a.eval s = v) (hown : w.ownsRow base e size v n xs)
    (ad : Addr) (m c : Nat) (news : List Value) (hx : a.eval x = .slice (some ad) m c) (hl : news.length = m * size) (hnews : ∀ j u, news[j]? = some u → w.cell? (ad.add j) = some u) (h1 : ∀ u ∈ news, u.oneCell' = true)
    (h63 : n + m ≤ maxLen) (hbytes : (n + m) * bytes ≤ 140737488355328) (hbase : base ≤ w.heap.size)
    (h : ∀ v' w', w'.ownsRow base e size v' (n + m) (xs ++ news) → w.grownBy w' v.ownBlock → (v'.ownBlock = v.ownBlock ∨ ∀ k, v'.ownBlock = some k → w.heap.size ≤ k) → wpList P ops Q rest (a.put o.dst v') w') : wpList P ops Q (o :: rest) a w := by
  obtain ⟨i, hi, hz, hsize, hby⟩ := info_parts hinfo
  obtain ⟨v', w', hr, h2, h3, h4⟩ := run_append_where (P := P) w base t o.type e i z size bytes ht hi hz hsize hby hzs hsz v n xs hown ad m c news hl hnews h1 h63 hbytes hbase
  refine wpList_gives hgd v' w' ?_ (h v' w' h2 h3 h4)
  unfold execOp
  simp only [ho, resolve, invoke, builtin, Sem.run_bind, Sem.run_pure, Result.andThen_ok, List.map_toArray, List.map_cons, List.map_nil, hs, hx, hr]

/-- One byte more. -/
theorem wpList_append_byte {ops : Array Oper} {rest : List Oper} {o : Oper} {a : Act} {Q : Exit → Act → World → Prop} (hgd : o.guard = none) (s x : Operand) (t : TypeId)
    (ho : o.op = .call { callee := .builtin .append, args := #[s, x], argTypes := #[t, t] })
    (B : Nat) (e : TypeId) (ht : P.underlying t = some (.slice e)) (hinfo : (P.info? e).map (fun i => (i.zero, i.size, i.bytes)) = some (some (.int .u8 0), 1, 1))
    (v : Value) (l : List UInt8) (g cap : Nat) (y : UInt8) (hs : a.eval s = v) (hx : a.eval x = .slice (some ⟨g, 0, none⟩) 1 cap) (hown : Own e w B v l) (hy : w.cell? ⟨g, 0, none⟩ = some (.int .u8 (y.toNat : Int)))
    (hlen : l.length < 140737488355328) (hbase : B ≤ w.heap.size)
    (h : ∀ v' w', Own e w' B v' (l ++ [y]) → w.grownBy w' v.ownBlock → (v'.ownBlock = v.ownBlock ∨ ∀ k, v'.ownBlock = some k → w.heap.size ≤ k) → wpList P ops Q rest (a.put o.dst v') w') : wpList P ops Q (o :: rest) a w := by
  refine wpList_append_where w hgd s x t ho B e ht (.int .u8 0) 1 1 hinfo rfl (by decide) v l.length (cells l) hs hown ⟨g, 0, none⟩ 1 cap [.int .u8 (y.toNat : Int)] hx rfl ?_ ?_ (by unfold maxLen; omega) (by omega) hbase ?_
  · intro j u hj
    match j, hj with
    | 0, hj => rw [show (⟨g, 0, none⟩ : Addr).add 0 = ⟨g, 0, none⟩ from rfl, hy]; exact hj
    | j + 1, hj => simp at hj
  · intro u hu
    simp only [List.mem_cons, List.not_mem_nil, or_false] at hu
    subst hu
    rfl
  · intro v' w' h2 h3 h4
    refine h v' w' ?_ h3 h4
    unfold Own
    rw [List.length_append, cells_append]
    exact h2
end

end Go.Proofs.YtkddleonmkhaiaaGreat

namespace Go.Proofs.YtkddleonmkhaiaaGreat
open Go.RowKit

/-- 'append(s, x...)', s the call's own, x not empty: the row is the one it was, or a new one. -/
theorem Lay.Ok.appendW {α : Type} {K : Lay α} {P : Program} (hK : K.Ok P) {ops : Array Oper} {rest : List Oper} {o : Oper} {a : Act} {w : World} {Q : Exit → Act → World → Prop} (hgd : o.guard = none) (s x : Operand) (ho : o.op = .call { callee := .builtin .append, args := #[s, x], argTypes := #[K.row, K.row] })
    (B : Nat) (v xv : Value) (l m : List α) (hs : a.eval s = v) (hx : a.eval x = xv) (hown : K.O w B v l) (hrb : K.R w xv m) (hne : m ≠ []) (hl : l.length + m.length ≤ 1000000) (hbase : B ≤ w.heap.size)
    (h : ∀ v' w', K.O w' B v' (l ++ m) → w.grownBy w' v.ownBlock → (v'.ownBlock = v.ownBlock ∨ ∀ k, v'.ownBlock = some k → w.heap.size ≤ k) → wpList P ops Q rest (a.put o.dst v') w') : wpList P ops Q (o :: rest) a w := by
  obtain ⟨ad, cap, rfl, h1, h2, h3, h4⟩ := hrb
  obtain ⟨b2, o2, rfl, hc⟩ := h4 hne
  have hb : (l.length + m.length) * K.bytes ≤ 140737488355328 := by
    have := Nat.mul_le_mul hl hK.fit
    omega
  refine wpList_append_where w hgd s x K.row ho B K.elem hK.under K.zero K.size K.bytes hK.info hK.zsize hK.pos v l.length (K.flat l) hs hown ⟨b2, o2, none⟩ m.length cap (K.flat m) hx (hK.flat_len m) (fun j u hj => ?_) (hK.flat_one m) (by unfold maxLen; omega) hb hbase (fun v' w' hown' hg hw => h v' w' ?_ hg hw)
  · rw [Addr.add_mid]
    exact hc j u hj
  · unfold Lay.O
    rw [List.length_append, Lay.flat_append]
    exact hown'

abbrev SvT := Option Addr × Nat × Nat
def svE (y : SvT) : Value := .slice y.1 y.2.1 y.2.2
def KR : Lay (Nat × SvT) := ⟨fun e => [.int .i64 (e.1 : Int), .slice e.2.1 e.2.2.1 e.2.2.2], 2, 117, 118, .agg #[.int .i64 0, .slice none 0 0], 32⟩
theorem KR_ok : KR.Ok Tryz.prog := ⟨by decide, fun _ => rfl, fun x u hu => by
  rcases List.mem_cons.1 hu with rfl | hu
  · rfl
  · rw [List.mem_singleton.1 hu]; rfl, Tryz.underlying118, by kernel_rfl, rfl, by decide⟩
theorem KR.one' (w : World) (c : Nat) (a : Option Addr) (n k : Nat) : KR.R (w.alloc (.cells #[.int .i64 (c : Int), .slice a n k] 117)) (.slice (some ⟨w.heap.size, 0, none⟩) 1 1) [(c, a, n, k)] := Lay.R.one w KR_ok (c, a, n, k) 117 (0, 0)
theorem KR.at' {w : World} {a : Option Addr} {n cap : Nat} {l : List (Nat × SvT)} (h : KR.R w (.slice a n cap) l) (i : Nat) (hi : i < l.length) : ∃ b o, a = some ⟨b, o, none⟩ ∧ n = l.length ∧ b < w.heap.size ∧ w.cell? ⟨b, o + i * 2, none⟩ = some (.int .i64 (l[i].1 : Int)) ∧ w.cell? ⟨b, o + i * 2 + 1, none⟩ = some (svE l[i].2) := by
  obtain ⟨b, o, h1, h2, h3, h4⟩ := h.at KR_ok i hi
  exact ⟨b, o, h1, h2, h3, h4 0 _ rfl, h4 1 _ rfl⟩
theorem idxR (b o n cap j : Nat) (h : j < n) (W : World) : (Instr.indexAt 118 (.slice (some ⟨b, o, none⟩) n cap) (.int .i64 (j : Int))).run Tryz.prog W = .ok (.pointer (some ⟨b, o + j * 2, none⟩)) W := KR_ok.run_idx b o n cap j h W
theorem idx8 (g b : Nat) (hb : b < 8) (W : World) : (Instr.indexAt 115 (.pointer (some ⟨g, 0, none⟩)) (.int .i64 (b : Int))).run Tryz.prog W = .ok (.pointer (some ⟨g, b, none⟩)) W := by
  have hu : Tryz.prog.underlying 115 = some (.array 8 4) := by kernel_rfl
  have hs : (Tryz.prog.info? 4).map (fun i => i.size) = some 1 := by kernel_rfl
  have h8 : ¬ 8 ≤ b := by omega
  have h8' : (b : Int) < 8 := by omega
  cases hi : Tryz.prog.info? 4 with
  | none => rw [hi] at hs; cases hs
  | some i =>
    rw [hi] at hs
    have hs' : i.size = 1 := by simpa using hs
    simp [Instr.indexAt, run_underlying hu, Instr.sureAddr, asIntOf, h8, sizeOf, typeInfo, hi, hs', Result.andThen, Addr.add_mid]

/-- Whose rows are of other types is another block. -/
theorem Lay.O.neOf {α : Type} {K : Lay α} {w : World} {B : Nat} {v : Value} {l : List α} (h : K.O w B v l) {g : Nat} {cs : Array Value} {t : TypeId} {fr : Nat × Nat} (hg : w.heap[g]? = some (.cells cs t fr)) (ht : t ≠ K.elem) : v.ownBlock ≠ some g := by
  rcases h.2 with ⟨rfl, -⟩ | ⟨q, cap, cur, rfl, -, h2, -⟩
  · intro e; cases e
  · intro e
    simp only [Value.ownBlock, Option.some.injEq] at e
    subst e
    rw [h2] at hg
    cases hg
    exact ht rfl

/-- A bucket, the value that holds the way to it, that way. -/
abbrev LnT := Nat × SvT × List (Nat × Nat)
def bkL (L : List LnT) : List Nat := L.map Prod.fst
def reL (L : List LnT) : List ReT := L.map fun x => (x.1, x.2.2)
theorem bks_re (L : List LnT) : bks (reL L) = bkL L := by unfold bks reL bkL; rw [List.map_map]; rfl
/-- The buckets that are reached, in memory: u their slice, at block g which of the eight they are (M). -/
structure BG (w : World) (B g : Nat) (u : Value) (L : List LnT) (M : List Nat) : Prop where
  row : KR.O w B u (L.map fun x => (x.1, x.2.1))
  ways : ∀ x ∈ L, KP.O w B (svE x.2.1) x.2.2
  seen : ∀ b, b < 8 → w.cell? ⟨g, b, none⟩ = some (.bool (decide (b ∈ M)))
  blk : ∃ cs, w.heap[g]? = some (.cells cs 115 (0, 0))
section
variable {w w' : World} {B g : Nat} {u : Value} {L : List LnT} {M : List Nat}
theorem BG.below (h : BG w B g u L M) (hb : Below w.heap.size w w') : BG w' B g u L M := by
  obtain ⟨cs, hc⟩ := h.blk
  exact ⟨h.row.below hb, fun x hx => (h.ways x hx).below hb, fun b h8 => (hb.cell (World.block_lt_of_cell? w _ (h.seen b h8))).trans (h.seen b h8), ⟨cs, (hb.block g (Array.getElem?_eq_some_iff.1 hc).1).trans hc⟩⟩
theorem BG.frozen (h : BG w B g u L M) (o : Nat) : w.frozen? ⟨g, o, none⟩ = false := by
  obtain ⟨cs, hc⟩ := h.blk
  exact frozen_of_row _ _ _ _ _ hc
theorem BG.mark (h : BG w B g u L M) {t : Nat} (ht : t < 8) : BG (w.setCell ⟨g, t, none⟩ (.bool true)) B g u L (M ++ [t]) := by
  obtain ⟨cs, hc⟩ := h.blk
  have hb : ∀ k, k ≠ g → (w.setCell ⟨g, t, none⟩ (.bool true)).heap[k]? = w.heap[k]? := fun k hk => Below.heap_setCell _ _ _ _ hk
  refine ⟨h.row.same fun q qs hq _ _ => hb q ?_, fun x hx => (h.ways x hx).same fun q qs hq _ _ => hb q ?_, fun b h8 => ?_, ⟨cs.setIfInBounds t (.bool true), by simp [World.setCell, Array.getElem?_modify, hc]⟩⟩
  · rintro rfl; rw [hc] at hq; cases hq
  · rintro rfl; rw [hc] at hq; cases hq
  · by_cases e : b = t
    · subst e
      rw [World.cell?_setCell_same _ _ _ (h.seen b h8)]
      simp
    · rw [World.cell?_setCell_other _ _ _ _ (fun e2 => by simp only [Addr.mk.injEq] at e2; omega), h.seen b h8]
      simp [e]
theorem BG.more (h : BG w B g u L M) {v' : Value} {t : Nat} {y : SvT} {P : List (Nat × Nat)} (hown : KR.O w' B v' ((L.map fun x => (x.1, x.2.1)) ++ [(t, y)])) (hgr : w.grownBy w' u.ownBlock) (hy : KP.O w B (svE y) P) : BG w' B g v' (L ++ [(t, y, P)]) M := by
  obtain ⟨cs, hc⟩ := h.blk
  have hgl : g < w.heap.size := (Array.getElem?_eq_some_iff.1 hc).1
  have hgb : w'.heap[g]? = w.heap[g]? := hgr.block g hgl (fun e => h.row.neOf hc (by decide) e.symm)
  have hw : ∀ (v : Value) (l : List (Nat × Nat)), KP.O w B v l → KP.O w' B v l := fun v l hv => hv.same fun q qs hq _ _ => hgr.block q (Array.getElem?_eq_some_iff.1 hq).1 (fun e => h.row.neOf hq (by decide) e.symm)
  refine ⟨by rw [List.map_append]; exact hown, fun x hx => ?_, fun b h8 => (World.cell?_of_block (w := w) (a := ⟨g, b, none⟩) hgb).trans (h.seen b h8), ⟨cs, hgb.trans hc⟩⟩
  rcases List.mem_append.1 hx with hx | hx
  · exact hw _ _ (h.ways x hx)
  · rw [List.mem_singleton.1 hx]; exact hw _ _ hy
end

def z8 (a b : Nat) : Array Value := (([Value.bool false, .bool false, .bool false, .bool false, .bool false, .bool false, .bool false, .bool false].set a (.bool true)).set b (.bool true)).toArray
theorem z8_at (a b c : Nat) (ha : a < 8) (hb : b < 8) (hc : c < 8) : (z8 a b)[c]? = some (.bool (decide (c ∈ [a, b]))) := by
  unfold z8
  rw [List.getElem?_toArray]
  have h0 : [Value.bool false, .bool false, .bool false, .bool false, .bool false, .bool false, .bool false, .bool false] = List.replicate 8 (Value.bool false) := rfl
  rw [h0]
  by_cases e1 : b = c
  · subst e1
    rw [List.getElem?_set_self (by simpa using hb)]
    simp
  · rw [List.getElem?_set_ne e1]
    by_cases e2 : a = c
    · subst e2
      rw [List.getElem?_set_self (by simpa using ha)]
      simp
    · rw [List.getElem?_set_ne e2, List.getElem?_replicate, if_pos hc]
      have e3 : c ∉ [a, b] := by simp only [List.mem_cons, List.not_mem_nil, or_false]; omega
      rw [decide_eq_false e3]
def line0 (a b : Nat) : List LnT := [(a, (none, 0, 0), []), (b, (none, 0, 0), [])]
theorem BG.start (w : World) {a b : Nat} (ha : a < 8) (hb : b < 8) : BG ((w.alloc (.cells (z8 a b) 115)).alloc (.cells #[.int .i64 (a : Int), .slice none 0 0, .int .i64 (b : Int), .slice none 0 0] 117)) w.heap.size w.heap.size (.slice (some ⟨w.heap.size + 1, 0, none⟩) 2 2) (line0 a b) [a, b] := by
  have h1 := heap_alloc_new w (.cells (z8 a b) 115)
  have hs : (w.alloc (.cells (z8 a b) 115)).heap.size = w.heap.size + 1 := Array.size_push ..
  have h2 := heap_alloc_new (w.alloc (.cells (z8 a b) 115)) (.cells #[.int .i64 (a : Int), .slice none 0 0, .int .i64 (b : Int), .slice none 0 0] 117)
  have h3 : ((w.alloc (.cells (z8 a b) 115)).alloc (.cells #[.int .i64 (a : Int), .slice none 0 0, .int .i64 (b : Int), .slice none 0 0] 117)).heap[w.heap.size]? = some (.cells (z8 a b) 115) := (Below.heap_alloc _ _ _ (by omega)).trans h1
  rw [hs] at h2
  refine ⟨⟨rfl, .inr ⟨_, 2, _, rfl, Nat.le_succ _, h2, Nat.le_refl _, by simp [maxLen], rfl, rfl⟩⟩, fun x hx => ?_, fun c hc => ?_, ⟨_, h3⟩⟩
  · simp only [line0, List.mem_cons, List.not_mem_nil, or_false] at hx
    rcases hx with rfl | rfl
    · exact Lay.O.nil _ _
    · exact Lay.O.nil _ _
  · rw [cell_of_row _ _ _ _ _ _ h3]
    exact z8_at a b c ha hb hc

set_option maxHeartbeats 1000000 in
set_option maxRecDepth 100000 in
theorem cclone_c (w : World) (B : Nat) (v : Value) (P : List (Nat × Nat)) (h : KP.O w B v P) (hn : P.length ≤ 1000) : Calls Tryz.prog 65 #[v] w fun e w' => ∃ v', e = .returned v' ∧ KP.O w' w.heap.size v' P ∧ Below w.heap.size w w' := by
  rcases h.2 with ⟨rfl, h0⟩ | ⟨g, cap, cur, rfl, -, -⟩
  · obtain rfl : P = [] := List.eq_nil_of_length_eq_zero h0
    have hq := fun w => Go.Lib.run_eql_slice_nil (P := Tryz.prog) w 91 96 none 0 0 0 0 Tryz.underlying91
    have HB := Go.Lib.hid (Below.refl w.heap.size w)
    clear h hn h0
    go_enter Tryz.func65, Tryz.ntmps65
    go_wp2_with fail
    go_ret
    exact ⟨_, rfl, Lay.O.nil _ _, HB.out⟩
  · have hq := fun w => Go.Lib.run_eql_slice_nil (P := Tryz.prog) w 91 96 (some ⟨g, 0, none⟩) P.length cap 0 0 Tryz.underlying91
    have hb1 := (Below.refl w.heap.size w).alloc (Nat.le_refl _) (.cells #[] 96)
    have HO := Go.Lib.hid (show KP.O (w.alloc (.cells #[] 96)) w.heap.size (.slice (some ⟨w.heap.size, 0, none⟩) 0 0) [] from ⟨rfl, .inr ⟨w.heap.size, 0, #[], rfl, Nat.le_refl _, heap_alloc_new w _, Nat.le_refl _, by simp [maxLen], rfl, rfl⟩⟩)
    have HR := Go.Lib.hid (h.r.below hb1)
    have HN := Go.Lib.hid hn
    have HB := Go.Lib.hid hb1
    clear h hn hb1
    go_enter Tryz.func65, Tryz.ntmps65
    go_wp2_with (first
      | ((with_reducible show wpList _ _ _ (⟨some 7, _, _, _, _, _⟩ :: _) _ _); go_loud (refine KP_ok.append rfl (.tmp 5) (.tmp 6) rfl w.heap.size (.slice (some ⟨w.heap.size, 0, none⟩) 0 0) (.slice (some ⟨g, 0, none⟩) P.length cap) [] P rfl rfl HO.out HR.out (by have := HN.out; simp; omega) HB.out.size ?_); intro v2 w2 hown2 hg2; have HB2 := Go.Lib.hid (HB.out.grown hg2 HB.out.size HO.out.row); have HO2 := Go.Lib.hid hown2; clear hown2 hg2)
      | fail)
    go_ret
    exact ⟨_, rfl, HO2.out, HB2.out⟩

end Go.Proofs.YtkddleonmkhaiaaGreat
