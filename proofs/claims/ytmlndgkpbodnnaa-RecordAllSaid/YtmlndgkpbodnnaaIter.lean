/-
  A range over a text: its iterator, and what it hands over.
-/
import Derived.Test.YtmlndgkpbodnnaaRunM
import Derived.Test.YtmlndgkpbodnnaaVals
import Derived.LoopTactic
import Derived.Lib.OthersKept
namespace Go.Proofs.Ytmlndgkpbodnnaa
open Go.RowKit

/-- An iterator of its own, of which nothing lies below. -/
theorem below_iter {w wr : World} {k : Nat} (h : Below w.heap.size w wr) (hk : w.heap.size ≤ k) (s : ByteArray) (pos : Nat) : Below w.heap.size w (wr.iterAt k s pos) :=
  h.trans ⟨rfl, rfl, rfl, by simp [World.iterAt], fun j hj => Go.Lib.iterAt_other wr k j s pos (by omega)⟩

/-- What 'next' hands over at the n-th rune. -/
theorem next_some (s : ByteArray) (n : Nat) (h : n < (toks (bl s)).length) : posOf (bl s) n < s.size ∧ (Utf8.decode s (posOf (bl s) n)).1 = dr ((bl s).drop (posOf (bl s) n)) ∧ posOf (bl s) n + (Utf8.decode s (posOf (bl s) n)).2 = posOf (bl s) (n + 1) ∧ (toks (bl s))[n].1 = dr ((bl s).drop (posOf (bl s) n)) := by
  have hne := drop_ne (bl s) n h
  have hg := get_toks (bl s) n h
  have hs := posOf_succ (bl s) n h
  rw [dec_shift]
  refine ⟨?_, rfl, hs.symm, by rw [hg]⟩
  rw [bl_size]
  exact Nat.lt_of_not_le fun hh => hne (List.drop_eq_nil_of_le hh)

theorem posOf_lt {l : List UInt8} {n : Nat} : (n < (toks l).length) ↔ posOf l n < l.length := by
  constructor
  · intro h
    have := drop_ne l n h
    exact Nat.lt_of_not_le fun hh => this (List.drop_eq_nil_of_le hh)
  · intro h
    rcases Nat.lt_or_ge n (toks l).length with h' | h'
    · exact h'
    · rw [posOf_all l n h'] at h
      omega

/-- An iterator stands while another block grows. -/
theorem iter_kept {w w' : World} {k : Nat} {s : ByteArray} {pos : Nat} {v : Value} {xs : List Value} {e : TypeId} {B : Nat} (hit : w.heap[k]? = some (.stringIter s pos)) (hown : OwnV e w B v xs) (hg : w.grownBy w' v.ownBlock) : w'.heap[k]? = some (.stringIter s pos) := by
  have hlt := (Array.getElem?_eq_some_iff.1 hit).1
  refine (hg.block k hlt ?_).trans hit
  rcases hown.2 with ⟨rfl, -⟩ | ⟨g, cap, cur, rfl, hB, h2, h3⟩
  · simp [Value.ownBlock]
  · intro e'
    simp only [Value.ownBlock, Option.some.injEq] at e'
    subst e'
    rw [h2] at hit
    cases hit

theorem iter_alloc {w : World} {k : Nat} {s : ByteArray} {pos : Nat} (hit : w.heap[k]? = some (.stringIter s pos)) (o : Obj) : (w.alloc o).heap[k]? = some (.stringIter s pos) := by
  have hlt := (Array.getElem?_eq_some_iff.1 hit).1
  show (w.heap.push o)[k]? = _
  rw [Array.getElem?_push_lt hlt]
  rw [Array.getElem?_eq_getElem hlt] at hit
  exact hit

theorem posOf_lt_succ (l : List UInt8) (n : Nat) (h : n < (toks l).length) : posOf l n < posOf l (n + 1) := by
  have := dw_le _ (drop_ne l n h)
  rw [posOf_succ l n h]
  omega

theorem zi_more (k : IntKind) (ts : List (Nat × List UInt8)) (n : Nat) (h : n < ts.length) : zi k ((runesOf ts).take n) ++ [.int k (ts[n].1 : Int)] = zi k ((runesOf ts).take (n + 1)) := by
  have h' : n < (runesOf ts).length := by simp [runesOf]; exact h
  rw [List.take_succ_eq_append_getElem h', zi_append]
  simp [zi, runesOf]

theorem runesOf_length (ts : List (Nat × List UInt8)) : (runesOf ts).length = ts.length := by simp [runesOf]

theorem drop_bl (s : ByteArray) (p : Nat) : bl (s.extract p s.size) = (bl s).drop p := by
  unfold bl
  rw [Go.Lib.extract_data]
  exact List.take_of_length_le (by rw [List.length_drop, ← Go.Lib.size_eq]; omega)

theorem take_bl (s : ByteArray) (p : Nat) : s.extract 0 p = str ((bl s).take p) := by
  apply ByteArray.ext; apply Array.toList_inj.1
  rw [Go.Lib.extract_data]
  simp [str, bl]

theorem well_take (l : List UInt8) (n : Nat) (h : n < (toks l).length) : wellB ((toks l).take (n + 1)) = (wellB ((toks l).take n) && okB (l.drop (posOf l n))) := by
  rw [List.take_succ_eq_append_getElem h, get_toks l n h, ← ok_head (drop_ne l n h)]
  unfold wellB
  rw [List.all_append]
  simp only [List.all_cons, List.all_nil, Bool.and_true]

theorem well_false (l : List UInt8) (n : Nat) (h : n < (toks l).length) (ho : okB (l.drop (posOf l n)) = false) : wellB (toks l) = false := by
  cases hw : wellB (toks l) with
  | false => rfl
  | true =>
    have := well_take l n h
    rw [ho, Bool.and_false] at this
    have h2 : wellB ((toks l).take (n + 1)) = true := by
      unfold wellB at hw ⊢
      rw [List.all_eq_true] at hw ⊢
      exact fun t ht => hw t (List.mem_of_mem_take ht)
    rw [this] at h2
    cases h2

theorem one_one (k : IntKind) (n : Int) : ∀ u ∈ [Value.int k n], u.oneCell' = true := by
  intro u hu
  obtain rfl := List.mem_singleton.1 hu
  rfl

/-- Two slices of two types lie apart. -/
theorem own_apart {e1 e2 : TypeId} (he : e1 ≠ e2) {w : World} {B1 B2 : Nat} {v1 v2 : Value} {x1 x2 : List Value} (h1 : OwnV e1 w B1 v1 x1) (h2 : OwnV e2 w B2 v2 x2) : v2.ownBlock = none ∨ v2.ownBlock ≠ v1.ownBlock := by
  rcases h2.2 with ⟨rfl, -⟩ | ⟨g2, cap2, cur2, rfl, hB2, hg2, -⟩
  · exact .inl rfl
  · refine .inr ?_
    rcases h1.2 with ⟨rfl, -⟩ | ⟨g1, cap1, cur1, rfl, hB1, hg1, -⟩
    · simp [Value.ownBlock]
    · simp only [Value.ownBlock, ne_eq, Option.some.injEq]
      rintro rfl
      rw [hg1] at hg2
      simp only [Option.some.injEq, Obj.cells.injEq] at hg2
      exact he hg2.2.1

end Go.Proofs.Ytmlndgkpbodnnaa
