/-
  A range over a text: its iterator, and what it hands over.
  The contract of the laws' Cut of texts (loesslaw3).
  The reference's own decoding: what it looks at, and that it is what a range tells.
-/
import Derived.Test.YtkddleonmkhaiaaGreatM02
import Derived.LoopTactic
import Derived.Lib.OthersKept
namespace Go.Proofs.YtkddleonmkhaiaaGreat
open Go.RowKit

/-- An iterator of its own, of which nothing lies below. -/
theorem below_iter {w wr : World} {k : Nat} (h : Below w.heap.size w wr) (hk : w.heap.size ≤ k) (s : ByteArray) (pos : Nat) : Below w.heap.size w (wr.iterAt k s pos) :=
  h.trans ⟨rfl, rfl, rfl, by simp [World.iterAt], fun j hj => Go.Lib.iterAt_other wr k j s pos (by omega)⟩

/-- What 'next' hands over at the n-th rune. -/
theorem next_some (s : ByteArray) (n : Nat) (h : n < (toks (bl s)).length) : posOf (bl s) n < s.size ∧ (Utf8.decode s (posOf (bl s) n)).1 = dr ((bl s).drop (posOf (bl s) n)) ∧ posOf (bl s) n + (Utf8.decode s (posOf (bl s) n)).2 = posOf (bl s) (n + 1) ∧ (toks (bl s))[n].1 = dr ((bl s).drop (posOf (bl s) n)) := by
  have hne := drop_ne (bl s) n h
  have hg := get_toks (bl s) n h
  have hs := posOf_succ (bl s) n h
  rw [dec_shift]
  refine ⟨?_, rfl, hs.symm, by rw [hg]⟩
  rw [bl_size]
  exact Nat.lt_of_not_le fun hh => hne (List.drop_eq_nil_of_le hh)

theorem posOf_lt {l : List UInt8} {n : Nat} : (n < (toks l).length) ↔ posOf l n < l.length := by
  constructor
  · intro h
    have := drop_ne l n h
    exact Nat.lt_of_not_le fun hh => this (List.drop_eq_nil_of_le hh)
  · intro h
    rcases Nat.lt_or_ge n (toks l).length with h' | h'
    · exact h'
    · rw [posOf_all l n h'] at h
      omega

/-- An iterator stands while another block grows. -/
theorem iter_kept {w w' : World} {k : Nat} {s : ByteArray} {pos : Nat} {v : Value} {xs : List Value} {e : TypeId} {B : Nat} (hit : w.heap[k]? = some (.stringIter s pos)) (hown : OwnV e w B v xs) (hg : w.grownBy w' v.ownBlock) : w'.heap[k]? = some (.stringIter s pos) := by
  have hlt := (Array.getElem?_eq_some_iff.1 hit).1
  refine (hg.block k hlt ?_).trans hit
  rcases hown.2 with ⟨rfl, -⟩ | ⟨g, cap, cur, rfl, hB, h2, h3⟩
  · simp [Value.ownBlock]
  · intro e'
    simp only [Value.ownBlock, Option.some.injEq] at e'
    subst e'
    rw [h2] at hit
    cases hit

theorem iter_alloc {w : World} {k : Nat} {s : ByteArray} {pos : Nat} (hit : w.heap[k]? = some (.stringIter s pos)) (o : Obj) : (w.alloc o).heap[k]? = some (.stringIter s pos) := by
  have hlt := (Array.getElem?_eq_some_iff.1 hit).1
  show (w.heap.push o)[k]? = _
  rw [Array.getElem?_push_lt hlt]
  rw [Array.getElem?_eq_getElem hlt] at hit
  exact hit

theorem posOf_lt_succ (l : List UInt8) (n : Nat) (h : n < (toks l).length) : posOf l n < posOf l (n + 1) := by
  have := dw_le _ (drop_ne l n h)
  rw [posOf_succ l n h]
  omega

theorem zi_more (k : IntKind) (ts : List (Nat × List UInt8)) (n : Nat) (h : n < ts.length) : zi k ((runesOf ts).take n) ++ [.int k (ts[n].1 : Int)] = zi k ((runesOf ts).take (n + 1)) := by
  have h' : n < (runesOf ts).length := by simp [runesOf]; exact h
  rw [List.take_succ_eq_append_getElem h', zi_append]
  simp [zi, runesOf]

theorem runesOf_length (ts : List (Nat × List UInt8)) : (runesOf ts).length = ts.length := by simp [runesOf]

theorem drop_bl (s : ByteArray) (p : Nat) : bl (s.extract p s.size) = (bl s).drop p := by
  unfold bl
  rw [Go.Lib.extract_data]
  exact List.take_of_length_le (by rw [List.length_drop, ← Go.Lib.size_eq]; omega)

theorem take_bl (s : ByteArray) (p : Nat) : s.extract 0 p = str ((bl s).take p) := by
  apply ByteArray.ext; apply Array.toList_inj.1
  rw [Go.Lib.extract_data]
  simp [str, bl]

theorem well_take (l : List UInt8) (n : Nat) (h : n < (toks l).length) : wellB ((toks l).take (n + 1)) = (wellB ((toks l).take n) && okB (l.drop (posOf l n))) := by
  rw [List.take_succ_eq_append_getElem h, get_toks l n h, ← ok_head (drop_ne l n h)]
  unfold wellB
  rw [List.all_append]
  simp only [List.all_cons, List.all_nil, Bool.and_true]

theorem well_false (l : List UInt8) (n : Nat) (h : n < (toks l).length) (ho : okB (l.drop (posOf l n)) = false) : wellB (toks l) = false := by
  cases hw : wellB (toks l) with
  | false => rfl
  | true =>
    have := well_take l n h
    rw [ho, Bool.and_false] at this
    have h2 : wellB ((toks l).take (n + 1)) = true := by
      unfold wellB at hw ⊢
      rw [List.all_eq_true] at hw ⊢
      exact fun t ht => hw t (List.mem_of_mem_take ht)
    rw [this] at h2
    cases h2

theorem one_one (k : IntKind) (n : Int) : ∀ u ∈ [Value.int k n], u.oneCell' = true := by
  intro u hu
  obtain rfl := List.mem_singleton.1 hu
  rfl

/-- Two slices of two types lie apart. -/
theorem own_apart {e1 e2 : TypeId} (he : e1 ≠ e2) {w : World} {B1 B2 : Nat} {v1 v2 : Value} {x1 x2 : List Value} (h1 : OwnV e1 w B1 v1 x1) (h2 : OwnV e2 w B2 v2 x2) : v2.ownBlock = none ∨ v2.ownBlock ≠ v1.ownBlock := by
  rcases h2.2 with ⟨rfl, -⟩ | ⟨g2, cap2, cur2, rfl, hB2, hg2, -⟩
  · exact .inl rfl
  · refine .inr ?_
    rcases h1.2 with ⟨rfl, -⟩ | ⟨g1, cap1, cur1, rfl, hB1, hg1, -⟩
    · simp [Value.ownBlock]
    · simp only [Value.ownBlock, ne_eq, Option.some.injEq]
      rintro rfl
      rw [hg1] at hg2
      simp only [Option.some.injEq, Obj.cells.injEq] at hg2
      exact he hg2.2.1

end Go.Proofs.YtkddleonmkhaiaaGreat

namespace Go.Proofs.YtkddleonmkhaiaaGreat
open Go.RowKit

set_option maxRecDepth 100000 in
/-- The laws' 'Cut(s, n)'. -/
theorem lcut_c (s : ByteArray) (n : Nat) (w : World) (h0 : s.size ≤ maxLen) (hn : n ≤ 1000) :
    Calls Tryz.prog 8 #[.string s, .int .i64 n] w fun e w' => e = .returned (.string (str ((bl s).take n))) ∧ w = w' := by
  have hs := h0
  unfold maxLen at hs
  by_cases h : n < s.size
  · have H1 := Go.Lib.hid (take_bl s n)
    go_enter Tryz.func8, Tryz.ntmps8
    go_wp2
    go_ret
    exact ⟨ret_of (congrArg Value.string H1.out), rfl⟩
  · have e1 : s = str ((bl s).take n) := by
      rw [List.take_of_length_le (by rw [← bl_size]; omega), str_bl]
    have H1 := Go.Lib.hid e1; clear e1
    go_enter Tryz.func8, Tryz.ntmps8
    go_wp2
    go_ret
    exact ⟨ret_of (congrArg Value.string H1.out), rfl⟩

end Go.Proofs.YtkddleonmkhaiaaGreat

namespace Go.Proofs.YtkddleonmkhaiaaGreat
open Go.RowKit

def atB (l : List UInt8) (k : Nat) : Nat := (l.getD k 0).toNat
theorem atB_lt (l : List UInt8) (k : Nat) : atB l k < 256 := (l.getD k 0).toNat_lt

/-- How many bytes a first byte asks for, the least rune, and what it brings itself. -/
def Lead (c n low r0 : Nat) : Prop := (192 ≤ c ∧ c < 224 ∧ n = 2 ∧ low = 128 ∧ r0 = c - 192) ∨ (224 ≤ c ∧ c < 240 ∧ n = 3 ∧ low = 2048 ∧ r0 = c - 224) ∨ (240 ≤ c ∧ c < 248 ∧ n = 4 ∧ low = 65536 ∧ r0 = c - 240)
/-- What k further bytes make. -/
def acc (l : List UInt8) (r0 : Nat) : Nat → Nat
  | 0 => r0
  | k + 1 => acc l r0 k * 64 + atB l (k + 1) % 64
def Conts (l : List UInt8) (n : Nat) : Prop := ∀ j, 1 ≤ j → j < n → 128 ≤ atB l j ∧ atB l j ≤ 191
/-- A rune of n bytes stands there. -/
def Good (l : List UInt8) (n low r0 : Nat) : Prop := n ≤ l.length ∧ Conts l n ∧ low ≤ acc l r0 (n - 1) ∧ acc l r0 (n - 1) ≤ 1114111 ∧ ¬ (55296 ≤ acc l r0 (n - 1) ∧ acc l r0 (n - 1) < 57344)

theorem dr_eq (l : List UInt8) {a b : Nat} (h : Utf8.decode (str l) 0 = (a, b)) : dr l = a ∧ dw l = b := by
  unfold dr dw
  rw [h]
  exact ⟨rfl, rfl⟩

theorem d_ascii (l : List UInt8) (hl : l ≠ []) (h : atB l 0 < 128) : dr l = atB l 0 ∧ dw l = 1 ∧ okB l = true := by
  have key : Utf8.decode (str l) 0 = (atB l 0, 1) := by
    unfold atB at h
    unfold Utf8.decode
    simp only [get_str, str_size, if_pos h]
    rfl
  obtain ⟨h1, h2⟩ := dr_eq l key
  refine ⟨h1, h2, ?_⟩
  cases ho : okB l with
  | true => rfl
  | false =>
    have := (okB_false ho hl).1
    omega

theorem d_bad (l : List UInt8) (hl : l ≠ []) (h : 128 ≤ atB l 0) (hd : Utf8.decode (str l) 0 = (65533, 1)) : dr l = 65533 ∧ dw l = 1 ∧ okB l = false := by
  obtain ⟨h1, h2⟩ := dr_eq l hd
  exact ⟨h1, h2, (okB_bad hl h2 h).1⟩

theorem d_good (l : List UInt8) (hl : l ≠ []) {r n : Nat} (hn : 2 ≤ n) (hd : Utf8.decode (str l) 0 = (r, n)) : dr l = r ∧ dw l = n ∧ okB l = true := by
  obtain ⟨h1, h2⟩ := dr_eq l hd
  refine ⟨h1, h2, ?_⟩
  cases ho : okB l with
  | true => rfl
  | false =>
    have := (okB_false ho hl).2
    omega

theorem cont_iff (l : List UInt8) (k : Nat) : (decide (0 + k < l.length) && (l.getD k 0).toNat / 64 == 2) = true ↔ k < l.length ∧ 128 ≤ atB l k ∧ atB l k ≤ 191 := by
  rw [Bool.and_eq_true, decide_eq_true_eq, beq_iff_eq]
  unfold atB
  omega

theorem d_none (l : List UInt8) (hl : l ≠ []) (h : 128 ≤ atB l 0) (h2 : atB l 0 < 192 ∨ 248 ≤ atB l 0) : dr l = 65533 ∧ dw l = 1 ∧ okB l = false := by
  refine d_bad l hl h ?_
  unfold atB at h h2
  unfold Utf8.decode
  simp only [get_str, str_size]
  rw [if_neg (by omega), if_neg (by rw [Bool.and_eq_true, beq_iff_eq]; omega), if_neg (by rw [Bool.and_eq_true, Bool.and_eq_true, beq_iff_eq]; omega), if_neg (by rw [Bool.and_eq_true, Bool.and_eq_true, Bool.and_eq_true, beq_iff_eq]; omega)]
  rfl

theorem good_of (l : List UInt8) (n low r0 A : Nat) (h : acc l r0 (n - 1) = A) (h1 : n ≤ l.length) (h2 : Conts l n) (h3 : low ≤ A) (h4 : A < 55296 ∨ (57344 ≤ A ∧ A ≤ 1114111)) : Good l n low r0 := by
  subst h
  exact ⟨h1, h2, h3, by omega, by omega⟩

set_option maxRecDepth 100000 in
theorem d_lead (l : List UInt8) (hl : l ≠ []) (n low r0 : Nat) (h : Lead (atB l 0) n low r0) :
    (Good l n low r0 → dr l = acc l r0 (n - 1) ∧ dw l = n ∧ okB l = true) ∧ (¬ Good l n low r0 → dr l = 65533 ∧ dw l = 1 ∧ okB l = false) := by
  have hc := atB_lt l 0
  rcases h with ⟨c0, c1, rfl, rfl, rfl⟩ | ⟨c0, c1, rfl, rfl, rfl⟩ | ⟨c0, c1, rfl, rfl, rfl⟩
  · have hC : Conts l 2 ↔ 128 ≤ atB l 1 ∧ atB l 1 ≤ 191 := ⟨fun H => H 1 (by omega) (by omega), fun H j j1 j2 => (by omega : 1 = j) ▸ H⟩
    have hA : acc l (atB l 0 - 192) 1 = (atB l 0 - 192) * 64 + atB l 1 % 64 := rfl
    have hE : (l.getD 0 0).toNat % 32 * 64 + (l.getD 1 0).toNat % 64 = acc l (atB l 0 - 192) 1 := by rw [hA]; unfold atB at *; omega
    constructor
    · intro g
      obtain ⟨g1, g2, g3, g4, g5⟩ := g
      rw [hC] at g2
      simp only [Nat.reduceSub] at g3 g4 g5
      refine d_good l hl (by omega) ?_
      unfold Utf8.decode
      simp only [get_str, str_size]
      rw [if_neg (by unfold atB at c0; omega), if_pos (by rw [Bool.and_eq_true, cont_iff, beq_iff_eq]; unfold atB at *; omega), hE, if_pos g3]
    · intro g
      refine d_bad l hl (by omega) ?_
      unfold Utf8.decode
      simp only [get_str, str_size]
      rw [if_neg (by unfold atB at c0; omega)]
      by_cases hk : 1 < l.length ∧ 128 ≤ atB l 1 ∧ atB l 1 ≤ 191
      · rw [if_pos (by rw [Bool.and_eq_true, cont_iff, beq_iff_eq]; unfold atB at *; omega), hE, if_neg (fun hx => g ⟨hk.1, hC.2 hk.2, hx, by show acc l (atB l 0 - 192) 1 ≤ _; omega, by show ¬ (_ ≤ acc l (atB l 0 - 192) 1 ∧ acc l (atB l 0 - 192) 1 < _); omega⟩)]
        rfl
      · rw [if_neg (by rw [Bool.and_eq_true, cont_iff]; exact fun hx => hk hx.2), if_neg (by rw [Bool.and_eq_true, Bool.and_eq_true, beq_iff_eq]; unfold atB at *; omega), if_neg (by rw [Bool.and_eq_true, Bool.and_eq_true, Bool.and_eq_true, beq_iff_eq]; unfold atB at *; omega)]
        rfl
  · have hC : Conts l 3 ↔ (128 ≤ atB l 1 ∧ atB l 1 ≤ 191) ∧ (128 ≤ atB l 2 ∧ atB l 2 ≤ 191) := ⟨fun H => ⟨H 1 (by omega) (by omega), H 2 (by omega) (by omega)⟩, fun H j j1 j2 => by
      rcases (by omega : j = 1 ∨ j = 2) with rfl | rfl
      · exact H.1
      · exact H.2⟩
    have hA : acc l (atB l 0 - 224) 2 = ((atB l 0 - 224) * 64 + atB l 1 % 64) * 64 + atB l 2 % 64 := rfl
    have hE : (l.getD 0 0).toNat % 16 * 4096 + (l.getD 1 0).toNat % 64 * 64 + (l.getD 2 0).toNat % 64 = acc l (atB l 0 - 224) 2 := by rw [hA]; unfold atB at *; omega
    have hvv := valid_iff (acc l (atB l 0 - 224) 2)
    constructor
    · intro g
      obtain ⟨g1, g2, g3, g4, g5⟩ := g
      rw [hC] at g2
      simp only [Nat.reduceSub] at g3 g4 g5
      refine d_good l hl (by omega) ?_
      unfold Utf8.decode
      simp only [get_str, str_size]
      rw [if_neg (by unfold atB at c0; omega), if_neg (by rw [Bool.and_eq_true, beq_iff_eq]; unfold atB at *; omega), if_pos (by rw [Bool.and_eq_true, Bool.and_eq_true, cont_iff, cont_iff, beq_iff_eq]; unfold atB at *; omega), hE, if_pos (by rw [Bool.and_eq_true, decide_eq_true_eq]; exact ⟨g3, hvv.2 (by omega)⟩)]
    · intro g
      refine d_bad l hl (by omega) ?_
      unfold Utf8.decode
      simp only [get_str, str_size]
      rw [if_neg (by unfold atB at c0; omega), if_neg (by rw [Bool.and_eq_true, beq_iff_eq]; unfold atB at *; omega)]
      by_cases hk : (1 < l.length ∧ 128 ≤ atB l 1 ∧ atB l 1 ≤ 191) ∧ (2 < l.length ∧ 128 ≤ atB l 2 ∧ atB l 2 ≤ 191)
      · rw [if_pos (by rw [Bool.and_eq_true, Bool.and_eq_true, cont_iff, cont_iff, beq_iff_eq]; unfold atB at *; omega), hE, if_neg (fun hx => by
          rw [Bool.and_eq_true, decide_eq_true_eq, hvv] at hx
          exact g (good_of l 3 2048 _ _ rfl hk.2.1 (hC.2 ⟨hk.1.2, hk.2.2⟩) hx.1 hx.2))]
        rfl
      · rw [if_neg (by rw [Bool.and_eq_true, Bool.and_eq_true, cont_iff, cont_iff]; exact fun hx => hk ⟨hx.1.2, hx.2⟩), if_neg (by rw [Bool.and_eq_true, Bool.and_eq_true, Bool.and_eq_true, beq_iff_eq]; unfold atB at *; omega)]
        rfl
  · have hC : Conts l 4 ↔ (128 ≤ atB l 1 ∧ atB l 1 ≤ 191) ∧ (128 ≤ atB l 2 ∧ atB l 2 ≤ 191) ∧ (128 ≤ atB l 3 ∧ atB l 3 ≤ 191) := ⟨fun H => ⟨H 1 (by omega) (by omega), H 2 (by omega) (by omega), H 3 (by omega) (by omega)⟩, fun H j j1 j2 => by
      rcases (by omega : j = 1 ∨ j = 2 ∨ j = 3) with rfl | rfl | rfl
      · exact H.1
      · exact H.2.1
      · exact H.2.2⟩
    have hA : acc l (atB l 0 - 240) 3 = (((atB l 0 - 240) * 64 + atB l 1 % 64) * 64 + atB l 2 % 64) * 64 + atB l 3 % 64 := rfl
    have hE : (l.getD 0 0).toNat % 8 * 262144 + (l.getD 1 0).toNat % 64 * 4096 + (l.getD 2 0).toNat % 64 * 64 + (l.getD 3 0).toNat % 64 = acc l (atB l 0 - 240) 3 := by rw [hA]; unfold atB at *; omega
    have hvv := valid_iff (acc l (atB l 0 - 240) 3)
    constructor
    · intro g
      obtain ⟨g1, g2, g3, g4, g5⟩ := g
      rw [hC] at g2
      simp only [Nat.reduceSub] at g3 g4 g5
      refine d_good l hl (by omega) ?_
      unfold Utf8.decode
      simp only [get_str, str_size]
      rw [if_neg (by unfold atB at c0; omega), if_neg (by rw [Bool.and_eq_true, beq_iff_eq]; unfold atB at *; omega), if_neg (by rw [Bool.and_eq_true, Bool.and_eq_true, beq_iff_eq]; unfold atB at *; omega), if_pos (by rw [Bool.and_eq_true, Bool.and_eq_true, Bool.and_eq_true, cont_iff, cont_iff, cont_iff, beq_iff_eq]; unfold atB at *; omega), hE, if_pos (by rw [Bool.and_eq_true, decide_eq_true_eq]; exact ⟨g3, hvv.2 (by omega)⟩)]
    · intro g
      refine d_bad l hl (by omega) ?_
      unfold Utf8.decode
      simp only [get_str, str_size]
      rw [if_neg (by unfold atB at c0; omega), if_neg (by rw [Bool.and_eq_true, beq_iff_eq]; unfold atB at *; omega), if_neg (by rw [Bool.and_eq_true, Bool.and_eq_true, beq_iff_eq]; unfold atB at *; omega)]
      by_cases hk : (1 < l.length ∧ 128 ≤ atB l 1 ∧ atB l 1 ≤ 191) ∧ (2 < l.length ∧ 128 ≤ atB l 2 ∧ atB l 2 ≤ 191) ∧ (3 < l.length ∧ 128 ≤ atB l 3 ∧ atB l 3 ≤ 191)
      · rw [if_pos (by rw [Bool.and_eq_true, Bool.and_eq_true, Bool.and_eq_true, cont_iff, cont_iff, cont_iff, beq_iff_eq]; unfold atB at *; omega), hE, if_neg (fun hx => by
          rw [Bool.and_eq_true, decide_eq_true_eq, hvv] at hx
          exact g (good_of l 4 65536 _ _ rfl hk.2.2.1 (hC.2 ⟨hk.1.2, hk.2.1.2, hk.2.2.2⟩) hx.1 hx.2))]
        rfl
      · rw [if_neg (by rw [Bool.and_eq_true, Bool.and_eq_true, Bool.and_eq_true, cont_iff, cont_iff, cont_iff]; exact fun hx => hk ⟨hx.1.1.2, hx.1.2, hx.2⟩)]
        rfl

end Go.Proofs.YtkddleonmkhaiaaGreat
