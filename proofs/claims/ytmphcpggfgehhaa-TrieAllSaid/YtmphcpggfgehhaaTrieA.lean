/-
  The contracts of trie: what only reads: may, bit, fork, past, Check, Rank.
-/
import Derived.Test.YtmphcpggfgehhaaGamG
import Derived.Test.YtmphcpggfgehhaaTrieM
import Derived.LoopTactic
namespace Go.Proofs.Ytmphcpggfgehhaa
open Go.RowKit

theorem noughts_hit : ∀ (m : List Bool), noughts m < m.length → m.getD (noughts m) false = true
  | [], h => by simp [noughts] at h
  | true :: m, _ => by simp [noughts]
  | false :: m, h => by
    have e : noughts (false :: m) = noughts m + 1 := by unfold noughts; rw [List.takeWhile_cons_of_pos (by rfl), List.length_cons]
    rw [e] at h ⊢
    rw [List.getD_cons_succ]
    exact noughts_hit m (by simpa using h)
/-- The number that is told is never 0. -/
theorem getG_pos {l : List Bool} {i x e : Nat} (h : getG l i = some (x, e)) : 1 ≤ x := by
  unfold getG at h
  split at h
  · cases h
  · split at h
    · rename_i h1 h2
      simp only [Option.some.injEq, Prod.mk.injEq] at h
      obtain ⟨rfl, rfl⟩ := h
      have hK : i + noughts (l.drop i) < l.length := by omega
      have := noughts_hit (l.drop i) (by rw [List.length_drop]; omega)
      rw [List.getD_eq_getElem?_getD, List.getElem?_drop, List.getElem?_eq_getElem hK] at this
      exact val_top l _ _ hK this
    · cases h
/-- How many have a nought, and where their tree begins; k bits are left. -/
def forkB (l : List Bool) : Nat → Nat → Nat → Option (Nat × Nat)
  | 0, _, _ => none
  | _ + 1, i, n => match getG l i with
    | none => none
    | some (x, e) => if n + 1 < x then none else some (x - 1, e)
theorem skipB_fork (l : List Bool) (k i n : Nat) : skipB l k i n = if n ≤ 1 then some i else match forkB l k i n with
    | none => none
    | some (z, e) => match skipB l (k - 1) e z with
      | none => none
      | some e2 => skipB l (k - 1) e2 (n - z) := by
  cases k with
  | zero => rw [skipB, forkB]
  | succ k =>
    rw [skipB, forkB, Nat.add_sub_cancel]
    split
    · rfl
    · cases getG l i with
      | none => rfl
      | some p =>
        obtain ⟨x, e⟩ := p
        simp only []
        by_cases h : n + 1 < x
        · rw [if_pos h, if_pos h]
        · rw [if_neg h, if_neg h]
          rfl
theorem rankB_fork (l : List Bool) (h k i n r : Nat) : rankB l h k i n r = if n ≤ 1 then (if n = 1 then some r else none) else match forkB l k i n with
    | none => none
    | some (z, e) => if h.testBit (k - 1) then match skipB l (k - 1) e z with
        | none => none
        | some e2 => rankB l h (k - 1) e2 (n - z) (r + z)
      else rankB l h (k - 1) e z r := by
  cases k with
  | zero =>
    rw [rankB, forkB]
    by_cases h1 : n ≤ 1
    · rw [if_pos h1]
    · rw [if_neg h1, if_neg (by omega)]
  | succ k =>
    rw [rankB, forkB, Nat.add_sub_cancel]
    split
    · rfl
    · cases getG l i with
      | none => rfl
      | some p =>
        obtain ⟨x, e⟩ := p
        simp only []
        by_cases h : n + 1 < x
        · rw [if_pos h, if_pos h]
        · rw [if_neg h, if_neg h]
          rfl
theorem forkB_bound {l : List Bool} {k i n z e : Nat} (h : forkB l k i n = some (z, e)) : 1 ≤ k ∧ z ≤ n ∧ e ≤ l.length := by
  cases k with
  | zero => cases h
  | succ k =>
    rw [forkB] at h
    cases hg : getG l i with
    | none => rw [hg] at h; cases h
    | some p =>
      obtain ⟨x, e'⟩ := p
      rw [hg] at h
      simp only [] at h
      split at h
      · cases h
      · cases h
        exact ⟨by omega, by omega, (getG_bound hg).1⟩
theorem skipB_bound {l : List Bool} : ∀ {k i n e : Nat}, skipB l k i n = some e → e = i ∨ e ≤ l.length
  | k, i, n, e, h => by
    rw [skipB_fork] at h
    split at h
    · cases h; exact .inl rfl
    · cases hf : forkB l k i n with
      | none => rw [hf] at h; cases h
      | some p =>
        obtain ⟨z, e1⟩ := p
        obtain ⟨h1, h2, h3⟩ := forkB_bound hf
        rw [hf] at h
        simp only [] at h
        cases hs : skipB l (k - 1) e1 z with
        | none => rw [hs] at h; cases h
        | some e2 =>
          rw [hs] at h
          simp only [] at h
          have a1 := skipB_bound (k := k - 1) hs
          have a2 := skipB_bound (k := k - 1) h
          omega
  termination_by k => k

theorem bit_top (x d : Nat) (hd : d ≤ 63) : x * 2 ^ d % 18446744073709551616 / 9223372036854775808 = if x.testBit (63 - d) then 1 else 0 := by
  have e1 : x * 2 ^ d % 18446744073709551616 / 9223372036854775808 = x * 2 ^ d / 9223372036854775808 % 2 := by omega
  have e2 : x * 2 ^ d / 9223372036854775808 = x / 2 ^ (63 - d) := by
    rw [show (9223372036854775808 : Nat) = 2 ^ (63 - d) * 2 ^ d by rw [← Nat.pow_add, show 63 - d + d = 63 by omega]]
    exact Nat.mul_div_mul_right _ _ (Nat.pow_pos (by omega))
  have hb : x.testBit (63 - d) = decide (x / 2 ^ (63 - d) % 2 = 1) := Nat.testBit_eq_decide_div_mod_eq
  rw [e1, e2, hb]
  generalize x / 2 ^ (63 - d) = y
  by_cases h : y % 2 = 1
  · rw [decide_eq_true h, h]; rfl
  · rw [decide_eq_false h, show y % 2 = 0 by omega]; rfl

set_option maxRecDepth 100000 in
theorem bit_c (x d k : Nat) (w : World) (hd : d + k = 63) : Calls Try.prog 28 #[.int .u64 (x : Int), .int .i64 (d : Int)] w fun e w' => e = .returned (.bool (x.testBit k)) ∧ w = w' := by
  have h := bit_top x d (by omega)
  rw [show 63 - d = k by omega] at h
  have h1 : IntKind.u64.wrap ((x : Int) * 2 ^ d) = ((x * 2 ^ d % 18446744073709551616 : Nat) : Int) := by
    have e : (x : Int) * 2 ^ d = ((x * 2 ^ d : Nat) : Int) := by simp
    rw [e, IntKind.wrap_u64]
    omega
  obtain ⟨y, hy⟩ : ∃ y, y = x * 2 ^ d % 18446744073709551616 := ⟨_, rfl⟩
  rw [← hy] at h h1
  have hd63 : d ≤ 63 := by omega
  have hlt : y < 18446744073709551616 := by omega
  clear hy
  cases hb : x.testBit k with
  | true =>
    rw [hb] at h
    have h2 : (y : Int) / 9223372036854775808 = 1 := by have : y / 9223372036854775808 = 1 := h; omega
    clear h hb hd
    go_enter Try.func28, Try.ntmps28
    go_wp2_with fail
    go_ret
    exact ⟨rfl, rfl⟩
  | false =>
    rw [hb] at h
    have h2 : (y : Int) / 9223372036854775808 = 0 := by have : y / 9223372036854775808 = 0 := h; omega
    clear h hb hd
    go_enter Try.func28, Try.ntmps28
    go_wp2_with fail
    go_ret
    exact ⟨rfl, rfl⟩

set_option maxRecDepth 100000 in
theorem tmay_c (n : Nat) (t : Bool) (w : World) (ht : decide (n ≤ 4096) = t) : Calls Try.prog 25 #[.int .i64 (n : Int)] w fun e w' => e = .returned (.bool t) ∧ w = w' := by
  have h0 : (0 : Int) ≤ (n : Int) := by omega
  cases t with
  | true =>
    have h1 : (n : Int) ≤ 4096 := by have := of_decide_eq_true ht; omega
    clear ht
    go_enter Try.func25, Try.ntmps25
    go_wp2_with fail
    go_ret
    exact ⟨rfl, rfl⟩
  | false =>
    have h1 : ¬ (n : Int) ≤ 4096 := by have := of_decide_eq_false ht; omega
    clear ht
    go_enter Try.func25, Try.ntmps25
    go_wp2_with fail
    go_ret
    exact ⟨rfl, rfl⟩

def forkV : Option (Nat × Nat) → Value
  | some (z, e) => .tuple #[.int .i64 (z : Int), .int .i64 (e : Int), .bool true]
  | none => .tuple #[.int .i64 0, .int .i64 0, .bool false]
def endV : Option Nat → Value
  | some e => .tuple #[.int .i64 (e : Int), .bool true]
  | none => .tuple #[.int .i64 0, .bool false]

set_option maxRecDepth 100000 in
theorem fork_c (k d i n : Nat) (w : World) (B b : Nat) (v : Value) (l : List Bool) (h : BT w B b v l) (hl : l.length ≤ 100000000) (hd : d + k = 64) (hi : i ≤ 100000000) (hn : n ≤ 4096) :
    Calls Try.prog 27 #[.pointer (some ⟨b, 0, none⟩), .int .i64 (i : Int), .int .i64 (n : Int), .int .i64 (d : Int)] w fun e w' => e = .returned (forkV (forkB l k i n)) ∧ Below w.heap.size w w' := by
  cases k with
  | zero =>
    obtain rfl : d = 64 := by omega
    clear h
    go_enter Try.func27, Try.ntmps27
    go_wp2_with fail
    go_ret3
    exact ⟨rfl, Below.refl _ _⟩
  | succ k =>
    have C := gget_c (i : Int) w B b v l h hl (by omega) (by omega)
    have hd64 : ((d : Int) == 64) = false := by simp; omega
    rw [forkB]
    clear h hd
    cases hg : getG l i with
    | none =>
      rw [getGV_none hg] at C
      have C := Go.Lib.hid C
      clear hg
      go_enter Try.func27, Try.ntmps27
      go_wp2_with fail
      refine C.out.mono ?_
      rintro e w1 ⟨rfl, hb⟩
      go_wp2_with fail
      go_ret3
      exact ⟨rfl, hb⟩
    | some p =>
      obtain ⟨x, e⟩ := p
      have hx1 := getG_pos hg
      obtain ⟨he, hx64⟩ := getG_bound hg
      rw [getGV_some hg] at C
      have C := Go.Lib.hid C
      have hs : (x : Int) - 1 = ((x - 1 : Nat) : Int) := by omega
      have hsw : IntKind.u64.wrap ((x : Int) - 1) = ((x - 1 : Nat) : Int) := by rw [IntKind.wrap_u64]; omega
      simp only []
      clear hg
      obtain ⟨z, hz⟩ : ∃ z, z = x - 1 := ⟨_, rfl⟩
      rw [← hz] at hs hsw ⊢
      by_cases hx : n + 1 < x
      · rw [if_pos hx]
        have hnz : (n : Int) < (z : Int) := by omega
        have hz64 : z < 18446744073709551616 := by omega
        clear hz hx
        go_enter Try.func27, Try.ntmps27
        go_wp2_with fail
        refine C.out.mono ?_
        rintro e w1 ⟨rfl, hb⟩
        go_wp2_with fail
        go_ret3
        exact ⟨rfl, hb⟩
      · rw [if_neg hx]
        have hnz : ¬ (n : Int) < (z : Int) := by omega
        have hz64 : z ≤ 4096 := by omega
        clear hz hx
        go_enter Try.func27, Try.ntmps27
        go_wp2_with fail
        refine C.out.mono ?_
        rintro e w1 ⟨rfl, hb⟩
        go_wp2_with fail
        go_ret3
        exact ⟨rfl, hb⟩

set_option maxHeartbeats 400000 in
set_option maxRecDepth 100000 in
theorem past_c (l : List Bool) (hl : l.length ≤ 100000000) (B b : Nat) (v : Value) : ∀ (k d i n : Nat) (w : World), BT w B b v l → d + k = 64 → i ≤ 100000000 → n ≤ 4096 →
    Calls Try.prog 26 #[.pointer (some ⟨b, 0, none⟩), .int .i64 (i : Int), .int .i64 (n : Int), .int .i64 (d : Int)] w fun e w' => e = .returned (endV (skipB l k i n)) ∧ Below w.heap.size w w' := by
  intro k
  induction k using Nat.strongRecOn with
  | ind k ih =>
    intro d i n w h hd hi hn
    rw [skipB_fork]
    by_cases hn2 : n ≤ 1
    · rw [if_pos hn2]
      have h2 : (n : Int) < 2 := by omega
      clear ih h
      go_enter Try.func26, Try.ntmps26
      go_wp2_with fail
      go_ret2
      exact ⟨rfl, Below.refl _ _⟩
    · rw [if_neg hn2]
      have h2 : ¬ (n : Int) < 2 := by omega
      have C := fork_c k d i n w B b v l h hl hd hi hn
      cases hf : forkB l k i n with
      | none =>
        rw [hf] at C
        have C := Go.Lib.hid C
        clear ih h hf
        go_enter Try.func26, Try.ntmps26
        go_wp2_with fail
        refine C.out.mono ?_
        rintro e w1 ⟨rfl, hb⟩
        simp only [forkV]
        go_wp2_with fail
        go_ret2
        exact ⟨rfl, hb⟩
      | some p =>
        obtain ⟨z, e⟩ := p
        obtain ⟨hk1, hzn, hel⟩ := forkB_bound hf
        rw [hf] at C
        obtain ⟨k, rfl⟩ : ∃ j, k = j + 1 := ⟨k - 1, by omega⟩
        simp only [Nat.add_sub_cancel]
        have C := Go.Lib.hid C
        have C1 := fun w1 (hb : Below w.heap.size w w1) => ih k (by omega) (d + 1) e z w1 (h.below hb) (by omega) (by omega) (by omega)
        have he : e ≤ 100000000 := by omega
        have hd63 : d ≤ 63 := by omega
        rw [show ((d + 1 : Nat) : Int) = (d : Int) + 1 by omega] at C1
        cases hs : skipB l k e z with
        | none =>
          rw [hs] at C1
          have C1 := Go.Lib.hid C1
          clear ih h hf hs hd
          go_enter Try.func26, Try.ntmps26
          go_wp2_with fail
          refine C.out.mono ?_
          rintro e' w1 ⟨rfl, hb⟩
          simp only [forkV]
          go_wp2_with fail
          refine (C1.out w1 hb).mono ?_
          rintro e' w2 ⟨rfl, hb2⟩
          simp only [endV]
          go_wp2_with fail
          go_ret2
          exact ⟨rfl, hb.trans (hb2.mono hb.size)⟩
        | some e2 =>
          have he2 := skipB_bound hs
          have he2' : e2 ≤ 100000000 := by omega
          rw [hs] at C1
          have C2 := fun w1 (hb : Below w.heap.size w w1) => ih k (by omega) (d + 1) e2 (n - z) w1 (h.below hb) (by omega) (by omega) (by omega)
          rw [show ((d + 1 : Nat) : Int) = (d : Int) + 1 by omega, show ((n - z : Nat) : Int) = (n : Int) - (z : Int) by omega] at C2
          have C1 := Go.Lib.hid C1
          have C2 := Go.Lib.hid C2
          simp only []
          generalize skipB l k e2 (n - z) = r at *
          clear ih h hf hs hd he2
          go_enter Try.func26, Try.ntmps26
          go_wp2_with fail
          refine C.out.mono ?_
          rintro e' w1 ⟨rfl, hb⟩
          simp only [forkV]
          go_wp2_with fail
          refine (C1.out w1 hb).mono ?_
          rintro e' w2 ⟨rfl, hb2⟩
          have hbb := hb.trans (hb2.mono hb.size)
          simp only [endV]
          go_wp2_with fail
          refine (C2.out w2 hbb).mono ?_
          rintro e' w3 ⟨rfl, hb3⟩
          have hb4 := hbb.trans (hb3.mono hbb.size)
          cases r with
          | none =>
            simp only [endV]
            go_wp2_with fail
            go_ret2
            exact ⟨rfl, hb4⟩
          | some r =>
            simp only [endV]
            go_wp2_with fail
            go_ret2
            exact ⟨rfl, hb4⟩

/-- The bits are a tree of n, from the first to the last one. -/
def checkB (l : List Bool) (n : Nat) : Bool := match skipB l 64 0 n with
  | some e => decide (e = l.length)
  | none => false

set_option maxRecDepth 100000 in
theorem check_c (n : Nat) (t : Bool) (w : World) (B b : Nat) (v : Value) (l : List Bool) (h : BT w B b v l) (hl : l.length ≤ 100000000) (hn : n ≤ 4096) (ht : checkB l n = t) :
    Calls Try.prog 13 #[.pointer (some ⟨b, 0, none⟩), .int .i64 (n : Int)] w fun e w' => e = .returned (.bool t) ∧ Below w.heap.size w w' := by
  have CM := Go.Lib.hid (tmay_c n true w (decide_eq_true hn))
  have C := past_c l hl B b v 64 0 0 n w h rfl (by omega) hn
  have CL := Go.Lib.hid fun w1 (hb : Below w.heap.size w w1) => len_c w1 B b v _ _ (h.below hb)
  unfold checkB at ht
  clear h
  cases hs : skipB l 64 0 n with
  | none =>
    rw [hs] at C ht
    obtain rfl : t = false := ht.symm
    have C := Go.Lib.hid C
    clear hs
    go_enter Try.func13, Try.ntmps13
    go_wp2_with fail
    refine CM.out.mono ?_
    rintro e w1 ⟨rfl, rfl⟩
    go_wp2_with fail
    refine C.out.mono ?_
    rintro e w1 ⟨rfl, hb⟩
    simp only [endV]
    go_wp2_with fail
    go_ret
    exact ⟨rfl, hb⟩
  | some e =>
    rw [hs] at C ht
    have ht2 : ((e : Int) == (l.length : Int)) = t := by
      rw [← ht, Bool.eq_iff_iff, beq_iff_eq]
      simp only [decide_eq_true_eq]
      omega
    have Ht := Go.Lib.hid ht2
    have C := Go.Lib.hid C
    clear hs ht ht2
    generalize l.length = m at *
    go_enter Try.func13, Try.ntmps13
    go_wp2_with fail
    refine CM.out.mono ?_
    rintro e w1 ⟨rfl, rfl⟩
    go_wp2_with fail
    refine C.out.mono ?_
    rintro e w1 ⟨rfl, hb⟩
    simp only [endV]
    go_wp2_with fail
    refine (CL.out w1 hb).mono ?_
    rintro e w2 ⟨rfl, rfl⟩
    have ht := Ht.out
    go_wp2_with fail
    go_ret
    exact ⟨rfl, hb⟩

set_option maxHeartbeats 1000000 in
set_option maxRecDepth 100000 in
theorem rank_c (n0 x : Nat) (w : World) (B b : Nat) (v : Value) (l : List Bool) (h : BT w B b v l) (hl : l.length ≤ 100000000) (hn : n0 ≤ 4096) (R : Option Nat) (hR0 : rankB l x 64 0 n0 0 = R) :
    Calls Try.prog 14 #[.pointer (some ⟨b, 0, none⟩), .int .i64 (n0 : Int), .int .u64 (x : Int)] w fun e w' => e = .returned (endV R) ∧ Below w.heap.size w w' := by
  have CM := Go.Lib.hid (tmay_c n0 true w (decide_eq_true hn))
  have H := Go.Lib.hid h
  have Hl := Go.Lib.hid hl
  have HR0 := Go.Lib.hid hR0
  clear h hl hR0
  go_enter Try.func14, Try.ntmps14
  go_wp2_with fail
  refine CM.out.mono ?_
  rintro e w1 ⟨rfl, rfl⟩
  clear CM
  go_wp2_with fail
  go_loopw [1, 8, 9, 10] (fun n' i' r' d' wr => ∃ (k d i n r : Nat), d + k = 64 ∧ i ≤ 100000000 ∧ r + n ≤ n0 ∧ n' = .int .i64 (n : Int) ∧ i' = .int .i64 (i : Int) ∧ r' = .int .i64 (r : Int) ∧ d' = .int .i64 (d : Int) ∧ Hid (rankB l x k i n r = R) ∧ Below w.heap.size w wr) (fun _ _ _ d' _ => 64 - (intOf d').toNat)
  case atStart => exact ⟨64, 0, 0, n0, 0, rfl, by omega, by omega, rfl, rfl, rfl, rfl, HR0, Below.refl _ _⟩
  case round =>
    obtain ⟨k, d, i, n, r, hdk, hi, hrn, rfl, rfl, rfl, rfl, HR, hb⟩ := hrel
    have hR := HR.out
    clear HR
    rw [rankB_fork] at hR
    by_cases hn2 : n ≤ 1
    · rw [if_pos hn2] at hR
      have h2 : ¬ 1 < (n : Int) := by omega
      by_cases hn1 : n = 1
      · subst hn1
        rw [if_pos rfl] at hR
        subst hR
        go_wp2_with fail
        go_ret2
        exact ⟨rfl, hb⟩
      · obtain rfl : n = 0 := by omega
        rw [if_neg (by omega)] at hR
        subst hR
        go_wp2_with fail
        go_ret2
        exact ⟨rfl, hb⟩
    · rw [if_neg hn2] at hR
      have h2 : 1 < (n : Int) := by omega
      have C := fork_c k d i n wr B b v l (H.out.below hb) Hl.out hdk hi (by omega)
      cases hf : forkB l k i n with
      | none =>
        rw [hf] at C hR
        simp only [] at hR
        subst hR
        have C := Go.Lib.hid C
        clear hf
        go_wp2_with fail
        refine C.out.mono ?_
        rintro e w1 ⟨rfl, hb1⟩
        simp only [forkV]
        go_wp2_with fail
        go_ret2
        exact ⟨rfl, hb.trans (hb1.mono hb.size)⟩
      | some p =>
        obtain ⟨z, e⟩ := p
        obtain ⟨hk1, hzn, hel⟩ := forkB_bound hf
        rw [hf] at C hR
        obtain ⟨k, rfl⟩ : ∃ j, k = j + 1 := ⟨k - 1, by omega⟩
        simp only [Nat.add_sub_cancel] at hR
        have he : e ≤ 100000000 := by have := Hl.out; omega
        have hd63 : d ≤ 63 := by omega
        have hz : z ≤ 4096 := by omega
        have C := Go.Lib.hid C
        have CB := fun W => bit_c x d k W (by omega)
        cases hbit : x.testBit k with
        | false =>
          rw [hbit] at CB hR
          have CB := Go.Lib.hid CB
          rw [if_neg (by decide)] at hR
          have HR := Go.Lib.hid hR
          clear hf hR hbit
          go_wp2_with fail
          refine C.out.mono ?_
          rintro e' w1 ⟨rfl, hb1⟩
          have hb2 := hb.trans (hb1.mono hb.size)
          simp only [forkV]
          go_wp2_with fail
          refine (CB.out w1).mono ?_
          rintro e' w2 ⟨rfl, rfl⟩
          clear C CB hb1 hb
          go_wp2_with fail
          go_roundw
          case rel => exact ⟨k, d + 1, e, z, r, by omega, by omega, by omega, rfl, rfl, rfl, by go_num, HR, hb2⟩
          case measure => simp only [intOf]; omega
        | true =>
          rw [hbit] at CB hR
          have CB := Go.Lib.hid CB
          rw [if_pos rfl] at hR
          have C1 := fun w1 (hb1 : Below w.heap.size w w1) => past_c l Hl.out B b v k (d + 1) e z w1 (H.out.below hb1) (by omega) (by omega) (by omega)
          rw [show ((d + 1 : Nat) : Int) = (d : Int) + 1 by omega] at C1
          cases hs : skipB l k e z with
          | none =>
            rw [hs] at C1 hR
            simp only [] at hR
            subst hR
            have C1 := Go.Lib.hid C1
            clear hf hbit hs
            go_wp2_with fail
            refine C.out.mono ?_
            rintro e' w1 ⟨rfl, hb1⟩
            have hb2 := hb.trans (hb1.mono hb.size)
            simp only [forkV]
            go_wp2_with fail
            refine (CB.out w1).mono ?_
            rintro e' w2 ⟨rfl, rfl⟩
            clear C CB hb1 hb
            go_wp2_with fail
            refine (C1.out w1 hb2).mono ?_
            rintro e' w3 ⟨rfl, hb3⟩
            simp only [endV]
            go_wp2_with fail
            go_ret2
            exact ⟨rfl, hb2.trans (hb3.mono hb2.size)⟩
          | some e2 =>
            have he2 := skipB_bound hs
            have he2' : e2 ≤ 100000000 := by have := Hl.out; omega
            rw [hs] at C1 hR
            simp only [] at hR
            have HR := Go.Lib.hid hR
            have C1 := Go.Lib.hid C1
            clear hf hR hbit hs he2
            go_wp2_with fail
            refine C.out.mono ?_
            rintro e' w1 ⟨rfl, hb1⟩
            have hb2 := hb.trans (hb1.mono hb.size)
            simp only [forkV]
            go_wp2_with fail
            refine (CB.out w1).mono ?_
            rintro e' w2 ⟨rfl, rfl⟩
            clear C CB hb1 hb
            go_wp2_with fail
            refine (C1.out w1 hb2).mono ?_
            rintro e' w3 ⟨rfl, hb3⟩
            have hb4 := hb2.trans (hb3.mono hb2.size)
            simp only [endV]
            go_wp2_with fail
            go_roundw
            case rel => exact ⟨k, d + 1, e2, n - z, r + z, by omega, by omega, by omega, by congr 1; omega, rfl, by go_num, by go_num, HR, hb4⟩
            case measure => simp only [intOf]; omega

end Go.Proofs.Ytmphcpggfgehhaa
