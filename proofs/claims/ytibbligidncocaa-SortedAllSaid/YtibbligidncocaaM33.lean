/-
  The contracts of trie: rise, put, Build.
  The reference's SortedReads.
-/
import Derived.Test.YtibbligidncocaaM31
import Derived.Test.YtibbligidncocaaM15
import Derived.Test.YtibbligidncocaaM32
import Derived.Test.YtibbligidncocaaM17
import Derived.Deep.QuietTactic
import Derived.BigQuiet
import Derived.Deep.DeepMust
import Derived.Test.YtibbligidncocaaM16
namespace Go.Proofs.Ytibbligidncocaa
open Go.RowKit

/-- Each is greater than the one ahead of it. -/
def riseB (l : List Nat) : Bool := (List.range (l.length - 1)).all fun j => decide (l.getD j 0 < l.getD (j + 1) 0)
theorem riseB_iff (l : List Nat) : riseB l = true ↔ ∀ j, j + 1 < l.length → l.getD j 0 < l.getD (j + 1) 0 := by
  unfold riseB
  rw [List.all_eq_true]
  constructor
  · intro h j hj
    exact of_decide_eq_true (h j (List.mem_range.2 (by omega)))
  · intro h j hj
    exact decide_eq_true (h j (by have := List.mem_range.1 hj; omega))
theorem riseB_pair {l : List Nat} (h : riseB l = true) : l.Pairwise (· < ·) := by
  have h := (riseB_iff l).1 h
  have key : ∀ (i n : Nat), i + n + 1 < l.length → l.getD i 0 < l.getD (i + n + 1) 0 := by
    intro i n
    induction n with
    | zero => intro hi; exact h i hi
    | succ n ih =>
      intro hi
      have h1 := ih (by omega)
      have h2 := h (i + n + 1) (by omega)
      have e : i + (n + 1) + 1 = i + n + 1 + 1 := by omega
      rw [e]
      omega
  rw [List.pairwise_iff_getElem]
  intro i j hi hj hij
  have := key i (j - i - 1) (by omega)
  rw [show i + (j - i - 1) + 1 = j by omega, List.getD_eq_getElem?_getD, List.getD_eq_getElem?_getD, List.getElem?_eq_getElem hi, List.getElem?_eq_getElem hj] at this
  exact this
theorem riseB_of {l : List Nat} (h : l.Pairwise (· < ·)) : riseB l = true := by
  rw [riseB_iff]
  intro j hj
  rw [List.getD_eq_getElem?_getD, List.getD_eq_getElem?_getD, List.getElem?_eq_getElem hj, List.getElem?_eq_getElem (by omega)]
  exact List.pairwise_iff_getElem.1 h j (j + 1) (by omega) hj (by omega)

set_option maxHeartbeats 400000 in
set_option maxRecDepth 100000 in
theorem rise_c (v : Value) (l : List Nat) (t : Bool) (w : World) (h : KU.R w v l) (hl : l.length ≤ 1000000) (ht : riseB l = t) :
    Calls Try.prog 56 #[v] w fun e w' => e = .returned (.bool t) ∧ Below w.heap.size w w' := by
  obtain ⟨ad, cap, rfl, -⟩ := h.form
  have H := Go.Lib.hid h
  have HT := Go.Lib.hid ht
  clear h ht
  go_enter Try.func56, Try.ntmps56
  go_wp2_with fail
  go_loopw [3] (fun i' wr => ∃ i : Nat, i' = .int .i64 (i : Int) ∧ 1 ≤ i ∧ (i ≤ l.length ∨ i = 1) ∧ Hid (∀ j, j + 1 < i → l.getD j 0 < l.getD (j + 1) 0) ∧ Below w.heap.size w wr) (fun i' _ => l.length - (intOf i').toNat)
  case atStart => exact ⟨1, rfl, by omega, by omega, Go.Lib.hid fun j hj => by omega, Below.refl _ _⟩
  case round =>
    obtain ⟨i, rfl, hi1, hi2, HI, hb⟩ := hrel
    by_cases hlt : i < l.length
    · obtain ⟨q, rfl⟩ : ∃ q, i = q + 1 := ⟨i - 1, by omega⟩
      obtain ⟨b, o, rfl, -, hbl, c1⟩ := KU.at' H.out q (by omega)
      obtain ⟨b', o', e, -, hbl', c2⟩ := KU.at' H.out (q + 1) hlt
      cases e
      have d1 := (hb.cell (p := ⟨b, o + q, none⟩) hbl).trans c1
      have d2 := (hb.cell (p := ⟨b, o + (q + 1), none⟩) hbl).trans c2
      have i1 := idxU b o l.length cap q (by omega)
      have i2 := idxU b o l.length cap (q + 1) hlt
      have e1 : l.getD q 0 = l[q] := by rw [List.getD_eq_getElem?_getD, List.getElem?_eq_getElem (by omega)]; rfl
      have e2 : l.getD (q + 1) 0 = l[q + 1] := by rw [List.getD_eq_getElem?_getD, List.getElem?_eq_getElem hlt]; rfl
      generalize l[q] = x at *
      generalize l[q + 1] = y at *
      have E1 := Go.Lib.hid e1
      have E2 := Go.Lib.hid e2
      have hq : ((q + 1 : Nat) : Int) - 1 = (q : Int) := by omega
      clear c1 c2 e1 e2
      by_cases hxy : x < y
      · have hxi : ¬ (y : Int) ≤ (x : Int) := by omega
        go_wp2_with fail
        go_quiet (fail)
        go_wp2_with fail
        go_roundw
        case rel =>
          refine ⟨q + 2, by go_num, by omega, by omega, Go.Lib.hid fun j hj => ?_, below_drewN hb _⟩
          rcases Nat.lt_or_ge (j + 1) (q + 1) with h1 | h1
          · exact HI.out j h1
          · obtain rfl : j = q := by omega
            rw [E1.out, E2.out]
            exact hxy
        case measure => simp only [intOf]; omega
      · have hxi : (y : Int) ≤ (x : Int) := by omega
        have htf : t = false := by
          cases t with
          | false => rfl
          | true =>
            have := (riseB_iff l).1 HT.out q hlt
            rw [E1.out, E2.out] at this
            omega
        subst htf
        go_wp2_with fail
        go_quiet (fail)
        go_wp2_with fail
        go_ret
        exact ⟨rfl, below_drewN hb _⟩
    · have htt : t = true := by
        rw [← HT.out, riseB_iff]
        intro j hj
        exact HI.out j (by omega)
      subst htt
      clear HT HI
      go_wp2_with fail
      go_ret
      exact ⟨rfl, hb⟩

set_option maxRecDepth 100000 in
/-- The function that put hands to sort.Search. -/
theorem putbit_c (i b1 b2 bs os n cap x d k : Nat) (w : World) (hi : i < n) (hd : d + k = 63) (h1 : w.cell? ⟨b1, 0, none⟩ = some (.slice (some ⟨bs, os, none⟩) n cap)) (h2 : w.cell? ⟨b2, 0, none⟩ = some (.int .i64 (d : Int))) (h3 : w.cell? ⟨bs, os + i, none⟩ = some (.int .u64 (x : Int))) :
    Calls Try.prog 76 (#[.int .i64 (i : Int)] ++ #[.pointer (some ⟨b1, 0, none⟩), .pointer (some ⟨b2, 0, none⟩)]) w fun e w' => e = .returned (.bool (x.testBit k)) ∧ Below w.heap.size w w' := by
  have hix := idxU bs os n cap i hi
  have CB : Hid (∀ m, Calls Try.prog 77 #[.int .u64 (x : Int), .int .i64 (d : Int)] (w.drewN m) fun e w' => e = .returned (.bool (x.testBit k)) ∧ ∃ k, w' = w.drewN k) := Go.Lib.hid fun m => Calls.quiet_of_same ((bit_c x d k _ hd).mono fun _ _ ⟨h, hw⟩ => ⟨h, hw.symm⟩)
  go_enter Try.func76, Try.ntmps76
  go_wp2_with fail
  go_quiet ((go_at_call 77; exact CB.out _))
  go_wp2_with fail
  go_ret
  exact ⟨rfl, below_drewN (Below.refl _ _) _⟩

/-- A *bits.Bits was written to: its row is the old one or a new one. -/
structure Goes (b : Nat) (u u' : Value) (w w' : World) : Prop where
  two : Two b u.ownBlock w w'
  row : u'.ownBlock = u.ownBlock ∨ ∀ j, u'.ownBlock = some j → w.heap.size ≤ j
theorem Goes.of_below {b : Nat} {u : Value} {w w' : World} (h : Below w.heap.size w w') : Goes b u u w w' := ⟨Two.of_below h, .inl rfl⟩
theorem Goes.trans {b : Nat} {u u1 u2 : Value} {w w1 w2 : World} (h : Goes b u u1 w w1) (k : Goes b u1 u2 w1 w2) : Goes b u u2 w w2 := by
  refine ⟨h.two.trans k.two fun j hj => ?_, ?_⟩
  · rcases h.row with e | e
    · exact .inl (e ▸ hj)
    · exact .inr (e j hj)
  · rcases k.row with e | e
    · rw [e]; exact h.row
    · exact .inr fun j hj => Nat.le_trans h.two.size (e j hj)
theorem Goes.cell {b : Nat} {u u' : Value} {w w' : World} (h : Goes b u u' w w') {p : Addr} {c : Value} (hc : w.cell? p = some c) (h1 : p.block ≠ b) (h2 : u.ownBlock ≠ some p.block) : w'.cell? p = some c :=
  (World.cell?_of_block (w := w) (h.two.block p.block (World.block_lt_of_cell? w _ hc) h1 (Ne.symm h2))).trans hc
theorem Goes.new {b : Nat} {u u' : Value} {w w' : World} (h : Goes b u u' w w') {g : Nat} (h1 : g < w.heap.size) (h2 : u.ownBlock ≠ some g) : u'.ownBlock ≠ some g := by
  intro e
  rcases h.row with r | r
  · exact h2 (r ▸ e)
  · have := r g e
    omega
theorem Goes.below {b B : Nat} {u u' : Value} {w w' : World} (h : Goes b u u' w w') (h1 : B ≤ b) (h2 : ∀ k, u.ownBlock = some k → B ≤ k) (h3 : B ≤ w.heap.size) : Below B w w' := h.two.below h1 h2 h3

set_option maxRecDepth 100000 in
theorem tput_short (b : Nat) (d : Int) (v : Value) (L : List Nat) (w0 w : World) (hv : KU.R w0 v L) (hs : L.length ≤ 1) :
    Calls Try.prog 57 #[.pointer (some ⟨b, 0, none⟩), v, .int .i64 d] w fun e w' => e = .returned (.tuple #[]) ∧ Below w.heap.size w w' := by
  obtain ⟨ad, cap, rfl, -⟩ := hv.form
  have h2 : (L.length : Int) < 2 := by omega
  have hb : Below w.heap.size w ((w.alloc (.cells #[.slice ad L.length cap] 67)).alloc (.cells #[.int .i64 d] 3)) := ((Below.refl _ w).alloc (Nat.le_refl _) _).alloc (by simp) _
  clear hv
  generalize L.length = n at *
  go_enter Try.func57, Try.ntmps57
  go_wp2_with fail
  refine bodyPost_ret (results_none rfl _ _ _) rfl ?_
  exact ⟨rfl, hb⟩

theorem count_split {p : Nat → Bool} : ∀ (l : List Nat) (s : Nat), s ≤ l.length → (∀ t, t < s → p (l.getD t 0) = true) → (∀ t, s ≤ t → t < l.length → p (l.getD t 0) = false) → l.countP p = s
  | [], s, hs, _, _ => by simp at hs ⊢; omega
  | x :: l, 0, _, _, h2 => by
    rw [List.countP_eq_zero]
    intro y hy
    obtain ⟨i, hi, rfl⟩ := List.mem_iff_getElem.1 hy
    have := h2 i (by omega) hi
    rw [List.getD_eq_getElem?_getD, List.getElem?_eq_getElem hi] at this
    simpa using this
  | x :: l, s + 1, hs, h1, h2 => by
    have h0 := h1 0 (by omega)
    simp only [List.getD_cons_zero] at h0
    rw [List.countP_cons_of_pos h0, count_split l s (by simpa using hs) (fun t ht => by have := h1 (t + 1) (by omega); simpa using this) (fun t ht hl => by have := h2 (t + 1) (by omega) (by simpa using hl); simpa using this)]
theorem sorted_bits {k : Nat} {L : List Nat} (h : RiseK (k + 1) L) (a c : Nat) (hac : a ≤ c) (hc : c < L.length) (ha : (L.getD a 0).testBit k = true) : (L.getD c 0).testBit k = true := by
  rcases Nat.eq_or_lt_of_le hac with rfl | hlt
  · exact ha
  rw [List.getD_eq_getElem?_getD, List.getElem?_eq_getElem (by omega)] at ha
  rw [List.getD_eq_getElem?_getD, List.getElem?_eq_getElem hc]
  simp only [Option.getD_some] at ha ⊢
  cases hb : L[c].testBit k with
  | true => rfl
  | false =>
    have h1 := bit_less (h.same _ (List.getElem_mem hc) _ (List.getElem_mem (show a < L.length by omega))) rfl hb ha
    have h2 := List.pairwise_iff_getElem.1 h.rise a c (by omega) hc hlt
    omega
def V4p (b bs os n cap s d : Nat) (S1 : Value) : Nat → World → Value → Prop
  | 19, _, v => v = .pointer (some ⟨b, 0, none⟩)
  | 20, _, v => v = .slice (some ⟨bs, os, none⟩) n cap
  | 21, _, v => v = .int .i64 (s : Int)
  | 22, _, v => v = S1
  | 23, _, v => v = .int .i64 (d : Int)
  | 24, _, v => v = .int .i64 ((d : Int) + 1)
  | _, _, _ => True

theorem V4p_below (b bs os n cap s d : Nat) (S1 : Value) : ∀ (i : Nat) (w w' : World) (v : Value), V4p b bs os n cap s d S1 i w v → Below w.heap.size w w' → V4p b bs os n cap s d S1 i w' v := by
  intro i w w' v h hb
  unfold V4p at h ⊢
  split at h <;> first | exact h | trivial | exact RB.below h hb | exact Own.below h hb | exact OwnV.below h hb | exact OwnRec.below h hb | exact Lay.R.below h hb

def V5p (b bs os n cap s d : Nat) (S2 : Value) : Nat → World → Value → Prop
  | 26, _, v => v = .pointer (some ⟨b, 0, none⟩)
  | 27, _, v => v = .slice (some ⟨bs, os, none⟩) n cap
  | 28, _, v => v = .int .i64 (s : Int)
  | 29, _, v => v = S2
  | 30, _, v => v = .int .i64 (d : Int)
  | 31, _, v => v = .int .i64 ((d : Int) + 1)
  | _, _, _ => True

theorem V5p_below (b bs os n cap s d : Nat) (S2 : Value) : ∀ (i : Nat) (w w' : World) (v : Value), V5p b bs os n cap s d S2 i w v → Below w.heap.size w w' → V5p b bs os n cap s d S2 i w' v := by
  intro i w w' v h hb
  unfold V5p at h ⊢
  split at h <;> first | exact h | trivial | exact RB.below h hb | exact Own.below h hb | exact OwnV.below h hb | exact OwnRec.below h hb | exact Lay.R.below h hb

set_option maxHeartbeats 2000000 in
set_option maxRecDepth 100000 in
theorem tput_c (w0 : World) (b : Nat) : ∀ (k d : Nat) (L : List Nat) (v u : Value) (l : List Bool) (w : World), d + k = 64 → KU.R w0 v L → Below w0.heap.size w0 w → BT w w0.heap.size b u l → RiseK k L → L.length ≤ 4096 → l.length + (treeL k L).length ≤ 100000000 →
    Calls Try.prog 57 #[.pointer (some ⟨b, 0, none⟩), v, .int .i64 (d : Int)] w fun e w' => e = .returned (.tuple #[]) ∧ ∃ u', BT w' w0.heap.size b u' (l ++ treeL k L) ∧ Goes b u u' w w' := by
  intro k
  induction k with
  | zero =>
    intro d L v u l w _ hv _ hbt hr _ _
    have hs := riseK_zero hr
    refine (tput_short b (d : Int) v L w0 w hv hs).mono ?_
    rintro e w1 ⟨rfl, hb⟩
    rw [treeL_short hs, List.append_nil]
    exact ⟨rfl, u, hbt.below hb, Goes.of_below hb⟩
  | succ k ih =>
    intro d L v u l w hdk hv hb hbt hr h4 hlen
    by_cases hs : L.length ≤ 1
    · refine (tput_short b (d : Int) v L w0 w hv hs).mono ?_
      rintro e w1 ⟨rfl, hb⟩
      rw [treeL_short hs, List.append_nil]
      exact ⟨rfl, u, hbt.below hb, Goes.of_below hb⟩
    obtain ⟨ad, cap, rfl, -⟩ := hv.form
    obtain ⟨bs, os, rfl, -, hbs, -⟩ := KU.at' hv 0 (by omega)
    obtain ⟨m, hm⟩ : ∃ m, m = L.countP fun x => !x.testBit k := ⟨_, rfl⟩
    have hml : m ≤ L.length := by rw [hm]; exact List.countP_le_length
    have htree : treeL (k + 1) L = gam (m + 1) ++ treeL k (L.take m) ++ treeL k (L.drop m) := by rw [treeL, if_neg hs, ← hm]
    have hr1 := rise_take hr
    have hr2 := rise_drop hr
    rw [← hm] at hr1 hr2
    rw [htree] at hlen ⊢
    simp only [List.length_append] at hlen
    have hlen1 : l.length ≤ 100000000 := by omega
    obtain ⟨b1, hb1⟩ : ∃ b1, b1 = w.heap.size := ⟨_, rfl⟩
    obtain ⟨n, hn⟩ : ∃ n, n = L.length := ⟨_, rfl⟩
    obtain ⟨W0, hW0⟩ : ∃ W, W = (w.alloc (.cells #[.slice (some ⟨bs, os, none⟩) n cap] 67)).alloc (.cells #[.int .i64 (d : Int)] 3) := ⟨_, rfl⟩
    have c1 : W0.cell? ⟨b1, 0, none⟩ = some (.slice (some ⟨bs, os, none⟩) n cap) := by
      rw [hW0, hb1, World.cell?_alloc_past _ _ _ (by simp)]
      rw [World.cell?_alloc_at _ _ _ _ (by simp)]
      rfl
    have c2 : W0.cell? ⟨b1 + 1, 0, none⟩ = some (.int .i64 (d : Int)) := by
      rw [hW0, hb1, World.cell?_alloc_at _ _ _ _ (by simp)]
      rfl
    have hb0 : Below w.heap.size w W0 := by rw [hW0]; exact ((Below.refl _ w).alloc (Nat.le_refl _) _).alloc (by simp) _
    have hsz0 : W0.heap.size = b1 + 2 := by rw [hW0, hb1]; simp only [World.alloc, Array.size_push]
    have hbW : Below w0.heap.size w0 W0 := hb.trans (hb0.mono hb.size)
    have hbt0 : BT W0 w0.heap.size b u l := hbt.below hb0
    have hbne : b < b1 := by rw [hb1]; exact hbt.lt
    have hno : ∀ j, u.ownBlock = some j → j < b1 := by rw [hb1]; exact hbt.row_lt
    have G0 : Goes b u u w W0 := Goes.of_below hb0
    have CS := search_c 76 #[.pointer (some ⟨b1, 0, none⟩), .pointer (some ⟨b1 + 1, 0, none⟩)] n (fun i => (L.getD i 0).testBit k) W0 (by omega) (enters_of Try.func76 (by kernel_rfl) rfl)
      (fun i W hi hW => by
        have hc1 := (hW.cell (p := ⟨b1, 0, none⟩) (by rw [hsz0]; show b1 < _; omega)).trans c1
        have hc2 := (hW.cell (p := ⟨b1 + 1, 0, none⟩) (by rw [hsz0]; show b1 + 1 < _; omega)).trans c2
        obtain ⟨b', o', e, -, -, hc3⟩ := KU.at' hv i (by omega)
        cases e
        have hc3 := ((hbW.trans (hW.mono hbW.size)).cell (p := ⟨bs, os + i, none⟩) hbs).trans hc3
        have ex : L.getD i 0 = L[i]'(by omega) := by rw [List.getD_eq_getElem?_getD, List.getElem?_eq_getElem (by omega)]; rfl
        simp only [ex]
        exact putbit_c i b1 (b1 + 1) bs os n cap _ d k W hi (by omega) hc1 hc2 hc3)
      (fun a c hac hc ha => sorted_bits hr a c hac (by omega) ha)
    have CG := fun (W : World) (h : BT W w0.heap.size b u l) => gput_c (m + 1) W w0.heap.size b u l h (by omega) hlen1
    have hmI : ((m + 1 : Nat) : Int) = (m : Int) + 1 := by omega
    simp only [hmI] at CG
    have Hsl1 : ∀ W, (Instr.slice 67 (.slice (some ⟨bs, os, none⟩) n cap) none (some (.int .i64 (m : Int))) none).run Try.prog W = .ok (sliced (some ⟨bs, os, none⟩) 0 m cap KU.size) W := fun W => KU_ok.run_h (some ⟨bs, os, none⟩) n cap m (by have := hv.len; omega) .i64 W
    have Hsl2 : ∀ W, (Instr.slice 67 (.slice (some ⟨bs, os, none⟩) n cap) (some (.int .i64 (m : Int))) none none).run Try.prog W = .ok (sliced (some ⟨bs, os, none⟩) m n cap KU.size) W := fun W => KU_ok.run_l (some ⟨bs, os, none⟩) n cap m (by omega) .i64 W
    have hR1 := hv.cut KU_ok 0 m cap (by omega) hml (by have := hv.len; omega) (Nat.le_refl _)
    have hR2 := hv.cut KU_ok m n cap (by omega) (by omega) (by have := hv.len; omega) (Nat.le_refl _)
    rw [List.drop_zero] at hR1
    rw [hn, List.take_of_length_le (Nat.le_refl _), ← hn] at hR2
    have CT1 := fun (W : World) (u1 : Value) (hb1 : Below w0.heap.size w0 W) (h : BT W w0.heap.size b u1 (l ++ gam (m + 1))) => ih (d + 1) (L.take m) _ u1 _ W (by omega) hR1 hb1 h hr1 (by rw [List.length_take]; omega) (by rw [List.length_append]; omega)
    have CT2 := fun (W : World) (u1 : Value) (hb1 : Below w0.heap.size w0 W) (h : BT W w0.heap.size b u1 (l ++ gam (m + 1) ++ treeL k (L.take m))) => ih (d + 1) (L.drop m) _ u1 _ W (by omega) hR2 hb1 h hr2 (by rw [List.length_drop]; omega) (by rw [List.length_append, List.length_append]; omega)
    obtain ⟨S1, hS1⟩ : ∃ S1, S1 = sliced (some ⟨bs, os, none⟩) 0 m cap KU.size := ⟨_, rfl⟩
    obtain ⟨S2, hS2⟩ : ∃ S2, S2 = sliced (some ⟨bs, os, none⟩) m n cap KU.size := ⟨_, rfl⟩
    have hd1 : ((d + 1 : Nat) : Int) = (d : Int) + 1 := by omega
    have hdw : IntKind.i64.wrap ((d : Int) + 1) = (d : Int) + 1 := by rw [IntKind.wrap_i64]; omega
    rw [← hS1] at CT1 Hsl1
    rw [← hS2] at CT2 Hsl2
    have KT1 := Go.Lib.hid CT1
    have KT2 := Go.Lib.hid CT2
    have KS := Go.Lib.hid CS
    have KG := Go.Lib.hid CG
    clear CT1 CT2 CS CG hS1 hS2
    have HW0 := Go.Lib.hid hW0
    have HB1 := Go.Lib.hid hb1
    have HN := Go.Lib.hid hn
    have HM := Go.Lib.hid hm
    have HNO := Go.Lib.hid hno
    have HSZ := Go.Lib.hid hsz0
    have HBW := Go.Lib.hid hbW
    have HBT0 := Go.Lib.hid hbt0
    have HG0 := Go.Lib.hid G0
    have h2 : ¬ (n : Int) < 2 := by omega
    have hn4 : n ≤ 4096 := by omega
    have hmn : m ≤ n := by omega
    rw [← hn]
    have HS1 := Go.Lib.hid Hsl1
    have HS2 := Go.Lib.hid Hsl2
    simp only [hd1] at KT1 KT2
    clear Hsl1 Hsl2 ih hv hb hbt hr hr1 hr2 hR1 hR2 htree hlen h4 hs hdk hml hb1 hW0 hb0 hsz0 hbW hbt0 hno G0 hn hm hmI
    go_enter Try.func57, Try.ntmps57
    go_upto_region 1 with (fail)
    rw [← HW0.out, ← HB1.out]
    go_wp2_with fail
    refine KS.out.mono ?_
    rintro e w5 ⟨s, rfl, hs, hlo, hhi, hb5⟩
    have hsm : s = m := by
      rw [HM.out]
      refine (count_split L s (by rw [← HN.out]; exact hs) (fun t ht => by rw [hlo t ht]; rfl) (fun t ht htl => by rw [hhi t ht (by rw [HN.out]; exact htl)]; rfl)).symm
    subst hsm
    have G5 := HG0.out.trans (Goes.of_below hb5)
    have hbt5 := HBT0.out.below hb5
    have c15 := (hb5.cell (p := ⟨b1, 0, none⟩) (by rw [HSZ.out]; show b1 < _; omega)).trans c1
    have c25 := (hb5.cell (p := ⟨b1 + 1, 0, none⟩) (by rw [HSZ.out]; show b1 + 1 < _; omega)).trans c2
    have hs5 : b1 + 2 ≤ w5.heap.size := by rw [← HSZ.out]; exact hb5.size
    have HG5 := Go.Lib.hid G5
    have HBT5 := Go.Lib.hid hbt5
    have HB5 := Go.Lib.hid (HBW.out.trans (hb5.mono HBW.out.size))
    clear hlo hhi hb5 G5 hbt5 c1 c2 HSZ HBW HBT0 HG0 hs
    have hs4 : s ≤ 4096 := by omega
    go_wp2_with fail
    refine (KG.out _ HBT5.out).mono ?_
    rintro e w6 ⟨rfl, u1, hbt6, htwo6, hown6⟩
    rw [show (s + 1 != 0) = true by simp]
    have c1 : w6.cell? ⟨b1, 0, none⟩ = _ := Goes.cell ⟨htwo6, hown6⟩ c15 (by show b1 ≠ b; omega) (fun e => by have := HNO.out _ e; simp at this)
    have c2 : w6.cell? ⟨b1 + 1, 0, none⟩ = _ := Goes.cell ⟨htwo6, hown6⟩ c25 (by show b1 + 1 ≠ b; omega) (fun e => by have := HNO.out _ e; simp only [] at this; omega)
    have n1 : u1.ownBlock ≠ some b1 := Goes.new ⟨htwo6, hown6⟩ (by omega) (fun e => by have := HNO.out _ e; omega)
    have n2 : u1.ownBlock ≠ some (b1 + 1) := Goes.new ⟨htwo6, hown6⟩ (by omega) (fun e => by have := HNO.out _ e; omega)
    have K1 : b1 < w6.heap.size := by have := htwo6.size; omega
    have K2 : b1 + 1 < w6.heap.size := by have := htwo6.size; omega
    have HG6 := Go.Lib.hid (HG5.out.trans ⟨htwo6, hown6⟩)
    have HB6 := Go.Lib.hid (HB5.out.trans ((Goes.below ⟨htwo6, hown6⟩ HBT5.out.low HBT5.out.rows (HB5.out.size)).mono (Nat.le_refl _)))
    have HBT6 := Go.Lib.hid hbt6
    have N1 := Go.Lib.hid n1
    have N2 := Go.Lib.hid n2
    have Hsl := HS1.out
    clear htwo6 hown6 hbt6 HG5 HB5 HBT5 c15 c25 hs5 HNO n1 n2
    go_upto_region 4 with (fail)
    refine wp_region_head 6 (by decide) (by kernel_rfl) (V4p b bs os n cap s d S1) (V4p_below b bs os n cap s d S1) (by decide +kernel) (by rfl) [19, 20, 21, 22, 23, 24] (by rfl) ?_ ?_
    · intro i o hin ho a w6 hb6 hlen hg
      have k1 := (hb6.cell (p := ⟨b1, 0, none⟩) K1).trans c1
      have k2 := (hb6.cell (p := ⟨b1 + 1, 0, none⟩) K2).trans c2
      match i, hin, ho with
      | 0, hin, ho =>
        obtain rfl := Option.some.inj ho
        have h0 := given_old hg 0 (by decide +kernel)
        clear hg
        exact st_yield ho (wanted_none rfl) (.pointer (some ⟨b, 0, none⟩)) w6 (by simp [execOp, Act.eval, h0, go_sem]) ⟨_, rfl, Below.refl _ _, by rintro t' ⟨⟩; rfl⟩
      | 1, hin, ho =>
        obtain rfl := Option.some.inj ho
        have h4 := given_old hg 4 (by decide +kernel)
        clear hg
        exact st_yield ho (wanted_none rfl) (.slice (some ⟨bs, os, none⟩) n cap) w6 (by simp [execOp, Act.eval, h4, go_sem, k1]) ⟨_, rfl, Below.refl _ _, by rintro t' ⟨⟩; rfl⟩
      | 2, hin, ho =>
        obtain rfl := Option.some.inj ho
        have h6 := given_old hg 6 (by decide +kernel)
        clear hg
        exact st_yield ho (wanted_none rfl) (.int .i64 (s : Int)) w6 (by simp [execOp, Act.eval, h6, go_sem]) ⟨_, rfl, Below.refl _ _, by rintro t' ⟨⟩; rfl⟩
      | 3, hin, ho =>
        obtain rfl := Option.some.inj ho
        obtain ⟨_, h20, rfl⟩ := given_fed hg 20 (by decide +kernel)
        obtain ⟨_, h21, rfl⟩ := given_fed hg 21 (by decide +kernel)
        clear hg
        exact st_yield ho (wanted_none rfl) S1 w6 (by simp [execOp, Act.eval, h20, h21, run_sliceAt_slice w6 67 _ _ _ _ Try.underlying67, Hsl, Result.andThen]) ⟨_, rfl, Below.refl _ _, by rintro t' ⟨⟩; rfl⟩
      | 4, hin, ho =>
        obtain rfl := Option.some.inj ho
        have h5 := given_old hg 5 (by decide +kernel)
        clear hg
        exact st_yield ho (wanted_none rfl) (.int .i64 (d : Int)) w6 (by simp [execOp, Act.eval, h5, go_sem, k2]) ⟨_, rfl, Below.refl _ _, by rintro t' ⟨⟩; rfl⟩
      | 5, hin, ho =>
        obtain rfl := Option.some.inj ho
        obtain ⟨_, h23, rfl⟩ := given_fed hg 23 (by decide +kernel)
        clear hg
        exact st_yield ho (wanted_none rfl) (.int .i64 ((d : Int) + 1)) w6 (by simp [execOp, Act.eval, h23, go_sem, hdw]) ⟨_, rfl, Below.refl _ _, by rintro t' ⟨⟩; rfl⟩
      | n + 6, hin, ho => omega
    · intro f w7 hb7 hv
      have h19 := hv 19 (by decide)
      have h22 := hv 22 (by decide)
      have h24 := hv 24 (by decide)
      simp only [V4p] at h19 h22 h24
      have e1 := (hb7.cell (p := ⟨b1, 0, none⟩) K1).trans c1
      have e2 := (hb7.cell (p := ⟨b1 + 1, 0, none⟩) K2).trans c2
      have HB7 := Go.Lib.hid (HB6.out.trans (hb7.mono HB6.out.size))
      have HBT7 := Go.Lib.hid (HBT6.out.below hb7)
      have HG7 := Go.Lib.hid (HG6.out.trans (Goes.of_below hb7))
      have K17 : b1 < w7.heap.size := Nat.lt_of_lt_of_le K1 hb7.size
      have K27 : b1 + 1 < w7.heap.size := Nat.lt_of_lt_of_le K2 hb7.size
      clear hv Hsl c1 c2 hb7 K1 K2 HG6 HB6 HBT6
      unfold putAll
      simp only [List.foldl, List.drop]
      simp only [h19, h22, h24]
      go_simp
      go_wp2_with fail
      refine (KT1.out w7 u1 HB7.out HBT7.out).mono ?_
      rintro e w8 ⟨rfl, u2, hbt8, hgo8⟩
      have c1 := hgo8.cell e1 (by show b1 ≠ b; omega) N1.out
      have c2 := hgo8.cell e2 (by show b1 + 1 ≠ b; omega) N2.out
      have HG8 := Go.Lib.hid (HG7.out.trans hgo8)
      have HB8 := Go.Lib.hid (HB7.out.trans ((hgo8.below HBT7.out.low HBT7.out.rows HB7.out.size).mono (Nat.le_refl _)))
      have HBT8 := Go.Lib.hid hbt8
      have K1 : b1 < w8.heap.size := Nat.lt_of_lt_of_le K17 hgo8.two.size
      have K2 : b1 + 1 < w8.heap.size := Nat.lt_of_lt_of_le K27 hgo8.two.size
      have Hsl := HS2.out
      clear hgo8 hbt8 e1 e2 HG7 HB7 HBT7 N1 N2 K17 K27 h19 h22 h24
      go_upto_region 5 with (fail)
      refine wp_region_head 6 (by decide) (by kernel_rfl) (V5p b bs os n cap s d S2) (V5p_below b bs os n cap s d S2) (by decide +kernel) (by rfl) [26, 27, 28, 29, 30, 31] (by rfl) ?_ ?_
      · intro i o hin ho a w6 hb6 hlen hg
        have k1 := (hb6.cell (p := ⟨b1, 0, none⟩) K1).trans c1
        have k2 := (hb6.cell (p := ⟨b1 + 1, 0, none⟩) K2).trans c2
        match i, hin, ho with
        | 0, hin, ho =>
          obtain rfl := Option.some.inj ho
          have h0 := given_old hg 0 (by decide +kernel)
          clear hg
          exact st_yield ho (wanted_none rfl) (.pointer (some ⟨b, 0, none⟩)) w6 (by simp [execOp, Act.eval, h0, go_sem]) ⟨_, rfl, Below.refl _ _, by rintro t' ⟨⟩; rfl⟩
        | 1, hin, ho =>
          obtain rfl := Option.some.inj ho
          have h4 := given_old hg 4 (by decide +kernel)
          clear hg
          exact st_yield ho (wanted_none rfl) (.slice (some ⟨bs, os, none⟩) n cap) w6 (by simp [execOp, Act.eval, h4, go_sem, k1]) ⟨_, rfl, Below.refl _ _, by rintro t' ⟨⟩; rfl⟩
        | 2, hin, ho =>
          obtain rfl := Option.some.inj ho
          have h6 := given_old hg 6 (by decide +kernel)
          clear hg
          exact st_yield ho (wanted_none rfl) (.int .i64 (s : Int)) w6 (by simp [execOp, Act.eval, h6, go_sem]) ⟨_, rfl, Below.refl _ _, by rintro t' ⟨⟩; rfl⟩
        | 3, hin, ho =>
          obtain rfl := Option.some.inj ho
          obtain ⟨_, h27, rfl⟩ := given_fed hg 27 (by decide +kernel)
          obtain ⟨_, h28, rfl⟩ := given_fed hg 28 (by decide +kernel)
          clear hg
          exact st_yield ho (wanted_none rfl) S2 w6 (by simp [execOp, Act.eval, h27, h28, run_sliceAt_slice w6 67 _ _ _ _ Try.underlying67, Hsl, Result.andThen]) ⟨_, rfl, Below.refl _ _, by rintro t' ⟨⟩; rfl⟩
        | 4, hin, ho =>
          obtain rfl := Option.some.inj ho
          have h5 := given_old hg 5 (by decide +kernel)
          clear hg
          exact st_yield ho (wanted_none rfl) (.int .i64 (d : Int)) w6 (by simp [execOp, Act.eval, h5, go_sem, k2]) ⟨_, rfl, Below.refl _ _, by rintro t' ⟨⟩; rfl⟩
        | 5, hin, ho =>
          obtain rfl := Option.some.inj ho
          obtain ⟨_, h30, rfl⟩ := given_fed hg 30 (by decide +kernel)
          clear hg
          exact st_yield ho (wanted_none rfl) (.int .i64 ((d : Int) + 1)) w6 (by simp [execOp, Act.eval, h30, go_sem, hdw]) ⟨_, rfl, Below.refl _ _, by rintro t' ⟨⟩; rfl⟩
        | n + 6, hin, ho => omega
      · intro f w9 hb9 hv
        have h26 := hv 26 (by decide)
        have h29 := hv 29 (by decide)
        have h31 := hv 31 (by decide)
        simp only [V5p] at h26 h29 h31
        have HB9 := Go.Lib.hid (HB8.out.trans (hb9.mono HB8.out.size))
        have HBT9 := Go.Lib.hid (HBT8.out.below hb9)
        have HG9 := Go.Lib.hid (HG8.out.trans (Goes.of_below hb9))
        clear hv Hsl c1 c2 hb9 K1 K2 HG8 HB8 HBT8
        unfold putAll
        simp only [List.foldl, List.drop]
        simp only [h26, h29, h31]
        go_simp
        go_wp2_with fail
        refine (KT2.out w9 u2 HB9.out HBT9.out).mono ?_
        rintro e w10 ⟨rfl, u3, hbt10, hgo10⟩
        have HG10 := Go.Lib.hid (HG9.out.trans hgo10)
        have HBT10 := Go.Lib.hid hbt10
        clear hgo10 hbt10
        go_wp2_with fail
        go_end0
        refine ⟨rfl, u3, ?_, HG10.out⟩
        have := HBT10.out
        simpa only [List.append_assoc] using this

theorem treeL_len : ∀ (k : Nat) (L : List Nat), L.length < 18446744073709551615 → (treeL k L).length ≤ 127 * k * L.length
  | 0, L, _ => by simp [treeL]
  | k + 1, L, hL => by
    rw [treeL]
    split
    · simp
    · rename_i hs
      have hc : (L.countP fun x => !x.testBit k) ≤ L.length := List.countP_le_length
      obtain ⟨m, hm⟩ : ∃ m, m = L.countP fun x => !x.testBit k := ⟨_, rfl⟩
      rw [← hm] at hc ⊢
      have h1 := treeL_len k (L.take m) (by rw [List.length_take]; omega)
      have h2 := treeL_len k (L.drop m) (by rw [List.length_drop]; omega)
      rw [List.length_take, Nat.min_eq_left hc] at h1
      rw [List.length_drop] at h2
      have hg := gam_length (m + 1)
      have hd := digits_64 (m + 1) (by omega)
      rw [List.length_append, List.length_append]
      have e1 : 127 * k * m + 127 * k * (L.length - m) = 127 * k * L.length := by rw [← Nat.mul_add, show m + (L.length - m) = L.length by omega]
      have e2 : 127 * (k + 1) * L.length = 127 * k * L.length + 127 * L.length := by rw [Nat.mul_succ, Nat.add_mul]
      omega
theorem rise64 {L : List Nat} (h : riseB L = true) (hb : ∀ x ∈ L, x < 18446744073709551616) : RiseK 64 L :=
  ⟨riseB_pair h, fun x hx y hy => by rw [Nat.div_eq_of_lt (hb x hx), Nat.div_eq_of_lt (hb y hy)]⟩

set_option maxHeartbeats 400000 in
set_option maxRecDepth 100000 in
theorem build_yes (v : Value) (L : List Nat) (w : World) (h : KU.R w v L) (hb : ∀ x ∈ L, x < 18446744073709551616) (h4 : L.length ≤ 4096) (hr : riseB L = true) :
    Calls Try.prog 36 #[v] w fun e w' => ∃ B u, e = .returned (.tuple #[.pointer (some ⟨B, 0, none⟩), .bool true]) ∧ BT w' B B u (treeL 64 L) ∧ w.heap.size ≤ B ∧ Below w.heap.size w w' := by
  obtain ⟨ad, cap, rfl, -⟩ := h.form
  have CR := Go.Lib.hid (rise_c _ L true w h (by omega) hr)
  have hlen := treeL_len 64 L (by omega)
  have CP := Go.Lib.hid fun (W : World) (u : Value) (hW : Below w.heap.size w W) (hbt : BT (W.alloc (.cells #[.slice none 0 0, .int .i64 0] 94)) W.heap.size W.heap.size u []) =>
    tput_c W W.heap.size 64 0 L _ u [] _ rfl (h.below hW) ((Below.refl _ W).alloc (Nat.le_refl _) _) hbt (rise64 hr hb) h4 (by simp only [List.length_nil]; omega)
  have h4i : ¬ 4096 < (L.length : Int) := by omega
  clear h hb hr hlen
  go_enter Try.func36, Try.ntmps36
  go_wp2_with fail
  refine CR.out.mono ?_
  rintro e w1 ⟨rfl, hb1⟩
  have hnew := Go.Lib.hid (BT.new w1)
  go_wp2_with fail
  refine (CP.out w1 _ hb1 hnew.out).mono ?_
  rintro e w2 ⟨rfl, u, hbt, hgo⟩
  have hb2 : Below w1.heap.size w1 w2 := ((Below.refl _ w1).alloc (Nat.le_refl _) _).trans ((hgo.below (B := w1.heap.size) (Nat.le_refl _) (fun k hk => by cases hk) (by simp only [World.alloc, Array.size_push]; omega)).mono (Nat.le_refl _))
  have HBT := Go.Lib.hid hbt
  have hb3 := hb1.trans (hb2.mono hb1.size)
  have hs1 := hb1.size
  clear hgo hbt hb2 CP CR
  go_wp2_with fail
  go_ret2
  exact ⟨_, u, rfl, by simpa only [List.nil_append] using HBT.out, hs1, hb3⟩

set_option maxHeartbeats 400000 in
set_option maxRecDepth 100000 in
theorem build_no (v : Value) (L : List Nat) (w : World) (h : KU.R w v L) (hl : L.length ≤ 1000000) (hr : 4096 < L.length ∨ riseB L = false) :
    Calls Try.prog 36 #[v] w fun e w' => e = .returned (.tuple #[.pointer none, .bool false]) ∧ Below w.heap.size w w' := by
  obtain ⟨ad, cap, rfl, -⟩ := h.form
  by_cases h4 : 4096 < L.length
  · have h4i : 4096 < (L.length : Int) := by omega
    clear h hr h4
    go_enter Try.func36, Try.ntmps36
    go_wp2_with fail
    go_ret2
    exact ⟨rfl, Below.refl _ _⟩
  · have h4i : ¬ 4096 < (L.length : Int) := by omega
    have CR := Go.Lib.hid (rise_c _ L false w h hl (by rcases hr with h | h; omega; exact h))
    clear h hr
    go_enter Try.func36, Try.ntmps36
    go_wp2_with fail
    refine CR.out.mono ?_
    rintro e w1 ⟨rfl, hb1⟩
    go_wp2_with fail
    go_ret2
    exact ⟨rfl, hb1⟩

end Go.Proofs.Ytibbligidncocaa

namespace Go.Proofs.Ytibbligidncocaa
open Go.RowKit

/-- How many pairs are of the hash that the tree of the distinct ones leads to. -/
def sreadsK (l : List RecT) (h : Nat) : Nat := match rankB (treeL 64 (hashesG hR l)) h 64 0 (hashesG hR l).length 0 with
  | none => 0
  | some r => l.countP fun x => decide (hR x = (hashesG hR l).getD r 0)
theorem hashesG_64 (l : List RecT) : ∀ x ∈ hashesG hR l, x < 18446744073709551616 := by
  induction l using snoc_ind with
  | nil => intro x hx; simp [hashesG] at hx
  | snoc l y ih =>
    intro x hx
    rw [hashesG_snoc] at hx
    unfold hashStep at hx
    split at hx
    · exact ih x hx
    · rcases List.mem_append.1 hx with h | h
      · exact ih x h
      · rw [List.mem_singleton.1 h]
        exact hashS_lt y.1
theorem countR_step (p : RecT → Bool) (l : List RecT) (i : Nat) (h : i < l.length) : (l.take (i + 1)).countP p = (l.take i).countP p + (if p l[i] then 1 else 0) := by
  rw [List.take_succ_eq_append_getElem h, List.countP_append, List.countP_singleton]

def VS (b os n cap k bh oh mL c1 r z hv : Nat) (kx : ByteArray) (q : Bool) : Nat → World → Value → Prop
  | 30, _, v => v = .slice (some ⟨b, os, none⟩) n cap
  | 31, _, v => v = .int .i64 (k : Int)
  | 32, _, v => v = .pointer (some ⟨b, os + k * 4, none⟩)
  | 33, _, v => v = .pointer (some ⟨b, os + k * 4, none⟩)
  | 34, _, v => v = .string kx
  | 35, _, v => v = .int .u64 (z : Int)
  | 36, _, v => v = .slice (some ⟨bh, oh, none⟩) mL c1
  | 37, _, v => v = .int .i64 (r : Int)
  | 38, _, v => v = .pointer (some ⟨bh, oh + r, none⟩)
  | 39, _, v => v = .int .u64 (hv : Int)
  | 40, _, v => v = .bool q
  | _, _, _ => True

theorem VS_below (b os n cap k bh oh mL c1 r z hv : Nat) (kx : ByteArray) (q : Bool) : ∀ (i : Nat) (w w' : World) (v : Value), VS b os n cap k bh oh mL c1 r z hv kx q i w v → Below w.heap.size w w' → VS b os n cap k bh oh mL c1 r z hv kx q i w' v := by
  intro i w w' v h hb
  unfold VS at h ⊢
  split at h <;> first | exact h | trivial | exact RB.below h hb | exact Own.below h hb | exact OwnV.below h hb | exact OwnRec.below h hb | exact Lay.R.below h hb

set_option maxHeartbeats 1000000 in
set_option maxRecDepth 100000 in
theorem rsreads_c (v : Value) (l : List RecT) (key : ByteArray) (N : Nat) (w : World) (h : K4.R w v l) (hs : SmallK l) (hk : key.size ≤ 1000000) (hl : l.length ≤ 4096) (hN : sreadsK l (hashS key) = N) :
    Calls Try.prog 40 #[v, .string key] w fun e w' => e = .returned (.int .i64 (N : Int)) ∧ Below w.heap.size w w' := by
  obtain ⟨ad, cap, rfl, hm⟩ := h.form
  obtain ⟨y, hy⟩ : ∃ y, hashS key = y := ⟨_, rfl⟩
  have hy64 : y < 18446744073709551616 := hy ▸ hashS_lt key
  have CK := Go.Lib.hid fun W => rhash_k key y hy W hk
  have CHs := Go.Lib.hid (rhashes_c _ l w h hs (by omega))
  have hHl := hashesG_length hR l
  have hH64 := hashesG_64 l
  have hlen := treeL_len 64 (hashesG hR l) (by omega)
  unfold sreadsK at hN
  rw [hy] at hN
  obtain ⟨m, hm2⟩ : ∃ m, m = hashesG hR l := ⟨_, rfl⟩
  rw [← hm2] at hN CHs hHl hH64 hlen
  obtain ⟨R, hRR⟩ : ∃ R, rankB (treeL 64 m) y 64 0 m.length 0 = R := ⟨_, rfl⟩
  rw [hRR] at hN
  have CT := Go.Lib.hid fun (W : World) (v : Value) (h : KU.R W v m) => rtree_c 64 0 m v W rfl h hH64 (by omega) (by omega)
  have CR := Go.Lib.hid fun (W : World) (v : Value) (h : RV W v (zb (treeL 64 m))) => rrank_c m.length y v (treeL 64 m) W h (by omega) (by omega) hy64 R hRR
  have H := Go.Lib.hid h
  have HS := Go.Lib.hid hs
  have HN := Go.Lib.hid hN
  have HRR := Go.Lib.hid hRR
  clear h hs hN hm2 hy hH64 hlen hk hRR
  go_enter Try.func40, Try.ntmps40
  go_wp2_with fail
  refine CHs.out.mono ?_
  rintro e w1 ⟨v1, rfl, ho1, hb1⟩
  obtain ⟨a1, c1, rfl, -⟩ := ho1.r.form
  have HM := Go.Lib.hid ho1.r
  have HB1 := Go.Lib.hid hb1
  clear ho1 hb1 CHs
  go_wp2_with fail
  refine (CT.out w1 _ HM.out).mono ?_
  rintro e w2 ⟨v2, rfl, ho2, hb2⟩
  obtain ⟨a2, c2, rfl, -⟩ := ho2.rv.zbForm
  have HT := Go.Lib.hid ho2.rv
  have HM2 := Go.Lib.hid (HM.out.below hb2)
  have HB2 := Go.Lib.hid (HB1.out.trans (hb2.mono HB1.out.size))
  clear ho2 hb2 HM HB1 CT
  go_wp2_with fail
  refine (CK.out w2).mono ?_
  rintro e w3 ⟨rfl, hb3⟩
  have HM3 := Go.Lib.hid (HM2.out.below hb3)
  have HT3 := Go.Lib.hid (HT.out.below hb3)
  have HB3 := Go.Lib.hid (HB2.out.trans (hb3.mono HB2.out.size))
  clear hb3 HM2 HT HB2 CK
  go_wp2_with fail
  refine (CR.out w3 _ HT3.out).mono ?_
  rintro e w4 ⟨rfl, rfl⟩
  clear CR HT3
  cases R with
  | none =>
    have h0 : N = 0 := HN.out.symm
    subst h0
    simp only [endV]
    go_wp2_with fail
    go_ret
    exact ⟨rfl, HB3.out⟩
  | some r =>
    have hr := (rank_lt _ _ _ _ _ _ _ HRR.out).2
    rw [Nat.zero_add] at hr
    simp only [endV]
    obtain ⟨bh, oh, rfl, -, hbh, ch⟩ := KU.at' HM3.out r hr
    have eg : m.getD r 0 = m[r] := by rw [List.getD_eq_getElem?_getD, List.getElem?_eq_getElem hr]; rfl
    have HN2 : Hid ((l.countP fun x => decide (hR x = m[r])) = N) := Go.Lib.hid (by rw [← eg]; exact HN.out)
    have i2 := idxU bh oh m.length c1 r hr
    generalize m[r] = hv at *
    generalize m.length = mL at *
    have CH := Go.Lib.hid ch
    have I2 := Go.Lib.hid i2
    clear HN HRR eg ch HM3 hHl i2
    go_wp2_with fail
    go_loopw [8, 9] (fun n' i' wr => ∃ i n : Nat, n' = .int .i64 (n : Int) ∧ i' = .int .i64 (i : Int) ∧ i ≤ l.length ∧ n ≤ i ∧ Hid (n = (l.take i).countP fun x => decide (hR x = hv)) ∧ Below w3.heap.size w3 wr) (fun _ i' _ => l.length - (intOf i').toNat)
    case atStart => exact ⟨0, 0, rfl, rfl, by omega, by omega, Go.Lib.hid rfl, Below.refl _ _⟩
    case round =>
      obtain ⟨k, n, rfl, rfl, hi, hni, HC, hb⟩ := hrel
      by_cases hlt : k < l.length
      · obtain ⟨b, os, rfl, -, hbl, c0, -⟩ := K4.at' (H.out.below HB3.out) k hlt
        have hstep := countR_step (fun x => decide (hR x = hv)) l k hlt
        have hkk := HS.out l[k] (List.getElem_mem hlt)
        have K0 := (hb.cell (p := ⟨b, os + k * 4, none⟩) hbl).trans c0
        have K1 := (hb.cell (p := ⟨bh, oh + r, none⟩) hbh).trans CH.out
        have hbw := hb.size
        have i1 := idx4 b os l.length cap k hlt
        generalize l[k] = x at *
        obtain ⟨z, hz⟩ : ∃ z, hashS x.1 = z := ⟨_, rfl⟩
        have CX := Go.Lib.hid fun W => rhash_k x.1 z hz W hkk
        rw [show hR x = z from hz] at hstep
        generalize x.1 = kx at *
        obtain ⟨q, hq⟩ : ∃ q, decide (z = hv) = q := ⟨_, rfl⟩
        rw [hq, ← HC.out] at hstep
        have hqI : ((z : Int) == (hv : Int)) = q := by rw [← hq, Bool.eq_iff_iff, beq_iff_eq, decide_eq_true_eq]; omega
        have HST := Go.Lib.hid hstep
        have I1 := Go.Lib.hid i1
        have hbl2 : b < wr.heap.size := Nat.lt_of_lt_of_le hbl hb.size
        have hbh2 : bh < wr.heap.size := Nat.lt_of_lt_of_le hbh hb.size
        clear hstep c0 hkk hz hq HC i1
        go_upto_region 9 with (fail)
        refine wp_region_each (by kernel_rfl) (VS b os l.length cap k bh oh mL c1 r z hv kx q) (VS_below b os l.length cap k bh oh mL c1 r z hv kx q) (by decide +kernel) (by decide +kernel) (by rfl) [30, 31, 32, 33, 34, 35, 36, 37, 38, 39, 40] (by rfl) ?_ ?_
        · intro i o ho a w6 hb6 hlen hg
          have k0 := (hb6.cell (p := ⟨b, os + k * 4, none⟩) hbl2).trans K0
          have k1 := (hb6.cell (p := ⟨bh, oh + r, none⟩) hbh2).trans K1
          match i, ho with
          | 0, ho =>
            obtain rfl := Option.some.inj ho
            have h0 := given_old hg 0 (by decide +kernel)
            clear hg
            exact st_yield ho (wanted_none rfl) (.slice (some ⟨b, os, none⟩) l.length cap) w6 (by simp [execOp, Act.eval, h0, go_sem]) ⟨_, rfl, Below.refl _ _, by rintro t' ⟨⟩; rfl⟩
          | 1, ho =>
            obtain rfl := Option.some.inj ho
            have h9 := given_old hg 9 (by decide +kernel)
            clear hg
            exact st_yield ho (wanted_none rfl) (.int .i64 (k : Int)) w6 (by simp [execOp, Act.eval, h9, go_sem]) ⟨_, rfl, Below.refl _ _, by rintro t' ⟨⟩; rfl⟩
          | 2, ho =>
            obtain rfl := Option.some.inj ho
            obtain ⟨_, h30, rfl⟩ := given_fed hg 30 (by decide +kernel)
            obtain ⟨_, h31, rfl⟩ := given_fed hg 31 (by decide +kernel)
            clear hg
            exact st_yield ho (wanted_none rfl) (.pointer (some ⟨b, os + k * 4, none⟩)) w6 (by simp [execOp, Act.eval, h30, h31, go_sem, I1.out w6]) ⟨_, rfl, Below.refl _ _, by rintro t' ⟨⟩; rfl⟩
          | 3, ho =>
            obtain rfl := Option.some.inj ho
            obtain ⟨_, h32, rfl⟩ := given_fed hg 32 (by decide +kernel)
            clear hg
            exact st_yield ho (wanted_none rfl) (.pointer (some ⟨b, os + k * 4, none⟩)) w6 (by simp [execOp, Act.eval, h32, go_sem]) ⟨_, rfl, Below.refl _ _, by rintro t' ⟨⟩; rfl⟩
          | 4, ho =>
            obtain rfl := Option.some.inj ho
            obtain ⟨_, h33, rfl⟩ := given_fed hg 33 (by decide +kernel)
            clear hg
            exact st_yield ho (wanted_none rfl) (.string kx) w6 (by simp [execOp, Act.eval, h33, go_sem, k0]) ⟨_, rfl, Below.refl _ _, by rintro t' ⟨⟩; rfl⟩
          | 5, ho =>
            obtain rfl := Option.some.inj ho
            obtain ⟨_, h34, rfl⟩ := given_fed hg 34 (by decide +kernel)
            clear hg
            exact st_enter (w1 := w6) ho (wanted_none rfl) 46 #[.string kx] (by simp [execOp, Act.eval, h34, resolve, go_sem]) ((CX.out w6).mono (by rintro e w7 ⟨rfl, hb7⟩; exact ⟨_, rfl, _, rfl, hb7, by rintro t' ⟨⟩; rfl⟩))
          | 6, ho =>
            obtain rfl := Option.some.inj ho
            have h5 := given_old hg 5 (by decide +kernel)
            clear hg
            exact st_yield ho (wanted_none rfl) (.slice (some ⟨bh, oh, none⟩) mL c1) w6 (by simp [execOp, Act.eval, h5, go_sem]) ⟨_, rfl, Below.refl _ _, by rintro t' ⟨⟩; rfl⟩
          | 7, ho =>
            obtain rfl := Option.some.inj ho
            have h6 := given_old hg 6 (by decide +kernel)
            clear hg
            exact st_yield ho (wanted_none rfl) (.int .i64 (r : Int)) w6 (by simp [execOp, Act.eval, h6, go_sem]) ⟨_, rfl, Below.refl _ _, by rintro t' ⟨⟩; rfl⟩
          | 8, ho =>
            obtain rfl := Option.some.inj ho
            obtain ⟨_, h36, rfl⟩ := given_fed hg 36 (by decide +kernel)
            obtain ⟨_, h37, rfl⟩ := given_fed hg 37 (by decide +kernel)
            clear hg
            exact st_yield ho (wanted_none rfl) (.pointer (some ⟨bh, oh + r, none⟩)) w6 (by simp [execOp, Act.eval, h36, h37, go_sem, I2.out w6]) ⟨_, rfl, Below.refl _ _, by rintro t' ⟨⟩; rfl⟩
          | 9, ho =>
            obtain rfl := Option.some.inj ho
            obtain ⟨_, h38, rfl⟩ := given_fed hg 38 (by decide +kernel)
            clear hg
            exact st_yield ho (wanted_none rfl) (.int .u64 (hv : Int)) w6 (by simp [execOp, Act.eval, h38, go_sem, k1]) ⟨_, rfl, Below.refl _ _, by rintro t' ⟨⟩; rfl⟩
          | 10, ho =>
            obtain rfl := Option.some.inj ho
            obtain ⟨_, h35, rfl⟩ := given_fed hg 35 (by decide +kernel)
            obtain ⟨_, h39, rfl⟩ := given_fed hg 39 (by decide +kernel)
            clear hg
            exact st_yield ho (wanted_none rfl) (.bool q) w6 (by simp [execOp, Act.eval, h35, h39, go_sem, hqI]) ⟨_, rfl, Below.refl _ _, by rintro t' ⟨⟩; rfl⟩
          | n + 11, ho => simp at ho
        · intro f w6 hb6 hv'
          have h40 := hv' 40 (by decide)
          simp only [VS] at h40
          clear hv'
          have hb7 := hb.trans (hb6.mono hb.size)
          unfold putAll
          simp only [List.foldl]
          simp only [h40]
          go_simp
          cases q with
          | true =>
            have HST2 : Hid (n + 1 = (l.take (k + 1)).countP fun x => decide (hR x = hv)) := Go.Lib.hid HST.out.symm
            clear HST
            go_wp2_with fail
            go_roundw
            case rel => exact ⟨k + 1, n + 1, by go_num, by go_num, by omega, by omega, HST2, hb7⟩
            case measure => simp only [intOf]; omega
          | false =>
            have HST2 : Hid (n = (l.take (k + 1)).countP fun x => decide (hR x = hv)) := Go.Lib.hid HST.out.symm
            clear HST
            go_wp2_with fail
            go_roundw
            case rel => exact ⟨k + 1, n, by go_num, by go_num, by omega, by omega, HST2, hb7⟩
            case measure => simp only [intOf]; omega
      · obtain rfl : k = l.length := by omega
        have hnN : n = N := by rw [HC.out, List.take_length]; exact HN2.out
        subst hnN
        have hfin := HB3.out.trans (hb.mono HB3.out.size)
        clear HC HN2
        go_wp2_with fail
        go_ret
        exact ⟨rfl, hfin⟩

end Go.Proofs.Ytibbligidncocaa
