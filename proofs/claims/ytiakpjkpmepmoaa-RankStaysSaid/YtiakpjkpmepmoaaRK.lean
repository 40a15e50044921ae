/-
  What a *rank.Rank is; the contracts of Len and Ones.
-/
import Derived.Test.YtiakpjkpmepmoaaBitF
import Derived.Test.YtiakpjkpmepmoaaApart
import Derived.Test.YtiakpjkpmepmoaaRankM
import Derived.Test.YtiakpjkpmepmoaaPop
import Derived.Deep.QuietTactic
import Derived.BigQuiet
namespace Go.Proofs.Ytiakpjkpmepmoaa
open Go.RowKit

/-- The struct at block b: the first j words of l, the counts ahead of the first k; all lies from block B on. -/
structure RW (w : World) (B b : Nat) (v1 v2 : Value) (l : List Bool) (j k : Nat) : Prop where
  blk : w.heap[b]? = some (.cells #[v1, v2, .int .i64 (l.length : Int)] 37)
  ws : OwnV 38 w B v1 (zi .u64 (words l j))
  hs : OwnV 3 w B v2 (zi .i64 (aheads l k))
  low : B ≤ b

section
variable {w w' : World} {B b : Nat} {v1 v2 : Value} {l : List Bool} {j k : Nat}
theorem RW.lt (h : RW w B b v1 v2 l j k) : b < w.heap.size := (Array.getElem?_eq_some_iff.1 h.blk).1
theorem RW.c0 (h : RW w B b v1 v2 l j k) : w.cell? ⟨b, 0, none⟩ = some v1 := by rw [cell_of_row w b 0 _ _ _ h.blk]; rfl
theorem RW.c1 (h : RW w B b v1 v2 l j k) : w.cell? ⟨b, 1, none⟩ = some v2 := by rw [cell_of_row w b 1 _ _ _ h.blk]; rfl
theorem RW.c2 (h : RW w B b v1 v2 l j k) : w.cell? ⟨b, 2, none⟩ = some (.int .i64 (l.length : Int)) := by rw [cell_of_row w b 2 _ _ _ h.blk]; rfl
theorem RW.below (h : RW w B b v1 v2 l j k) (hb : Below w.heap.size w w') : RW w' B b v1 v2 l j k := ⟨(hb.block b h.lt).trans h.blk, h.ws.below hb, h.hs.below hb, h.low⟩
theorem OwnV.same {e : TypeId} {v : Value} {xs : List Value} (h : OwnV e w B v xs) (hk : ∀ g, g < w.heap.size → B ≤ g → v.ownBlock = some g → w'.heap[g]? = w.heap[g]?) : OwnV e w' B v xs := by
  refine ⟨h.1, ?_⟩
  rcases h.2 with h' | ⟨g, cap, cur, e1, hB, e2, e3⟩
  · exact .inl h'
  · subst e1
    exact .inr ⟨g, cap, cur, rfl, hB, (hk g (Array.getElem?_eq_some_iff.1 e2).1 hB rfl).trans e2, e3⟩
theorem RW.same (h : RW w B b v1 v2 l j k) (hk : ∀ g, g < w.heap.size → B ≤ g → w'.heap[g]? = w.heap[g]?) : RW w' B b v1 v2 l j k :=
  ⟨(hk b h.lt h.low).trans h.blk, h.ws.same fun g h1 h2 _ => hk g h1 h2, h.hs.same fun g h1 h2 _ => hk g h1 h2, h.low⟩
end

/-- r, a *rank.Rank, counts the bits l; what it holds lies from block B on. -/
def RK (w : World) (B : Nat) (r : Option Addr) (l : List Bool) : Prop :=
  l.length ≤ 1000000 ∧ ((r = none ∧ l = []) ∨ ∃ b v1 v2, r = some ⟨b, 0, none⟩ ∧ RW w B b v1 v2 l (nw l) (nw l))
theorem RK.below {w w' : World} {B : Nat} {r : Option Addr} {l : List Bool} (h : RK w B r l) (hb : Below w.heap.size w w') : RK w' B r l := by
  refine ⟨h.1, ?_⟩
  rcases h.2 with h' | ⟨b, v1, v2, h1, h2⟩
  · exact .inl h'
  · exact .inr ⟨b, v1, v2, h1, h2.below hb⟩
theorem RK.two {w w' : World} {B b : Nat} {row : Option Nat} {r : Option Addr} {l : List Bool} (h : RK w B r l) (hb : b < B) (hr : ∀ k, row = some k → k < B) (k : Two b row w w') : RK w' B r l := by
  refine ⟨h.1, ?_⟩
  rcases h.2 with h' | ⟨b', v1, v2, h1, h2⟩
  · exact .inl h'
  · exact .inr ⟨b', v1, v2, h1, h2.same fun g hg hB => k.block g hg (by omega) (fun e => by have := hr g e.symm; omega)⟩
theorem RK.nil (w : World) (B : Nat) : RK w B none [] := ⟨by simp, .inl ⟨rfl, rfl⟩⟩

set_option maxRecDepth 100000 in
theorem rlen_w (w : World) (B : Nat) (r : Option Addr) (l : List Bool) (h : RK w B r l) :
    Calls Try.prog 11 #[.pointer r] w fun e w' => e = .returned (.int .i64 (l.length : Int)) ∧ w = w' := by
  rcases h.2 with ⟨rfl, rfl⟩ | ⟨b, v1, v2, rfl, h2⟩
  · clear h
    go_enter Try.func11, Try.ntmps11
    go_wp2_with fail
    go_ret
    exact ⟨rfl, rfl⟩
  · have c2 := h2.c2
    clear h h2
    go_enter Try.func11, Try.ntmps11
    go_wp2_with fail
    go_ret
    exact ⟨rfl, rfl⟩
theorem rlen_c (w : World) (B : Nat) (r : Option Addr) (l : List Bool) (h : RK w B r l) :
    Calls Try.prog 11 #[.pointer r] w fun e w' => e = .returned (.int .i64 (l.length : Int)) ∧ Below w.heap.size w w' :=
  (rlen_w w B r l h).mono fun e w' h => ⟨h.1, by rw [← h.2]; exact Below.refl _ _⟩

theorem run_idxW (b n cap j : Nat) (h : j < n) (W : World) : (Instr.indexAt 34 (.slice (some ⟨b, 0, none⟩) n cap) (.int .i64 (j : Int))).run Try.prog W = .ok (.pointer (some ⟨b, j, none⟩)) W := by
  obtain ⟨i, hi, -, hsize, -⟩ := info_parts (show (Try.prog.info? 38).map (fun i => (i.zero, i.size, i.bytes)) = some (some (.int .u64 0), 1, 8) by kernel_rfl)
  have he : Try.prog.elem 34 = 38 := by kernel_rfl
  have hs : (sizeOf 38).run Try.prog W = .ok 1 W := by simp [sizeOf, typeInfo, hi, hsize]
  have hadd : (⟨b, 0, none⟩ : Addr).add j = ⟨b, j, none⟩ := by unfold Addr.add; split <;> simp_all
  rw [run_indexAt_slice W _ _ _ _ _ _ (by rw [he]; exact Try.underlying34), if_pos ⟨by omega, by omega⟩, he, hs]
  simp [Result.andThen, hadd]
theorem run_idxA (b n cap j : Nat) (h : j < n) (W : World) : (Instr.indexAt 35 (.slice (some ⟨b, 0, none⟩) n cap) (.int .i64 (j : Int))).run Try.prog W = .ok (.pointer (some ⟨b, j, none⟩)) W := by
  obtain ⟨i, hi, -, hsize, -⟩ := info_parts (show (Try.prog.info? 3).map (fun i => (i.zero, i.size, i.bytes)) = some (some (.int .i64 0), 1, 8) by kernel_rfl)
  have he : Try.prog.elem 35 = 3 := by kernel_rfl
  have hs : (sizeOf 3).run Try.prog W = .ok 1 W := by simp [sizeOf, typeInfo, hi, hsize]
  have hadd : (⟨b, 0, none⟩ : Addr).add j = ⟨b, j, none⟩ := by unfold Addr.add; split <;> simp_all
  rw [run_indexAt_slice W _ _ _ _ _ _ (by rw [he]; exact Try.underlying35), if_pos ⟨by omega, by omega⟩, he, hs]
  simp [Result.andThen, hadd]
/-- A row of the call's own, open: its block and cells. -/
theorem OwnV.open {e : TypeId} {w : World} {B : Nat} {v : Value} {xs : List Value} (h : OwnV e w B v xs) (hne : 0 < xs.length) : ∃ g cap, v = .slice (some ⟨g, 0, none⟩) xs.length cap ∧ g < w.heap.size ∧ B ≤ g ∧ ∀ i (hi : i < xs.length), w.cell? ⟨g, i, none⟩ = some xs[i] := by
  rcases h.2 with ⟨-, h0⟩ | ⟨g, cap, cur, rfl, hB, hg, h1, h2, h3, h4⟩
  · omega
  · refine ⟨g, cap, rfl, (Array.getElem?_eq_some_iff.1 hg).1, hB, fun i hi => ?_⟩
    rw [cell_of_row w g i _ _ _ hg]
    obtain ⟨y, hy⟩ : ∃ y, y = xs[i] := ⟨_, rfl⟩
    have h5 : xs[i]? = some y := by rw [hy]; exact List.getElem?_eq_getElem hi
    rw [← hy]
    clear hy
    rw [← h4, List.getElem?_take] at h5
    split at h5
    · rw [Array.getElem?_toList] at h5
      exact h5
    · cases h5

set_option maxHeartbeats 1000000 in
set_option maxRecDepth 100000 in
theorem rones_d (i : Int) (w : World) (B : Nat) (r : Option Addr) (l : List Bool) (h : RK w B r l) (h0 : -9223372036854775808 ≤ i) (h1 : i ≤ 9223372036854775807) :
    Calls Try.prog 9 #[.pointer r, .int .i64 i] w fun e w' => e = .returned (.int .i64 (onesI l i : Int)) ∧ ∃ m, w' = w.drewN m := by
  have C := Go.Lib.hid (rlen_w w B r l h)
  have hl := h.1
  by_cases hle : min i (l.length : Int) ≤ 0
  · have hz : onesI l i = 0 := by
      unfold onesI
      split
      · rfl
      · by_cases h2 : i ≤ 0
        · rw [show i.toNat = 0 from by omega]; rfl
        · have : l.length = 0 := by omega
          rw [List.eq_nil_of_length_eq_zero this]
          simp [ones]
    rw [hz]
    generalize l.length = n at *
    clear h hz
    go_enter Try.func9, Try.ntmps9
    go_wp2_with fail
    refine C.out.mono ?_
    rintro e w1 ⟨rfl, rfl⟩
    go_wp2_with fail
    go_ret
    exact ⟨rfl, 0, rfl⟩
  · obtain ⟨m, hm⟩ : ∃ m : Nat, min i (l.length : Int) = (m : Int) := ⟨(min i (l.length : Int)).toNat, by omega⟩
    have hm0 : 0 < m := by omega
    have hml : m ≤ l.length := by omega
    have ho : onesI l i = ones l m := by
      unfold onesI
      rw [if_neg (by omega)]
      rcases Int.le_total i (l.length : Int) with h2 | h2
      · rw [show i.toNat = m from by omega]
      · rw [ones_all l i.toNat (by omega), show m = l.length from by omega, ones_all l _ (Nat.le_refl _)]
    rw [ho]
    obtain ⟨k, hk⟩ : ∃ k, k = (m - 1) / 64 := ⟨_, rfl⟩
    obtain ⟨s, hs⟩ : ∃ s, s = (k + 1) * 64 - m := ⟨_, rfl⟩
    rw [ones_word l m k s hm0 hk hs]
    have hkn : k < nw l := by unfold nw; omega
    rcases h.2 with ⟨rfl, rfl⟩ | ⟨b, v1, v2, rfl, h2⟩
    · simp at hml; omega
    · have cW := Go.Lib.hid h2
      clear h
      have hwl := Nat.lt_of_le_of_lt (Nat.div_le_self (word l k) (2 ^ s)) (word_lt l k)
      have hones := ones_le l (64 * k)
      obtain ⟨g1, p1, e1, l1, -, c1⟩ := h2.ws.open (by rw [zi_length, words_length]; omega)
      obtain ⟨g2, p2, e2, l2, -, c2⟩ := h2.hs.open (by rw [zi_length, aheads_length]; omega)
      have d1 := c1 k (by rw [zi_length, words_length]; exact hkn)
      have d2 := c2 k (by rw [zi_length, aheads_length]; exact hkn)
      rw [zi_at _ _ _ (by rw [words_length]; exact hkn), words_at l _ _ hkn] at d1
      rw [zi_at _ _ _ (by rw [aheads_length]; exact hkn), aheads_at l _ _ hkn] at d2
      rw [zi_length, words_length] at e1
      rw [zi_length, aheads_length] at e2
      subst e1 e2
      have q0 := h2.c0
      have q1 := h2.c1
      have hbl := h2.lt
      clear c1 c2 h2 cW ho
      have hcp := ones64_c (word l k / 2 ^ s)
      have hc64 : (numB (word l k / 2 ^ s) 64).count true ≤ 64 := by
        have : (numB (word l k / 2 ^ s) 64).count true ≤ (numB (word l k / 2 ^ s) 64).length := List.count_le_length
        rwa [numB_length] at this
      have hx : (word l k : Int) / 2 ^ s = ((word l k / 2 ^ s : Nat) : Int) := by simp
      have hqk : ((m : Int) - 1) / 64 = (k : Int) := by omega
      have hss : ((k : Int) + 1) * 64 - (m : Int) = (s : Int) := by omega
      have hlm : k + 1 ≤ 15626 := by omega
      have hs64 : s < 64 := by omega
      generalize (numB (word l k / 2 ^ s) 64).count true = c at *
      generalize word l k / 2 ^ s = y at *
      generalize ones l (64 * k) = o at *
      generalize word l k = x at *
      generalize l.length = n at *
      generalize nw l = nn at *
      have ix1 := run_idxW g1 nn p1 k hkn
      have ix2 := run_idxA g2 nn p2 k hkn
      have CP := fun W => Go.Lib.hid (hcp W hwl)
      clear hcp hk hs hle h0 h1 hl
      go_enter Try.func9, Try.ntmps9
      go_wp2_with fail
      refine C.out.mono ?_
      rintro e w1 ⟨rfl, rfl⟩
      go_upto_region 6 with (fail)
      rw [hqk]
      have hwr : IntKind.i64.wrap ((o : Int) + (c : Int)) = ((o + c : Nat) : Int) := by rw [IntKind.wrap_i64]; omega
      have hdv : (x : Int) / 2 ^ s = (y : Int) := hx
      go_quiet ((go_at_call 15; exact Calls.quiet_of_same ((CP _).out.mono fun _ _ ⟨h, hw⟩ => ⟨h, hw.symm⟩)))
      go_wp2_with fail
      go_ret
      exact ⟨by first | rfl | (rw [hwr]), _, rfl⟩
theorem rones_c (i : Int) (w : World) (B : Nat) (r : Option Addr) (l : List Bool) (h : RK w B r l) (h0 : -9223372036854775808 ≤ i) (h1 : i ≤ 9223372036854775807) :
    Calls Try.prog 9 #[.pointer r, .int .i64 i] w fun e w' => e = .returned (.int .i64 (onesI l i : Int)) ∧ Below w.heap.size w w' :=
  (rones_d i w B r l h h0 h1).mono fun e w' ⟨h, m, hm⟩ => ⟨h, by rw [hm]; exact below_drewN (Below.refl _ _) _⟩

end Go.Proofs.Ytiakpjkpmepmoaa
