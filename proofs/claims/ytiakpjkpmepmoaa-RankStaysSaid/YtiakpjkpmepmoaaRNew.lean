/-
  The contract of rank.New.
-/
import Derived.Test.YtiakpjkpmepmoaaRK
import Derived.Test.YtiakpjkpmepmoaaDrawI
import Derived.Deep.DeepMust
namespace Go.Proofs.Ytiakpjkpmepmoaa
open Go.RowKit

theorem infoU64 : (Try.prog.info? 38).map (fun i => (i.zero, i.size, i.bytes)) = some (some (.int .u64 0), 1, 8) := by kernel_rfl
theorem infoI64 : (Try.prog.info? 3).map (fun i => (i.zero, i.size, i.bytes)) = some (some (.int .i64 0), 1, 8) := by kernel_rfl

/-- What stands while a word is appended (p: it has been) and stored (q: it has been). -/
def JN (w0 : World) (B b : Nat) (v1 v2 : Value) (l : List Bool) (k : Nat) (p q : Bool) (w : World) : Prop :=
  Below B w0 w ∧ if q then ∃ u, RW w B b u v2 l (k + 1) k else (w.heap[b]? = some (.cells #[v1, v2, .int .i64 (l.length : Int)] 37) ∧ OwnV 3 w B v2 (zi .i64 (aheads l k)) ∧ (p = false → OwnV 38 w B v1 (zi .u64 (words l k))))
theorem JN.alloc {w0 w : World} {B b : Nat} {v1 v2 : Value} {l : List Bool} {k : Nat} {p q : Bool} (h : JN w0 B b v1 v2 l k p q w) (hB : B ≤ w.heap.size) (o : Obj) : JN w0 B b v1 v2 l k p q (w.alloc o) := by
  have hb : Below w.heap.size w (w.alloc o) := (Below.refl _ _).alloc (Nat.le_refl _) o
  refine ⟨h.1.trans (hb.mono hB), ?_⟩
  have h2 := h.2
  split
  · rename_i hq
    rw [if_pos hq] at h2
    obtain ⟨u, hu⟩ := h2
    exact ⟨u, hu.below hb⟩
  · rename_i hq
    rw [if_neg hq] at h2
    obtain ⟨a1, a2, a3⟩ := h2
    exact ⟨(hb.block b (Array.getElem?_eq_some_iff.1 a1).1).trans a1, a2.below hb, fun hp => (a3 hp).below hb⟩

def ahead8 (done : Nat → Bool) : Prop := (done 10 = true → done 4 = true ∧ done 9 = true) ∧ (done 13 = true → done 10 = true)
def IN (w0 : World) (B b : Nat) (v1 v2 : Value) (l : List Bool) (k : Nat) (done : Nat → Bool) (w : World) : Prop := ahead8 done ∧ JN w0 B b v1 v2 l k (done 10) (done 13) w
theorem IN.keep {w0 w w' : World} {B b : Nat} {v1 v2 : Value} {l : List Bool} {k : Nat} (done : Nat → Bool) (i : Nat) (hi : (i ≠ 10 ∧ i ≠ 13)) (h : IN w0 B b v1 v2 l k done w) (hw : JN w0 B b v1 v2 l k (done 10) (done 13) w → JN w0 B b v1 v2 l k (done 10) (done 13) w') : IN w0 B b v1 v2 l k (doneToo done i) w' := by
  obtain ⟨⟨h1, h2⟩, h3⟩ := h
  refine ⟨⟨?_, ?_⟩, ?_⟩
  · intro hd
    rw [doneToo_other (Ne.symm hi.1)] at hd
    obtain ⟨a, c⟩ := h1 hd
    exact ⟨by unfold doneToo; split <;> simp [a], by unfold doneToo; split <;> simp [c]⟩
  · intro hd
    rw [doneToo_other (Ne.symm hi.2)] at hd
    rw [doneToo_other (Ne.symm hi.1)]
    exact h2 hd
  · rw [doneToo_other (Ne.symm hi.1), doneToo_other (Ne.symm hi.2)]
    exact hw h3
def VN (r k x t s X : Nat) (v1 : Value) (l : List Bool) : Nat → World → Value → Prop
  | 35, _, v => v = .pointer (some ⟨r, 0, none⟩)
  | 36, _, v => v = .pointer (some ⟨r, 0, none⟩)
  | 37, _, v => v = .pointer (some ⟨r, 0, none⟩)
  | 38, _, v => v = .pointer (some ⟨r, 0, none⟩)
  | 39, w, v => v = v1
  | 40, _, v => v = .int .u64 (x : Int)
  | 41, _, v => v = .int .i64 (t : Int)
  | 42, _, v => v = .int .i64 (s : Int)
  | 43, _, v => v = .int .u64 (X : Int)
  | 44, w, v => ∃ g, v = .slice (some ⟨g, 0, none⟩) 1 1 ∧ w.heap[g]? = some (.cells #[.int .u64 (X : Int)] 38) ∧ v1.ownBlock ≠ some g
  | 45, w, v => OwnV 38 w r v (zi .u64 (words l k ++ [X]))
  | 46, _, v => v = .pointer (some ⟨r, 0, none⟩)
  | 47, _, v => v = .pointer (some ⟨r, 0, none⟩)
  | _, _, _ => True

theorem rv_cell {w : World} {g : Nat} {x : Value} {e : TypeId} (h : w.heap[g]? = some (.cells #[x] e)) : RV w (.slice (some ⟨g, 0, none⟩) 1 1) [x] := by
  refine ⟨some ⟨g, 0, none⟩, 1, rfl, Nat.le_refl _, by simp [maxLen], (fun h => by cases h), fun _ => ⟨g, 0, rfl, fun i hi => ?_⟩⟩
  obtain rfl : i = 0 := by simp at hi; omega
  rw [cell_of_row w g 0 _ _ _ h]
  rfl
theorem VN_alloc (r k x t s X : Nat) (v1 : Value) (l : List Bool) (w : World) (o : Obj) : ∀ (i : Nat) (v : Value), VN r k x t s X v1 l i w v → VN r k x t s X v1 l i (w.alloc o) v := by
  intro i v h
  unfold VN at h ⊢
  split at h <;> first | exact h | trivial | exact h.alloc _ | exact (let ⟨g, h1, h2, h3⟩ := h; ⟨g, h1, (((Below.refl _ _).alloc (Nat.le_refl _) o).block g (Array.getElem?_eq_some_iff.1 h2).1).trans h2, h3⟩)
theorem OwnV.slice {e : TypeId} {w : World} {B : Nat} {v : Value} {xs : List Value} (h : OwnV e w B v xs) : ∃ a n c, v = .slice a n c := by
  rcases h.2 with ⟨rfl, -⟩ | ⟨g, cap, cur, rfl, -⟩
  · exact ⟨_, _, _, rfl⟩
  · exact ⟨_, _, _, rfl⟩
theorem below_set {w : World} {r o : Nat} {v : Value} (h : r < w.heap.size) : Below r w (w.setCell ⟨r, o, none⟩ v) :=
  ⟨rfl, rfl, rfl, by simp [World.setCell], fun k hk => Below.heap_setCell _ _ _ _ (by rintro rfl; exact absurd hk (Nat.lt_irrefl _))⟩
theorem VN_set (r k x t s X : Nat) (v1 : Value) (l : List Bool) (w : World) (u0 : Value) (a1 : Value) (a2 : Value) (hc : w.heap[r]? = some (.cells #[v1, a1, a2] 37)) (i : Nat) (v : Value) (h : VN r k x t s X v1 l i w v) : VN r k x t s X v1 l i (w.setCell ⟨r, 0, none⟩ u0) v := by
  unfold VN at h ⊢
  split at h <;> first | exact h | trivial | exact (let ⟨g, h1, h2, h3⟩ := h; ⟨g, h1, (Below.heap_setCell _ _ _ _ (by rintro rfl; rw [hc] at h2; simp at h2)).trans h2, h3⟩) | exact h.same fun g _ _ hg => Below.heap_setCell _ _ _ _ (by rintro rfl; exact row_not h hc (by decide) hg)
theorem VN_grown (r k x t s X : Nat) (v1 : Value) (l : List Bool) (w w' : World) (i : Nat) (v : Value) (hi : i ≠ 45) (hg : w.grownBy w' v1.ownBlock) (h : VN r k x t s X v1 l i w v) : VN r k x t s X v1 l i w' v := by
  unfold VN at h ⊢
  split at h <;> first | exact absurd rfl hi | exact h | trivial | exact (let ⟨g, h1, h2, h3⟩ := h; ⟨g, h1, (hg.block g (Array.getElem?_eq_some_iff.1 h2).1 (fun e => h3 e.symm)).trans h2, h3⟩)

/-- What stands behind the append to the second row, ahead of its store. -/
structure Step9 (w9 : World) (r : Nat) (u v2 v9 : Value) (l : List Bool) (k : Nat) : Prop where
  blk : w9.heap[r]? = some (.cells #[u, v2, .int .i64 (l.length : Int)] 37)
  ws : OwnV 38 w9 r u (zi .u64 (words l (k + 1)))
  hs : OwnV 3 w9 r v9 (zi .i64 (aheads l k) ++ [.int .i64 (ones l (64 * k) : Int)])
theorem two_step {w8 w9 : World} {r : Nat} {u v2 v9 : Value} {l : List Bool} {k : Nat} (h : RW w8 r r u v2 l (k + 1) k) (ho : OwnV 3 w9 r v9 (zi .i64 (aheads l k) ++ [.int .i64 (ones l (64 * k) : Int)])) (hg : w8.grownBy w9 v2.ownBlock) : Step9 w9 r u v2 v9 l k :=
  ⟨(hg.block r h.lt (row_not h.hs h.blk (by decide)).symm).trans h.blk, h.ws.apart h.hs (by decide) hg, ho⟩
section
variable {w9 : World} {r : Nat} {u v2 v9 : Value} {l : List Bool} {k : Nat}
theorem Step9.c9 (h : Step9 w9 r u v2 v9 l k) : w9.cell? ⟨r, 1, none⟩ = some v2 := by rw [cell_of_row w9 r 1 _ _ _ h.blk]; rfl
theorem Step9.f9 (h : Step9 w9 r u v2 v9 l k) : w9.frozen? ⟨r, 1, none⟩ = false := frozen_of_row w9 r 1 _ _ h.blk
theorem Step9.lt9 (h : Step9 w9 r u v2 v9 l k) : r < w9.heap.size := (Array.getElem?_eq_some_iff.1 h.blk).1
theorem Step9.rw (h : Step9 w9 r u v2 v9 l k) (ha : aheads l (k + 1) = aheads l k ++ [ones l (64 * k)]) : RW (w9.setCell ⟨r, 1, none⟩ v9) r r u v9 l (k + 1) (k + 1) := by
  refine ⟨by rw [heap_set h.blk]; rfl, h.ws.same fun g _ _ hg => Below.heap_setCell _ _ _ _ (by rintro rfl; exact row_not h.ws h.blk (by decide) hg), ?_, Nat.le_refl _⟩
  rw [ha, zi_append]
  exact h.hs.same fun g _ _ hg => Below.heap_setCell _ _ _ _ (by rintro rfl; exact row_not h.hs h.blk (by decide) hg)
end
set_option maxHeartbeats 2000000 in
set_option maxRecDepth 100000 in
theorem rnew_c (w : World) (B b : Nat) (v : Value) (l : List Bool) (h : BT w B b v l) (hl : l.length ≤ 1000000) :
    Calls Try.prog 7 #[.pointer (some ⟨b, 0, none⟩)] w fun e w' => ∃ a, e = .returned (.pointer (some a)) ∧ RK w' w.heap.size (some a) l ∧ Below w.heap.size w w' := by
  have C0 := Go.Lib.hid (len_c w B b v _ _ h)
  have H := Go.Lib.hid h
  obtain ⟨r, hr⟩ : ∃ r, r = w.heap.size := ⟨_, rfl⟩
  have hnew := heap_alloc_new w (.cells #[.slice none 0 0, .slice none 0 0, .int .i64 (l.length : Int)] 37)
  have hb0 : Below w.heap.size w (w.alloc (.cells #[.slice none 0 0, .slice none 0 0, .int .i64 (l.length : Int)] 37)) := (Below.refl _ _).alloc (Nat.le_refl _) _
  rw [← hr] at hnew hb0
  have H0 : Hid (RW (w.alloc (.cells #[.slice none 0 0, .slice none 0 0, .int .i64 (l.length : Int)] 37)) r r (.slice none 0 0) (.slice none 0 0) l 0 0) := ⟨hnew, OwnV.nil _ _ _, OwnV.nil _ _ _, Nat.le_refl _⟩
  have HR := Go.Lib.hid hr
  clear h hnew
  go_enter Try.func7, Try.ntmps7
  go_wp2_with fail
  refine C0.out.mono ?_
  rintro e w1 ⟨rfl, rfl⟩
  go_wp2_with fail
  rw [← hr]
  clear hr C0
  go_loopw [4, 5] (fun ov av wr => ∃ (k : Nat) (v1 v2 : Value), k ≤ nw l ∧ av = .int .i64 (64 * (k : Int)) ∧ ov = .int .i64 (ones l (64 * k) : Int) ∧ RW wr r r v1 v2 l k k ∧ Below r w wr) (fun _ av _ => l.length + 64 - (intOf av).toNat)
  case atStart => exact ⟨0, _, _, by omega, rfl, rfl, H0.out, hb0⟩
  case round =>
    obtain ⟨k, v1, v2, hk, rfl, rfl, hrw, hb⟩ := hrel
    clear hb0 H0
    have c2 := hrw.c2
    have honl := ones_le l (64 * k)
    have Hnw := Go.Lib.hid (show nw l = (l.length + 63) / 64 from rfl)
    by_cases hlt : 64 * k < l.length
    · obtain ⟨t, ht⟩ : ∃ t, t = min 64 (l.length - 64 * k) := ⟨_, rfl⟩
      have htI : min (64 : Int) ((l.length : Int) - 64 * (k : Int)) = (t : Int) := by omega
      have C1 := num_c (64 * k) t wr B b v l (H.out.below (by rw [← HR.out]; exact hb)) (by omega) (by omega) (by omega)
      rw [show ((64 * k : Nat) : Int) = 64 * (k : Int) from by omega] at C1
      have hws := word_shift l k t ht
      have hpl := pop_low l k t ht
      have hcp := ones64_c (val ((l.drop (64 * k)).take t))
      have hx64 : val ((l.drop (64 * k)).take t) < 18446744073709551616 := by
        have h1 := val_lt ((l.drop (64 * k)).take t)
        exact Nat.lt_of_lt_of_le h1 (Nat.le_trans (Nat.pow_le_pow_right (by omega) (show ((l.drop (64 * k)).take t).length ≤ 64 by rw [List.length_take]; omega)) (by decide))
      have hxx := word_lt l k
      have hws1 := words_succ l k
      have has1 := aheads_succ l k
      have hc64 : (numB (val ((l.drop (64 * k)).take t)) 64).count true ≤ 64 := by
        have : (numB (val ((l.drop (64 * k)).take t)) 64).count true ≤ (numB (val ((l.drop (64 * k)).take t)) 64).length := List.count_le_length
        rwa [numB_length] at this
      have Hknw : Hid (k + 1 ≤ nw l) := Go.Lib.hid (by rw [Hnw.out]; omega)
      obtain ⟨s, hs⟩ : ∃ s, s = 64 - t := ⟨_, rfl⟩
      rw [← hs] at hws
      have hsI : 64 - (t : Int) = (s : Int) := by omega
      have hs64 : s ≤ 64 := by omega
      have hX : IntKind.u64.wrap ((val ((l.drop (64 * k)).take t) : Int) * 2 ^ s) = (word l k : Int) := by
        have e : (val ((l.drop (64 * k)).take t) : Int) * 2 ^ s = (word l k : Int) := by rw [hws]; simp
        rw [e, IntKind.wrap_u64]
        omega
      have CP := fun W => Go.Lib.hid (hcp W hx64)
      have HPL := Go.Lib.hid hpl
      have HW1 := Go.Lib.hid hws1
      have HA1 := Go.Lib.hid has1
      clear hws hpl hcp hws1 has1 ht hs
      have C1 := Go.Lib.hid C1
      have HRW := Go.Lib.hid hrw
      have hat : 64 * k ≤ 1000000 := by omega
      have Hat := Go.Lib.hid (show 64 * k = 64 * k from rfl)
      generalize (numB (val ((l.drop (64 * k)).take t)) 64).count true = c at *
      generalize val ((l.drop (64 * k)).take t) = x at *
      clear hrw
      go_wp2_with fail
      refine C1.out.mono ?_
      rintro e w2 ⟨rfl, hb2⟩
      have hr2 : r ≤ wr.heap.size := Nat.le_of_lt HRW.out.lt
      have hbb2 := hb.trans (hb2.mono hr2)
      have HRW2 := Go.Lib.hid (HRW.out.below hb2)
      clear HRW hb2 c2 C1
      go_upto_region 8 with (fail)
      have hI0 : IN w r r v1 v2 l k (fun _ => false) w2.drew := by
        have h2 := HRW2.out.below (below_drewN (B := w2.heap.size) (Below.refl _ w2) 1)
        refine ⟨⟨fun h => (by cases h), fun h => (by cases h)⟩, hbb2.trans ((below_drewN (B := w2.heap.size) (Below.refl _ w2) 1).mono (by have := hbb2.size; have := HRW2.out.lt; omega)), ?_⟩
        exact ⟨h2.blk, h2.hs, fun _ => h2.ws⟩
      have hrlt : r < w2.heap.size := HRW2.out.lt
      have hsW : IntKind.i64.wrap (64 - (t : Int)) = (s : Int) := by rw [IntKind.wrap_i64]; omega
      have hkl : k ≤ 1000000 := by omega
      generalize hXe : word l k = X at *
      have hXm : IntKind.u64.wrap ((x : Int) * 2 ^ min s 64) = (X : Int) := by rw [Nat.min_eq_left hs64]; exact hX
      clear htI hlt hsI hxx hs64
      refine wp_region_inv2 (by kernel_rfl) (VN r k x t s X v1 l) (IN w r r v1 v2 l k) (by decide +kernel) (by decide +kernel) (by rfl) [35, 36, 37, 38, 39, 40, 41, 42, 43, 44, 45, 46, 47] (by rfl) (hI0) ?_ ?_
      · intro i o ho a w6 done hI hnot hr hlen hg
        match i, ho with
        | 0, ho =>
          obtain rfl := Option.some.inj ho
          have h3 := given_old hg 3 (by decide +kernel)
          clear hg
          exact st_yield ho (wanted_none rfl) (.pointer (some ⟨r, 0, none⟩)) w6 (by simp [execOp, Act.eval, h3, go_sem]) ⟨_, rfl, hI.keep done 0 (by decide) id, fun _ _ _ h => h, by rintro t' ⟨⟩; rfl⟩
        | 1, ho =>
          obtain rfl := Option.some.inj ho
          have h3 := given_old hg 3 (by decide +kernel)
          clear hg
          exact st_yield ho (wanted_none rfl) (.pointer (some ⟨r, 0, none⟩)) w6 (by simp [execOp, Act.eval, h3, go_sem]) ⟨_, rfl, hI.keep done 1 (by decide) id, fun _ _ _ h => h, by rintro t' ⟨⟩; rfl⟩
        | 2, ho =>
          obtain rfl := Option.some.inj ho
          obtain ⟨_, h36, rfl⟩ := given_fed hg 36 (by decide +kernel)
          clear hg
          exact st_yield ho (wanted_none rfl) (.pointer (some ⟨r, 0, none⟩)) w6 (by simp [execOp, Act.eval, h36, go_sem]) ⟨_, rfl, hI.keep done 2 (by decide) id, fun _ _ _ h => h, by rintro t' ⟨⟩; rfl⟩
        | 3, ho =>
          obtain rfl := Option.some.inj ho
          obtain ⟨_, h37, rfl⟩ := given_fed hg 37 (by decide +kernel)
          clear hg
          exact st_yield ho (wanted_none rfl) (.pointer (some ⟨r, 0, none⟩)) w6 (by simp [execOp, Act.eval, h37, go_sem]) ⟨_, rfl, hI.keep done 3 (by decide) id, fun _ _ _ h => h, by rintro t' ⟨⟩; rfl⟩
        | 4, ho =>
          obtain rfl := Option.some.inj ho
          obtain ⟨_, h38, rfl⟩ := given_fed hg 38 (by decide +kernel)
          clear hg
          have hq : done 13 = false := by cases h : done 13 with | false => rfl | true => have := (hI.1.1 (hI.1.2 h)).1; rw [hnot] at this; cases this
          have hc := hI.2.2
          rw [if_neg (by rw [hq]; decide)] at hc
          have k0 : w6.cell? ⟨r, 0, none⟩ = some v1 := by rw [cell_of_row w6 r 0 _ _ _ hc.1]; rfl
          exact st_yield ho (wanted_none rfl) v1 w6 (by simp [execOp, Act.eval, h38, go_sem, k0]) ⟨_, rfl, hI.keep done 4 (by decide) id, fun _ _ _ h => h, by rintro t' ⟨⟩; rfl⟩
        | 5, ho =>
          obtain rfl := Option.some.inj ho
          have h7 := given_old hg 7 (by decide +kernel)
          clear hg
          exact st_yield ho (wanted_none rfl) (.int .u64 (x : Int)) w6 (by simp [execOp, Act.eval, h7, go_sem]) ⟨_, rfl, hI.keep done 5 (by decide) id, fun _ _ _ h => h, by rintro t' ⟨⟩; rfl⟩
        | 6, ho =>
          obtain rfl := Option.some.inj ho
          have h6 := given_old hg 6 (by decide +kernel)
          clear hg
          exact st_yield ho (wanted_none rfl) (.int .i64 (t : Int)) w6 (by simp [execOp, Act.eval, h6, go_sem]) ⟨_, rfl, hI.keep done 6 (by decide) id, fun _ _ _ h => h, by rintro t' ⟨⟩; rfl⟩
        | 7, ho =>
          obtain rfl := Option.some.inj ho
          obtain ⟨_, h41, rfl⟩ := given_fed hg 41 (by decide +kernel)
          clear hg
          exact st_yield ho (wanted_none rfl) (.int .i64 (s : Int)) w6 (by simp [execOp, Act.eval, h41, go_sem, hsW]) ⟨_, rfl, hI.keep done 7 (by decide) id, fun _ _ _ h => h, by rintro t' ⟨⟩; rfl⟩
        | 8, ho =>
          obtain rfl := Option.some.inj ho
          obtain ⟨_, h40, rfl⟩ := given_fed hg 40 (by decide +kernel)
          obtain ⟨_, h42, rfl⟩ := given_fed hg 42 (by decide +kernel)
          clear hg
          exact st_yield ho (wanted_none rfl) (.int .u64 (X : Int)) w6 (by simp [execOp, Act.eval, h40, h42, go_sem, hXm]) ⟨_, rfl, hI.keep done 8 (by decide) id, fun _ _ _ h => h, by rintro t' ⟨⟩; rfl⟩
        | 9, ho =>
          obtain rfl := Option.some.inj ho
          obtain ⟨_, h43, rfl⟩ := given_fed hg 43 (by decide +kernel)
          clear hg
          have hp : done 10 = false := by cases h : done 10 with | false => rfl | true => have := (hI.1.1 h).2; rw [hnot] at this; cases this
          have hq : done 13 = false := by cases h : done 13 with | false => rfl | true => have := hI.1.2 h; rw [hp] at this; cases this
          have hc := hI.2.2
          rw [if_neg (by rw [hq]; decide)] at hc
          have hown := hc.2.2 hp
          have hrs : r ≤ w6.heap.size := Nat.le_of_lt (Array.getElem?_eq_some_iff.1 hc.1).1
          exact st_yield ho (wanted_none rfl) (.slice (some ⟨w6.heap.size, 0, none⟩) 1 1) (w6.alloc (.cells #[.int .u64 (X : Int)] 38)) (by simp [execOp, Act.eval, h43, go_sem]) ⟨_, rfl, hI.keep done 9 (by decide) (fun h => h.alloc hrs _), fun t u _ => VN_alloc _ _ _ _ _ _ _ _ _ _ t u, by rintro t' ⟨⟩; exact ⟨w6.heap.size, rfl, heap_alloc_new w6 _, fun e => by have := (World.ownsRow.lt hown _ e).2; omega⟩⟩
        | 10, ho =>
          obtain rfl := Option.some.inj ho
          obtain ⟨v39, h39, p39⟩ := given_fed hg 39 (by decide +kernel)
          obtain ⟨v44, h44, p44⟩ := given_fed hg 44 (by decide +kernel)
          clear hg
          have hq : done 13 = false := by cases h : done 13 with | false => rfl | true => have := hI.1.2 h; rw [hnot] at this; cases this
          have hc := hI.2.2
          rw [if_neg (by rw [hq]; decide)] at hc
          obtain ⟨hc1, hc2, hc3⟩ := hc
          have hown := hc3 hnot
          obtain ⟨g, rfl, hg, hgn⟩ := p44
          have hrs : r ≤ w6.heap.size := Nat.le_of_lt (Array.getElem?_eq_some_iff.1 hc1).1
          rw [p39] at h39
          have hone : RV w6 (.slice (some ⟨g, 0, none⟩) 1 1) [.int .u64 (X : Int)] := rv_cell hg
          have hl1 : ((zi .u64 (words l k)).length + [Value.int .u64 (X : Int)].length) * 8 ≤ 140737488355328 := by rw [zi_length, words_length]; simp; omega
          have hl2 : (zi .u64 (words l k)).length + [Value.int .u64 (X : Int)].length ≤ 140737488355328 := by rw [zi_length, words_length]; simp; omega
          refine st_list ho (wanted_none rfl) (fun Q' hQ => ?_)
          refine wpList_append_RV rfl (.tmp 39) (.tmp 44) 34 rfl r 38 Try.underlying34 (.int .u64 0) 8 rfl infoU64 v1 (.slice (some ⟨g, 0, none⟩) 1 1) (zi .u64 (words l k)) [.int .u64 (X : Int)] (by simp [Act.eval, h39]) (by simp [Act.eval, h44]) hown hone (by simp [Value.oneCell']) hl1 hl2 hrs ?_
          intro v7 w7 ho7 hg7
          refine hQ _ _ ⟨v7, rfl, ⟨⟨fun _ => ⟨?_, ?_⟩, fun _ => doneToo_self _ _⟩, ?_⟩, ?_, ?_⟩
          · unfold doneToo; split <;> simp [hr 4 (by decide +kernel)]
          · unfold doneToo; split <;> simp [hr 9 (by decide +kernel)]
          · rw [doneToo_self, doneToo_other (show (13 : Nat) ≠ 10 by decide), hq]
            refine ⟨hI.2.1.trans (grown_below hg7 hrs hown.row), ?_⟩
            rw [if_neg (by decide)]
            exact ⟨(hg7.block r (Array.getElem?_eq_some_iff.1 hc1).1 (row_not hown hc1 (by decide)).symm).trans hc1, hc2.apart hown (by decide) hg7, fun h => (by cases h)⟩
          · intro t' u hw hV
            have hne : t' ≠ 45 := by rintro rfl; exact not_wrote (i := 10) (by rfl) hnot hw
            exact VN_grown _ _ _ _ _ _ _ _ _ _ _ _ hne hg7 hV
          · rintro t' ⟨⟩
            show OwnV 38 w7 r v7 (zi .u64 (words l k ++ [X]))
            rw [show zi .u64 (words l k ++ [X]) = zi .u64 (words l k) ++ [.int .u64 (X : Int)] from by rw [zi_append]; rfl]
            exact ho7
        | 11, ho =>
          obtain rfl := Option.some.inj ho
          obtain ⟨_, h35, rfl⟩ := given_fed hg 35 (by decide +kernel)
          clear hg
          exact st_yield ho (wanted_none rfl) (.pointer (some ⟨r, 0, none⟩)) w6 (by simp [execOp, Act.eval, h35, go_sem]) ⟨_, rfl, hI.keep done 11 (by decide) id, fun _ _ _ h => h, by rintro t' ⟨⟩; rfl⟩
        | 12, ho =>
          obtain rfl := Option.some.inj ho
          obtain ⟨_, h46, rfl⟩ := given_fed hg 46 (by decide +kernel)
          clear hg
          exact st_yield ho (wanted_none rfl) (.pointer (some ⟨r, 0, none⟩)) w6 (by simp [execOp, Act.eval, h46, go_sem]) ⟨_, rfl, hI.keep done 12 (by decide) id, fun _ _ _ h => h, by rintro t' ⟨⟩; rfl⟩
        | 13, ho =>
          obtain rfl := Option.some.inj ho
          obtain ⟨_, h47, rfl⟩ := given_fed hg 47 (by decide +kernel)
          obtain ⟨v45, h45, p45⟩ := given_fed hg 45 (by decide +kernel)
          clear hg
          have hp := hr 10 (by decide +kernel)
          have hc := hI.2.2
          rw [if_neg (by rw [hnot]; decide)] at hc
          obtain ⟨hc1, hc2, -⟩ := hc
          have hfz : w6.frozen? ⟨r, 0, none⟩ = false := frozen_of_row w6 r 0 _ _ hc1
          have k0 : w6.cell? ⟨r, 0, none⟩ = some v1 := by rw [cell_of_row w6 r 0 _ _ _ hc1]; rfl
          have hkeep : ∀ {e : TypeId} {u : Value} {xs : List Value}, OwnV e w6 r u xs → e ≠ 37 → OwnV e (w6.setCell ⟨r, 0, none⟩ v45) r u xs := fun {e u xs} hu he => hu.same fun g _ _ hg => Below.heap_setCell _ _ _ _ (by rintro rfl; exact row_not hu hc1 he hg)
          have p45' : OwnV 38 w6 r v45 (zi .u64 (words l (k + 1))) := by rw [HW1.out]; exact p45
          have hset : (w6.setCell ⟨r, 0, none⟩ v45).heap[r]? = some (.cells #[v45, v2, .int .i64 (l.length : Int)] 37) := by rw [heap_set hc1]; rfl
          have hrs : r < w6.heap.size := (Array.getElem?_eq_some_iff.1 hc1).1
          have hp4 := (hI.1.1 hp).1
          have hp9 := (hI.1.1 hp).2
          obtain ⟨y1, y2, y3, rfl⟩ := OwnV.slice p45'
          refine st_done ho (wanted_none rfl) (w6.setCell ⟨r, 0, none⟩ (.slice y1 y2 y3)) (by simp [execOp, Act.eval, h45, h47, go_sem, hfz, k0]) ⟨_, rfl, ⟨⟨fun _ => ⟨?_, ?_⟩, fun _ => ?_⟩, ?_⟩, ?_, ?_⟩
          · unfold doneToo; split <;> simp [hp4]
          · unfold doneToo; split <;> simp [hp9]
          · unfold doneToo; split <;> simp [hp]
          · rw [doneToo_self]
            refine ⟨hI.2.1.trans (below_set hrs), ?_⟩
            rw [if_pos rfl]
            exact ⟨_, hset, hkeep p45' (by decide), hkeep hc2 (by decide), Nat.le_refl _⟩
          · intro t' u _ hV
            exact VN_set _ _ _ _ _ _ _ _ _ _ _ _ hc1 _ _ hV
          · rintro t' ⟨⟩
        | n + 14, ho => simp at ho
      · intro f w7 done hall hI hv
        have h10 := hall 10 (by decide)
        have h13 := hall 13 (by decide)
        obtain ⟨-, hI1, hI2⟩ := hI
        rw [if_pos h13] at hI2
        obtain ⟨u, hI3⟩ := hI2
        clear hv hall h10 h13
        unfold putAll
        simp only [List.foldl]
        go_simp
        have hrl7 := hI3.lt
        have hA : Below w7.heap.size w7 (w7.alloc (.cells #[.int .i64 (ones l (64 * k) : Int)] 3)) := (Below.refl _ _).alloc (Nat.le_refl _) _
        have hI4 := hI3.below hA
        have hbA := hI1.trans (hA.mono (Nat.le_of_lt hrl7))
        have c1 := hI3.c1
        have hone := RV.one w7 3 (.int .i64 (ones l (64 * k) : Int))
        have hown := hI4.hs
        have hsz : r ≤ (w7.alloc (.cells #[.int .i64 (ones l (64 * k) : Int)] 3)).heap.size := Nat.le_of_lt hI4.lt
        have hl1 : ((zi .i64 (aheads l k)).length + [Value.int .i64 (ones l (64 * k) : Int)].length) * 8 ≤ 140737488355328 := by rw [zi_length, aheads_length]; simp; omega
        have hl2 : (zi .i64 (aheads l k)).length + [Value.int .i64 (ones l (64 * k) : Int)].length ≤ 140737488355328 := by rw [zi_length, aheads_length]; simp; omega
        have H4 := Go.Lib.hid hI4
        clear hI3 hI1 hA hI4 hI0 HRW2 hX hXm HW1 hXe hsW hrlt hbb2
        go_wp2_with (first
          | (with_reducible show wpList _ _ _ (⟨some 55, _, _, _, _, _⟩ :: _) _ _; go_must (refine wpList_append_RV rfl (.tmp 52) (.tmp 54) 35 rfl r 3 Try.underlying35 (.int .i64 0) 8 rfl infoI64 v2 (.slice (some ⟨w7.heap.size, 0, none⟩) 1 1) (zi .i64 (aheads l k)) [.int .i64 (ones l (64 * k) : Int)] rfl rfl hown hone (by simp [Value.oneCell']) hl1 hl2 hsz ?_); go_must (intro v9 w9 ho9 hg9; obtain ⟨y1, y2, y3, rfl⟩ := OwnV.slice ho9; have h9 := two_step H4.out ho9 hg9; have hb9 := hbA.trans (grown_below hg9 hsz hown.row); have hc9 := h9.c9; have hf9 := h9.f9; have hbs := hb9.trans (below_set (o := 1) (v := .slice y1 y2 y3) h9.lt9); have H9 := Go.Lib.hid (h9.rw HA1.out); clear ho9 hg9 hown hone hl1 hl2 hsz H4 hbA h9 hb9))
          | fail)
        refine (CP _).out.mono ?_
        rintro e w11 ⟨rfl, rfl⟩
        go_wp2_with fail
        go_roundw
        case rel => exact ⟨k + 1, _, _, Hknw.out, by go_num, by rw [HPL.out]; rfl, H9.out, hbs⟩
        case measure => simp only [intOf]; omega
    · have hk2 : k = nw l := by have := Hnw.out; omega
      subst hk2
      have HRW := Go.Lib.hid hrw
      clear hrw
      go_wp2_with fail
      go_ret
      exact ⟨_, rfl, ⟨hl, .inr ⟨r, v1, v2, rfl, by rw [← HR.out]; exact HRW.out⟩⟩, by rw [← HR.out]; exact hb⟩

set_option maxRecDepth 100000 in
theorem rnew_nil (w : World) : Calls Try.prog 7 #[.pointer none] w fun e w' => ∃ r, e = .returned (.pointer r) ∧ RK w' w.heap.size r [] ∧ Below w.heap.size w w' := by
  have C0 := Go.Lib.hid (len_nil w)
  have hnew := heap_alloc_new w (.cells #[.slice none 0 0, .slice none 0 0, .int .i64 0] 37)
  have hb0 : Below w.heap.size w (w.alloc (.cells #[.slice none 0 0, .slice none 0 0, .int .i64 0] 37)) := (Below.refl _ _).alloc (Nat.le_refl _) _
  have H0 : Hid (RW (w.alloc (.cells #[.slice none 0 0, .slice none 0 0, .int .i64 0] 37)) w.heap.size w.heap.size (.slice none 0 0) (.slice none 0 0) [] 0 0) := ⟨hnew, OwnV.nil _ _ _, OwnV.nil _ _ _, Nat.le_refl _⟩
  have hc2 := H0.out.c2
  clear hnew
  go_enter Try.func7, Try.ntmps7
  go_wp2_with fail
  refine C0.out.mono ?_
  rintro e w1 ⟨rfl, rfl⟩
  go_wp2_with fail
  go_loopw [5] (fun av wr => av = .int .i64 0 ∧ wr = w.alloc (.cells #[.slice none 0 0, .slice none 0 0, .int .i64 0] 37)) (fun _ _ => 0)
  case atStart => exact ⟨rfl, rfl⟩
  case round =>
    obtain ⟨rfl, rfl⟩ := hrel
    go_wp2_with fail
    go_ret
    exact ⟨_, rfl, ⟨by simp, .inr ⟨_, _, _, rfl, H0.out⟩⟩, hb0⟩

end Go.Proofs.Ytiakpjkpmepmoaa
