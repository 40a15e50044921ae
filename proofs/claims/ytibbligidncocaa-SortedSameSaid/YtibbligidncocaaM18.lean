/-
  The reference's MayPairs, EqPairs.
-/
import Derived.Test.YtibbligidncocaaM16
import Derived.Test.YtibbligidncocaaM09
import Derived.Test.YtibbligidncocaaM10
import Derived.Test.YtibbligidncocaaM17
namespace Go.Proofs.Ytibbligidncocaa
open Go.RowKit

/-- What a pair may be. -/
def mayX (x : RecT) : Bool := mayK x.1 && mayR x.2.2.1 x.2.2.2.1 x.2.2.2.2
def zeroX : RecT := (⟨#[]⟩, false, 0, 0, ⟨#[]⟩)
def okAt (l : List RecT) (k : Nat) : Bool := mayX (l.getD k zeroX) && (k == 0 || lessK (l.getD (k - 1) zeroX).1 (l.getD k zeroX).1)
/-- Pairs that may be a sorted store. -/
def mayP (l : List RecT) : Bool := (List.range l.length).all (okAt l) && decide (l.length ≤ 1000)
theorem mayP_iff (l : List RecT) : mayP l = true ↔ (∀ k, k < l.length → okAt l k = true) ∧ l.length ≤ 1000 := by
  unfold mayP
  rw [Bool.and_eq_true, List.all_eq_true, decide_eq_true_eq]
  constructor
  · rintro ⟨h1, h2⟩
    exact ⟨fun k hk => h1 k (List.mem_range.2 hk), h2⟩
  · rintro ⟨h1, h2⟩
    exact ⟨fun k hk => h1 k (List.mem_range.1 hk), h2⟩
theorem getD_at (l : List RecT) (k : Nat) (h : k < l.length) : l.getD k zeroX = l[k] := by
  rw [List.getD_eq_getElem?_getD, List.getElem?_eq_getElem h]
  rfl
/-- In order, and each pair may be: just that. -/
theorem mayP_sort {l : List RecT} : mayP l = true ↔ SortK (fun x : RecT => x.1) l ∧ (∀ x ∈ l, mayX x = true) ∧ l.length ≤ 1000 := by
  rw [mayP_iff]
  constructor
  · rintro ⟨h1, h2⟩
    refine ⟨?_, fun x hx => ?_, h2⟩
    · have key : ∀ (n i : Nat), i + n + 1 < l.length → lessK (l.getD i zeroX).1 (l.getD (i + n + 1) zeroX).1 = true := by
        intro n
        induction n with
        | zero =>
          intro i hi
          have := h1 (i + 1) hi
          unfold okAt at this
          rw [Bool.and_eq_true, Bool.or_eq_true] at this
          rcases this.2 with h | h
          · simp at h
          · exact h
        | succ n ih =>
          intro i hi
          have a1 := ih i (by omega)
          have := h1 (i + n + 1 + 1) (by omega)
          unfold okAt at this
          rw [Bool.and_eq_true, Bool.or_eq_true] at this
          rcases this.2 with h | h
          · simp at h
          · exact lessK_trans a1 h
      unfold SortK
      rw [List.pairwise_iff_getElem]
      intro i j hi hj hij
      have := key (j - i - 1) i (by omega)
      rw [show i + (j - i - 1) + 1 = j by omega, getD_at l i hi, getD_at l j hj] at this
      exact this
    · obtain ⟨i, hi, rfl⟩ := List.mem_iff_getElem.1 hx
      have := h1 i hi
      unfold okAt at this
      rw [Bool.and_eq_true, getD_at l i hi] at this
      exact this.1
  · rintro ⟨h1, h2, h3⟩
    refine ⟨fun k hk => ?_, h3⟩
    unfold okAt
    rw [Bool.and_eq_true, Bool.or_eq_true, getD_at l k hk]
    refine ⟨h2 _ (List.getElem_mem hk), ?_⟩
    rcases Nat.eq_zero_or_pos k with h | h
    · exact .inl (by simp [h])
    · refine .inr ?_
      rw [getD_at l (k - 1) (by omega)]
      exact List.pairwise_iff_getElem.1 h1 (k - 1) k (by omega) hk (by omega)
/-- Texts of no great size. -/
def SmallV (l : List RecT) : Prop := ∀ x ∈ l, x.1.size ≤ 1000000 ∧ x.2.2.2.2.size ≤ 1000000

def VPA (b os n cap k _j : Nat) (kx _px _sx : ByteArray) (_ax _nx : Int) (_q : Bool) : Nat → World → Value → Prop
  | 10, _, v => v = .slice (some ⟨b, os, none⟩) n cap
  | 11, _, v => v = .int .i64 (k : Int)
  | 12, _, v => v = .pointer (some ⟨b, os + k * 4, none⟩)
  | 13, _, v => v = .pointer (some ⟨b, os + k * 4, none⟩)
  | 14, _, v => v = .string kx
  | 15, _, v => v = .bool false
  | 16, _, v => v = .bool true
  | 17, _, v => v = .bool true
  | 18, _, v => v = undef
  | 19, _, v => v = undef
  | 20, _, v => v = undef
  | 21, _, v => v = undef
  | 22, _, v => v = undef
  | 23, _, v => v = undef
  | 24, _, v => v = undef
  | 25, _, v => v = .bool true
  | 26, _, v => v = .bool true
  | 27, _, v => v = undef
  | 28, _, v => v = undef
  | 29, _, v => v = undef
  | 30, _, v => v = undef
  | 31, _, v => v = undef
  | 32, _, v => v = undef
  | 33, _, v => v = undef
  | 34, _, v => v = undef
  | 35, _, v => v = undef
  | 36, _, v => v = undef
  | 37, _, v => v = undef
  | 38, _, v => v = undef
  | 39, _, v => v = undef
  | 40, _, v => v = undef
  | 41, _, v => v = undef
  | 42, _, v => v = undef
  | 43, _, v => v = undef
  | 44, _, v => v = .bool true
  | _, _, _ => True

theorem VPA_below (b os n cap k j : Nat) (kx px sx : ByteArray) (ax nx : Int) (q : Bool) : ∀ (i : Nat) (w w' : World) (v : Value), VPA b os n cap k j kx px sx ax nx q i w v → Below w.heap.size w w' → VPA b os n cap k j kx px sx ax nx q i w' v := by
  intro i w w' v h hb
  unfold VPA at h ⊢
  split at h <;> first | exact h | trivial | exact RB.below h hb | exact Own.below h hb | exact OwnV.below h hb | exact OwnRec.below h hb | exact Lay.R.below h hb

def VPB (b os n cap k _j : Nat) (kx _px sx : ByteArray) (ax nx : Int) (_q : Bool) : Nat → World → Value → Prop
  | 10, _, v => v = .slice (some ⟨b, os, none⟩) n cap
  | 11, _, v => v = .int .i64 (k : Int)
  | 12, _, v => v = .pointer (some ⟨b, os + k * 4, none⟩)
  | 13, _, v => v = .pointer (some ⟨b, os + k * 4, none⟩)
  | 14, _, v => v = .string kx
  | 15, _, v => v = .bool true
  | 16, _, v => v = .bool false
  | 17, _, v => v = .bool false
  | 18, _, v => v = .slice (some ⟨b, os, none⟩) n cap
  | 19, _, v => v = .int .i64 (k : Int)
  | 20, _, v => v = .pointer (some ⟨b, os + k * 4, none⟩)
  | 21, _, v => v = .pointer (some ⟨b, os + k * 4 + 1, none⟩)
  | 22, _, v => v = .agg #[.int .i64 ax, .int .i64 nx, .string sx]
  | 23, _, v => v = .bool false
  | 24, _, v => v = .bool true
  | 25, _, v => v = .bool true
  | 26, _, v => v = .bool true
  | 27, _, v => v = undef
  | 28, _, v => v = undef
  | 29, _, v => v = undef
  | 30, _, v => v = undef
  | 31, _, v => v = undef
  | 32, _, v => v = undef
  | 33, _, v => v = undef
  | 34, _, v => v = undef
  | 35, _, v => v = undef
  | 36, _, v => v = undef
  | 37, _, v => v = undef
  | 38, _, v => v = undef
  | 39, _, v => v = undef
  | 40, _, v => v = undef
  | 41, _, v => v = undef
  | 42, _, v => v = undef
  | 43, _, v => v = undef
  | 44, _, v => v = .bool true
  | _, _, _ => True

theorem VPB_below (b os n cap k j : Nat) (kx px sx : ByteArray) (ax nx : Int) (q : Bool) : ∀ (i : Nat) (w w' : World) (v : Value), VPB b os n cap k j kx px sx ax nx q i w v → Below w.heap.size w w' → VPB b os n cap k j kx px sx ax nx q i w' v := by
  intro i w w' v h hb
  unfold VPB at h ⊢
  split at h <;> first | exact h | trivial | exact RB.below h hb | exact Own.below h hb | exact OwnV.below h hb | exact OwnRec.below h hb | exact Lay.R.below h hb

def VPC (b os n cap k _j : Nat) (kx _px sx : ByteArray) (ax nx : Int) (_q : Bool) : Nat → World → Value → Prop
  | 10, _, v => v = .slice (some ⟨b, os, none⟩) n cap
  | 11, _, v => v = .int .i64 (k : Int)
  | 12, _, v => v = .pointer (some ⟨b, os + k * 4, none⟩)
  | 13, _, v => v = .pointer (some ⟨b, os + k * 4, none⟩)
  | 14, _, v => v = .string kx
  | 15, _, v => v = .bool true
  | 16, _, v => v = .bool false
  | 17, _, v => v = .bool false
  | 18, _, v => v = .slice (some ⟨b, os, none⟩) n cap
  | 19, _, v => v = .int .i64 (k : Int)
  | 20, _, v => v = .pointer (some ⟨b, os + k * 4, none⟩)
  | 21, _, v => v = .pointer (some ⟨b, os + k * 4 + 1, none⟩)
  | 22, _, v => v = .agg #[.int .i64 ax, .int .i64 nx, .string sx]
  | 23, _, v => v = .bool true
  | 24, _, v => v = .bool false
  | 25, _, v => v = .bool false
  | 26, _, v => v = .bool false
  | 27, _, v => v = .int .i64 (k : Int)
  | 28, _, v => v = .bool false
  | 29, _, v => v = .bool false
  | 30, _, v => v = undef
  | 31, _, v => v = undef
  | 32, _, v => v = undef
  | 33, _, v => v = undef
  | 34, _, v => v = undef
  | 35, _, v => v = undef
  | 36, _, v => v = undef
  | 37, _, v => v = undef
  | 38, _, v => v = undef
  | 39, _, v => v = undef
  | 40, _, v => v = undef
  | 41, _, v => v = undef
  | 42, _, v => v = undef
  | 43, _, v => v = .bool false
  | 44, _, v => v = .bool false
  | _, _, _ => True

theorem VPC_below (b os n cap k j : Nat) (kx px sx : ByteArray) (ax nx : Int) (q : Bool) : ∀ (i : Nat) (w w' : World) (v : Value), VPC b os n cap k j kx px sx ax nx q i w v → Below w.heap.size w w' → VPC b os n cap k j kx px sx ax nx q i w' v := by
  intro i w w' v h hb
  unfold VPC at h ⊢
  split at h <;> first | exact h | trivial | exact RB.below h hb | exact Own.below h hb | exact OwnV.below h hb | exact OwnRec.below h hb | exact Lay.R.below h hb

def VPD (b os n cap k j : Nat) (kx px sx : ByteArray) (ax nx : Int) (q : Bool) : Nat → World → Value → Prop
  | 10, _, v => v = .slice (some ⟨b, os, none⟩) n cap
  | 11, _, v => v = .int .i64 (k : Int)
  | 12, _, v => v = .pointer (some ⟨b, os + k * 4, none⟩)
  | 13, _, v => v = .pointer (some ⟨b, os + k * 4, none⟩)
  | 14, _, v => v = .string kx
  | 15, _, v => v = .bool true
  | 16, _, v => v = .bool false
  | 17, _, v => v = .bool false
  | 18, _, v => v = .slice (some ⟨b, os, none⟩) n cap
  | 19, _, v => v = .int .i64 (k : Int)
  | 20, _, v => v = .pointer (some ⟨b, os + k * 4, none⟩)
  | 21, _, v => v = .pointer (some ⟨b, os + k * 4 + 1, none⟩)
  | 22, _, v => v = .agg #[.int .i64 ax, .int .i64 nx, .string sx]
  | 23, _, v => v = .bool true
  | 24, _, v => v = .bool false
  | 25, _, v => v = .bool false
  | 26, _, v => v = .bool false
  | 27, _, v => v = .int .i64 (k : Int)
  | 28, _, v => v = .bool true
  | 29, _, v => v = .bool true
  | 30, _, v => v = .slice (some ⟨b, os, none⟩) n cap
  | 31, _, v => v = .int .i64 (k : Int)
  | 32, _, v => v = .int .i64 (j : Int)
  | 33, _, v => v = .pointer (some ⟨b, os + j * 4, none⟩)
  | 34, _, v => v = .pointer (some ⟨b, os + j * 4, none⟩)
  | 35, _, v => v = .string px
  | 36, _, v => v = .slice (some ⟨b, os, none⟩) n cap
  | 37, _, v => v = .int .i64 (k : Int)
  | 38, _, v => v = .pointer (some ⟨b, os + k * 4, none⟩)
  | 39, _, v => v = .pointer (some ⟨b, os + k * 4, none⟩)
  | 40, _, v => v = .string kx
  | 41, _, v => v = .bool q
  | 42, _, v => v = .bool (!q)
  | 43, _, v => v = .bool (!q)
  | 44, _, v => v = .bool (!q)
  | _, _, _ => True

theorem VPD_below (b os n cap k j : Nat) (kx px sx : ByteArray) (ax nx : Int) (q : Bool) : ∀ (i : Nat) (w w' : World) (v : Value), VPD b os n cap k j kx px sx ax nx q i w v → Below w.heap.size w w' → VPD b os n cap k j kx px sx ax nx q i w' v := by
  intro i w w' v h hb
  unfold VPD at h ⊢
  split at h <;> first | exact h | trivial | exact RB.below h hb | exact Own.below h hb | exact OwnV.below h hb | exact OwnRec.below h hb | exact Lay.R.below h hb

set_option maxHeartbeats 2000000 in
set_option maxRecDepth 100000 in
theorem rmayp_c (v : Value) (l : List RecT) (t : Bool) (w : World) (h : K4.R w v l) (hs : SmallV l) (hl : l.length ≤ 100000) (ht : mayP l = t) :
    Calls Try.prog 18 #[v] w fun e w' => e = .returned (.bool t) ∧ Below w.heap.size w w' := by
  obtain ⟨ad, cap, rfl, hm⟩ := h.form
  have H := Go.Lib.hid h
  have HS := Go.Lib.hid hs
  have HT := Go.Lib.hid ht
  clear h hs ht
  go_enter Try.func18, Try.ntmps18
  go_wp2_with fail
  go_loopw [3] (fun i' wr => ∃ k : Nat, i' = .int .i64 (k : Int) ∧ k ≤ l.length ∧ Hid (∀ j, j < k → okAt l j = true) ∧ Below w.heap.size w wr) (fun i' _ => l.length - (intOf i').toNat)
  case atStart => exact ⟨0, rfl, by omega, Go.Lib.hid fun j hj => by omega, Below.refl _ _⟩
  case round =>
    obtain ⟨k, rfl, hk, HI, hb⟩ := hrel
    by_cases hlt : k < l.length
    · obtain ⟨b, os, rfl, -, hbl, c0, c1, c2, c3⟩ := K4.at' H.out k hlt
      have D0 := (hb.cell (p := ⟨b, os + k * 4, none⟩) hbl).trans c0
      have D1 := (hb.cell (p := ⟨b, os + k * 4 + 1, none⟩) hbl).trans c1
      have D2 := (hb.cell (p := ⟨b, os + k * 4 + 2, none⟩) hbl).trans c2
      have D3 := (hb.cell (p := ⟨b, os + k * 4 + 3, none⟩) hbl).trans c3
      have hbl2 : b < wr.heap.size := Nat.lt_of_lt_of_le hbl hb.size
      have I1 := Go.Lib.hid (idx4 b os l.length cap k hlt)
      obtain ⟨hs1, hs2⟩ := HS.out l[k] (List.getElem_mem hlt)
      have hno : Hid (okAt l k = false → t = false) := Go.Lib.hid fun h => by
        cases t with
        | false => rfl
        | true =>
          have := (mayP_iff l).1 HT.out
          rw [this.1 k hlt] at h
          cases h
      have hok : Hid (okAt l k = (mayX l[k] && (k == 0 || lessK (l.getD (k - 1) zeroX).1 l[k].1))) := Go.Lib.hid (by unfold okAt; rw [getD_at l k hlt])
      have hpre : Hid (0 < k → ∃ px : ByteArray, wr.cell? ⟨b, os + (k - 1) * 4, none⟩ = some (.string px) ∧ (l.getD (k - 1) zeroX).1 = px ∧ px.size ≤ 1000000) := Go.Lib.hid fun h0 => by
        obtain ⟨b', o', e, -, -, d0, -⟩ := K4.at' H.out (k - 1) (by omega)
        cases e
        exact ⟨_, (hb.cell (p := ⟨b, os + (k - 1) * 4, none⟩) hbl).trans d0, by rw [getD_at l (k - 1) (by omega)], (HS.out _ (List.getElem_mem _)).1⟩
      generalize l[k] = x at *
      obtain ⟨kx, gx, ax, nx, sx⟩ := x
      simp only [] at D0 D1 D2 D3 hs1 hs2 hok
      unfold mayX at hok
      simp only [] at hok
      have CM := fun W => (rmay_c kx W (by unfold maxLen; omega)).mono fun _ w' (h : _ ∧ W = w') => (⟨h.1, h.2 ▸ Below.refl _ _⟩ : _ ∧ Below W.heap.size W w')
      have CV := fun W => mayval_c ax nx sx W (by unfold maxLen; omega)
      unfold rawV at CV
      obtain ⟨mk, hmk⟩ : ∃ mk, mayK kx = mk := ⟨_, rfl⟩
      obtain ⟨mv, hmv⟩ : ∃ mv, mayR ax nx sx = mv := ⟨_, rfl⟩
      rw [hmk] at CM hok
      rw [hmv] at CV hok
      clear c0 c1 c2 c3 hmk hmv
      cases mk with
      | false =>
        have CM := Go.Lib.hid CM
        have hf : t = false := hno.out (by rw [hok.out]; rfl)
        subst hf
        clear hno hok hpre CV HI
        go_upto_region 4 with (fail)
        refine wp_region_each (by kernel_rfl) (VPA b os l.length cap k 0 kx kx sx ax nx true) (VPA_below b os l.length cap k 0 kx kx sx ax nx true) (by decide +kernel) (by decide +kernel) (by rfl) [10, 11, 12, 13, 14, 15, 16, 17, 18, 19, 20, 21, 22, 23, 24, 25, 26, 27, 28, 29, 30, 31, 32, 33, 34, 35, 36, 37, 38, 39, 40, 41, 42, 43, 44] (by rfl) ?_ ?_
        · intro i o ho a w6 hb6 hlen hg
          have d0 := (hb6.cell (p := ⟨b, os + k * 4, none⟩) hbl2).trans D0
          match i, ho with
          | 0, ho =>
            obtain rfl := Option.some.inj ho
            have h0 := given_old hg 0 (by decide +kernel)
            clear hg
            exact st_yield ho (wanted_none rfl) (.slice (some ⟨b, os, none⟩) l.length cap) w6 (by simp [execOp, Act.eval, h0, go_sem]) ⟨_, rfl, Below.refl _ _, by rintro t' ⟨⟩; rfl⟩
          | 1, ho =>
            obtain rfl := Option.some.inj ho
            have h3 := given_old hg 3 (by decide +kernel)
            clear hg
            exact st_yield ho (wanted_none rfl) (.int .i64 (k : Int)) w6 (by simp [execOp, Act.eval, h3, go_sem]) ⟨_, rfl, Below.refl _ _, by rintro t' ⟨⟩; rfl⟩
          | 2, ho =>
            obtain rfl := Option.some.inj ho
            obtain ⟨_, h10, rfl⟩ := given_fed hg 10 (by decide +kernel)
            obtain ⟨_, h11, rfl⟩ := given_fed hg 11 (by decide +kernel)
            clear hg
            exact st_yield ho (wanted_none rfl) (.pointer (some ⟨b, os + k * 4, none⟩)) w6 (by simp [execOp, Act.eval, h10, h11, go_sem, I1.out w6]) ⟨_, rfl, Below.refl _ _, by rintro t' ⟨⟩; rfl⟩
          | 3, ho =>
            obtain rfl := Option.some.inj ho
            obtain ⟨_, h12, rfl⟩ := given_fed hg 12 (by decide +kernel)
            clear hg
            exact st_yield ho (wanted_none rfl) (.pointer (some ⟨b, os + k * 4, none⟩)) w6 (by simp [execOp, Act.eval, h12, go_sem]) ⟨_, rfl, Below.refl _ _, by rintro t' ⟨⟩; rfl⟩
          | 4, ho =>
            obtain rfl := Option.some.inj ho
            obtain ⟨_, h13, rfl⟩ := given_fed hg 13 (by decide +kernel)
            clear hg
            exact st_yield ho (wanted_none rfl) (.string kx) w6 (by simp [execOp, Act.eval, h13, go_sem, d0]) ⟨_, rfl, Below.refl _ _, by rintro t' ⟨⟩; rfl⟩
          | 5, ho =>
            obtain rfl := Option.some.inj ho
            obtain ⟨_, h14, rfl⟩ := given_fed hg 14 (by decide +kernel)
            clear hg
            exact st_enter (w1 := w6) ho (wanted_none rfl) 29 #[.string kx] (by simp [execOp, Act.eval, h14, resolve, go_sem]) ((CM.out w6).mono (by rintro e w7 ⟨rfl, hb7⟩; exact ⟨_, rfl, _, rfl, hb7, by rintro t' ⟨⟩; rfl⟩))
          | 6, ho =>
            obtain rfl := Option.some.inj ho
            obtain ⟨_, h15, rfl⟩ := given_fed hg 15 (by decide +kernel)
            clear hg
            exact st_yield ho (wanted_none rfl) (.bool true) w6 (by simp [execOp, Act.eval, h15, go_sem]) ⟨_, rfl, Below.refl _ _, by rintro t' ⟨⟩; rfl⟩
          | 7, ho =>
            obtain rfl := Option.some.inj ho
            obtain ⟨_, h16, rfl⟩ := given_fed hg 16 (by decide +kernel)
            clear hg
            exact st_yield ho (wanted_none rfl) (.bool true) w6 (by simp [execOp, Act.eval, h16, go_sem]) ⟨_, rfl, Below.refl _ _, by rintro t' ⟨⟩; rfl⟩
          | 8, ho =>
            obtain rfl := Option.some.inj ho
            obtain ⟨_, h17, rfl⟩ := given_fed hg 17 (by decide +kernel)
            clear hg
            exact st_skip ho (wanted_not rfl rfl h17 (by decide)) ⟨_, rfl, Below.refl _ _, by rintro t' ⟨⟩; rfl⟩
          | 9, ho =>
            obtain rfl := Option.some.inj ho
            obtain ⟨_, h17, rfl⟩ := given_fed hg 17 (by decide +kernel)
            clear hg
            exact st_skip ho (wanted_not rfl rfl h17 (by decide)) ⟨_, rfl, Below.refl _ _, by rintro t' ⟨⟩; rfl⟩
          | 10, ho =>
            obtain rfl := Option.some.inj ho
            obtain ⟨_, h17, rfl⟩ := given_fed hg 17 (by decide +kernel)
            clear hg
            exact st_skip ho (wanted_not rfl rfl h17 (by decide)) ⟨_, rfl, Below.refl _ _, by rintro t' ⟨⟩; rfl⟩
          | 11, ho =>
            obtain rfl := Option.some.inj ho
            obtain ⟨_, h17, rfl⟩ := given_fed hg 17 (by decide +kernel)
            clear hg
            exact st_skip ho (wanted_not rfl rfl h17 (by decide)) ⟨_, rfl, Below.refl _ _, by rintro t' ⟨⟩; rfl⟩
          | 12, ho =>
            obtain rfl := Option.some.inj ho
            obtain ⟨_, h17, rfl⟩ := given_fed hg 17 (by decide +kernel)
            clear hg
            exact st_skip ho (wanted_not rfl rfl h17 (by decide)) ⟨_, rfl, Below.refl _ _, by rintro t' ⟨⟩; rfl⟩
          | 13, ho =>
            obtain rfl := Option.some.inj ho
            obtain ⟨_, h17, rfl⟩ := given_fed hg 17 (by decide +kernel)
            clear hg
            exact st_skip ho (wanted_not rfl rfl h17 (by decide)) ⟨_, rfl, Below.refl _ _, by rintro t' ⟨⟩; rfl⟩
          | 14, ho =>
            obtain rfl := Option.some.inj ho
            obtain ⟨_, h17, rfl⟩ := given_fed hg 17 (by decide +kernel)
            clear hg
            exact st_skip ho (wanted_not rfl rfl h17 (by decide)) ⟨_, rfl, Below.refl _ _, by rintro t' ⟨⟩; rfl⟩
          | 15, ho =>
            obtain rfl := Option.some.inj ho
            obtain ⟨_, h17, rfl⟩ := given_fed hg 17 (by decide +kernel)
            obtain ⟨_, h24, rfl⟩ := given_fed hg 24 (by decide +kernel)
            clear hg
            exact st_yield ho (wanted_none rfl) (.bool true) w6 (by simp [execOp, Act.eval, h17, h24, go_sem]) ⟨_, rfl, Below.refl _ _, by rintro t' ⟨⟩; rfl⟩
          | 16, ho =>
            obtain rfl := Option.some.inj ho
            obtain ⟨_, h25, rfl⟩ := given_fed hg 25 (by decide +kernel)
            clear hg
            exact st_yield ho (wanted_none rfl) (.bool true) w6 (by simp [execOp, Act.eval, h25, go_sem]) ⟨_, rfl, Below.refl _ _, by rintro t' ⟨⟩; rfl⟩
          | 17, ho =>
            obtain rfl := Option.some.inj ho
            obtain ⟨_, h26, rfl⟩ := given_fed hg 26 (by decide +kernel)
            clear hg
            exact st_skip ho (wanted_not rfl rfl h26 (by decide)) ⟨_, rfl, Below.refl _ _, by rintro t' ⟨⟩; rfl⟩
          | 18, ho =>
            obtain rfl := Option.some.inj ho
            obtain ⟨_, h26, rfl⟩ := given_fed hg 26 (by decide +kernel)
            clear hg
            exact st_skip ho (wanted_not rfl rfl h26 (by decide)) ⟨_, rfl, Below.refl _ _, by rintro t' ⟨⟩; rfl⟩
          | 19, ho =>
            obtain rfl := Option.some.inj ho
            obtain ⟨_, h26, rfl⟩ := given_fed hg 26 (by decide +kernel)
            clear hg
            exact st_skip ho (wanted_not rfl rfl h26 (by decide)) ⟨_, rfl, Below.refl _ _, by rintro t' ⟨⟩; rfl⟩
          | 20, ho =>
            obtain rfl := Option.some.inj ho
            obtain ⟨_, h29, rfl⟩ := given_fed hg 29 (by decide +kernel)
            clear hg
            exact st_skip ho (wanted_undef rfl rfl h29) ⟨_, rfl, Below.refl _ _, by rintro t' ⟨⟩; rfl⟩
          | 21, ho =>
            obtain rfl := Option.some.inj ho
            obtain ⟨_, h29, rfl⟩ := given_fed hg 29 (by decide +kernel)
            clear hg
            exact st_skip ho (wanted_undef rfl rfl h29) ⟨_, rfl, Below.refl _ _, by rintro t' ⟨⟩; rfl⟩
          | 22, ho =>
            obtain rfl := Option.some.inj ho
            obtain ⟨_, h29, rfl⟩ := given_fed hg 29 (by decide +kernel)
            clear hg
            exact st_skip ho (wanted_undef rfl rfl h29) ⟨_, rfl, Below.refl _ _, by rintro t' ⟨⟩; rfl⟩
          | 23, ho =>
            obtain rfl := Option.some.inj ho
            obtain ⟨_, h29, rfl⟩ := given_fed hg 29 (by decide +kernel)
            clear hg
            exact st_skip ho (wanted_undef rfl rfl h29) ⟨_, rfl, Below.refl _ _, by rintro t' ⟨⟩; rfl⟩
          | 24, ho =>
            obtain rfl := Option.some.inj ho
            obtain ⟨_, h29, rfl⟩ := given_fed hg 29 (by decide +kernel)
            clear hg
            exact st_skip ho (wanted_undef rfl rfl h29) ⟨_, rfl, Below.refl _ _, by rintro t' ⟨⟩; rfl⟩
          | 25, ho =>
            obtain rfl := Option.some.inj ho
            obtain ⟨_, h29, rfl⟩ := given_fed hg 29 (by decide +kernel)
            clear hg
            exact st_skip ho (wanted_undef rfl rfl h29) ⟨_, rfl, Below.refl _ _, by rintro t' ⟨⟩; rfl⟩
          | 26, ho =>
            obtain rfl := Option.some.inj ho
            obtain ⟨_, h29, rfl⟩ := given_fed hg 29 (by decide +kernel)
            clear hg
            exact st_skip ho (wanted_undef rfl rfl h29) ⟨_, rfl, Below.refl _ _, by rintro t' ⟨⟩; rfl⟩
          | 27, ho =>
            obtain rfl := Option.some.inj ho
            obtain ⟨_, h29, rfl⟩ := given_fed hg 29 (by decide +kernel)
            clear hg
            exact st_skip ho (wanted_undef rfl rfl h29) ⟨_, rfl, Below.refl _ _, by rintro t' ⟨⟩; rfl⟩
          | 28, ho =>
            obtain rfl := Option.some.inj ho
            obtain ⟨_, h29, rfl⟩ := given_fed hg 29 (by decide +kernel)
            clear hg
            exact st_skip ho (wanted_undef rfl rfl h29) ⟨_, rfl, Below.refl _ _, by rintro t' ⟨⟩; rfl⟩
          | 29, ho =>
            obtain rfl := Option.some.inj ho
            obtain ⟨_, h29, rfl⟩ := given_fed hg 29 (by decide +kernel)
            clear hg
            exact st_skip ho (wanted_undef rfl rfl h29) ⟨_, rfl, Below.refl _ _, by rintro t' ⟨⟩; rfl⟩
          | 30, ho =>
            obtain rfl := Option.some.inj ho
            obtain ⟨_, h29, rfl⟩ := given_fed hg 29 (by decide +kernel)
            clear hg
            exact st_skip ho (wanted_undef rfl rfl h29) ⟨_, rfl, Below.refl _ _, by rintro t' ⟨⟩; rfl⟩
          | 31, ho =>
            obtain rfl := Option.some.inj ho
            obtain ⟨_, h29, rfl⟩ := given_fed hg 29 (by decide +kernel)
            clear hg
            exact st_skip ho (wanted_undef rfl rfl h29) ⟨_, rfl, Below.refl _ _, by rintro t' ⟨⟩; rfl⟩
          | 32, ho =>
            obtain rfl := Option.some.inj ho
            obtain ⟨_, h29, rfl⟩ := given_fed hg 29 (by decide +kernel)
            clear hg
            exact st_skip ho (wanted_undef rfl rfl h29) ⟨_, rfl, Below.refl _ _, by rintro t' ⟨⟩; rfl⟩
          | 33, ho =>
            obtain rfl := Option.some.inj ho
            obtain ⟨_, h26, rfl⟩ := given_fed hg 26 (by decide +kernel)
            clear hg
            exact st_skip ho (wanted_not rfl rfl h26 (by decide)) ⟨_, rfl, Below.refl _ _, by rintro t' ⟨⟩; rfl⟩
          | 34, ho =>
            obtain rfl := Option.some.inj ho
            obtain ⟨_, h26, rfl⟩ := given_fed hg 26 (by decide +kernel)
            obtain ⟨_, h43, rfl⟩ := given_fed hg 43 (by decide +kernel)
            clear hg
            exact st_yield ho (wanted_none rfl) (.bool true) w6 (by simp [execOp, Act.eval, h26, h43, go_sem]) ⟨_, rfl, Below.refl _ _, by rintro t' ⟨⟩; rfl⟩
          | n + 35, ho => simp at ho
        · intro f w6 hb6 hv'
          have h44 := hv' 44 (by decide)
          simp only [VPA] at h44
          clear hv'
          have hb7 := hb.trans (hb6.mono hb.size)
          unfold putAll
          simp only [List.foldl]
          simp only [h44]
          go_simp
          go_wp2_with fail
          go_ret
          exact ⟨rfl, hb7⟩
      | true =>
        have CM := Go.Lib.hid CM
        cases mv with
        | false =>
          have CV := Go.Lib.hid CV
          have hf : t = false := hno.out (by rw [hok.out]; rfl)
          subst hf
          clear hno hok hpre HI
          go_upto_region 4 with (fail)
          refine wp_region_each (by kernel_rfl) (VPB b os l.length cap k 0 kx kx sx ax nx true) (VPB_below b os l.length cap k 0 kx kx sx ax nx true) (by decide +kernel) (by decide +kernel) (by rfl) [10, 11, 12, 13, 14, 15, 16, 17, 18, 19, 20, 21, 22, 23, 24, 25, 26, 27, 28, 29, 30, 31, 32, 33, 34, 35, 36, 37, 38, 39, 40, 41, 42, 43, 44] (by rfl) ?_ ?_
          · intro i o ho a w6 hb6 hlen hg
            have d0 := (hb6.cell (p := ⟨b, os + k * 4, none⟩) hbl2).trans D0
            have d1 := (hb6.cell (p := ⟨b, os + k * 4 + 1, none⟩) hbl2).trans D1
            have d2 := (hb6.cell (p := ⟨b, os + k * 4 + 2, none⟩) hbl2).trans D2
            have d3 := (hb6.cell (p := ⟨b, os + k * 4 + 3, none⟩) hbl2).trans D3
            match i, ho with
            | 0, ho =>
              obtain rfl := Option.some.inj ho
              have h0 := given_old hg 0 (by decide +kernel)
              clear hg
              exact st_yield ho (wanted_none rfl) (.slice (some ⟨b, os, none⟩) l.length cap) w6 (by simp [execOp, Act.eval, h0, go_sem]) ⟨_, rfl, Below.refl _ _, by rintro t' ⟨⟩; rfl⟩
            | 1, ho =>
              obtain rfl := Option.some.inj ho
              have h3 := given_old hg 3 (by decide +kernel)
              clear hg
              exact st_yield ho (wanted_none rfl) (.int .i64 (k : Int)) w6 (by simp [execOp, Act.eval, h3, go_sem]) ⟨_, rfl, Below.refl _ _, by rintro t' ⟨⟩; rfl⟩
            | 2, ho =>
              obtain rfl := Option.some.inj ho
              obtain ⟨_, h10, rfl⟩ := given_fed hg 10 (by decide +kernel)
              obtain ⟨_, h11, rfl⟩ := given_fed hg 11 (by decide +kernel)
              clear hg
              exact st_yield ho (wanted_none rfl) (.pointer (some ⟨b, os + k * 4, none⟩)) w6 (by simp [execOp, Act.eval, h10, h11, go_sem, I1.out w6]) ⟨_, rfl, Below.refl _ _, by rintro t' ⟨⟩; rfl⟩
            | 3, ho =>
              obtain rfl := Option.some.inj ho
              obtain ⟨_, h12, rfl⟩ := given_fed hg 12 (by decide +kernel)
              clear hg
              exact st_yield ho (wanted_none rfl) (.pointer (some ⟨b, os + k * 4, none⟩)) w6 (by simp [execOp, Act.eval, h12, go_sem]) ⟨_, rfl, Below.refl _ _, by rintro t' ⟨⟩; rfl⟩
            | 4, ho =>
              obtain rfl := Option.some.inj ho
              obtain ⟨_, h13, rfl⟩ := given_fed hg 13 (by decide +kernel)
              clear hg
              exact st_yield ho (wanted_none rfl) (.string kx) w6 (by simp [execOp, Act.eval, h13, go_sem, d0]) ⟨_, rfl, Below.refl _ _, by rintro t' ⟨⟩; rfl⟩
            | 5, ho =>
              obtain rfl := Option.some.inj ho
              obtain ⟨_, h14, rfl⟩ := given_fed hg 14 (by decide +kernel)
              clear hg
              exact st_enter (w1 := w6) ho (wanted_none rfl) 29 #[.string kx] (by simp [execOp, Act.eval, h14, resolve, go_sem]) ((CM.out w6).mono (by rintro e w7 ⟨rfl, hb7⟩; exact ⟨_, rfl, _, rfl, hb7, by rintro t' ⟨⟩; rfl⟩))
            | 6, ho =>
              obtain rfl := Option.some.inj ho
              obtain ⟨_, h15, rfl⟩ := given_fed hg 15 (by decide +kernel)
              clear hg
              exact st_yield ho (wanted_none rfl) (.bool false) w6 (by simp [execOp, Act.eval, h15, go_sem]) ⟨_, rfl, Below.refl _ _, by rintro t' ⟨⟩; rfl⟩
            | 7, ho =>
              obtain rfl := Option.some.inj ho
              obtain ⟨_, h16, rfl⟩ := given_fed hg 16 (by decide +kernel)
              clear hg
              exact st_yield ho (wanted_none rfl) (.bool false) w6 (by simp [execOp, Act.eval, h16, go_sem]) ⟨_, rfl, Below.refl _ _, by rintro t' ⟨⟩; rfl⟩
            | 8, ho =>
              obtain rfl := Option.some.inj ho
              have h0 := given_old hg 0 (by decide +kernel)
              obtain ⟨_, h17, rfl⟩ := given_fed hg 17 (by decide +kernel)
              clear hg
              exact st_yield ho (wanted_some rfl rfl h17 rfl) (.slice (some ⟨b, os, none⟩) l.length cap) w6 (by simp [execOp, Act.eval, h0, go_sem]) ⟨_, rfl, Below.refl _ _, by rintro t' ⟨⟩; rfl⟩
            | 9, ho =>
              obtain rfl := Option.some.inj ho
              have h3 := given_old hg 3 (by decide +kernel)
              obtain ⟨_, h17, rfl⟩ := given_fed hg 17 (by decide +kernel)
              clear hg
              exact st_yield ho (wanted_some rfl rfl h17 rfl) (.int .i64 (k : Int)) w6 (by simp [execOp, Act.eval, h3, go_sem]) ⟨_, rfl, Below.refl _ _, by rintro t' ⟨⟩; rfl⟩
            | 10, ho =>
              obtain rfl := Option.some.inj ho
              obtain ⟨_, h18, rfl⟩ := given_fed hg 18 (by decide +kernel)
              obtain ⟨_, h19, rfl⟩ := given_fed hg 19 (by decide +kernel)
              obtain ⟨_, h17, rfl⟩ := given_fed hg 17 (by decide +kernel)
              clear hg
              exact st_yield ho (wanted_some rfl rfl h17 rfl) (.pointer (some ⟨b, os + k * 4, none⟩)) w6 (by simp [execOp, Act.eval, h18, h19, go_sem, I1.out w6]) ⟨_, rfl, Below.refl _ _, by rintro t' ⟨⟩; rfl⟩
            | 11, ho =>
              obtain rfl := Option.some.inj ho
              obtain ⟨_, h20, rfl⟩ := given_fed hg 20 (by decide +kernel)
              obtain ⟨_, h17, rfl⟩ := given_fed hg 17 (by decide +kernel)
              clear hg
              exact st_yield ho (wanted_some rfl rfl h17 rfl) (.pointer (some ⟨b, os + k * 4 + 1, none⟩)) w6 (by simp [execOp, Act.eval, h20, go_sem]) ⟨_, rfl, Below.refl _ _, by rintro t' ⟨⟩; rfl⟩
            | 12, ho =>
              obtain rfl := Option.some.inj ho
              obtain ⟨_, h21, rfl⟩ := given_fed hg 21 (by decide +kernel)
              obtain ⟨_, h17, rfl⟩ := given_fed hg 17 (by decide +kernel)
              clear hg
              exact st_yield ho (wanted_some rfl rfl h17 rfl) (.agg #[.int .i64 ax, .int .i64 nx, .string sx]) w6 (by simp [execOp, Act.eval, h21, go_sem, d1, d2, d3]) ⟨_, rfl, Below.refl _ _, by rintro t' ⟨⟩; rfl⟩
            | 13, ho =>
              obtain rfl := Option.some.inj ho
              obtain ⟨_, h22, rfl⟩ := given_fed hg 22 (by decide +kernel)
              obtain ⟨_, h17, rfl⟩ := given_fed hg 17 (by decide +kernel)
              clear hg
              exact st_enter (w1 := w6) ho (wanted_some rfl rfl h17 rfl) 30 #[.agg #[.int .i64 ax, .int .i64 nx, .string sx]] (by simp [execOp, Act.eval, h22, resolve, go_sem]) ((CV.out w6).mono (by rintro e w7 ⟨rfl, hb7⟩; exact ⟨_, rfl, _, rfl, hb7, by rintro t' ⟨⟩; rfl⟩))
            | 14, ho =>
              obtain rfl := Option.some.inj ho
              obtain ⟨_, h23, rfl⟩ := given_fed hg 23 (by decide +kernel)
              obtain ⟨_, h17, rfl⟩ := given_fed hg 17 (by decide +kernel)
              clear hg
              exact st_yield ho (wanted_some rfl rfl h17 rfl) (.bool true) w6 (by simp [execOp, Act.eval, h23, go_sem]) ⟨_, rfl, Below.refl _ _, by rintro t' ⟨⟩; rfl⟩
            | 15, ho =>
              obtain rfl := Option.some.inj ho
              obtain ⟨_, h17, rfl⟩ := given_fed hg 17 (by decide +kernel)
              obtain ⟨_, h24, rfl⟩ := given_fed hg 24 (by decide +kernel)
              clear hg
              exact st_yield ho (wanted_none rfl) (.bool true) w6 (by simp [execOp, Act.eval, h17, h24, go_sem]) ⟨_, rfl, Below.refl _ _, by rintro t' ⟨⟩; rfl⟩
            | 16, ho =>
              obtain rfl := Option.some.inj ho
              obtain ⟨_, h25, rfl⟩ := given_fed hg 25 (by decide +kernel)
              clear hg
              exact st_yield ho (wanted_none rfl) (.bool true) w6 (by simp [execOp, Act.eval, h25, go_sem]) ⟨_, rfl, Below.refl _ _, by rintro t' ⟨⟩; rfl⟩
            | 17, ho =>
              obtain rfl := Option.some.inj ho
              obtain ⟨_, h26, rfl⟩ := given_fed hg 26 (by decide +kernel)
              clear hg
              exact st_skip ho (wanted_not rfl rfl h26 (by decide)) ⟨_, rfl, Below.refl _ _, by rintro t' ⟨⟩; rfl⟩
            | 18, ho =>
              obtain rfl := Option.some.inj ho
              obtain ⟨_, h26, rfl⟩ := given_fed hg 26 (by decide +kernel)
              clear hg
              exact st_skip ho (wanted_not rfl rfl h26 (by decide)) ⟨_, rfl, Below.refl _ _, by rintro t' ⟨⟩; rfl⟩
            | 19, ho =>
              obtain rfl := Option.some.inj ho
              obtain ⟨_, h26, rfl⟩ := given_fed hg 26 (by decide +kernel)
              clear hg
              exact st_skip ho (wanted_not rfl rfl h26 (by decide)) ⟨_, rfl, Below.refl _ _, by rintro t' ⟨⟩; rfl⟩
            | 20, ho =>
              obtain rfl := Option.some.inj ho
              obtain ⟨_, h29, rfl⟩ := given_fed hg 29 (by decide +kernel)
              clear hg
              exact st_skip ho (wanted_undef rfl rfl h29) ⟨_, rfl, Below.refl _ _, by rintro t' ⟨⟩; rfl⟩
            | 21, ho =>
              obtain rfl := Option.some.inj ho
              obtain ⟨_, h29, rfl⟩ := given_fed hg 29 (by decide +kernel)
              clear hg
              exact st_skip ho (wanted_undef rfl rfl h29) ⟨_, rfl, Below.refl _ _, by rintro t' ⟨⟩; rfl⟩
            | 22, ho =>
              obtain rfl := Option.some.inj ho
              obtain ⟨_, h29, rfl⟩ := given_fed hg 29 (by decide +kernel)
              clear hg
              exact st_skip ho (wanted_undef rfl rfl h29) ⟨_, rfl, Below.refl _ _, by rintro t' ⟨⟩; rfl⟩
            | 23, ho =>
              obtain rfl := Option.some.inj ho
              obtain ⟨_, h29, rfl⟩ := given_fed hg 29 (by decide +kernel)
              clear hg
              exact st_skip ho (wanted_undef rfl rfl h29) ⟨_, rfl, Below.refl _ _, by rintro t' ⟨⟩; rfl⟩
            | 24, ho =>
              obtain rfl := Option.some.inj ho
              obtain ⟨_, h29, rfl⟩ := given_fed hg 29 (by decide +kernel)
              clear hg
              exact st_skip ho (wanted_undef rfl rfl h29) ⟨_, rfl, Below.refl _ _, by rintro t' ⟨⟩; rfl⟩
            | 25, ho =>
              obtain rfl := Option.some.inj ho
              obtain ⟨_, h29, rfl⟩ := given_fed hg 29 (by decide +kernel)
              clear hg
              exact st_skip ho (wanted_undef rfl rfl h29) ⟨_, rfl, Below.refl _ _, by rintro t' ⟨⟩; rfl⟩
            | 26, ho =>
              obtain rfl := Option.some.inj ho
              obtain ⟨_, h29, rfl⟩ := given_fed hg 29 (by decide +kernel)
              clear hg
              exact st_skip ho (wanted_undef rfl rfl h29) ⟨_, rfl, Below.refl _ _, by rintro t' ⟨⟩; rfl⟩
            | 27, ho =>
              obtain rfl := Option.some.inj ho
              obtain ⟨_, h29, rfl⟩ := given_fed hg 29 (by decide +kernel)
              clear hg
              exact st_skip ho (wanted_undef rfl rfl h29) ⟨_, rfl, Below.refl _ _, by rintro t' ⟨⟩; rfl⟩
            | 28, ho =>
              obtain rfl := Option.some.inj ho
              obtain ⟨_, h29, rfl⟩ := given_fed hg 29 (by decide +kernel)
              clear hg
              exact st_skip ho (wanted_undef rfl rfl h29) ⟨_, rfl, Below.refl _ _, by rintro t' ⟨⟩; rfl⟩
            | 29, ho =>
              obtain rfl := Option.some.inj ho
              obtain ⟨_, h29, rfl⟩ := given_fed hg 29 (by decide +kernel)
              clear hg
              exact st_skip ho (wanted_undef rfl rfl h29) ⟨_, rfl, Below.refl _ _, by rintro t' ⟨⟩; rfl⟩
            | 30, ho =>
              obtain rfl := Option.some.inj ho
              obtain ⟨_, h29, rfl⟩ := given_fed hg 29 (by decide +kernel)
              clear hg
              exact st_skip ho (wanted_undef rfl rfl h29) ⟨_, rfl, Below.refl _ _, by rintro t' ⟨⟩; rfl⟩
            | 31, ho =>
              obtain rfl := Option.some.inj ho
              obtain ⟨_, h29, rfl⟩ := given_fed hg 29 (by decide +kernel)
              clear hg
              exact st_skip ho (wanted_undef rfl rfl h29) ⟨_, rfl, Below.refl _ _, by rintro t' ⟨⟩; rfl⟩
            | 32, ho =>
              obtain rfl := Option.some.inj ho
              obtain ⟨_, h29, rfl⟩ := given_fed hg 29 (by decide +kernel)
              clear hg
              exact st_skip ho (wanted_undef rfl rfl h29) ⟨_, rfl, Below.refl _ _, by rintro t' ⟨⟩; rfl⟩
            | 33, ho =>
              obtain rfl := Option.some.inj ho
              obtain ⟨_, h26, rfl⟩ := given_fed hg 26 (by decide +kernel)
              clear hg
              exact st_skip ho (wanted_not rfl rfl h26 (by decide)) ⟨_, rfl, Below.refl _ _, by rintro t' ⟨⟩; rfl⟩
            | 34, ho =>
              obtain rfl := Option.some.inj ho
              obtain ⟨_, h26, rfl⟩ := given_fed hg 26 (by decide +kernel)
              obtain ⟨_, h43, rfl⟩ := given_fed hg 43 (by decide +kernel)
              clear hg
              exact st_yield ho (wanted_none rfl) (.bool true) w6 (by simp [execOp, Act.eval, h26, h43, go_sem]) ⟨_, rfl, Below.refl _ _, by rintro t' ⟨⟩; rfl⟩
            | n + 35, ho => simp at ho
          · intro f w6 hb6 hv'
            have h44 := hv' 44 (by decide)
            simp only [VPB] at h44
            clear hv'
            have hb7 := hb.trans (hb6.mono hb.size)
            unfold putAll
            simp only [List.foldl]
            simp only [h44]
            go_simp
            go_wp2_with fail
            go_ret
            exact ⟨rfl, hb7⟩
        | true =>
          have CV := Go.Lib.hid CV
          by_cases h0 : k = 0
          · have HI2 : Hid (∀ j, j < k + 1 → okAt l j = true) := Go.Lib.hid fun j hj => by
              obtain rfl : j = k := by omega
              rw [hok.out]
              simp [h0]
            clear hno hok hpre HI
            go_upto_region 4 with (fail)
            refine wp_region_each (by kernel_rfl) (VPC b os l.length cap k 0 kx kx sx ax nx true) (VPC_below b os l.length cap k 0 kx kx sx ax nx true) (by decide +kernel) (by decide +kernel) (by rfl) [10, 11, 12, 13, 14, 15, 16, 17, 18, 19, 20, 21, 22, 23, 24, 25, 26, 27, 28, 29, 30, 31, 32, 33, 34, 35, 36, 37, 38, 39, 40, 41, 42, 43, 44] (by rfl) ?_ ?_
            · intro i o ho a w6 hb6 hlen hg
              have d0 := (hb6.cell (p := ⟨b, os + k * 4, none⟩) hbl2).trans D0
              have d1 := (hb6.cell (p := ⟨b, os + k * 4 + 1, none⟩) hbl2).trans D1
              have d2 := (hb6.cell (p := ⟨b, os + k * 4 + 2, none⟩) hbl2).trans D2
              have d3 := (hb6.cell (p := ⟨b, os + k * 4 + 3, none⟩) hbl2).trans D3
              match i, ho with
              | 0, ho =>
                obtain rfl := Option.some.inj ho
                have h0 := given_old hg 0 (by decide +kernel)
                clear hg
                exact st_yield ho (wanted_none rfl) (.slice (some ⟨b, os, none⟩) l.length cap) w6 (by simp [execOp, Act.eval, h0, go_sem]) ⟨_, rfl, Below.refl _ _, by rintro t' ⟨⟩; rfl⟩
              | 1, ho =>
                obtain rfl := Option.some.inj ho
                have h3 := given_old hg 3 (by decide +kernel)
                clear hg
                exact st_yield ho (wanted_none rfl) (.int .i64 (k : Int)) w6 (by simp [execOp, Act.eval, h3, go_sem]) ⟨_, rfl, Below.refl _ _, by rintro t' ⟨⟩; rfl⟩
              | 2, ho =>
                obtain rfl := Option.some.inj ho
                obtain ⟨_, h10, rfl⟩ := given_fed hg 10 (by decide +kernel)
                obtain ⟨_, h11, rfl⟩ := given_fed hg 11 (by decide +kernel)
                clear hg
                exact st_yield ho (wanted_none rfl) (.pointer (some ⟨b, os + k * 4, none⟩)) w6 (by simp [execOp, Act.eval, h10, h11, go_sem, I1.out w6]) ⟨_, rfl, Below.refl _ _, by rintro t' ⟨⟩; rfl⟩
              | 3, ho =>
                obtain rfl := Option.some.inj ho
                obtain ⟨_, h12, rfl⟩ := given_fed hg 12 (by decide +kernel)
                clear hg
                exact st_yield ho (wanted_none rfl) (.pointer (some ⟨b, os + k * 4, none⟩)) w6 (by simp [execOp, Act.eval, h12, go_sem]) ⟨_, rfl, Below.refl _ _, by rintro t' ⟨⟩; rfl⟩
              | 4, ho =>
                obtain rfl := Option.some.inj ho
                obtain ⟨_, h13, rfl⟩ := given_fed hg 13 (by decide +kernel)
                clear hg
                exact st_yield ho (wanted_none rfl) (.string kx) w6 (by simp [execOp, Act.eval, h13, go_sem, d0]) ⟨_, rfl, Below.refl _ _, by rintro t' ⟨⟩; rfl⟩
              | 5, ho =>
                obtain rfl := Option.some.inj ho
                obtain ⟨_, h14, rfl⟩ := given_fed hg 14 (by decide +kernel)
                clear hg
                exact st_enter (w1 := w6) ho (wanted_none rfl) 29 #[.string kx] (by simp [execOp, Act.eval, h14, resolve, go_sem]) ((CM.out w6).mono (by rintro e w7 ⟨rfl, hb7⟩; exact ⟨_, rfl, _, rfl, hb7, by rintro t' ⟨⟩; rfl⟩))
              | 6, ho =>
                obtain rfl := Option.some.inj ho
                obtain ⟨_, h15, rfl⟩ := given_fed hg 15 (by decide +kernel)
                clear hg
                exact st_yield ho (wanted_none rfl) (.bool false) w6 (by simp [execOp, Act.eval, h15, go_sem]) ⟨_, rfl, Below.refl _ _, by rintro t' ⟨⟩; rfl⟩
              | 7, ho =>
                obtain rfl := Option.some.inj ho
                obtain ⟨_, h16, rfl⟩ := given_fed hg 16 (by decide +kernel)
                clear hg
                exact st_yield ho (wanted_none rfl) (.bool false) w6 (by simp [execOp, Act.eval, h16, go_sem]) ⟨_, rfl, Below.refl _ _, by rintro t' ⟨⟩; rfl⟩
              | 8, ho =>
                obtain rfl := Option.some.inj ho
                have h0 := given_old hg 0 (by decide +kernel)
                obtain ⟨_, h17, rfl⟩ := given_fed hg 17 (by decide +kernel)
                clear hg
                exact st_yield ho (wanted_some rfl rfl h17 rfl) (.slice (some ⟨b, os, none⟩) l.length cap) w6 (by simp [execOp, Act.eval, h0, go_sem]) ⟨_, rfl, Below.refl _ _, by rintro t' ⟨⟩; rfl⟩
              | 9, ho =>
                obtain rfl := Option.some.inj ho
                have h3 := given_old hg 3 (by decide +kernel)
                obtain ⟨_, h17, rfl⟩ := given_fed hg 17 (by decide +kernel)
                clear hg
                exact st_yield ho (wanted_some rfl rfl h17 rfl) (.int .i64 (k : Int)) w6 (by simp [execOp, Act.eval, h3, go_sem]) ⟨_, rfl, Below.refl _ _, by rintro t' ⟨⟩; rfl⟩
              | 10, ho =>
                obtain rfl := Option.some.inj ho
                obtain ⟨_, h18, rfl⟩ := given_fed hg 18 (by decide +kernel)
                obtain ⟨_, h19, rfl⟩ := given_fed hg 19 (by decide +kernel)
                obtain ⟨_, h17, rfl⟩ := given_fed hg 17 (by decide +kernel)
                clear hg
                exact st_yield ho (wanted_some rfl rfl h17 rfl) (.pointer (some ⟨b, os + k * 4, none⟩)) w6 (by simp [execOp, Act.eval, h18, h19, go_sem, I1.out w6]) ⟨_, rfl, Below.refl _ _, by rintro t' ⟨⟩; rfl⟩
              | 11, ho =>
                obtain rfl := Option.some.inj ho
                obtain ⟨_, h20, rfl⟩ := given_fed hg 20 (by decide +kernel)
                obtain ⟨_, h17, rfl⟩ := given_fed hg 17 (by decide +kernel)
                clear hg
                exact st_yield ho (wanted_some rfl rfl h17 rfl) (.pointer (some ⟨b, os + k * 4 + 1, none⟩)) w6 (by simp [execOp, Act.eval, h20, go_sem]) ⟨_, rfl, Below.refl _ _, by rintro t' ⟨⟩; rfl⟩
              | 12, ho =>
                obtain rfl := Option.some.inj ho
                obtain ⟨_, h21, rfl⟩ := given_fed hg 21 (by decide +kernel)
                obtain ⟨_, h17, rfl⟩ := given_fed hg 17 (by decide +kernel)
                clear hg
                exact st_yield ho (wanted_some rfl rfl h17 rfl) (.agg #[.int .i64 ax, .int .i64 nx, .string sx]) w6 (by simp [execOp, Act.eval, h21, go_sem, d1, d2, d3]) ⟨_, rfl, Below.refl _ _, by rintro t' ⟨⟩; rfl⟩
              | 13, ho =>
                obtain rfl := Option.some.inj ho
                obtain ⟨_, h22, rfl⟩ := given_fed hg 22 (by decide +kernel)
                obtain ⟨_, h17, rfl⟩ := given_fed hg 17 (by decide +kernel)
                clear hg
                exact st_enter (w1 := w6) ho (wanted_some rfl rfl h17 rfl) 30 #[.agg #[.int .i64 ax, .int .i64 nx, .string sx]] (by simp [execOp, Act.eval, h22, resolve, go_sem]) ((CV.out w6).mono (by rintro e w7 ⟨rfl, hb7⟩; exact ⟨_, rfl, _, rfl, hb7, by rintro t' ⟨⟩; rfl⟩))
              | 14, ho =>
                obtain rfl := Option.some.inj ho
                obtain ⟨_, h23, rfl⟩ := given_fed hg 23 (by decide +kernel)
                obtain ⟨_, h17, rfl⟩ := given_fed hg 17 (by decide +kernel)
                clear hg
                exact st_yield ho (wanted_some rfl rfl h17 rfl) (.bool false) w6 (by simp [execOp, Act.eval, h23, go_sem]) ⟨_, rfl, Below.refl _ _, by rintro t' ⟨⟩; rfl⟩
              | 15, ho =>
                obtain rfl := Option.some.inj ho
                obtain ⟨_, h17, rfl⟩ := given_fed hg 17 (by decide +kernel)
                obtain ⟨_, h24, rfl⟩ := given_fed hg 24 (by decide +kernel)
                clear hg
                exact st_yield ho (wanted_none rfl) (.bool false) w6 (by simp [execOp, Act.eval, h17, h24, go_sem]) ⟨_, rfl, Below.refl _ _, by rintro t' ⟨⟩; rfl⟩
              | 16, ho =>
                obtain rfl := Option.some.inj ho
                obtain ⟨_, h25, rfl⟩ := given_fed hg 25 (by decide +kernel)
                clear hg
                exact st_yield ho (wanted_none rfl) (.bool false) w6 (by simp [execOp, Act.eval, h25, go_sem]) ⟨_, rfl, Below.refl _ _, by rintro t' ⟨⟩; rfl⟩
              | 17, ho =>
                obtain rfl := Option.some.inj ho
                have h3 := given_old hg 3 (by decide +kernel)
                obtain ⟨_, h26, rfl⟩ := given_fed hg 26 (by decide +kernel)
                clear hg
                exact st_yield ho (wanted_some rfl rfl h26 rfl) (.int .i64 (k : Int)) w6 (by simp [execOp, Act.eval, h3, go_sem]) ⟨_, rfl, Below.refl _ _, by rintro t' ⟨⟩; rfl⟩
              | 18, ho =>
                obtain rfl := Option.some.inj ho
                obtain ⟨_, h27, rfl⟩ := given_fed hg 27 (by decide +kernel)
                obtain ⟨_, h26, rfl⟩ := given_fed hg 26 (by decide +kernel)
                clear hg
                exact st_yield ho (wanted_some rfl rfl h26 rfl) (.bool false) w6 (by simp [execOp, Act.eval, h27, go_sem, h0]) ⟨_, rfl, Below.refl _ _, by rintro t' ⟨⟩; rfl⟩
              | 19, ho =>
                obtain rfl := Option.some.inj ho
                obtain ⟨_, h28, rfl⟩ := given_fed hg 28 (by decide +kernel)
                obtain ⟨_, h26, rfl⟩ := given_fed hg 26 (by decide +kernel)
                clear hg
                exact st_yield ho (wanted_some rfl rfl h26 rfl) (.bool false) w6 (by simp [execOp, Act.eval, h28, go_sem]) ⟨_, rfl, Below.refl _ _, by rintro t' ⟨⟩; rfl⟩
              | 20, ho =>
                obtain rfl := Option.some.inj ho
                obtain ⟨_, h29, rfl⟩ := given_fed hg 29 (by decide +kernel)
                clear hg
                exact st_skip ho (wanted_not rfl rfl h29 (by decide)) ⟨_, rfl, Below.refl _ _, by rintro t' ⟨⟩; rfl⟩
              | 21, ho =>
                obtain rfl := Option.some.inj ho
                obtain ⟨_, h29, rfl⟩ := given_fed hg 29 (by decide +kernel)
                clear hg
                exact st_skip ho (wanted_not rfl rfl h29 (by decide)) ⟨_, rfl, Below.refl _ _, by rintro t' ⟨⟩; rfl⟩
              | 22, ho =>
                obtain rfl := Option.some.inj ho
                obtain ⟨_, h29, rfl⟩ := given_fed hg 29 (by decide +kernel)
                clear hg
                exact st_skip ho (wanted_not rfl rfl h29 (by decide)) ⟨_, rfl, Below.refl _ _, by rintro t' ⟨⟩; rfl⟩
              | 23, ho =>
                obtain rfl := Option.some.inj ho
                obtain ⟨_, h29, rfl⟩ := given_fed hg 29 (by decide +kernel)
                clear hg
                exact st_skip ho (wanted_not rfl rfl h29 (by decide)) ⟨_, rfl, Below.refl _ _, by rintro t' ⟨⟩; rfl⟩
              | 24, ho =>
                obtain rfl := Option.some.inj ho
                obtain ⟨_, h29, rfl⟩ := given_fed hg 29 (by decide +kernel)
                clear hg
                exact st_skip ho (wanted_not rfl rfl h29 (by decide)) ⟨_, rfl, Below.refl _ _, by rintro t' ⟨⟩; rfl⟩
              | 25, ho =>
                obtain rfl := Option.some.inj ho
                obtain ⟨_, h29, rfl⟩ := given_fed hg 29 (by decide +kernel)
                clear hg
                exact st_skip ho (wanted_not rfl rfl h29 (by decide)) ⟨_, rfl, Below.refl _ _, by rintro t' ⟨⟩; rfl⟩
              | 26, ho =>
                obtain rfl := Option.some.inj ho
                obtain ⟨_, h29, rfl⟩ := given_fed hg 29 (by decide +kernel)
                clear hg
                exact st_skip ho (wanted_not rfl rfl h29 (by decide)) ⟨_, rfl, Below.refl _ _, by rintro t' ⟨⟩; rfl⟩
              | 27, ho =>
                obtain rfl := Option.some.inj ho
                obtain ⟨_, h29, rfl⟩ := given_fed hg 29 (by decide +kernel)
                clear hg
                exact st_skip ho (wanted_not rfl rfl h29 (by decide)) ⟨_, rfl, Below.refl _ _, by rintro t' ⟨⟩; rfl⟩
              | 28, ho =>
                obtain rfl := Option.some.inj ho
                obtain ⟨_, h29, rfl⟩ := given_fed hg 29 (by decide +kernel)
                clear hg
                exact st_skip ho (wanted_not rfl rfl h29 (by decide)) ⟨_, rfl, Below.refl _ _, by rintro t' ⟨⟩; rfl⟩
              | 29, ho =>
                obtain rfl := Option.some.inj ho
                obtain ⟨_, h29, rfl⟩ := given_fed hg 29 (by decide +kernel)
                clear hg
                exact st_skip ho (wanted_not rfl rfl h29 (by decide)) ⟨_, rfl, Below.refl _ _, by rintro t' ⟨⟩; rfl⟩
              | 30, ho =>
                obtain rfl := Option.some.inj ho
                obtain ⟨_, h29, rfl⟩ := given_fed hg 29 (by decide +kernel)
                clear hg
                exact st_skip ho (wanted_not rfl rfl h29 (by decide)) ⟨_, rfl, Below.refl _ _, by rintro t' ⟨⟩; rfl⟩
              | 31, ho =>
                obtain rfl := Option.some.inj ho
                obtain ⟨_, h29, rfl⟩ := given_fed hg 29 (by decide +kernel)
                clear hg
                exact st_skip ho (wanted_not rfl rfl h29 (by decide)) ⟨_, rfl, Below.refl _ _, by rintro t' ⟨⟩; rfl⟩
              | 32, ho =>
                obtain rfl := Option.some.inj ho
                obtain ⟨_, h29, rfl⟩ := given_fed hg 29 (by decide +kernel)
                clear hg
                exact st_skip ho (wanted_not rfl rfl h29 (by decide)) ⟨_, rfl, Below.refl _ _, by rintro t' ⟨⟩; rfl⟩
              | 33, ho =>
                obtain rfl := Option.some.inj ho
                obtain ⟨_, h29, rfl⟩ := given_fed hg 29 (by decide +kernel)
                obtain ⟨_, h42, rfl⟩ := given_fed hg 42 (by decide +kernel)
                obtain ⟨_, h26, rfl⟩ := given_fed hg 26 (by decide +kernel)
                clear hg
                exact st_yield ho (wanted_some rfl rfl h26 rfl) (.bool false) w6 (by simp [execOp, Act.eval, h29, h42, go_sem]) ⟨_, rfl, Below.refl _ _, by rintro t' ⟨⟩; rfl⟩
              | 34, ho =>
                obtain rfl := Option.some.inj ho
                obtain ⟨_, h26, rfl⟩ := given_fed hg 26 (by decide +kernel)
                obtain ⟨_, h43, rfl⟩ := given_fed hg 43 (by decide +kernel)
                clear hg
                exact st_yield ho (wanted_none rfl) (.bool false) w6 (by simp [execOp, Act.eval, h26, h43, go_sem]) ⟨_, rfl, Below.refl _ _, by rintro t' ⟨⟩; rfl⟩
              | n + 35, ho => simp at ho
            · intro f w6 hb6 hv'
              have h44 := hv' 44 (by decide)
              simp only [VPC] at h44
              clear hv'
              have hb7 := hb.trans (hb6.mono hb.size)
              unfold putAll
              simp only [List.foldl]
              simp only [h44]
              go_simp
              go_wp2_with fail
              go_roundw
              case rel => exact ⟨k + 1, by go_num, by omega, HI2, hb7⟩
              case measure => simp only [intOf]; omega
          · obtain ⟨px, P0, hpx, hp1⟩ := hpre.out (by omega)
            rw [hpx] at hok
            obtain ⟨q, hq⟩ : ∃ q, lessK px kx = q := ⟨_, rfl⟩
            have CL := Go.Lib.hid fun W => rless_c px kx q W hp1 hs1 hq
            rw [hq] at hok
            obtain ⟨j, hj⟩ : ∃ j, j = k - 1 := ⟨_, rfl⟩
            rw [← hj] at P0
            have hjw2 : (k : Int) - 1 = (j : Int) := by omega
            have hpos : 0 < k := by omega
            have hjw3 : IntKind.i64.wrap (j : Int) = (j : Int) := by rw [IntKind.wrap_i64]; omega
            have I2 := Go.Lib.hid (idx4 b os l.length cap j (by omega))
            have hok2 : Hid (okAt l k = q) := Go.Lib.hid (by rw [hok.out]; simp [h0])
            clear hok hpre hpx hp1 hq hs1 hs2 hj
            go_upto_region 4 with (fail)
            refine wp_region_each (by kernel_rfl) (VPD b os l.length cap k j kx px sx ax nx q) (VPD_below b os l.length cap k j kx px sx ax nx q) (by decide +kernel) (by decide +kernel) (by rfl) [10, 11, 12, 13, 14, 15, 16, 17, 18, 19, 20, 21, 22, 23, 24, 25, 26, 27, 28, 29, 30, 31, 32, 33, 34, 35, 36, 37, 38, 39, 40, 41, 42, 43, 44] (by rfl) ?_ ?_
            · intro i o ho a w6 hb6 hlen hg
              have d0 := (hb6.cell (p := ⟨b, os + k * 4, none⟩) hbl2).trans D0
              have d1 := (hb6.cell (p := ⟨b, os + k * 4 + 1, none⟩) hbl2).trans D1
              have d2 := (hb6.cell (p := ⟨b, os + k * 4 + 2, none⟩) hbl2).trans D2
              have d3 := (hb6.cell (p := ⟨b, os + k * 4 + 3, none⟩) hbl2).trans D3
              have p0 := (hb6.cell (p := ⟨b, os + j * 4, none⟩) hbl2).trans P0
              match i, ho with
              | 0, ho =>
                obtain rfl := Option.some.inj ho
                have h0 := given_old hg 0 (by decide +kernel)
                clear hg
                exact st_yield ho (wanted_none rfl) (.slice (some ⟨b, os, none⟩) l.length cap) w6 (by simp [execOp, Act.eval, h0, go_sem]) ⟨_, rfl, Below.refl _ _, by rintro t' ⟨⟩; rfl⟩
              | 1, ho =>
                obtain rfl := Option.some.inj ho
                have h3 := given_old hg 3 (by decide +kernel)
                clear hg
                exact st_yield ho (wanted_none rfl) (.int .i64 (k : Int)) w6 (by simp [execOp, Act.eval, h3, go_sem]) ⟨_, rfl, Below.refl _ _, by rintro t' ⟨⟩; rfl⟩
              | 2, ho =>
                obtain rfl := Option.some.inj ho
                obtain ⟨_, h10, rfl⟩ := given_fed hg 10 (by decide +kernel)
                obtain ⟨_, h11, rfl⟩ := given_fed hg 11 (by decide +kernel)
                clear hg
                exact st_yield ho (wanted_none rfl) (.pointer (some ⟨b, os + k * 4, none⟩)) w6 (by simp [execOp, Act.eval, h10, h11, go_sem, I1.out w6]) ⟨_, rfl, Below.refl _ _, by rintro t' ⟨⟩; rfl⟩
              | 3, ho =>
                obtain rfl := Option.some.inj ho
                obtain ⟨_, h12, rfl⟩ := given_fed hg 12 (by decide +kernel)
                clear hg
                exact st_yield ho (wanted_none rfl) (.pointer (some ⟨b, os + k * 4, none⟩)) w6 (by simp [execOp, Act.eval, h12, go_sem]) ⟨_, rfl, Below.refl _ _, by rintro t' ⟨⟩; rfl⟩
              | 4, ho =>
                obtain rfl := Option.some.inj ho
                obtain ⟨_, h13, rfl⟩ := given_fed hg 13 (by decide +kernel)
                clear hg
                exact st_yield ho (wanted_none rfl) (.string kx) w6 (by simp [execOp, Act.eval, h13, go_sem, d0]) ⟨_, rfl, Below.refl _ _, by rintro t' ⟨⟩; rfl⟩
              | 5, ho =>
                obtain rfl := Option.some.inj ho
                obtain ⟨_, h14, rfl⟩ := given_fed hg 14 (by decide +kernel)
                clear hg
                exact st_enter (w1 := w6) ho (wanted_none rfl) 29 #[.string kx] (by simp [execOp, Act.eval, h14, resolve, go_sem]) ((CM.out w6).mono (by rintro e w7 ⟨rfl, hb7⟩; exact ⟨_, rfl, _, rfl, hb7, by rintro t' ⟨⟩; rfl⟩))
              | 6, ho =>
                obtain rfl := Option.some.inj ho
                obtain ⟨_, h15, rfl⟩ := given_fed hg 15 (by decide +kernel)
                clear hg
                exact st_yield ho (wanted_none rfl) (.bool false) w6 (by simp [execOp, Act.eval, h15, go_sem]) ⟨_, rfl, Below.refl _ _, by rintro t' ⟨⟩; rfl⟩
              | 7, ho =>
                obtain rfl := Option.some.inj ho
                obtain ⟨_, h16, rfl⟩ := given_fed hg 16 (by decide +kernel)
                clear hg
                exact st_yield ho (wanted_none rfl) (.bool false) w6 (by simp [execOp, Act.eval, h16, go_sem]) ⟨_, rfl, Below.refl _ _, by rintro t' ⟨⟩; rfl⟩
              | 8, ho =>
                obtain rfl := Option.some.inj ho
                have h0 := given_old hg 0 (by decide +kernel)
                obtain ⟨_, h17, rfl⟩ := given_fed hg 17 (by decide +kernel)
                clear hg
                exact st_yield ho (wanted_some rfl rfl h17 rfl) (.slice (some ⟨b, os, none⟩) l.length cap) w6 (by simp [execOp, Act.eval, h0, go_sem]) ⟨_, rfl, Below.refl _ _, by rintro t' ⟨⟩; rfl⟩
              | 9, ho =>
                obtain rfl := Option.some.inj ho
                have h3 := given_old hg 3 (by decide +kernel)
                obtain ⟨_, h17, rfl⟩ := given_fed hg 17 (by decide +kernel)
                clear hg
                exact st_yield ho (wanted_some rfl rfl h17 rfl) (.int .i64 (k : Int)) w6 (by simp [execOp, Act.eval, h3, go_sem]) ⟨_, rfl, Below.refl _ _, by rintro t' ⟨⟩; rfl⟩
              | 10, ho =>
                obtain rfl := Option.some.inj ho
                obtain ⟨_, h18, rfl⟩ := given_fed hg 18 (by decide +kernel)
                obtain ⟨_, h19, rfl⟩ := given_fed hg 19 (by decide +kernel)
                obtain ⟨_, h17, rfl⟩ := given_fed hg 17 (by decide +kernel)
                clear hg
                exact st_yield ho (wanted_some rfl rfl h17 rfl) (.pointer (some ⟨b, os + k * 4, none⟩)) w6 (by simp [execOp, Act.eval, h18, h19, go_sem, I1.out w6]) ⟨_, rfl, Below.refl _ _, by rintro t' ⟨⟩; rfl⟩
              | 11, ho =>
                obtain rfl := Option.some.inj ho
                obtain ⟨_, h20, rfl⟩ := given_fed hg 20 (by decide +kernel)
                obtain ⟨_, h17, rfl⟩ := given_fed hg 17 (by decide +kernel)
                clear hg
                exact st_yield ho (wanted_some rfl rfl h17 rfl) (.pointer (some ⟨b, os + k * 4 + 1, none⟩)) w6 (by simp [execOp, Act.eval, h20, go_sem]) ⟨_, rfl, Below.refl _ _, by rintro t' ⟨⟩; rfl⟩
              | 12, ho =>
                obtain rfl := Option.some.inj ho
                obtain ⟨_, h21, rfl⟩ := given_fed hg 21 (by decide +kernel)
                obtain ⟨_, h17, rfl⟩ := given_fed hg 17 (by decide +kernel)
                clear hg
                exact st_yield ho (wanted_some rfl rfl h17 rfl) (.agg #[.int .i64 ax, .int .i64 nx, .string sx]) w6 (by simp [execOp, Act.eval, h21, go_sem, d1, d2, d3]) ⟨_, rfl, Below.refl _ _, by rintro t' ⟨⟩; rfl⟩
              | 13, ho =>
                obtain rfl := Option.some.inj ho
                obtain ⟨_, h22, rfl⟩ := given_fed hg 22 (by decide +kernel)
                obtain ⟨_, h17, rfl⟩ := given_fed hg 17 (by decide +kernel)
                clear hg
                exact st_enter (w1 := w6) ho (wanted_some rfl rfl h17 rfl) 30 #[.agg #[.int .i64 ax, .int .i64 nx, .string sx]] (by simp [execOp, Act.eval, h22, resolve, go_sem]) ((CV.out w6).mono (by rintro e w7 ⟨rfl, hb7⟩; exact ⟨_, rfl, _, rfl, hb7, by rintro t' ⟨⟩; rfl⟩))
              | 14, ho =>
                obtain rfl := Option.some.inj ho
                obtain ⟨_, h23, rfl⟩ := given_fed hg 23 (by decide +kernel)
                obtain ⟨_, h17, rfl⟩ := given_fed hg 17 (by decide +kernel)
                clear hg
                exact st_yield ho (wanted_some rfl rfl h17 rfl) (.bool false) w6 (by simp [execOp, Act.eval, h23, go_sem]) ⟨_, rfl, Below.refl _ _, by rintro t' ⟨⟩; rfl⟩
              | 15, ho =>
                obtain rfl := Option.some.inj ho
                obtain ⟨_, h17, rfl⟩ := given_fed hg 17 (by decide +kernel)
                obtain ⟨_, h24, rfl⟩ := given_fed hg 24 (by decide +kernel)
                clear hg
                exact st_yield ho (wanted_none rfl) (.bool false) w6 (by simp [execOp, Act.eval, h17, h24, go_sem]) ⟨_, rfl, Below.refl _ _, by rintro t' ⟨⟩; rfl⟩
              | 16, ho =>
                obtain rfl := Option.some.inj ho
                obtain ⟨_, h25, rfl⟩ := given_fed hg 25 (by decide +kernel)
                clear hg
                exact st_yield ho (wanted_none rfl) (.bool false) w6 (by simp [execOp, Act.eval, h25, go_sem]) ⟨_, rfl, Below.refl _ _, by rintro t' ⟨⟩; rfl⟩
              | 17, ho =>
                obtain rfl := Option.some.inj ho
                have h3 := given_old hg 3 (by decide +kernel)
                obtain ⟨_, h26, rfl⟩ := given_fed hg 26 (by decide +kernel)
                clear hg
                exact st_yield ho (wanted_some rfl rfl h26 rfl) (.int .i64 (k : Int)) w6 (by simp [execOp, Act.eval, h3, go_sem]) ⟨_, rfl, Below.refl _ _, by rintro t' ⟨⟩; rfl⟩
              | 18, ho =>
                obtain rfl := Option.some.inj ho
                obtain ⟨_, h27, rfl⟩ := given_fed hg 27 (by decide +kernel)
                obtain ⟨_, h26, rfl⟩ := given_fed hg 26 (by decide +kernel)
                clear hg
                exact st_yield ho (wanted_some rfl rfl h26 rfl) (.bool true) w6 (by simp [execOp, Act.eval, h27, go_sem, hpos]) ⟨_, rfl, Below.refl _ _, by rintro t' ⟨⟩; rfl⟩
              | 19, ho =>
                obtain rfl := Option.some.inj ho
                obtain ⟨_, h28, rfl⟩ := given_fed hg 28 (by decide +kernel)
                obtain ⟨_, h26, rfl⟩ := given_fed hg 26 (by decide +kernel)
                clear hg
                exact st_yield ho (wanted_some rfl rfl h26 rfl) (.bool true) w6 (by simp [execOp, Act.eval, h28, go_sem]) ⟨_, rfl, Below.refl _ _, by rintro t' ⟨⟩; rfl⟩
              | 20, ho =>
                obtain rfl := Option.some.inj ho
                have h0 := given_old hg 0 (by decide +kernel)
                obtain ⟨_, h29, rfl⟩ := given_fed hg 29 (by decide +kernel)
                clear hg
                exact st_yield ho (wanted_some rfl rfl h29 rfl) (.slice (some ⟨b, os, none⟩) l.length cap) w6 (by simp [execOp, Act.eval, h0, go_sem]) ⟨_, rfl, Below.refl _ _, by rintro t' ⟨⟩; rfl⟩
              | 21, ho =>
                obtain rfl := Option.some.inj ho
                have h3 := given_old hg 3 (by decide +kernel)
                obtain ⟨_, h29, rfl⟩ := given_fed hg 29 (by decide +kernel)
                clear hg
                exact st_yield ho (wanted_some rfl rfl h29 rfl) (.int .i64 (k : Int)) w6 (by simp [execOp, Act.eval, h3, go_sem]) ⟨_, rfl, Below.refl _ _, by rintro t' ⟨⟩; rfl⟩
              | 22, ho =>
                obtain rfl := Option.some.inj ho
                obtain ⟨_, h31, rfl⟩ := given_fed hg 31 (by decide +kernel)
                obtain ⟨_, h29, rfl⟩ := given_fed hg 29 (by decide +kernel)
                clear hg
                exact st_yield ho (wanted_some rfl rfl h29 rfl) (.int .i64 (j : Int)) w6 (by simp [execOp, Act.eval, h31, go_sem, hjw2, hjw3]) ⟨_, rfl, Below.refl _ _, by rintro t' ⟨⟩; rfl⟩
              | 23, ho =>
                obtain rfl := Option.some.inj ho
                obtain ⟨_, h30, rfl⟩ := given_fed hg 30 (by decide +kernel)
                obtain ⟨_, h32, rfl⟩ := given_fed hg 32 (by decide +kernel)
                obtain ⟨_, h29, rfl⟩ := given_fed hg 29 (by decide +kernel)
                clear hg
                exact st_yield ho (wanted_some rfl rfl h29 rfl) (.pointer (some ⟨b, os + j * 4, none⟩)) w6 (by simp [execOp, Act.eval, h30, h32, go_sem, I2.out w6]) ⟨_, rfl, Below.refl _ _, by rintro t' ⟨⟩; rfl⟩
              | 24, ho =>
                obtain rfl := Option.some.inj ho
                obtain ⟨_, h33, rfl⟩ := given_fed hg 33 (by decide +kernel)
                obtain ⟨_, h29, rfl⟩ := given_fed hg 29 (by decide +kernel)
                clear hg
                exact st_yield ho (wanted_some rfl rfl h29 rfl) (.pointer (some ⟨b, os + j * 4, none⟩)) w6 (by simp [execOp, Act.eval, h33, go_sem]) ⟨_, rfl, Below.refl _ _, by rintro t' ⟨⟩; rfl⟩
              | 25, ho =>
                obtain rfl := Option.some.inj ho
                obtain ⟨_, h34, rfl⟩ := given_fed hg 34 (by decide +kernel)
                obtain ⟨_, h29, rfl⟩ := given_fed hg 29 (by decide +kernel)
                clear hg
                exact st_yield ho (wanted_some rfl rfl h29 rfl) (.string px) w6 (by simp [execOp, Act.eval, h34, go_sem, p0]) ⟨_, rfl, Below.refl _ _, by rintro t' ⟨⟩; rfl⟩
              | 26, ho =>
                obtain rfl := Option.some.inj ho
                have h0 := given_old hg 0 (by decide +kernel)
                obtain ⟨_, h29, rfl⟩ := given_fed hg 29 (by decide +kernel)
                clear hg
                exact st_yield ho (wanted_some rfl rfl h29 rfl) (.slice (some ⟨b, os, none⟩) l.length cap) w6 (by simp [execOp, Act.eval, h0, go_sem]) ⟨_, rfl, Below.refl _ _, by rintro t' ⟨⟩; rfl⟩
              | 27, ho =>
                obtain rfl := Option.some.inj ho
                have h3 := given_old hg 3 (by decide +kernel)
                obtain ⟨_, h29, rfl⟩ := given_fed hg 29 (by decide +kernel)
                clear hg
                exact st_yield ho (wanted_some rfl rfl h29 rfl) (.int .i64 (k : Int)) w6 (by simp [execOp, Act.eval, h3, go_sem]) ⟨_, rfl, Below.refl _ _, by rintro t' ⟨⟩; rfl⟩
              | 28, ho =>
                obtain rfl := Option.some.inj ho
                obtain ⟨_, h36, rfl⟩ := given_fed hg 36 (by decide +kernel)
                obtain ⟨_, h37, rfl⟩ := given_fed hg 37 (by decide +kernel)
                obtain ⟨_, h29, rfl⟩ := given_fed hg 29 (by decide +kernel)
                clear hg
                exact st_yield ho (wanted_some rfl rfl h29 rfl) (.pointer (some ⟨b, os + k * 4, none⟩)) w6 (by simp [execOp, Act.eval, h36, h37, go_sem, I1.out w6]) ⟨_, rfl, Below.refl _ _, by rintro t' ⟨⟩; rfl⟩
              | 29, ho =>
                obtain rfl := Option.some.inj ho
                obtain ⟨_, h38, rfl⟩ := given_fed hg 38 (by decide +kernel)
                obtain ⟨_, h29, rfl⟩ := given_fed hg 29 (by decide +kernel)
                clear hg
                exact st_yield ho (wanted_some rfl rfl h29 rfl) (.pointer (some ⟨b, os + k * 4, none⟩)) w6 (by simp [execOp, Act.eval, h38, go_sem]) ⟨_, rfl, Below.refl _ _, by rintro t' ⟨⟩; rfl⟩
              | 30, ho =>
                obtain rfl := Option.some.inj ho
                obtain ⟨_, h39, rfl⟩ := given_fed hg 39 (by decide +kernel)
                obtain ⟨_, h29, rfl⟩ := given_fed hg 29 (by decide +kernel)
                clear hg
                exact st_yield ho (wanted_some rfl rfl h29 rfl) (.string kx) w6 (by simp [execOp, Act.eval, h39, go_sem, d0]) ⟨_, rfl, Below.refl _ _, by rintro t' ⟨⟩; rfl⟩
              | 31, ho =>
                obtain rfl := Option.some.inj ho
                obtain ⟨_, h35, rfl⟩ := given_fed hg 35 (by decide +kernel)
                obtain ⟨_, h40, rfl⟩ := given_fed hg 40 (by decide +kernel)
                obtain ⟨_, h29, rfl⟩ := given_fed hg 29 (by decide +kernel)
                clear hg
                exact st_enter (w1 := w6) ho (wanted_some rfl rfl h29 rfl) 20 #[.string px, .string kx] (by simp [execOp, Act.eval, h35, h40, resolve, go_sem]) ((CL.out w6).mono (by rintro e w7 ⟨rfl, hb7⟩; exact ⟨_, rfl, _, rfl, hb7, by rintro t' ⟨⟩; rfl⟩))
              | 32, ho =>
                obtain rfl := Option.some.inj ho
                obtain ⟨_, h41, rfl⟩ := given_fed hg 41 (by decide +kernel)
                obtain ⟨_, h29, rfl⟩ := given_fed hg 29 (by decide +kernel)
                clear hg
                exact st_yield ho (wanted_some rfl rfl h29 rfl) (.bool (!q)) w6 (by simp [execOp, Act.eval, h41, go_sem]) ⟨_, rfl, Below.refl _ _, by rintro t' ⟨⟩; rfl⟩
              | 33, ho =>
                obtain rfl := Option.some.inj ho
                obtain ⟨_, h29, rfl⟩ := given_fed hg 29 (by decide +kernel)
                obtain ⟨_, h42, rfl⟩ := given_fed hg 42 (by decide +kernel)
                obtain ⟨_, h26, rfl⟩ := given_fed hg 26 (by decide +kernel)
                clear hg
                exact st_yield ho (wanted_some rfl rfl h26 rfl) (.bool (!q)) w6 (by simp [execOp, Act.eval, h29, h42, go_sem]) ⟨_, rfl, Below.refl _ _, by rintro t' ⟨⟩; rfl⟩
              | 34, ho =>
                obtain rfl := Option.some.inj ho
                obtain ⟨_, h26, rfl⟩ := given_fed hg 26 (by decide +kernel)
                obtain ⟨_, h43, rfl⟩ := given_fed hg 43 (by decide +kernel)
                clear hg
                exact st_yield ho (wanted_none rfl) (.bool (!q)) w6 (by simp [execOp, Act.eval, h26, h43, go_sem]) ⟨_, rfl, Below.refl _ _, by rintro t' ⟨⟩; rfl⟩
              | n + 35, ho => simp at ho
            · intro f w6 hb6 hv'
              have h44 := hv' 44 (by decide)
              simp only [VPD] at h44
              clear hv'
              have hb7 := hb.trans (hb6.mono hb.size)
              unfold putAll
              simp only [List.foldl]
              simp only [h44]
              go_simp
              cases q with
              | true =>
                have HI2 : Hid (∀ j, j < k + 1 → okAt l j = true) := Go.Lib.hid fun j hj => by
                  rcases Nat.lt_or_ge j k with h | h
                  · exact HI.out j h
                  · obtain rfl : j = k := by omega
                    exact hok2.out
                clear hno hok2 HI
                go_wp2_with fail
                go_roundw
                case rel => exact ⟨k + 1, by go_num, by omega, HI2, hb7⟩
                case measure => simp only [intOf]; omega
              | false =>
                have hf : t = false := hno.out hok2.out
                subst hf
                clear hno hok2 HI
                go_wp2_with fail
                go_ret
                exact ⟨rfl, hb7⟩
    · obtain rfl : k = l.length := by omega
      have htt : t = decide (l.length ≤ 1000) := by
        rw [← HT.out, Bool.eq_iff_iff, mayP_iff, decide_eq_true_eq]
        exact ⟨fun h => h.2, fun h => ⟨HI.out, h⟩⟩
      subst htt
      clear HT HI
      have hd : decide ((l.length : Int) ≤ 1000) = decide (l.length ≤ 1000) := decide_eq_decide.2 (by omega)
      go_wp2_with fail
      go_ret
      exact ⟨ret_of (congrArg Value.bool (by first | exact hd | rfl | simp)), hb⟩

end Go.Proofs.Ytibbligidncocaa
