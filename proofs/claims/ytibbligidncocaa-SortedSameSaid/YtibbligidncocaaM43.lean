/-
  The reference's EqPairs.
-/
import Derived.Test.YtibbligidncocaaM16
import Derived.Test.YtibbligidncocaaM10
import Derived.Test.YtibbligidncocaaM17
namespace Go.Proofs.Ytibbligidncocaa
open Go.RowKit

/-- A pair, whatever a record would say beside it. -/
def unG (x : RecT) : ByteArray × Int × Int × ByteArray := (x.1, x.2.2.1, x.2.2.2.1, x.2.2.2.2)
theorem unG_eq {x y : RecT} : unG x = unG y ↔ x.1 = y.1 ∧ x.2.2.1 = y.2.2.1 ∧ x.2.2.2.1 = y.2.2.2.1 ∧ x.2.2.2.2 = y.2.2.2.2 := by
  unfold unG
  simp only [Prod.mk.injEq]

def VEA (b os n cap g og m cup k : Nat) (kx ky _sx _sy : ByteArray) (_ax _nx _ay _ny : Int) (_q : Bool) : Nat → World → Value → Prop
  | 17, _, v => v = .slice (some ⟨b, os, none⟩) n cap
  | 18, _, v => v = .int .i64 (k : Int)
  | 19, _, v => v = .pointer (some ⟨b, os + k * 4, none⟩)
  | 20, _, v => v = .pointer (some ⟨b, os + k * 4, none⟩)
  | 21, _, v => v = .string kx
  | 22, _, v => v = .slice (some ⟨g, og, none⟩) m cup
  | 23, _, v => v = .int .i64 (k : Int)
  | 24, _, v => v = .pointer (some ⟨g, og + k * 4, none⟩)
  | 25, _, v => v = .pointer (some ⟨g, og + k * 4, none⟩)
  | 26, _, v => v = .string ky
  | 27, _, v => v = .bool true
  | 28, _, v => v = .bool true
  | 29, _, v => v = undef
  | 30, _, v => v = undef
  | 31, _, v => v = undef
  | 32, _, v => v = undef
  | 33, _, v => v = undef
  | 34, _, v => v = undef
  | 35, _, v => v = undef
  | 36, _, v => v = undef
  | 37, _, v => v = undef
  | 38, _, v => v = undef
  | 39, _, v => v = undef
  | 40, _, v => v = undef
  | 41, _, v => v = .bool true
  | _, _, _ => True

theorem VEA_below (b os n cap g og m cup k : Nat) (kx ky sx sy : ByteArray) (ax nx ay ny : Int) (q : Bool) : ∀ (i : Nat) (w w' : World) (v : Value), VEA b os n cap g og m cup k kx ky sx sy ax nx ay ny q i w v → Below w.heap.size w w' → VEA b os n cap g og m cup k kx ky sx sy ax nx ay ny q i w' v := by
  intro i w w' v h hb
  unfold VEA at h ⊢
  split at h <;> first | exact h | trivial | exact RB.below h hb | exact Own.below h hb | exact OwnV.below h hb | exact OwnRec.below h hb | exact Lay.R.below h hb

def VEB (b os n cap g og m cup k : Nat) (kx ky sx sy : ByteArray) (ax nx ay ny : Int) (q : Bool) : Nat → World → Value → Prop
  | 17, _, v => v = .slice (some ⟨b, os, none⟩) n cap
  | 18, _, v => v = .int .i64 (k : Int)
  | 19, _, v => v = .pointer (some ⟨b, os + k * 4, none⟩)
  | 20, _, v => v = .pointer (some ⟨b, os + k * 4, none⟩)
  | 21, _, v => v = .string kx
  | 22, _, v => v = .slice (some ⟨g, og, none⟩) m cup
  | 23, _, v => v = .int .i64 (k : Int)
  | 24, _, v => v = .pointer (some ⟨g, og + k * 4, none⟩)
  | 25, _, v => v = .pointer (some ⟨g, og + k * 4, none⟩)
  | 26, _, v => v = .string ky
  | 27, _, v => v = .bool false
  | 28, _, v => v = .bool false
  | 29, _, v => v = .slice (some ⟨b, os, none⟩) n cap
  | 30, _, v => v = .int .i64 (k : Int)
  | 31, _, v => v = .pointer (some ⟨b, os + k * 4, none⟩)
  | 32, _, v => v = .pointer (some ⟨b, os + k * 4 + 1, none⟩)
  | 33, _, v => v = .agg #[.int .i64 ax, .int .i64 nx, .string sx]
  | 34, _, v => v = .slice (some ⟨g, og, none⟩) m cup
  | 35, _, v => v = .int .i64 (k : Int)
  | 36, _, v => v = .pointer (some ⟨g, og + k * 4, none⟩)
  | 37, _, v => v = .pointer (some ⟨g, og + k * 4 + 1, none⟩)
  | 38, _, v => v = .agg #[.int .i64 ay, .int .i64 ny, .string sy]
  | 39, _, v => v = .bool q
  | 40, _, v => v = .bool (!q)
  | 41, _, v => v = .bool (!q)
  | _, _, _ => True

theorem VEB_below (b os n cap g og m cup k : Nat) (kx ky sx sy : ByteArray) (ax nx ay ny : Int) (q : Bool) : ∀ (i : Nat) (w w' : World) (v : Value), VEB b os n cap g og m cup k kx ky sx sy ax nx ay ny q i w v → Below w.heap.size w w' → VEB b os n cap g og m cup k kx ky sx sy ax nx ay ny q i w' v := by
  intro i w w' v h hb
  unfold VEB at h ⊢
  split at h <;> first | exact h | trivial | exact RB.below h hb | exact Own.below h hb | exact OwnV.below h hb | exact OwnRec.below h hb | exact Lay.R.below h hb

set_option maxHeartbeats 2000000 in
set_option maxRecDepth 100000 in
theorem reqpairs_c (u v : Value) (l m : List RecT) (t : Bool) (w : World) (hu : K4.R w u l) (hv : K4.R w v m) (ht : t = true ↔ l.map unG = m.map unG) :
    Calls Try.prog 37 #[u, v] w fun e w' => e = .returned (.bool t) ∧ Below w.heap.size w w' := by
  obtain ⟨a1, cap1, rfl, hm1⟩ := hu.form
  obtain ⟨a2, cap2, rfl, hm2⟩ := hv.form
  have HU := Go.Lib.hid hu
  have HV := Go.Lib.hid hv
  have HT := Go.Lib.hid ht
  clear hu hv ht
  by_cases hl : l.length = m.length
  · have Hl := Go.Lib.hid hl
    have hlb : ((l.length : Int) != (m.length : Int)) = false := by simp [hl]
    go_enter Try.func37, Try.ntmps37
    go_wp2_with fail
    clear hlb hl
    go_loopw [5] (fun i' wr => ∃ k : Nat, i' = .int .i64 (k : Int) ∧ k ≤ l.length ∧ Hid ((l.take k).map unG = (m.take k).map unG) ∧ Below w.heap.size w wr) (fun i' _ => l.length - (intOf i').toNat)
    case atStart => exact ⟨0, rfl, by omega, Go.Lib.hid (by simp), Below.refl _ _⟩
    case round =>
      obtain ⟨k, rfl, hk, HE, hb⟩ := hrel
      by_cases hlt : k < l.length
      · have hlt2 : k < m.length := by have := Hl.out; omega
        obtain ⟨b, os, rfl, -, hbl, c0, c1, c2, c3⟩ := K4.at' HU.out k hlt
        obtain ⟨g, og, rfl, -, hgl, d0, d1, d2, d3⟩ := K4.at' HV.out k hlt2
        have A0 := (hb.cell (p := ⟨b, os + k * 4, none⟩) hbl).trans c0
        have A1 := (hb.cell (p := ⟨b, os + k * 4 + 1, none⟩) hbl).trans c1
        have A2 := (hb.cell (p := ⟨b, os + k * 4 + 2, none⟩) hbl).trans c2
        have A3 := (hb.cell (p := ⟨b, os + k * 4 + 3, none⟩) hbl).trans c3
        have B0 := (hb.cell (p := ⟨g, og + k * 4, none⟩) hgl).trans d0
        have B1 := (hb.cell (p := ⟨g, og + k * 4 + 1, none⟩) hgl).trans d1
        have B2 := (hb.cell (p := ⟨g, og + k * 4 + 2, none⟩) hgl).trans d2
        have B3 := (hb.cell (p := ⟨g, og + k * 4 + 3, none⟩) hgl).trans d3
        have hbl2 : b < wr.heap.size := Nat.lt_of_lt_of_le hbl hb.size
        have hgl2 : g < wr.heap.size := Nat.lt_of_lt_of_le hgl hb.size
        have I1 := Go.Lib.hid (idx4 b os l.length cap1 k hlt)
        have I2 := Go.Lib.hid (idx4 g og m.length cap2 k hlt2)
        have hgo : Hid (unG l[k] = unG m[k] → (l.take (k + 1)).map unG = (m.take (k + 1)).map unG) := Go.Lib.hid fun e => by
          rw [List.take_succ_eq_append_getElem hlt, List.take_succ_eq_append_getElem hlt2, List.map_append, List.map_append, HE.out, List.map_singleton, List.map_singleton, e]
        have hno : Hid (unG l[k] ≠ unG m[k] → t = false) := Go.Lib.hid fun e => by
          cases t with
          | false => rfl
          | true =>
            exfalso
            apply e
            have h1 := HT.out.1 rfl
            have h2 := congrArg (fun z => z[k]?) h1
            simp only [List.getElem?_map, List.getElem?_eq_getElem hlt, List.getElem?_eq_getElem hlt2, Option.map_some, Option.some.injEq] at h2
            exact h2
        generalize l[k] = x at *
        generalize m[k] = y at *
        obtain ⟨kx, gx, ax, nx, sx⟩ := x
        obtain ⟨ky, gy, ay, ny, sy⟩ := y
        simp only [] at A0 A1 A2 A3 B0 B1 B2 B3
        rw [unG_eq] at hgo
        have hno2 : Hid (¬ (kx = ky ∧ ax = ay ∧ nx = ny ∧ sx = sy) → t = false) := Go.Lib.hid fun e => hno.out fun h => e (unG_eq.1 h)
        simp only [] at hgo
        have CE := fun W => eqval_c ax nx sx ay ny sy W
        obtain ⟨q, hq⟩ : ∃ q, eqR ax nx sx ay ny sy = q := ⟨_, rfl⟩
        rw [hq] at CE
        unfold rawV at CE
        have CE := Go.Lib.hid CE
        clear c0 c1 c2 c3 d0 d1 d2 d3 hno HE
        by_cases hkk : kx.toList = ky.toList
        · have hne : (kx.toList != ky.toList) = false := by simp [hkk]
          have hkxy : Hid (kx = ky) := Go.Lib.hid (toList_inj hkk)
          have Hq := Go.Lib.hid hq
          have hkk2 := Go.Lib.hid hkk
          clear hq hkk
          go_upto_region 6 with (fail)
          refine wp_region_each (by kernel_rfl) (VEB b os l.length cap1 g og m.length cap2 k kx ky sx sy ax nx ay ny q) (VEB_below b os l.length cap1 g og m.length cap2 k kx ky sx sy ax nx ay ny q) (by decide +kernel) (by decide +kernel) (by rfl) [17, 18, 19, 20, 21, 22, 23, 24, 25, 26, 27, 28, 29, 30, 31, 32, 33, 34, 35, 36, 37, 38, 39, 40, 41] (by rfl) ?_ ?_
          · intro i o ho a w6 hb6 hlen hg
            have a0 := (hb6.cell (p := ⟨b, os + k * 4, none⟩) hbl2).trans A0
            have b0 := (hb6.cell (p := ⟨g, og + k * 4, none⟩) hgl2).trans B0
            have a1 := (hb6.cell (p := ⟨b, os + k * 4 + 1, none⟩) hbl2).trans A1
            have b1 := (hb6.cell (p := ⟨g, og + k * 4 + 1, none⟩) hgl2).trans B1
            have a2 := (hb6.cell (p := ⟨b, os + k * 4 + 2, none⟩) hbl2).trans A2
            have b2 := (hb6.cell (p := ⟨g, og + k * 4 + 2, none⟩) hgl2).trans B2
            have a3 := (hb6.cell (p := ⟨b, os + k * 4 + 3, none⟩) hbl2).trans A3
            have b3 := (hb6.cell (p := ⟨g, og + k * 4 + 3, none⟩) hgl2).trans B3
            match i, ho with
            | 0, ho =>
              obtain rfl := Option.some.inj ho
              have h0 := given_old hg 0 (by decide +kernel)
              clear hg
              exact st_yield ho (wanted_none rfl) (.slice (some ⟨b, os, none⟩) l.length cap1) w6 (by simp [execOp, Act.eval, h0, go_sem]) ⟨_, rfl, Below.refl _ _, by rintro t' ⟨⟩; rfl⟩
            | 1, ho =>
              obtain rfl := Option.some.inj ho
              have h5 := given_old hg 5 (by decide +kernel)
              clear hg
              exact st_yield ho (wanted_none rfl) (.int .i64 (k : Int)) w6 (by simp [execOp, Act.eval, h5, go_sem]) ⟨_, rfl, Below.refl _ _, by rintro t' ⟨⟩; rfl⟩
            | 2, ho =>
              obtain rfl := Option.some.inj ho
              obtain ⟨_, h17, rfl⟩ := given_fed hg 17 (by decide +kernel)
              obtain ⟨_, h18, rfl⟩ := given_fed hg 18 (by decide +kernel)
              clear hg
              exact st_yield ho (wanted_none rfl) (.pointer (some ⟨b, os + k * 4, none⟩)) w6 (by simp [execOp, Act.eval, h17, h18, go_sem, I1.out w6]) ⟨_, rfl, Below.refl _ _, by rintro t' ⟨⟩; rfl⟩
            | 3, ho =>
              obtain rfl := Option.some.inj ho
              obtain ⟨_, h19, rfl⟩ := given_fed hg 19 (by decide +kernel)
              clear hg
              exact st_yield ho (wanted_none rfl) (.pointer (some ⟨b, os + k * 4, none⟩)) w6 (by simp [execOp, Act.eval, h19, go_sem]) ⟨_, rfl, Below.refl _ _, by rintro t' ⟨⟩; rfl⟩
            | 4, ho =>
              obtain rfl := Option.some.inj ho
              obtain ⟨_, h20, rfl⟩ := given_fed hg 20 (by decide +kernel)
              clear hg
              exact st_yield ho (wanted_none rfl) (.string kx) w6 (by simp [execOp, Act.eval, h20, go_sem, a0]) ⟨_, rfl, Below.refl _ _, by rintro t' ⟨⟩; rfl⟩
            | 5, ho =>
              obtain rfl := Option.some.inj ho
              have h1 := given_old hg 1 (by decide +kernel)
              clear hg
              exact st_yield ho (wanted_none rfl) (.slice (some ⟨g, og, none⟩) m.length cap2) w6 (by simp [execOp, Act.eval, h1, go_sem]) ⟨_, rfl, Below.refl _ _, by rintro t' ⟨⟩; rfl⟩
            | 6, ho =>
              obtain rfl := Option.some.inj ho
              have h5 := given_old hg 5 (by decide +kernel)
              clear hg
              exact st_yield ho (wanted_none rfl) (.int .i64 (k : Int)) w6 (by simp [execOp, Act.eval, h5, go_sem]) ⟨_, rfl, Below.refl _ _, by rintro t' ⟨⟩; rfl⟩
            | 7, ho =>
              obtain rfl := Option.some.inj ho
              obtain ⟨_, h22, rfl⟩ := given_fed hg 22 (by decide +kernel)
              obtain ⟨_, h23, rfl⟩ := given_fed hg 23 (by decide +kernel)
              clear hg
              exact st_yield ho (wanted_none rfl) (.pointer (some ⟨g, og + k * 4, none⟩)) w6 (by simp [execOp, Act.eval, h22, h23, go_sem, I2.out w6]) ⟨_, rfl, Below.refl _ _, by rintro t' ⟨⟩; rfl⟩
            | 8, ho =>
              obtain rfl := Option.some.inj ho
              obtain ⟨_, h24, rfl⟩ := given_fed hg 24 (by decide +kernel)
              clear hg
              exact st_yield ho (wanted_none rfl) (.pointer (some ⟨g, og + k * 4, none⟩)) w6 (by simp [execOp, Act.eval, h24, go_sem]) ⟨_, rfl, Below.refl _ _, by rintro t' ⟨⟩; rfl⟩
            | 9, ho =>
              obtain rfl := Option.some.inj ho
              obtain ⟨_, h25, rfl⟩ := given_fed hg 25 (by decide +kernel)
              clear hg
              exact st_yield ho (wanted_none rfl) (.string ky) w6 (by simp [execOp, Act.eval, h25, go_sem, b0]) ⟨_, rfl, Below.refl _ _, by rintro t' ⟨⟩; rfl⟩
            | 10, ho =>
              obtain rfl := Option.some.inj ho
              obtain ⟨_, h21, rfl⟩ := given_fed hg 21 (by decide +kernel)
              obtain ⟨_, h26, rfl⟩ := given_fed hg 26 (by decide +kernel)
              clear hg
              exact st_yield ho (wanted_none rfl) (.bool false) w6 (by simp [execOp, Act.eval, h21, h26, go_sem, hkk2.out]) ⟨_, rfl, Below.refl _ _, by rintro t' ⟨⟩; rfl⟩
            | 11, ho =>
              obtain rfl := Option.some.inj ho
              obtain ⟨_, h27, rfl⟩ := given_fed hg 27 (by decide +kernel)
              clear hg
              exact st_yield ho (wanted_none rfl) (.bool false) w6 (by simp [execOp, Act.eval, h27, go_sem]) ⟨_, rfl, Below.refl _ _, by rintro t' ⟨⟩; rfl⟩
            | 12, ho =>
              obtain rfl := Option.some.inj ho
              have h0 := given_old hg 0 (by decide +kernel)
              obtain ⟨_, h28, rfl⟩ := given_fed hg 28 (by decide +kernel)
              clear hg
              exact st_yield ho (wanted_some rfl rfl h28 rfl) (.slice (some ⟨b, os, none⟩) l.length cap1) w6 (by simp [execOp, Act.eval, h0, go_sem]) ⟨_, rfl, Below.refl _ _, by rintro t' ⟨⟩; rfl⟩
            | 13, ho =>
              obtain rfl := Option.some.inj ho
              have h5 := given_old hg 5 (by decide +kernel)
              obtain ⟨_, h28, rfl⟩ := given_fed hg 28 (by decide +kernel)
              clear hg
              exact st_yield ho (wanted_some rfl rfl h28 rfl) (.int .i64 (k : Int)) w6 (by simp [execOp, Act.eval, h5, go_sem]) ⟨_, rfl, Below.refl _ _, by rintro t' ⟨⟩; rfl⟩
            | 14, ho =>
              obtain rfl := Option.some.inj ho
              obtain ⟨_, h29, rfl⟩ := given_fed hg 29 (by decide +kernel)
              obtain ⟨_, h30, rfl⟩ := given_fed hg 30 (by decide +kernel)
              obtain ⟨_, h28, rfl⟩ := given_fed hg 28 (by decide +kernel)
              clear hg
              exact st_yield ho (wanted_some rfl rfl h28 rfl) (.pointer (some ⟨b, os + k * 4, none⟩)) w6 (by simp [execOp, Act.eval, h29, h30, go_sem, I1.out w6]) ⟨_, rfl, Below.refl _ _, by rintro t' ⟨⟩; rfl⟩
            | 15, ho =>
              obtain rfl := Option.some.inj ho
              obtain ⟨_, h31, rfl⟩ := given_fed hg 31 (by decide +kernel)
              obtain ⟨_, h28, rfl⟩ := given_fed hg 28 (by decide +kernel)
              clear hg
              exact st_yield ho (wanted_some rfl rfl h28 rfl) (.pointer (some ⟨b, os + k * 4 + 1, none⟩)) w6 (by simp [execOp, Act.eval, h31, go_sem]) ⟨_, rfl, Below.refl _ _, by rintro t' ⟨⟩; rfl⟩
            | 16, ho =>
              obtain rfl := Option.some.inj ho
              obtain ⟨_, h32, rfl⟩ := given_fed hg 32 (by decide +kernel)
              obtain ⟨_, h28, rfl⟩ := given_fed hg 28 (by decide +kernel)
              clear hg
              exact st_yield ho (wanted_some rfl rfl h28 rfl) (.agg #[.int .i64 ax, .int .i64 nx, .string sx]) w6 (by simp [execOp, Act.eval, h32, go_sem, a1, a2, a3]) ⟨_, rfl, Below.refl _ _, by rintro t' ⟨⟩; rfl⟩
            | 17, ho =>
              obtain rfl := Option.some.inj ho
              have h1 := given_old hg 1 (by decide +kernel)
              obtain ⟨_, h28, rfl⟩ := given_fed hg 28 (by decide +kernel)
              clear hg
              exact st_yield ho (wanted_some rfl rfl h28 rfl) (.slice (some ⟨g, og, none⟩) m.length cap2) w6 (by simp [execOp, Act.eval, h1, go_sem]) ⟨_, rfl, Below.refl _ _, by rintro t' ⟨⟩; rfl⟩
            | 18, ho =>
              obtain rfl := Option.some.inj ho
              have h5 := given_old hg 5 (by decide +kernel)
              obtain ⟨_, h28, rfl⟩ := given_fed hg 28 (by decide +kernel)
              clear hg
              exact st_yield ho (wanted_some rfl rfl h28 rfl) (.int .i64 (k : Int)) w6 (by simp [execOp, Act.eval, h5, go_sem]) ⟨_, rfl, Below.refl _ _, by rintro t' ⟨⟩; rfl⟩
            | 19, ho =>
              obtain rfl := Option.some.inj ho
              obtain ⟨_, h34, rfl⟩ := given_fed hg 34 (by decide +kernel)
              obtain ⟨_, h35, rfl⟩ := given_fed hg 35 (by decide +kernel)
              obtain ⟨_, h28, rfl⟩ := given_fed hg 28 (by decide +kernel)
              clear hg
              exact st_yield ho (wanted_some rfl rfl h28 rfl) (.pointer (some ⟨g, og + k * 4, none⟩)) w6 (by simp [execOp, Act.eval, h34, h35, go_sem, I2.out w6]) ⟨_, rfl, Below.refl _ _, by rintro t' ⟨⟩; rfl⟩
            | 20, ho =>
              obtain rfl := Option.some.inj ho
              obtain ⟨_, h36, rfl⟩ := given_fed hg 36 (by decide +kernel)
              obtain ⟨_, h28, rfl⟩ := given_fed hg 28 (by decide +kernel)
              clear hg
              exact st_yield ho (wanted_some rfl rfl h28 rfl) (.pointer (some ⟨g, og + k * 4 + 1, none⟩)) w6 (by simp [execOp, Act.eval, h36, go_sem]) ⟨_, rfl, Below.refl _ _, by rintro t' ⟨⟩; rfl⟩
            | 21, ho =>
              obtain rfl := Option.some.inj ho
              obtain ⟨_, h37, rfl⟩ := given_fed hg 37 (by decide +kernel)
              obtain ⟨_, h28, rfl⟩ := given_fed hg 28 (by decide +kernel)
              clear hg
              exact st_yield ho (wanted_some rfl rfl h28 rfl) (.agg #[.int .i64 ay, .int .i64 ny, .string sy]) w6 (by simp [execOp, Act.eval, h37, go_sem, b1, b2, b3]) ⟨_, rfl, Below.refl _ _, by rintro t' ⟨⟩; rfl⟩
            | 22, ho =>
              obtain rfl := Option.some.inj ho
              obtain ⟨_, h33, rfl⟩ := given_fed hg 33 (by decide +kernel)
              obtain ⟨_, h38, rfl⟩ := given_fed hg 38 (by decide +kernel)
              obtain ⟨_, h28, rfl⟩ := given_fed hg 28 (by decide +kernel)
              clear hg
              exact st_enter (w1 := w6) ho (wanted_some rfl rfl h28 rfl) 38 #[.agg #[.int .i64 ax, .int .i64 nx, .string sx], .agg #[.int .i64 ay, .int .i64 ny, .string sy]] (by simp [execOp, Act.eval, h33, h38, resolve, go_sem]) ((CE.out w6).mono (by rintro e w7 ⟨rfl, hb7⟩; exact ⟨_, rfl, _, rfl, hb7, by rintro t' ⟨⟩; rfl⟩))
            | 23, ho =>
              obtain rfl := Option.some.inj ho
              obtain ⟨_, h39, rfl⟩ := given_fed hg 39 (by decide +kernel)
              obtain ⟨_, h28, rfl⟩ := given_fed hg 28 (by decide +kernel)
              clear hg
              exact st_yield ho (wanted_some rfl rfl h28 rfl) (.bool (!q)) w6 (by simp [execOp, Act.eval, h39, go_sem]) ⟨_, rfl, Below.refl _ _, by rintro t' ⟨⟩; rfl⟩
            | 24, ho =>
              obtain rfl := Option.some.inj ho
              obtain ⟨_, h28, rfl⟩ := given_fed hg 28 (by decide +kernel)
              obtain ⟨_, h40, rfl⟩ := given_fed hg 40 (by decide +kernel)
              clear hg
              exact st_yield ho (wanted_none rfl) (.bool (!q)) w6 (by simp [execOp, Act.eval, h28, h40, go_sem]) ⟨_, rfl, Below.refl _ _, by rintro t' ⟨⟩; rfl⟩
            | n + 25, ho => simp at ho
          · intro f w6 hb6 hv'
            have h41 := hv' 41 (by decide)
            simp only [VEB] at h41
            clear hv'
            have hb7 := hb.trans (hb6.mono hb.size)
            unfold putAll
            simp only [List.foldl]
            simp only [h41]
            go_simp
            cases q with
            | true =>
              have HE2 := Go.Lib.hid (hgo.out ⟨hkxy.out, (eqR_iff ..).1 Hq.out⟩)
              clear hgo hno2 Hq
              go_wp2_with fail
              go_roundw
              case rel => exact ⟨k + 1, by go_num, by omega, HE2, hb7⟩
              case measure => simp only [intOf]; omega
            | false =>
              have hf : t = false := hno2.out fun h => by
                have := (eqR_iff ax nx sx ay ny sy).2 h.2
                rw [Hq.out] at this
                cases this
              subst hf
              clear hgo hno2 Hq
              go_wp2_with fail
              go_ret
              exact ⟨rfl, hb7⟩
        · have hne : (kx.toList != ky.toList) = true := by simpa using hkk
          have hkk3 := Go.Lib.hid hkk
          have hf : t = false := hno2.out fun h => hkk (by rw [h.1])
          subst hf
          clear hgo hno2 hkk hq
          go_upto_region 6 with (fail)
          refine wp_region_each (by kernel_rfl) (VEA b os l.length cap1 g og m.length cap2 k kx ky sx sy ax nx ay ny q) (VEA_below b os l.length cap1 g og m.length cap2 k kx ky sx sy ax nx ay ny q) (by decide +kernel) (by decide +kernel) (by rfl) [17, 18, 19, 20, 21, 22, 23, 24, 25, 26, 27, 28, 29, 30, 31, 32, 33, 34, 35, 36, 37, 38, 39, 40, 41] (by rfl) ?_ ?_
          · intro i o ho a w6 hb6 hlen hg
            have a0 := (hb6.cell (p := ⟨b, os + k * 4, none⟩) hbl2).trans A0
            have b0 := (hb6.cell (p := ⟨g, og + k * 4, none⟩) hgl2).trans B0
            match i, ho with
            | 0, ho =>
              obtain rfl := Option.some.inj ho
              have h0 := given_old hg 0 (by decide +kernel)
              clear hg
              exact st_yield ho (wanted_none rfl) (.slice (some ⟨b, os, none⟩) l.length cap1) w6 (by simp [execOp, Act.eval, h0, go_sem]) ⟨_, rfl, Below.refl _ _, by rintro t' ⟨⟩; rfl⟩
            | 1, ho =>
              obtain rfl := Option.some.inj ho
              have h5 := given_old hg 5 (by decide +kernel)
              clear hg
              exact st_yield ho (wanted_none rfl) (.int .i64 (k : Int)) w6 (by simp [execOp, Act.eval, h5, go_sem]) ⟨_, rfl, Below.refl _ _, by rintro t' ⟨⟩; rfl⟩
            | 2, ho =>
              obtain rfl := Option.some.inj ho
              obtain ⟨_, h17, rfl⟩ := given_fed hg 17 (by decide +kernel)
              obtain ⟨_, h18, rfl⟩ := given_fed hg 18 (by decide +kernel)
              clear hg
              exact st_yield ho (wanted_none rfl) (.pointer (some ⟨b, os + k * 4, none⟩)) w6 (by simp [execOp, Act.eval, h17, h18, go_sem, I1.out w6]) ⟨_, rfl, Below.refl _ _, by rintro t' ⟨⟩; rfl⟩
            | 3, ho =>
              obtain rfl := Option.some.inj ho
              obtain ⟨_, h19, rfl⟩ := given_fed hg 19 (by decide +kernel)
              clear hg
              exact st_yield ho (wanted_none rfl) (.pointer (some ⟨b, os + k * 4, none⟩)) w6 (by simp [execOp, Act.eval, h19, go_sem]) ⟨_, rfl, Below.refl _ _, by rintro t' ⟨⟩; rfl⟩
            | 4, ho =>
              obtain rfl := Option.some.inj ho
              obtain ⟨_, h20, rfl⟩ := given_fed hg 20 (by decide +kernel)
              clear hg
              exact st_yield ho (wanted_none rfl) (.string kx) w6 (by simp [execOp, Act.eval, h20, go_sem, a0]) ⟨_, rfl, Below.refl _ _, by rintro t' ⟨⟩; rfl⟩
            | 5, ho =>
              obtain rfl := Option.some.inj ho
              have h1 := given_old hg 1 (by decide +kernel)
              clear hg
              exact st_yield ho (wanted_none rfl) (.slice (some ⟨g, og, none⟩) m.length cap2) w6 (by simp [execOp, Act.eval, h1, go_sem]) ⟨_, rfl, Below.refl _ _, by rintro t' ⟨⟩; rfl⟩
            | 6, ho =>
              obtain rfl := Option.some.inj ho
              have h5 := given_old hg 5 (by decide +kernel)
              clear hg
              exact st_yield ho (wanted_none rfl) (.int .i64 (k : Int)) w6 (by simp [execOp, Act.eval, h5, go_sem]) ⟨_, rfl, Below.refl _ _, by rintro t' ⟨⟩; rfl⟩
            | 7, ho =>
              obtain rfl := Option.some.inj ho
              obtain ⟨_, h22, rfl⟩ := given_fed hg 22 (by decide +kernel)
              obtain ⟨_, h23, rfl⟩ := given_fed hg 23 (by decide +kernel)
              clear hg
              exact st_yield ho (wanted_none rfl) (.pointer (some ⟨g, og + k * 4, none⟩)) w6 (by simp [execOp, Act.eval, h22, h23, go_sem, I2.out w6]) ⟨_, rfl, Below.refl _ _, by rintro t' ⟨⟩; rfl⟩
            | 8, ho =>
              obtain rfl := Option.some.inj ho
              obtain ⟨_, h24, rfl⟩ := given_fed hg 24 (by decide +kernel)
              clear hg
              exact st_yield ho (wanted_none rfl) (.pointer (some ⟨g, og + k * 4, none⟩)) w6 (by simp [execOp, Act.eval, h24, go_sem]) ⟨_, rfl, Below.refl _ _, by rintro t' ⟨⟩; rfl⟩
            | 9, ho =>
              obtain rfl := Option.some.inj ho
              obtain ⟨_, h25, rfl⟩ := given_fed hg 25 (by decide +kernel)
              clear hg
              exact st_yield ho (wanted_none rfl) (.string ky) w6 (by simp [execOp, Act.eval, h25, go_sem, b0]) ⟨_, rfl, Below.refl _ _, by rintro t' ⟨⟩; rfl⟩
            | 10, ho =>
              obtain rfl := Option.some.inj ho
              obtain ⟨_, h21, rfl⟩ := given_fed hg 21 (by decide +kernel)
              obtain ⟨_, h26, rfl⟩ := given_fed hg 26 (by decide +kernel)
              clear hg
              exact st_yield ho (wanted_none rfl) (.bool true) w6 (by simp [execOp, Act.eval, h21, h26, go_sem, hkk3.out]) ⟨_, rfl, Below.refl _ _, by rintro t' ⟨⟩; rfl⟩
            | 11, ho =>
              obtain rfl := Option.some.inj ho
              obtain ⟨_, h27, rfl⟩ := given_fed hg 27 (by decide +kernel)
              clear hg
              exact st_yield ho (wanted_none rfl) (.bool true) w6 (by simp [execOp, Act.eval, h27, go_sem]) ⟨_, rfl, Below.refl _ _, by rintro t' ⟨⟩; rfl⟩
            | 12, ho =>
              obtain rfl := Option.some.inj ho
              obtain ⟨_, h28, rfl⟩ := given_fed hg 28 (by decide +kernel)
              clear hg
              exact st_skip ho (wanted_not rfl rfl h28 (by decide)) ⟨_, rfl, Below.refl _ _, by rintro t' ⟨⟩; rfl⟩
            | 13, ho =>
              obtain rfl := Option.some.inj ho
              obtain ⟨_, h28, rfl⟩ := given_fed hg 28 (by decide +kernel)
              clear hg
              exact st_skip ho (wanted_not rfl rfl h28 (by decide)) ⟨_, rfl, Below.refl _ _, by rintro t' ⟨⟩; rfl⟩
            | 14, ho =>
              obtain rfl := Option.some.inj ho
              obtain ⟨_, h28, rfl⟩ := given_fed hg 28 (by decide +kernel)
              clear hg
              exact st_skip ho (wanted_not rfl rfl h28 (by decide)) ⟨_, rfl, Below.refl _ _, by rintro t' ⟨⟩; rfl⟩
            | 15, ho =>
              obtain rfl := Option.some.inj ho
              obtain ⟨_, h28, rfl⟩ := given_fed hg 28 (by decide +kernel)
              clear hg
              exact st_skip ho (wanted_not rfl rfl h28 (by decide)) ⟨_, rfl, Below.refl _ _, by rintro t' ⟨⟩; rfl⟩
            | 16, ho =>
              obtain rfl := Option.some.inj ho
              obtain ⟨_, h28, rfl⟩ := given_fed hg 28 (by decide +kernel)
              clear hg
              exact st_skip ho (wanted_not rfl rfl h28 (by decide)) ⟨_, rfl, Below.refl _ _, by rintro t' ⟨⟩; rfl⟩
            | 17, ho =>
              obtain rfl := Option.some.inj ho
              obtain ⟨_, h28, rfl⟩ := given_fed hg 28 (by decide +kernel)
              clear hg
              exact st_skip ho (wanted_not rfl rfl h28 (by decide)) ⟨_, rfl, Below.refl _ _, by rintro t' ⟨⟩; rfl⟩
            | 18, ho =>
              obtain rfl := Option.some.inj ho
              obtain ⟨_, h28, rfl⟩ := given_fed hg 28 (by decide +kernel)
              clear hg
              exact st_skip ho (wanted_not rfl rfl h28 (by decide)) ⟨_, rfl, Below.refl _ _, by rintro t' ⟨⟩; rfl⟩
            | 19, ho =>
              obtain rfl := Option.some.inj ho
              obtain ⟨_, h28, rfl⟩ := given_fed hg 28 (by decide +kernel)
              clear hg
              exact st_skip ho (wanted_not rfl rfl h28 (by decide)) ⟨_, rfl, Below.refl _ _, by rintro t' ⟨⟩; rfl⟩
            | 20, ho =>
              obtain rfl := Option.some.inj ho
              obtain ⟨_, h28, rfl⟩ := given_fed hg 28 (by decide +kernel)
              clear hg
              exact st_skip ho (wanted_not rfl rfl h28 (by decide)) ⟨_, rfl, Below.refl _ _, by rintro t' ⟨⟩; rfl⟩
            | 21, ho =>
              obtain rfl := Option.some.inj ho
              obtain ⟨_, h28, rfl⟩ := given_fed hg 28 (by decide +kernel)
              clear hg
              exact st_skip ho (wanted_not rfl rfl h28 (by decide)) ⟨_, rfl, Below.refl _ _, by rintro t' ⟨⟩; rfl⟩
            | 22, ho =>
              obtain rfl := Option.some.inj ho
              obtain ⟨_, h28, rfl⟩ := given_fed hg 28 (by decide +kernel)
              clear hg
              exact st_skip ho (wanted_not rfl rfl h28 (by decide)) ⟨_, rfl, Below.refl _ _, by rintro t' ⟨⟩; rfl⟩
            | 23, ho =>
              obtain rfl := Option.some.inj ho
              obtain ⟨_, h28, rfl⟩ := given_fed hg 28 (by decide +kernel)
              clear hg
              exact st_skip ho (wanted_not rfl rfl h28 (by decide)) ⟨_, rfl, Below.refl _ _, by rintro t' ⟨⟩; rfl⟩
            | 24, ho =>
              obtain rfl := Option.some.inj ho
              obtain ⟨_, h28, rfl⟩ := given_fed hg 28 (by decide +kernel)
              obtain ⟨_, h40, rfl⟩ := given_fed hg 40 (by decide +kernel)
              clear hg
              exact st_yield ho (wanted_none rfl) (.bool true) w6 (by simp [execOp, Act.eval, h28, h40, go_sem]) ⟨_, rfl, Below.refl _ _, by rintro t' ⟨⟩; rfl⟩
            | n + 25, ho => simp at ho
          · intro f w6 hb6 hv'
            have h41 := hv' 41 (by decide)
            simp only [VEA] at h41
            clear hv'
            have hb7 := hb.trans (hb6.mono hb.size)
            unfold putAll
            simp only [List.foldl]
            simp only [h41]
            go_simp
            go_wp2_with fail
            go_ret
            exact ⟨rfl, hb7⟩
      · have htt : t = true := HT.out.2 (by
          have h1 := HE.out
          rwa [List.take_of_length_le (by omega), List.take_of_length_le (by have := Hl.out; omega)] at h1)
        subst htt
        clear HE HT
        go_wp2_with fail
        go_ret
        exact ⟨rfl, hb⟩
  · have hf : t = false := by
      cases t with
      | false => rfl
      | true =>
        have := congrArg List.length (HT.out.1 rfl)
        rw [List.length_map, List.length_map] at this
        exact absurd this hl
    subst hf
    have hlb : ((l.length : Int) != (m.length : Int)) = true := by simp; omega
    clear HT hl
    go_enter Try.func37, Try.ntmps37
    go_wp2_with fail
    go_ret
    exact ⟨rfl, Below.refl _ _⟩

end Go.Proofs.Ytibbligidncocaa
