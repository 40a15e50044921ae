/-
  The reference's Skip and Rank.
-/
import Derived.Test.YtmphcpggfgehhaaTrieA
import Derived.Test.YtmphcpggfgehhaaRGet
import Derived.LoopTactic
namespace Go.Proofs.Ytmphcpggfgehhaa
open Go.RowKit

/-- Is bit k set? As the walk reckons it. -/
theorem and_nought (x k : Nat) (hx : x < 18446744073709551616) : (bits .and .u64 ((x : Int) / 2 ^ k) 1 == 0) = !x.testBit k := by
  have h1 : x / 2 ^ k < 18446744073709551616 := Nat.lt_of_le_of_lt (Nat.div_le_self _ _) hx
  have h2 := u64_and_nat (x / 2 ^ k) 1 h1 (by omega)
  rw [show ((1 : Nat) : Int) = 1 from rfl] at h2
  have e : (x : Int) / 2 ^ k = ((x / 2 ^ k : Nat) : Int) := by simp
  have hb : x.testBit k = decide (x / 2 ^ k % 2 = 1) := Nat.testBit_eq_decide_div_mod_eq
  rw [e, h2, Nat.and_one_is_mod, hb]
  rcases Nat.mod_two_eq_zero_or_one (x / 2 ^ k) with h | h <;> rw [h] <;> rfl

/-- What Skip answers. -/
def SkipTo (o : Option Nat) (e : Ending) : Prop := ∃ z : Nat, e = .returned (.tuple #[.int .i64 (z : Int), .bool o.isSome]) ∧ ∀ r, o = some r → z = r

set_option maxHeartbeats 400000 in
set_option maxRecDepth 100000 in
theorem rskip_c (v : Value) (l : List Bool) (w : World) (h : RV w v (zb l)) (hl : l.length ≤ 100000000) : ∀ (k d i n : Nat), d + k = 64 → i ≤ 100000000 → n ≤ 4096 →
    Calls Try.prog 17 #[v, .int .i64 (i : Int), .int .i64 (n : Int), .int .i64 (d : Int)] w fun e w' => SkipTo (skipB l k i n) e ∧ w = w' := by
  obtain ⟨ad, cap, rfl, -⟩ := h.zbForm
  have CG := Go.Lib.hid fun i (hi : i ≤ 100000000) => rgetg_c _ i l w h (by omega) (by omega)
  clear h
  intro k
  induction k using Nat.strongRecOn with
  | ind k ih =>
    intro d i n hd hi hn
    rw [skipB_fork]
    by_cases hn2 : n ≤ 1
    · rw [if_pos hn2]
      have h2 : (n : Int) ≤ 1 := by omega
      clear ih CG
      go_enter Try.func17, Try.ntmps17
      go_wp2_with fail
      go_ret2
      exact ⟨⟨i, rfl, fun r h => by cases h; rfl⟩, rfl⟩
    · rw [if_neg hn2]
      have h2 : ¬ (n : Int) ≤ 1 := by omega
      cases k with
      | zero =>
        obtain rfl : d = 64 := by omega
        clear ih CG
        go_enter Try.func17, Try.ntmps17
        go_wp2_with fail
        go_ret2
        exact ⟨⟨i, rfl, fun r h => by cases h⟩, rfl⟩
      | succ k =>
        have hd63 : ¬ 63 < (d : Int) := by omega
        rw [forkB, Nat.add_sub_cancel]
        have C := CG.out i hi
        cases hg : getG l i with
        | none =>
          rw [getGV_none hg] at C
          have C := Go.Lib.hid C
          clear ih hg CG
          go_enter Try.func17, Try.ntmps17
          go_wp2_with fail
          refine C.out.mono ?_
          rintro e w1 ⟨rfl, rfl⟩
          go_wp2_with fail
          go_ret2
          exact ⟨⟨i, rfl, fun r h => by cases h⟩, rfl⟩
        | some p =>
          obtain ⟨x, e⟩ := p
          have hx1 := getG_pos hg
          obtain ⟨he, hx64⟩ := getG_bound hg
          rw [getGV_some hg] at C
          have C := Go.Lib.hid C
          simp only []
          by_cases hx : n + 1 < x
          · rw [if_pos hx]
            have hxi : (n : Int) + 1 < (x : Int) := by omega
            clear ih hg CG hx1 hx
            go_enter Try.func17, Try.ntmps17
            go_wp2_with fail
            refine C.out.mono ?_
            rintro e w1 ⟨rfl, rfl⟩
            go_wp2_with fail
            go_ret2
            exact ⟨⟨i, rfl, fun r h => by cases h⟩, rfl⟩
          · rw [if_neg hx]
            simp only []
            have hxi : ¬ (n : Int) + 1 < (x : Int) := by omega
            have hxw : IntKind.u64.wrap ((x : Int) - 1) = (x : Int) - 1 := by rw [IntKind.wrap_u64]; omega
            have hx4 : (x : Int) ≤ 4097 := by omega
            have he8 : e ≤ 100000000 := by omega
            have C1 := ih k (by omega) (d + 1) e (x - 1) (by omega) (by omega) (by omega)
            rw [show ((d + 1 : Nat) : Int) = (d : Int) + 1 by omega, show ((x - 1 : Nat) : Int) = (x : Int) - 1 by omega] at C1
            cases hs : skipB l k e (x - 1) with
            | none =>
              rw [hs] at C1
              have C1 := Go.Lib.hid C1
              clear ih hg CG hs hx
              go_enter Try.func17, Try.ntmps17
              go_wp2_with fail
              refine C.out.mono ?_
              rintro e w1 ⟨rfl, rfl⟩
              go_wp2_with fail
              refine C1.out.mono ?_
              rintro e w1 ⟨⟨z, rfl, -⟩, rfl⟩
              simp only [Option.isSome]
              go_wp2_with fail
              go_ret2
              exact ⟨⟨i, rfl, fun r h => by cases h⟩, rfl⟩
            | some e2 =>
              have he2 := skipB_bound hs
              have he2' : e2 ≤ 100000000 := by omega
              rw [hs] at C1
              have C2 := ih k (by omega) (d + 1) e2 (n - (x - 1)) (by omega) (by omega) (by omega)
              rw [show ((d + 1 : Nat) : Int) = (d : Int) + 1 by omega, show ((n - (x - 1) : Nat) : Int) = (n : Int) - ((x : Int) - 1) by omega] at C2
              have C1 := Go.Lib.hid C1
              have C2 := Go.Lib.hid C2
              simp only []
              generalize skipB l k e2 (n - (x - 1)) = R at *
              clear ih hg CG hs hx he2
              go_enter Try.func17, Try.ntmps17
              go_wp2_with fail
              refine C.out.mono ?_
              rintro e' w1 ⟨rfl, rfl⟩
              go_wp2_with fail
              refine C1.out.mono ?_
              rintro e' w1 ⟨⟨z, rfl, hz⟩, rfl⟩
              obtain rfl : z = e2 := hz e2 rfl
              clear hz
              simp only [Option.isSome]
              go_wp2_with fail
              refine C2.out.mono ?_
              rintro e' w1 ⟨⟨z, rfl, hz⟩, rfl⟩
              have Hz := Go.Lib.hid hz
              obtain ⟨t, ht⟩ : ∃ t, t = R.isSome := ⟨_, rfl⟩
              rw [← ht]
              have Ht := Go.Lib.hid ht
              clear hz ht
              go_wp2_with fail
              go_ret2
              exact ⟨⟨z, by rw [← Ht.out]; rfl, Hz.out⟩, rfl⟩

set_option maxHeartbeats 1000000 in
set_option maxRecDepth 100000 in
theorem rrank_c (n0 x : Nat) (v : Value) (l : List Bool) (w : World) (h : RV w v (zb l)) (hl : l.length ≤ 100000000) (hn : n0 ≤ 4096) (hx : x < 18446744073709551616) (R : Option Nat) (hR0 : rankB l x 64 0 n0 0 = R) :
    Calls Try.prog 15 #[v, .int .i64 (n0 : Int), .int .u64 (x : Int)] w fun e w' => e = .returned (endV R) ∧ w = w' := by
  obtain ⟨ad, cap, rfl, -⟩ := h.zbForm
  have CG := Go.Lib.hid fun i (hi : i ≤ 100000000) => rgetg_c _ i l w h (by omega) (by omega)
  have CS := Go.Lib.hid (rskip_c _ l w h hl)
  have HR0 := Go.Lib.hid hR0
  have Hl := Go.Lib.hid hl
  have HX := Go.Lib.hid hx
  clear h hR0 hl
  go_enter Try.func15, Try.ntmps15
  go_wp2_with fail
  go_loop [1, 8, 9, 10] (fun n' i' r' d' => ∃ (k d i n r : Nat), d + k = 64 ∧ i ≤ 100000000 ∧ r + n ≤ n0 ∧ n' = .int .i64 (n : Int) ∧ i' = .int .i64 (i : Int) ∧ r' = .int .i64 (r : Int) ∧ d' = .int .i64 (d : Int) ∧ Hid (rankB l x k i n r = R)) (fun _ _ _ d' => 64 - (intOf d').toNat)
  case atStart => exact ⟨64, 0, 0, n0, 0, rfl, by omega, by omega, rfl, rfl, rfl, rfl, HR0⟩
  case round =>
    obtain ⟨k, d, i, n, r, hdk, hi, hrn, rfl, rfl, rfl, rfl, HR⟩ := hrel
    have hR := HR.out
    clear HR
    rw [rankB_fork] at hR
    by_cases hn2 : n ≤ 1
    · rw [if_pos hn2] at hR
      have h2 : ¬ 1 < (n : Int) := by omega
      by_cases hn1 : n = 1
      · subst hn1
        rw [if_pos rfl] at hR
        subst hR
        go_wp2_with fail
        go_ret2
        exact ⟨rfl, rfl⟩
      · obtain rfl : n = 0 := by omega
        rw [if_neg (by omega)] at hR
        subst hR
        go_wp2_with fail
        go_ret2
        exact ⟨rfl, rfl⟩
    · rw [if_neg hn2] at hR
      have h2 : 1 < (n : Int) := by omega
      cases k with
      | zero =>
        obtain rfl : d = 64 := by omega
        rw [forkB] at hR
        simp only [] at hR
        subst hR
        go_wp2_with fail
        go_ret2
        exact ⟨rfl, rfl⟩
      | succ k =>
        have hd63 : ¬ 63 < (d : Int) := by omega
        rw [forkB, Nat.add_sub_cancel] at hR
        have C := CG.out i hi
        cases hg : getG l i with
        | none =>
          rw [getGV_none hg] at C
          rw [hg] at hR
          simp only [] at hR
          subst hR
          have C := Go.Lib.hid C
          clear hg
          go_wp2_with fail
          refine C.out.mono ?_
          rintro e w1 ⟨rfl, rfl⟩
          go_wp2_with fail
          go_ret2
          exact ⟨rfl, rfl⟩
        | some p =>
          obtain ⟨z, e⟩ := p
          have hx1 := getG_pos hg
          obtain ⟨he, hx64⟩ := getG_bound hg
          rw [getGV_some hg] at C
          rw [hg] at hR
          simp only [] at hR
          have C := Go.Lib.hid C
          by_cases hz : n + 1 < z
          · rw [if_pos hz] at hR
            simp only [] at hR
            subst hR
            have hxi : (n : Int) + 1 < (z : Int) := by omega
            clear hg hx1 hz
            go_wp2_with fail
            refine C.out.mono ?_
            rintro e w1 ⟨rfl, rfl⟩
            go_wp2_with fail
            go_ret2
            exact ⟨rfl, rfl⟩
          · rw [if_neg hz] at hR
            simp only [] at hR
            have hxi : ¬ (n : Int) + 1 < (z : Int) := by omega
            have hxw : IntKind.u64.wrap ((z : Int) - 1) = (z : Int) - 1 := by rw [IntKind.wrap_u64]; omega
            have hx4 : (z : Int) ≤ 4097 := by omega
            have he8 : e ≤ 100000000 := by have := Hl.out; omega
            have hdk2 : (63 : Int) - (d : Int) = (k : Int) := by omega
            have hk63 : k ≤ 63 := by omega
            have hand := and_nought x k HX.out
            cases hbit : x.testBit k with
            | false =>
              rw [hbit] at hand hR
              rw [if_neg (by decide)] at hR
              simp only [Bool.not_false] at hand
              have HR := Go.Lib.hid hR
              clear hg hR hbit
              go_wp2_with fail
              refine C.out.mono ?_
              rintro e' w1 ⟨rfl, rfl⟩
              go_wp2_with fail
              go_round
              case rel => exact ⟨k, d + 1, e, z - 1, r, by omega, by omega, by omega, by congr 1; omega, rfl, rfl, by go_num, HR⟩
              case measure => simp only [intOf]; omega
            | true =>
              rw [hbit] at hand hR
              rw [if_pos rfl] at hR
              simp only [Bool.not_true] at hand
              have C1 := CS.out k (d + 1) e (z - 1) (by omega) (by omega) (by omega)
              rw [show ((d + 1 : Nat) : Int) = (d : Int) + 1 by omega, show ((z - 1 : Nat) : Int) = (z : Int) - 1 by omega] at C1
              cases hs : skipB l k e (z - 1) with
              | none =>
                rw [hs] at C1 hR
                simp only [] at hR
                subst hR
                have C1 := Go.Lib.hid C1
                clear hg hbit hs
                go_wp2_with fail
                refine C.out.mono ?_
                rintro e' w1 ⟨rfl, rfl⟩
                go_wp2_with fail
                refine C1.out.mono ?_
                rintro e' w1 ⟨⟨q, rfl, -⟩, rfl⟩
                simp only [Option.isSome]
                go_wp2_with fail
                go_ret2
                exact ⟨rfl, rfl⟩
              | some e2 =>
                have he2 := skipB_bound hs
                have he2' : e2 ≤ 100000000 := by have := Hl.out; omega
                rw [hs] at C1 hR
                simp only [] at hR
                have HR := Go.Lib.hid hR
                have C1 := Go.Lib.hid C1
                clear hg hR hbit hs he2
                go_wp2_with fail
                refine C.out.mono ?_
                rintro e' w1 ⟨rfl, rfl⟩
                go_wp2_with fail
                refine C1.out.mono ?_
                rintro e' w1 ⟨⟨q, rfl, hq⟩, rfl⟩
                obtain rfl : q = e2 := hq e2 rfl
                clear hq
                simp only [Option.isSome]
                go_wp2_with fail
                go_round
                case rel => exact ⟨k, d + 1, q, n - (z - 1), r + (z - 1), by omega, by omega, by omega, by congr 1; omega, rfl, by congr 1; omega, by go_num, HR⟩
                case measure => simp only [intOf]; omega

end Go.Proofs.Ytmphcpggfgehhaa
