/-
  The reference's Skip and Rank.
  The reference's Tree.
  The contract of sort.Search: the first place at which the function says yes, if it goes on saying yes behind it; the function may draw and make memory.
-/
import Derived.Test.YtibbligidncocaaM31
import Derived.LoopTactic
import Derived.Test.YtibbligidncocaaM15
import Derived.Deep.DeepMust
import Derived.Test.YtibbligidncocaaM01
import Derived.Shelf.Abstract
namespace Go.Proofs.Ytibbligidncocaa
open Go.RowKit

/-- Is bit k set? As the walk reckons it. -/
theorem and_nought (x k : Nat) (hx : x < 18446744073709551616) : (bits .and .u64 ((x : Int) / 2 ^ k) 1 == 0) = !x.testBit k := by
  have h1 : x / 2 ^ k < 18446744073709551616 := Nat.lt_of_le_of_lt (Nat.div_le_self _ _) hx
  have h2 := u64_and_nat (x / 2 ^ k) 1 h1 (by omega)
  rw [show ((1 : Nat) : Int) = 1 from rfl] at h2
  have e : (x : Int) / 2 ^ k = ((x / 2 ^ k : Nat) : Int) := by simp
  have hb : x.testBit k = decide (x / 2 ^ k % 2 = 1) := Nat.testBit_eq_decide_div_mod_eq
  rw [e, h2, Nat.and_one_is_mod, hb]
  rcases Nat.mod_two_eq_zero_or_one (x / 2 ^ k) with h | h <;> rw [h] <;> rfl

/-- What Skip answers. -/
def SkipTo (o : Option Nat) (e : Ending) : Prop := ∃ z : Nat, e = .returned (.tuple #[.int .i64 (z : Int), .bool o.isSome]) ∧ ∀ r, o = some r → z = r

set_option maxHeartbeats 400000 in
set_option maxRecDepth 100000 in
theorem rskip_c (v : Value) (l : List Bool) (w : World) (h : RV w v (zb l)) (hl : l.length ≤ 100000000) : ∀ (k d i n : Nat), d + k = 64 → i ≤ 100000000 → n ≤ 4096 →
    Calls Try.prog 80 #[v, .int .i64 (i : Int), .int .i64 (n : Int), .int .i64 (d : Int)] w fun e w' => SkipTo (skipB l k i n) e ∧ w = w' := by
  obtain ⟨ad, cap, rfl, -⟩ := h.zbForm
  have CG := Go.Lib.hid fun i (hi : i ≤ 100000000) => rgetg_c _ i l w h (by omega) (by omega)
  clear h
  intro k
  induction k using Nat.strongRecOn with
  | ind k ih =>
    intro d i n hd hi hn
    rw [skipB_fork]
    by_cases hn2 : n ≤ 1
    · rw [if_pos hn2]
      have h2 : (n : Int) ≤ 1 := by omega
      clear ih CG
      go_enter Try.func80, Try.ntmps80
      go_wp2_with fail
      go_ret2
      exact ⟨⟨i, rfl, fun r h => by cases h; rfl⟩, rfl⟩
    · rw [if_neg hn2]
      have h2 : ¬ (n : Int) ≤ 1 := by omega
      cases k with
      | zero =>
        obtain rfl : d = 64 := by omega
        clear ih CG
        go_enter Try.func80, Try.ntmps80
        go_wp2_with fail
        go_ret2
        exact ⟨⟨i, rfl, fun r h => by cases h⟩, rfl⟩
      | succ k =>
        have hd63 : ¬ 63 < (d : Int) := by omega
        rw [forkB, Nat.add_sub_cancel]
        have C := CG.out i hi
        cases hg : getG l i with
        | none =>
          rw [getGV_none hg] at C
          have C := Go.Lib.hid C
          clear ih hg CG
          go_enter Try.func80, Try.ntmps80
          go_wp2_with fail
          refine C.out.mono ?_
          rintro e w1 ⟨rfl, rfl⟩
          go_wp2_with fail
          go_ret2
          exact ⟨⟨i, rfl, fun r h => by cases h⟩, rfl⟩
        | some p =>
          obtain ⟨x, e⟩ := p
          have hx1 := getG_pos hg
          obtain ⟨he, hx64⟩ := getG_bound hg
          rw [getGV_some hg] at C
          have C := Go.Lib.hid C
          simp only []
          by_cases hx : n + 1 < x
          · rw [if_pos hx]
            have hxi : (n : Int) + 1 < (x : Int) := by omega
            clear ih hg CG hx1 hx
            go_enter Try.func80, Try.ntmps80
            go_wp2_with fail
            refine C.out.mono ?_
            rintro e w1 ⟨rfl, rfl⟩
            go_wp2_with fail
            go_ret2
            exact ⟨⟨i, rfl, fun r h => by cases h⟩, rfl⟩
          · rw [if_neg hx]
            simp only []
            have hxi : ¬ (n : Int) + 1 < (x : Int) := by omega
            have hxw : IntKind.u64.wrap ((x : Int) - 1) = (x : Int) - 1 := by rw [IntKind.wrap_u64]; omega
            have hx4 : (x : Int) ≤ 4097 := by omega
            have he8 : e ≤ 100000000 := by omega
            have C1 := ih k (by omega) (d + 1) e (x - 1) (by omega) (by omega) (by omega)
            rw [show ((d + 1 : Nat) : Int) = (d : Int) + 1 by omega, show ((x - 1 : Nat) : Int) = (x : Int) - 1 by omega] at C1
            cases hs : skipB l k e (x - 1) with
            | none =>
              rw [hs] at C1
              have C1 := Go.Lib.hid C1
              clear ih hg CG hs hx
              go_enter Try.func80, Try.ntmps80
              go_wp2_with fail
              refine C.out.mono ?_
              rintro e w1 ⟨rfl, rfl⟩
              go_wp2_with fail
              refine C1.out.mono ?_
              rintro e w1 ⟨⟨z, rfl, -⟩, rfl⟩
              simp only [Option.isSome]
              go_wp2_with fail
              go_ret2
              exact ⟨⟨i, rfl, fun r h => by cases h⟩, rfl⟩
            | some e2 =>
              have he2 := skipB_bound hs
              have he2' : e2 ≤ 100000000 := by omega
              rw [hs] at C1
              have C2 := ih k (by omega) (d + 1) e2 (n - (x - 1)) (by omega) (by omega) (by omega)
              rw [show ((d + 1 : Nat) : Int) = (d : Int) + 1 by omega, show ((n - (x - 1) : Nat) : Int) = (n : Int) - ((x : Int) - 1) by omega] at C2
              have C1 := Go.Lib.hid C1
              have C2 := Go.Lib.hid C2
              simp only []
              generalize skipB l k e2 (n - (x - 1)) = R at *
              clear ih hg CG hs hx he2
              go_enter Try.func80, Try.ntmps80
              go_wp2_with fail
              refine C.out.mono ?_
              rintro e' w1 ⟨rfl, rfl⟩
              go_wp2_with fail
              refine C1.out.mono ?_
              rintro e' w1 ⟨⟨z, rfl, hz⟩, rfl⟩
              obtain rfl : z = e2 := hz e2 rfl
              clear hz
              simp only [Option.isSome]
              go_wp2_with fail
              refine C2.out.mono ?_
              rintro e' w1 ⟨⟨z, rfl, hz⟩, rfl⟩
              have Hz := Go.Lib.hid hz
              obtain ⟨t, ht⟩ : ∃ t, t = R.isSome := ⟨_, rfl⟩
              rw [← ht]
              have Ht := Go.Lib.hid ht
              clear hz ht
              go_wp2_with fail
              go_ret2
              exact ⟨⟨z, by rw [← Ht.out]; rfl, Hz.out⟩, rfl⟩

set_option maxHeartbeats 1000000 in
set_option maxRecDepth 100000 in
theorem rrank_c (n0 x : Nat) (v : Value) (l : List Bool) (w : World) (h : RV w v (zb l)) (hl : l.length ≤ 100000000) (hn : n0 ≤ 4096) (hx : x < 18446744073709551616) (R : Option Nat) (hR0 : rankB l x 64 0 n0 0 = R) :
    Calls Try.prog 59 #[v, .int .i64 (n0 : Int), .int .u64 (x : Int)] w fun e w' => e = .returned (endV R) ∧ w = w' := by
  obtain ⟨ad, cap, rfl, -⟩ := h.zbForm
  have CG := Go.Lib.hid fun i (hi : i ≤ 100000000) => rgetg_c _ i l w h (by omega) (by omega)
  have CS := Go.Lib.hid (rskip_c _ l w h hl)
  have HR0 := Go.Lib.hid hR0
  have Hl := Go.Lib.hid hl
  have HX := Go.Lib.hid hx
  clear h hR0 hl
  go_enter Try.func59, Try.ntmps59
  go_wp2_with fail
  go_loop [1, 8, 9, 10] (fun n' i' r' d' => ∃ (k d i n r : Nat), d + k = 64 ∧ i ≤ 100000000 ∧ r + n ≤ n0 ∧ n' = .int .i64 (n : Int) ∧ i' = .int .i64 (i : Int) ∧ r' = .int .i64 (r : Int) ∧ d' = .int .i64 (d : Int) ∧ Hid (rankB l x k i n r = R)) (fun _ _ _ d' => 64 - (intOf d').toNat)
  case atStart => exact ⟨64, 0, 0, n0, 0, rfl, by omega, by omega, rfl, rfl, rfl, rfl, HR0⟩
  case round =>
    obtain ⟨k, d, i, n, r, hdk, hi, hrn, rfl, rfl, rfl, rfl, HR⟩ := hrel
    have hR := HR.out
    clear HR
    rw [rankB_fork] at hR
    by_cases hn2 : n ≤ 1
    · rw [if_pos hn2] at hR
      have h2 : ¬ 1 < (n : Int) := by omega
      by_cases hn1 : n = 1
      · subst hn1
        rw [if_pos rfl] at hR
        subst hR
        go_wp2_with fail
        go_ret2
        exact ⟨rfl, rfl⟩
      · obtain rfl : n = 0 := by omega
        rw [if_neg (by omega)] at hR
        subst hR
        go_wp2_with fail
        go_ret2
        exact ⟨rfl, rfl⟩
    · rw [if_neg hn2] at hR
      have h2 : 1 < (n : Int) := by omega
      cases k with
      | zero =>
        obtain rfl : d = 64 := by omega
        rw [forkB] at hR
        simp only [] at hR
        subst hR
        go_wp2_with fail
        go_ret2
        exact ⟨rfl, rfl⟩
      | succ k =>
        have hd63 : ¬ 63 < (d : Int) := by omega
        rw [forkB, Nat.add_sub_cancel] at hR
        have C := CG.out i hi
        cases hg : getG l i with
        | none =>
          rw [getGV_none hg] at C
          rw [hg] at hR
          simp only [] at hR
          subst hR
          have C := Go.Lib.hid C
          clear hg
          go_wp2_with fail
          refine C.out.mono ?_
          rintro e w1 ⟨rfl, rfl⟩
          go_wp2_with fail
          go_ret2
          exact ⟨rfl, rfl⟩
        | some p =>
          obtain ⟨z, e⟩ := p
          have hx1 := getG_pos hg
          obtain ⟨he, hx64⟩ := getG_bound hg
          rw [getGV_some hg] at C
          rw [hg] at hR
          simp only [] at hR
          have C := Go.Lib.hid C
          by_cases hz : n + 1 < z
          · rw [if_pos hz] at hR
            simp only [] at hR
            subst hR
            have hxi : (n : Int) + 1 < (z : Int) := by omega
            clear hg hx1 hz
            go_wp2_with fail
            refine C.out.mono ?_
            rintro e w1 ⟨rfl, rfl⟩
            go_wp2_with fail
            go_ret2
            exact ⟨rfl, rfl⟩
          · rw [if_neg hz] at hR
            simp only [] at hR
            have hxi : ¬ (n : Int) + 1 < (z : Int) := by omega
            have hxw : IntKind.u64.wrap ((z : Int) - 1) = (z : Int) - 1 := by rw [IntKind.wrap_u64]; omega
            have hx4 : (z : Int) ≤ 4097 := by omega
            have he8 : e ≤ 100000000 := by have := Hl.out; omega
            have hdk2 : (63 : Int) - (d : Int) = (k : Int) := by omega
            have hk63 : k ≤ 63 := by omega
            have hand := and_nought x k HX.out
            cases hbit : x.testBit k with
            | false =>
              rw [hbit] at hand hR
              rw [if_neg (by decide)] at hR
              simp only [Bool.not_false] at hand
              have HR := Go.Lib.hid hR
              clear hg hR hbit
              go_wp2_with fail
              refine C.out.mono ?_
              rintro e' w1 ⟨rfl, rfl⟩
              go_wp2_with fail
              go_round
              case rel => exact ⟨k, d + 1, e, z - 1, r, by omega, by omega, by omega, by congr 1; omega, rfl, rfl, by go_num, HR⟩
              case measure => simp only [intOf]; omega
            | true =>
              rw [hbit] at hand hR
              rw [if_pos rfl] at hR
              simp only [Bool.not_true] at hand
              have C1 := CS.out k (d + 1) e (z - 1) (by omega) (by omega) (by omega)
              rw [show ((d + 1 : Nat) : Int) = (d : Int) + 1 by omega, show ((z - 1 : Nat) : Int) = (z : Int) - 1 by omega] at C1
              cases hs : skipB l k e (z - 1) with
              | none =>
                rw [hs] at C1 hR
                simp only [] at hR
                subst hR
                have C1 := Go.Lib.hid C1
                clear hg hbit hs
                go_wp2_with fail
                refine C.out.mono ?_
                rintro e' w1 ⟨rfl, rfl⟩
                go_wp2_with fail
                refine C1.out.mono ?_
                rintro e' w1 ⟨⟨q, rfl, -⟩, rfl⟩
                simp only [Option.isSome]
                go_wp2_with fail
                go_ret2
                exact ⟨rfl, rfl⟩
              | some e2 =>
                have he2 := skipB_bound hs
                have he2' : e2 ≤ 100000000 := by have := Hl.out; omega
                rw [hs] at C1 hR
                simp only [] at hR
                have HR := Go.Lib.hid hR
                have C1 := Go.Lib.hid C1
                clear hg hR hbit hs he2
                go_wp2_with fail
                refine C.out.mono ?_
                rintro e' w1 ⟨rfl, rfl⟩
                go_wp2_with fail
                refine C1.out.mono ?_
                rintro e' w1 ⟨⟨q, rfl, hq⟩, rfl⟩
                obtain rfl : q = e2 := hq e2 rfl
                clear hq
                simp only [Option.isSome]
                go_wp2_with fail
                go_round
                case rel => exact ⟨k, d + 1, q, n - (z - 1), r + (z - 1), by omega, by omega, by omega, by congr 1; omega, rfl, by congr 1; omega, by go_num, HR⟩
                case measure => simp only [intOf]; omega

end Go.Proofs.Ytibbligidncocaa

namespace Go.Proofs.Ytibbligidncocaa
open Go.RowKit

theorem countP_step (p : Nat → Bool) (L : List Nat) (i : Nat) (h : i < L.length) : (L.take (i + 1)).countP p = (L.take i).countP p + (if p L[i] then 1 else 0) := by
  rw [List.take_succ_eq_append_getElem h, List.countP_append, List.countP_singleton]

set_option maxHeartbeats 1000000 in
set_option maxRecDepth 100000 in
theorem rtree_c : ∀ (k d : Nat) (L : List Nat) (v : Value) (w : World), d + k = 64 → KU.R w v L → (∀ x ∈ L, x < 18446744073709551616) → L.length ≤ 4096 → (treeL k L).length ≤ 100000000 →
    Calls Try.prog 60 #[v, .int .i64 (d : Int)] w fun e w' => ∃ v', e = .returned v' ∧ OwnV 4 w' w.heap.size v' (zb (treeL k L)) ∧ Below w.heap.size w w' := by
  intro k
  induction k with
  | zero =>
    intro d L v w hdk hv _ _ _
    obtain rfl : d = 64 := by omega
    obtain ⟨ad, cap, rfl, hl⟩ := hv.form
    clear hv
    by_cases hs : L.length ≤ 1
    · have hsI : (L.length : Int) ≤ 1 := by omega
      go_enter Try.func60, Try.ntmps60
      go_wp2_with fail
      go_ret
      exact ⟨_, rfl, OwnV.nil _ _ _, Below.refl _ _⟩
    · have hsI : ¬ (L.length : Int) ≤ 1 := by omega
      go_enter Try.func60, Try.ntmps60
      go_wp2_with fail
      go_ret
      exact ⟨_, rfl, OwnV.nil _ _ _, Below.refl _ _⟩
  | succ k ih =>
    intro d L v w hdk hv hb h4 hlen
    obtain ⟨ad, cap, rfl, hl⟩ := hv.form
    by_cases hs : L.length ≤ 1
    · have hsI : (L.length : Int) ≤ 1 := by omega
      rw [treeL, if_pos hs]
      clear hv ih
      go_enter Try.func60, Try.ntmps60
      go_wp2_with fail
      go_ret
      exact ⟨_, rfl, OwnV.nil _ _ _, Below.refl _ _⟩
    have hsI : ¬ (L.length : Int) ≤ 1 := by omega
    obtain ⟨bs, os, rfl, -, hbs, -⟩ := KU.at' hv 0 (by omega)
    obtain ⟨m, hm⟩ : ∃ m, m = L.countP fun x => !x.testBit k := ⟨_, rfl⟩
    have hml : m ≤ L.length := by rw [hm]; exact List.countP_le_length
    have htree : treeL (k + 1) L = gam (m + 1) ++ treeL k (L.take m) ++ treeL k (L.drop m) := by rw [treeL, if_neg hs, ← hm]
    rw [htree] at hlen ⊢
    simp only [List.length_append] at hlen
    have hn := hv.len
    have Hsl1 : ∀ W, (Instr.slice 67 (.slice (some ⟨bs, os, none⟩) L.length cap) none (some (.int .i64 (m : Int))) none).run Try.prog W = .ok (sliced (some ⟨bs, os, none⟩) 0 m cap KU.size) W := fun W => KU_ok.run_h (some ⟨bs, os, none⟩) L.length cap m (by omega) .i64 W
    have Hsl2 : ∀ W, (Instr.slice 67 (.slice (some ⟨bs, os, none⟩) L.length cap) (some (.int .i64 (m : Int))) none none).run Try.prog W = .ok (sliced (some ⟨bs, os, none⟩) m L.length cap KU.size) W := fun W => KU_ok.run_l (some ⟨bs, os, none⟩) L.length cap m (by omega) .i64 W
    have hR1 := hv.cut KU_ok 0 m cap (by omega) hml (by omega) (Nat.le_refl _)
    have hR2 := hv.cut KU_ok m L.length cap (by omega) (by omega) (by omega) (Nat.le_refl _)
    rw [List.drop_zero] at hR1
    rw [List.take_of_length_le (Nat.le_refl _)] at hR2
    obtain ⟨S1, hS1⟩ : ∃ S1, S1 = sliced (some ⟨bs, os, none⟩) 0 m cap KU.size := ⟨_, rfl⟩
    obtain ⟨S2, hS2⟩ : ∃ S2, S2 = sliced (some ⟨bs, os, none⟩) m L.length cap KU.size := ⟨_, rfl⟩
    rw [← hS1] at hR1 Hsl1
    rw [← hS2] at hR2 Hsl2
    have hd1 : ((d + 1 : Nat) : Int) = (d : Int) + 1 := by omega
    have CT1 := fun (W : World) (hW : Below w.heap.size w W) => ih (d + 1) (L.take m) S1 W (by omega) (hR1.below hW) (fun x hx => hb x (List.mem_of_mem_take hx)) (by rw [List.length_take]; omega) (by omega)
    have CT2 := fun (W : World) (hW : Below w.heap.size w W) => ih (d + 1) (L.drop m) S2 W (by omega) (hR2.below hW) (fun x hx => hb x (List.mem_of_mem_drop hx)) (by rw [List.length_drop]; omega) (by omega)
    have CG := fun W => rgamma_c (m + 1) W (by omega)
    have hmI : ((m + 1 : Nat) : Int) = (m : Int) + 1 := by omega
    simp only [hd1] at CT1 CT2
    simp only [hmI] at CG
    have KT1 := Go.Lib.hid CT1
    have KT2 := Go.Lib.hid CT2
    have KG := Go.Lib.hid CG
    have HS1 := Go.Lib.hid Hsl1
    have HS2 := Go.Lib.hid Hsl2
    have H := Go.Lib.hid hv
    have HM := Go.Lib.hid hm
    have HB := Go.Lib.hid hb
    have HL := Go.Lib.hid hlen
    have hdk2 : (63 : Int) - (d : Int) = (k : Int) := by omega
    have hk63 : k ≤ 63 := by omega
    have hd63 : ¬ 63 < (d : Int) := by omega
    have hd64 : d ≤ 63 := by omega
    clear ih hv hb hR1 hR2 htree hlen hn CT1 CT2 CG Hsl1 Hsl2 hS1 hS2 hm hd1 hmI hdk hs
    go_enter Try.func60, Try.ntmps60
    go_wp2_with fail
    go_loop [5, 6] (fun n' i' => ∃ i c : Nat, n' = .int .i64 (c : Int) ∧ i' = .int .i64 (i : Int) ∧ i ≤ L.length ∧ c ≤ i ∧ Hid (c = (L.take i).countP fun x => !x.testBit k)) (fun _ i' => L.length - (intOf i').toNat)
    case atStart => exact ⟨0, 0, rfl, rfl, by omega, by omega, Go.Lib.hid rfl⟩
    case round =>
      obtain ⟨i, c, rfl, rfl, hi, hci, HC⟩ := hrel
      by_cases hlt : i < L.length
      · obtain ⟨b', o', e, -, -, c1⟩ := KU.at' H.out i hlt
        cases e
        have i1 := idxU bs os L.length cap i hlt
        have hx64 := HB.out L[i] (List.getElem_mem hlt)
        have hstep := countP_step (fun x => !x.testBit k) L i hlt
        generalize L[i] = x at *
        have hand := and_nought x k hx64
        cases hbit : x.testBit k with
        | false =>
          rw [hbit] at hand hstep
          simp only [Bool.not_false] at hand hstep
          rw [← HC.out] at hstep
          simp only [if_true] at hstep
          have HC2 : Hid (c + 1 = (L.take (i + 1)).countP fun x => !x.testBit k) := Go.Lib.hid hstep.symm
          clear hstep HC hbit
          go_wp2_with fail
          go_round
          case rel => exact ⟨i + 1, c + 1, by go_num, by go_num, by omega, by omega, HC2⟩
          case measure => simp only [intOf]; omega
        | true =>
          rw [hbit] at hand hstep
          simp only [Bool.not_true] at hand hstep
          rw [← HC.out] at hstep
          simp only [Bool.false_eq_true, if_false, Nat.add_zero] at hstep
          have HC2 : Hid (c = (L.take (i + 1)).countP fun x => !x.testBit k) := Go.Lib.hid hstep.symm
          clear hstep HC hbit
          go_wp2_with fail
          go_round
          case rel => exact ⟨i + 1, c, by go_num, by go_num, by omega, by omega, HC2⟩
          case measure => simp only [intOf]; omega
      · obtain rfl : i = L.length := by omega
        have hcm : c = m := by rw [HC.out, HM.out, List.take_length]
        subst hcm
        clear HC hci hi hlt
        go_wp2_with fail
        refine (KG.out _).mono ?_
        rintro e w1 ⟨v1, rfl, ho1, hb1⟩
        have hr1 := ho1.rv
        have l1 : ([] : List Bool).length + (gam (c + 1)).length ≤ 140737488355328 := by have := HL.out; rw [List.length_nil]; omega
        have hnil : OwnV 4 w1 w.heap.size (.slice none 0 0) (zb []) := OwnV.nil _ _ _
        have hs1 := hb1.size
        obtain ⟨ad1, cp1, rfl, -⟩ := hr1.zbForm
        have l10 := Go.Lib.hid l1
        have hr10 := Go.Lib.hid hr1
        have hnil0 := Go.Lib.hid hnil
        have hb10 := Go.Lib.hid hb1
        clear l1 hr1 hnil hb1 ho1 KG
        go_wp2_with (first
          | (with_reducible show wpList _ _ _ (⟨some 37, _, _, _, _, _⟩ :: _) _ _; go_must (refine wpList_append_zb rfl (.const (.slice none 0 0)) (.tmp 36) 100 rfl w.heap.size 4 Try.underlying100 infoB (.slice none 0 0) (.slice ad1 (gam (c + 1)).length cp1) [] (gam (c + 1)) rfl rfl hnil0.out hr10.out l10.out hs1 ?_); go_must (intro v2 w2 ho2 hg2; rw [List.nil_append] at ho2; have hb2 := hb10.out.trans ((grown_new hg2).mono hs1); have HO2 := Go.Lib.hid ho2; have HB2 := Go.Lib.hid hb2; have hsl := HS1.out; clear hg2 ho2 hb2 l10 hr10 hnil0 hb10))
          | (with_reducible show wpList _ _ _ (⟨some 41, _, _, _, _, _⟩ :: _) _ _; go_must (refine wpList_cut_h rfl (.tmp 39) (.tmp 40) 67 rfl (by kernel_rfl) (some ⟨bs, os, none⟩) L.length cap (.int .i64 (c : Int)) S1 rfl rfl HS1.out ?_))
          | fail)
        refine (KT1.out _ HB2.out).mono ?_
        rintro e w3 ⟨v3, rfl, ho3, hb3⟩
        have hs2 := HB2.out.size
        have hb4 := HB2.out.trans (hb3.mono hs2)
        have ho4 := HO2.out.below hb3
        obtain ⟨ad3, cp3, rfl, -⟩ := ho3.rv.zbForm
        have hr30 := Go.Lib.hid ho3.rv
        have ho40 := Go.Lib.hid ho4
        have hb40 := Go.Lib.hid hb4
        have l30 : Hid ((gam (c + 1)).length + (treeL k (L.take c)).length ≤ 140737488355328) := Go.Lib.hid (by have := HL.out; omega)
        have hs4 := hb4.size
        clear hs2 hb4 ho4 ho3 hb3 HB2 HO2 KT1
        go_wp2_with (first
          | (with_reducible show wpList _ _ _ (⟨some 45, _, _, _, _, _⟩ :: _) _ _; go_must (refine wpList_append_zb rfl (.tmp 38) (.tmp 44) 100 rfl w.heap.size 4 Try.underlying100 infoB v2 (.slice ad3 (treeL k (L.take c)).length cp3) (gam (c + 1)) (treeL k (L.take c)) rfl rfl ho40.out hr30.out l30.out hs4 ?_); go_must (intro v5 w5 ho5 hg5; have hb5 := hb40.out.grown hg5 hs4 ho40.out.row; have HO5 := Go.Lib.hid ho5; have HB5 := Go.Lib.hid hb5; clear hg5 ho5 hb5 hr30 ho40 hb40 l30))
          | (with_reducible show wpList _ _ _ (⟨some 49, _, _, _, _, _⟩ :: _) _ _; go_must (refine wpList_cut_l rfl (.tmp 47) (.tmp 48) 67 rfl (by kernel_rfl) (some ⟨bs, os, none⟩) L.length cap (.int .i64 (c : Int)) S2 rfl rfl HS2.out ?_))
          | fail)
        refine (KT2.out _ HB5.out).mono ?_
        rintro e w6 ⟨v6, rfl, ho6, hb6⟩
        have hs5 := HB5.out.size
        have hb7 := HB5.out.trans (hb6.mono hs5)
        have ho7 := HO5.out.below hb6
        obtain ⟨ad6, cp6, rfl, -⟩ := ho6.rv.zbForm
        have hr60 := Go.Lib.hid ho6.rv
        have ho70 := Go.Lib.hid ho7
        have hb70 := Go.Lib.hid hb7
        have l60 : Hid ((gam (c + 1) ++ treeL k (L.take c)).length + (treeL k (L.drop c)).length ≤ 140737488355328) := Go.Lib.hid (by have := HL.out; rw [List.length_append]; omega)
        have hs7 := hb7.size
        clear hs5 hb7 ho7 ho6 hb6 HB5 HO5 KT2
        go_wp2_with (first
          | (with_reducible show wpList _ _ _ (⟨some 53, _, _, _, _, _⟩ :: _) _ _; go_must (refine wpList_append_zb rfl (.tmp 46) (.tmp 52) 100 rfl w.heap.size 4 Try.underlying100 infoB v5 (.slice ad6 (treeL k (L.drop c)).length cp6) (gam (c + 1) ++ treeL k (L.take c)) (treeL k (L.drop c)) rfl rfl ho70.out hr60.out l60.out hs7 ?_); go_must (intro v8 w8 ho8 hg8; have hb8 := hb70.out.grown hg8 hs7 ho70.out.row; have HO8 := Go.Lib.hid ho8; have HB8 := Go.Lib.hid hb8; clear hg8 ho8 hb8 hr60 ho70 hb70 l60))
          | fail)
        go_ret
        exact ⟨_, rfl, HO8.out, HB8.out⟩

end Go.Proofs.Ytibbligidncocaa

namespace Go.Proofs.Ytibbligidncocaa
open Go.RowKit

set_option maxHeartbeats 1000000 in
set_option maxRecDepth 100000 in
theorem search_c (g : Nat) (cb : Array Value) (n : Nat) (p : Nat → Bool) (w : World) (hn : n < 4611686018427387904) (eg : ∀ args w, (callFunc g args).run Try.prog w = .ok (.enter g args) w)
    (hf : ∀ (i : Nat) (W : World), i < n → Below w.heap.size w W → Calls Try.prog g (#[.int .i64 (i : Int)] ++ cb) W fun e w' => e = .returned (.bool (p i)) ∧ Below W.heap.size W w')
    (hmono : ∀ a b, a ≤ b → b < n → p a = true → p b = true) :
    Calls Try.prog 75 #[.int .i64 (n : Int), .func (.func g) #[] cb] w fun e w' => ∃ s : Nat, e = .returned (.int .i64 (s : Int)) ∧ s ≤ n ∧ (∀ t, t < s → p t = false) ∧ (∀ t, s ≤ t → t < n → p t = true) ∧ Below w.heap.size w w' := by
  have HF := Go.Lib.hid hf
  have M := Go.Lib.hid hmono
  clear hf hmono
  go_enter Try.func75, Try.ntmps75
  go_wp2_with fail
  go_loopw [5, 6] (fun s5 s6 wr => ∃ (lo hi : Nat), s5 = .int .i64 (lo : Int) ∧ s6 = .int .i64 (hi : Int) ∧ lo ≤ hi ∧ hi ≤ n ∧ Below w.heap.size w wr ∧ Hid ((∀ t, t < lo → p t = false) ∧ (∀ t, hi ≤ t → t < n → p t = true))) (fun s5 s6 _ => (intOf s6 - intOf s5).toNat)
  case atStart => exact ⟨0, n, rfl, rfl, Nat.zero_le _, Nat.le_refl _, Below.refl _ _, Go.Lib.hid ⟨fun t ht => absurd ht (Nat.not_lt_zero _), fun t h1 h2 => by omega⟩⟩
  case round =>
    obtain ⟨lo, hi, rfl, rfl, hlh, hin, hb, I⟩ := hrel
    by_cases hlt : lo < hi
    · have hc := HF.out ((lo + hi) / 2) wr (by omega) hb
      rw [show (((lo + hi) / 2 : Nat) : Int) = ((lo : Int) + (hi : Int)) / 2 by omega] at hc
      have hsz := hb.size
      cases hp : p ((lo + hi) / 2) <;> rw [hp] at hc
      · have HP := Go.Lib.hid hp
        have HC := Go.Lib.hid hc
        clear hp hc
        go_wp2_with (go_at_fn g; refine HC.out.mono ?_; rintro e w2 ⟨rfl, hb2⟩)
        go_roundw
        case rel =>
          exact ⟨(lo + hi) / 2 + 1, hi, by rw [show ((lo : Int) + (hi : Int)) / 2 + 1 = (((lo + hi) / 2 + 1 : Nat) : Int) by omega], rfl, by omega, hin, hb.trans (hb2.mono hsz), Go.Lib.hid ⟨fun t ht => (by
            cases h : p t with
            | false => rfl
            | true => have := M.out t ((lo + hi) / 2) (by omega) (by omega) h; rw [HP.out] at this; cases this), I.out.2⟩⟩
        case measure => simp only [intOf]; omega
      · have HP := Go.Lib.hid hp
        have HC := Go.Lib.hid hc
        clear hp hc
        go_wp2_with (go_at_fn g; refine HC.out.mono ?_; rintro e w2 ⟨rfl, hb2⟩)
        go_roundw
        case rel => exact ⟨lo, (lo + hi) / 2, rfl, by rw [show ((lo : Int) + (hi : Int)) / 2 = (((lo + hi) / 2 : Nat) : Int) by omega], by omega, by omega, hb.trans (hb2.mono hsz), Go.Lib.hid ⟨I.out.1, fun t ht htn => M.out ((lo + hi) / 2) t ht htn HP.out⟩⟩
        case measure => simp only [intOf]; omega
    · obtain rfl : hi = lo := by omega
      go_wp2_with fail
      go_ret
      exact ⟨hi, rfl, hin, I.out.1, I.out.2, hb⟩

end Go.Proofs.Ytibbligidncocaa
