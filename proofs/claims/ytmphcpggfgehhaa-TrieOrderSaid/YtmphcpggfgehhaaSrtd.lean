/-
  The law's Sorted.
-/
import Derived.Test.YtmphcpggfgehhaaKUW
import Derived.Test.YtmphcpggfgehhaaTrieA
import Derived.Test.YtmphcpggfgehhaaHead
import Derived.LoopTactic
import Derived.Deep.DeepCutAuto
import Derived.Deep.DeepMust
import Derived.Laws.BitsAllLaws
namespace Go.Proofs.Ytmphcpggfgehhaa
open Go.RowKit

theorem u64_mixed (x y : Int) : ∃ z : Nat, z < 18446744073709551616 ∧ bits .xor .u64 x (bits .and .u64 y 255) = (z : Int) := by
  have h := IntKind.wrap_u64 ((BitVec.ofInt 64 x ^^^ BitVec.ofInt 64 (bits .and .u64 y 255)).toNat : Int)
  refine ⟨(bits .xor .u64 x (bits .and .u64 y 255)).toNat, ?_, ?_⟩
  · show (IntKind.u64.wrap ((BitVec.ofInt 64 x ^^^ BitVec.ofInt 64 (bits .and .u64 y 255)).toNat : Int)).toNat < _
    rw [h]
    omega
  · show IntKind.u64.wrap ((BitVec.ofInt 64 x ^^^ BitVec.ofInt 64 (bits .and .u64 y 255)).toNat : Int) = ((IntKind.u64.wrap ((BitVec.ofInt 64 x ^^^ BitVec.ofInt 64 (bits .and .u64 y 255)).toNat : Int)).toNat : Int)
    rw [h]
    omega
/-- x in its place. -/
def insAt (S : List Nat) (t x : Nat) : List Nat := S.take t ++ x :: S.drop t
theorem insAt_of (S : List Nat) (t x : Nat) (ht : t ≤ S.length) : (((S ++ [0]).take (t + 1) ++ ((S ++ [0]).drop t).take ((S ++ [0]).length - (t + 1))).set t x) = insAt S t x := by
  unfold insAt
  have e2 : ((S ++ [0]).drop t).take ((S ++ [0]).length - (t + 1)) = S.drop t := by
    rw [List.drop_append_of_le_length ht]
    rw [List.take_append_of_le_length (by simp only [List.length_append, List.length_cons, List.length_nil, List.length_drop]; omega)]
    rw [List.take_of_length_le (by simp only [List.length_append, List.length_cons, List.length_nil, List.length_drop]; omega)]
  rw [e2]
  have e1 : (S ++ [0]).take (t + 1) = S.take t ++ [(S ++ [0]).getD t 0] := by
    rw [List.take_succ_eq_append_getElem (by simp; omega), List.take_append_of_le_length ht, List.getD_eq_getElem?_getD, List.getElem?_eq_getElem (by simp; omega)]
    rfl
  rw [e1, List.append_assoc, List.set_append_right _ _ (by rw [List.length_take]; omega)]
  congr 1
  rw [List.length_take, Nat.min_eq_left ht, Nat.sub_self]
  rfl
theorem insAt_length (S : List Nat) (t x : Nat) (ht : t ≤ S.length) : (insAt S t x).length = S.length + 1 := by
  unfold insAt
  simp only [List.length_append, List.length_take, List.length_cons, List.length_drop]
  omega
theorem insAt_rise {S : List Nat} {t x : Nat} (hS : S.Pairwise (· < ·)) (_ht : t ≤ S.length) (h1 : ∀ j, t ≤ j → j < S.length → x < S.getD j 0) (h2 : 0 < t → S.getD (t - 1) 0 < x) : (insAt S t x).Pairwise (· < ·) := by
  unfold insAt
  rw [List.pairwise_append]
  refine ⟨hS.sublist (List.take_sublist _ _), ?_, ?_⟩
  · rw [List.pairwise_cons]
    refine ⟨fun y hy => ?_, hS.sublist (List.drop_sublist _ _)⟩
    obtain ⟨j, hj, rfl⟩ := List.mem_iff_getElem.1 hy
    rw [List.length_drop] at hj
    have := h1 (t + j) (by omega) (by omega)
    rw [List.getD_eq_getElem?_getD, List.getElem?_eq_getElem (by omega)] at this
    rw [List.getElem_drop]
    exact this
  · intro y hy z hz
    obtain ⟨j, hj, rfl⟩ := List.mem_iff_getElem.1 hy
    rw [List.length_take] at hj
    rw [List.getElem_take]
    have hjx : S[j] < x := by
      have h3 := h2 (by omega)
      rw [List.getD_eq_getElem?_getD, List.getElem?_eq_getElem (by omega)] at h3
      simp only [Option.getD_some] at h3
      rcases Nat.lt_or_ge j (t - 1) with h | h
      · have := List.pairwise_iff_getElem.1 hS j (t - 1) (by omega) (by omega) h
        omega
      · obtain rfl : j = t - 1 := by omega
        exact h3
    rcases List.mem_cons.1 hz with rfl | hz
    · exact hjx
    · obtain ⟨q, hq, rfl⟩ := List.mem_iff_getElem.1 hz
      rw [List.length_drop] at hq
      have := h1 (t + q) (by omega) (by omega)
      rw [List.getD_eq_getElem?_getD, List.getElem?_eq_getElem (by omega)] at this
      simp only [Option.getD_some] at this
      rw [List.getElem_drop]
      omega
theorem insAt_mem {S : List Nat} {t x : Nat} (h : ∀ y ∈ S, y < 18446744073709551616) (hx : x < 18446744073709551616) : ∀ y ∈ insAt S t x, y < 18446744073709551616 := by
  intro y hy
  unfold insAt at hy
  rcases List.mem_append.1 hy with hy | hy
  · exact h y (List.mem_of_mem_take hy)
  · rcases List.mem_cons.1 hy with rfl | hy
    · exact hx
    · exact h y (List.mem_of_mem_drop hy)
/-- What Sorted answers. -/
def SortedTo (v : Value) (w w' : World) : Prop := ∃ S : List Nat, KU.R w' v S ∧ S.Pairwise (· < ·) ∧ S.length ≤ 40 ∧ (∀ x ∈ S, x < 18446744073709551616) ∧ Below w.heap.size w w'
def V13s (g n c t : Nat) (S1 S2 : Value) : Nat → World → Value → Prop
  | 64, _, v => v = .slice (some ⟨g, 0, none⟩) n c
  | 65, _, v => v = .int .i64 (t : Int)
  | 66, _, v => v = .int .i64 ((t : Int) + 1)
  | 67, _, v => v = S1
  | 68, _, v => v = .slice (some ⟨g, 0, none⟩) n c
  | 69, _, v => v = .int .i64 (t : Int)
  | 70, _, v => v = S2
  | _, _, _ => True

theorem V13s_below (g n c t : Nat) (S1 S2 : Value) : ∀ (i : Nat) (w w' : World) (v : Value), V13s g n c t S1 S2 i w v → Below w.heap.size w w' → V13s g n c t S1 S2 i w' v := by
  intro i w w' v h hb
  unfold V13s at h ⊢
  split at h <;> first | exact h | trivial | exact RB.below h hb | exact Own.below h hb | exact OwnV.below h hb | exact OwnRec.below h hb | exact Lay.R.below h hb

set_option maxHeartbeats 2000000 in
set_option maxRecDepth 100000 in
theorem sorted_c (v : Value) (L : List Nat) (near : Bool) (w : World) (hv : KU.R w v L) (hb : ∀ x ∈ L, x < 18446744073709551616) :
    Calls Try.prog 9 #[v, .bool near] w fun e w' => ∃ v', e = .returned v' ∧ SortedTo v' w w' := by
  obtain ⟨ad, cap, rfl, hl63⟩ := hv.form
  have H := Go.Lib.hid hv
  have HB := Go.Lib.hid hb
  clear hv hb
  go_enter Try.func9, Try.ntmps9
  go_wp2_with fail
  go_loopw [5, 6] (fun ov i' wr => ∃ (i : Nat) (S : List Nat), i' = .int .i64 (i : Int) ∧ i ≤ 40 ∧ S.length ≤ i ∧ KU.O wr w.heap.size ov S ∧ Hid (S.Pairwise (· < ·)) ∧ Hid (∀ x ∈ S, x < 18446744073709551616) ∧ Below w.heap.size w wr) (fun _ i' _ => 40 - (intOf i').toNat)
  case atStart => exact ⟨0, [], rfl, by omega, by simp, Lay.O.nil _ _, Go.Lib.hid List.Pairwise.nil, Go.Lib.hid (fun x hx => by cases hx), Below.refl _ _⟩
  case round =>
    obtain ⟨i, S, rfl, hi40, hSi, hO, HP, HS, hbr⟩ := hrel
    obtain ⟨ao, co, rfl, -⟩ := hO.r.form
    have HO := Go.Lib.hid hO
    clear hO
    by_cases hlt : i < L.length ∧ i < 40
    · obtain ⟨hlt, hlt40⟩ := hlt
      obtain ⟨bs, os, rfl, -, hbs, c1⟩ := KU.at' H.out i hlt
      have d1 := (hbr.cell (p := ⟨bs, os + i, none⟩) hbs).trans c1
      have i1 := idxU bs os L.length cap i hlt
      have hx64 := HB.out L[i] (List.getElem_mem hlt)
      generalize L[i] = x0 at *
      clear c1
      go_upto_region 6 with (fail)
      go_cut [28] (fun c wx => wx = wr ∧ c = .bool (near && decide (0 < S.length)))
      case first =>
        cases near with
        | false =>
          go_wp2_with fail
          go_meet
          exact ⟨rfl, rfl⟩
        | true =>
          by_cases hS : 0 < S.length
          · have hSI : (0 : Int) < (S.length : Int) := by omega
            go_wp2_with fail
            go_meet
            exact ⟨rfl, by simp [hS]⟩
          · have hSI : ¬ (0 : Int) < (S.length : Int) := by omega
            go_wp2_with fail
            go_meet
            exact ⟨rfl, by simp [hS]⟩
      case rest =>
        obtain ⟨rfl, rfl⟩ := hcut
        go_upto_if 28 with (fail)
        obtain ⟨tb, htb⟩ : ∃ tb, tb = (near && decide (0 < S.length)) := ⟨_, rfl⟩
        rw [← htb]
        have Htb := Go.Lib.hid htb
        clear htb d1 i1
        go_cut [7] (fun x' wx => wx = wc ∧ ∃ x : Nat, x' = .int .u64 (x : Int) ∧ x < 18446744073709551616)
        case first =>
          cases tb with
          | false =>
            go_wp2_with fail
            go_meet
            exact ⟨rfl, x0, rfl, hx64⟩
          | true =>
            have hS : 0 < S.length := by have := Htb.out; simp only [Bool.true_eq, Bool.and_eq_true, decide_eq_true_eq] at this; exact this.2
            obtain ⟨g, o, rfl, -, -, c0⟩ := KU.at' HO.out.r 0 hS
            have i2 := idxU g o S.length co 0 hS
            generalize S[0] = y at *
            obtain ⟨z, hz64, hz⟩ := u64_mixed (y : Int) (x0 : Int)
            have e0 : ((0 : Nat) : Int) = 0 := rfl
            rw [e0, Nat.add_zero] at i2
            rw [Nat.add_zero] at c0
            clear e0 Htb
            go_wp2_with fail
            go_meet
            exact ⟨rfl, z, rfl, hz64⟩
        case rest =>
          obtain ⟨rfl, x, rfl, hx64⟩ := hcut
          clear Htb
          go_wp2_with fail
          go_loop [8] (fun t' => ∃ t : Nat, t' = .int .i64 (t : Int) ∧ t ≤ S.length ∧ Hid (∀ j, t ≤ j → j < S.length → x < S.getD j 0)) (fun t' => (intOf t').toNat)
          case atStart => exact ⟨S.length, rfl, Nat.le_refl _, Go.Lib.hid fun j h1 h2 => by omega⟩
          case round =>
            obtain ⟨t, rfl, hts, HA⟩ := hrel
            by_cases ht0 : 0 < t
            · obtain ⟨g, o, rfl, -, -, c0⟩ := KU.at' HO.out.r (t - 1) (by omega)
              have i2 := idxU g o S.length co (t - 1) (by omega)
              have ht1 : ((t - 1 : Nat) : Int) = (t : Int) - 1 := by omega
              have ey : S.getD (t - 1) 0 = S[t - 1]'(by omega) := by rw [List.getD_eq_getElem?_getD, List.getElem?_eq_getElem (by omega)]; rfl
              generalize S[t - 1]'(by omega) = y at *
              have Ey := Go.Lib.hid ey
              rw [ht1] at i2
              clear ey
              by_cases hxy : x < y
              · have hxyI : (x : Int) < (y : Int) := by omega
                go_wp2_with fail
                go_round
                case rel =>
                  refine ⟨t - 1, by go_num, by omega, Go.Lib.hid fun j h1 h2 => ?_⟩
                  rcases Nat.lt_or_ge j t with h | h
                  · obtain rfl : j = t - 1 := by omega
                    rw [Ey.out]
                    exact hxy
                  · exact HA.out j h h2
                case measure => simp only [intOf]; omega
              · have hxyI : ¬ (x : Int) < (y : Int) := by omega
                by_cases hyx : y = x
                · have hyxI : ((y : Int) == (x : Int)) = true := by simp [hyx]
                  have HO2 := HO.out
                  clear HA Ey hyx
                  go_wp2_with fail
                  go_roundw
                  case rel => exact ⟨i + 1, S, by go_num, by omega, by omega, HO2, HP, HS, hbr⟩
                  case measure => simp only [intOf]; omega
                · have hyxI : ((y : Int) == (x : Int)) = false := by simp; omega
                  have hlast : Hid (0 < t → S.getD (t - 1) 0 < x) := Go.Lib.hid fun _ => by rw [Ey.out]; omega
                  clear Ey hyx hxy
                  have hone := KU.one1 wc 0
                  rw [show ((0 : Nat) : Int) = 0 from rfl] at hone
                  have hOa := HO.out.alloc (.cells #[.int .u64 0] 23)
                  have hbA : Below w.heap.size w (wc.alloc (.cells #[.int .u64 0] 23)) := hbr.alloc hbr.size _
                  have hsz := hbA.size
                  have hl1 : S.length + [0].length ≤ 1000000 := by simp; omega
                  have hone := Go.Lib.hid hone
                  have hOa := Go.Lib.hid hOa
                  have hbA := Go.Lib.hid hbA
                  have hl1 := Go.Lib.hid hl1
                  go_upto_region 13 with (first
                    | (with_reducible show wpList _ _ _ (⟨some 63, _, _, _, _, _⟩ :: _) _ _; go_must (refine KU_ok.append rfl (.tmp 61) (.tmp 62) rfl w.heap.size (.slice (some ⟨g, o, none⟩) S.length co) (.slice (some ⟨wc.heap.size, 0, none⟩) 1 1) S [0] rfl rfl hOa.out hone.out hl1.out hsz ?_); go_must (intro v3 w3 ho3 hg3; have hb3 := hbA.out.grown hg3 hsz hOa.out.row; obtain ⟨g3, c3, rfl, hB3, hlt3, hcl3, hcm3⟩ := ho3.form (by simp); have HO3 := Go.Lib.hid ho3; have HB3 := Go.Lib.hid hb3; clear hg3 ho3 hb3))
                    | fail)
                  obtain ⟨n, hnS⟩ : ∃ n, n = S.length + 1 := ⟨_, rfl⟩
                  rw [← hnS]
                  have hn : n = (S ++ [0]).length := by rw [hnS]; simp
                  have HO4 : Hid (KU.O w3 w.heap.size (.slice (some ⟨g3, 0, none⟩) n c3) (S ++ [0])) := Go.Lib.hid (by rw [hn]; exact HO3.out)
                  have HN := Go.Lib.hid hn
                  have Hsl1 : ∀ W, (Instr.slice 22 (.slice (some ⟨g3, 0, none⟩) n c3) (some (.int .i64 ((t : Int) + 1))) none none).run Try.prog W = .ok (sliced (some ⟨g3, 0, none⟩) (t + 1) n c3 KU.size) W := fun W => KU_ok.run_l (some ⟨g3, 0, none⟩) n c3 (t + 1) (by omega) .i64 W
                  have Hsl2 : ∀ W, (Instr.slice 22 (.slice (some ⟨g3, 0, none⟩) n c3) (some (.int .i64 (t : Int))) none none).run Try.prog W = .ok (sliced (some ⟨g3, 0, none⟩) t n c3 KU.size) W := fun W => KU_ok.run_l (some ⟨g3, 0, none⟩) n c3 t (by omega) .i64 W
                  obtain ⟨S1, hS1⟩ : ∃ S1, S1 = sliced (some ⟨g3, 0, none⟩) (t + 1) n c3 KU.size := ⟨_, rfl⟩
                  obtain ⟨S2, hS2⟩ : ∃ S2, S2 = sliced (some ⟨g3, 0, none⟩) t n c3 KU.size := ⟨_, rfl⟩
                  rw [← hS1] at Hsl1
                  rw [← hS2] at Hsl2
                  have HS1 := Go.Lib.hid hS1
                  have HS2 := Go.Lib.hid hS2
                  have htw : IntKind.i64.wrap ((t : Int) + 1) = (t : Int) + 1 := by rw [IntKind.wrap_i64]; omega
                  have ht40 : t ≤ 40 := by omega
                  clear hn hS1 hS2 hone hOa hbA hsz hl1 HO3 hcl3 hcm3
                  refine wp_region_head 7 (by decide) (by kernel_rfl) (V13s g3 n c3 t S1 S2) (V13s_below g3 n c3 t S1 S2) (by decide +kernel) (by rfl) [64, 65, 66, 67, 68, 69, 70] (by rfl) ?_ ?_
                  · intro i o hin ho a w6 hb6 hlen hg
                    match i, hin, ho with
                    | 0, hin, ho =>
                      obtain rfl := Option.some.inj ho
                      have h5 := given_old hg 5 (by decide +kernel)
                      clear hg
                      exact st_yield ho (wanted_none rfl) (.slice (some ⟨g3, 0, none⟩) n c3) w6 (by simp [execOp, Act.eval, h5, go_sem]) ⟨_, rfl, Below.refl _ _, by rintro t' ⟨⟩; rfl⟩
                    | 1, hin, ho =>
                      obtain rfl := Option.some.inj ho
                      have h8 := given_old hg 8 (by decide +kernel)
                      clear hg
                      exact st_yield ho (wanted_none rfl) (.int .i64 (t : Int)) w6 (by simp [execOp, Act.eval, h8, go_sem]) ⟨_, rfl, Below.refl _ _, by rintro t' ⟨⟩; rfl⟩
                    | 2, hin, ho =>
                      obtain rfl := Option.some.inj ho
                      obtain ⟨_, h65, rfl⟩ := given_fed hg 65 (by decide +kernel)
                      clear hg
                      exact st_yield ho (wanted_none rfl) (.int .i64 ((t : Int) + 1)) w6 (by simp [execOp, Act.eval, h65, go_sem, htw]) ⟨_, rfl, Below.refl _ _, by rintro t' ⟨⟩; rfl⟩
                    | 3, hin, ho =>
                      obtain rfl := Option.some.inj ho
                      obtain ⟨_, h64, rfl⟩ := given_fed hg 64 (by decide +kernel)
                      obtain ⟨_, h66, rfl⟩ := given_fed hg 66 (by decide +kernel)
                      clear hg
                      exact st_yield ho (wanted_none rfl) S1 w6 (by simp [execOp, Act.eval, h64, h66, run_sliceAt_slice w6 22 _ _ _ _ Try.underlying22, Hsl1, Result.andThen]) ⟨_, rfl, Below.refl _ _, by rintro t' ⟨⟩; rfl⟩
                    | 4, hin, ho =>
                      obtain rfl := Option.some.inj ho
                      have h5 := given_old hg 5 (by decide +kernel)
                      clear hg
                      exact st_yield ho (wanted_none rfl) (.slice (some ⟨g3, 0, none⟩) n c3) w6 (by simp [execOp, Act.eval, h5, go_sem]) ⟨_, rfl, Below.refl _ _, by rintro t' ⟨⟩; rfl⟩
                    | 5, hin, ho =>
                      obtain rfl := Option.some.inj ho
                      have h8 := given_old hg 8 (by decide +kernel)
                      clear hg
                      exact st_yield ho (wanted_none rfl) (.int .i64 (t : Int)) w6 (by simp [execOp, Act.eval, h8, go_sem]) ⟨_, rfl, Below.refl _ _, by rintro t' ⟨⟩; rfl⟩
                    | 6, hin, ho =>
                      obtain rfl := Option.some.inj ho
                      obtain ⟨_, h68, rfl⟩ := given_fed hg 68 (by decide +kernel)
                      obtain ⟨_, h69, rfl⟩ := given_fed hg 69 (by decide +kernel)
                      clear hg
                      exact st_yield ho (wanted_none rfl) S2 w6 (by simp [execOp, Act.eval, h68, h69, run_sliceAt_slice w6 22 _ _ _ _ Try.underlying22, Hsl2, Result.andThen]) ⟨_, rfl, Below.refl _ _, by rintro t' ⟨⟩; rfl⟩
                    | n + 7, hin, ho => omega
                  · intro f w7 hb7 hv
                    have h67 := hv 67 (by decide)
                    have h70 := hv 70 (by decide)
                    simp only [V13s] at h67 h70
                    have HO7 := Go.Lib.hid (HO4.out.below hb7)
                    have HB7 := Go.Lib.hid (HB3.out.trans (hb7.mono HB3.out.size))
                    have hti : t + 1 ≤ (S ++ [0]).length := by rw [← HN.out]; omega
                    have Hti := Go.Lib.hid hti
                    have i4 := idxU g3 0 n c3 t (by omega)
                    rw [Nat.zero_add] at i4
                    clear hv hb7 Hsl1 Hsl2 HB3 HO4 hti
                    unfold putAll
                    simp only [List.foldl, List.drop]
                    simp only [h67, h70]
                    go_simp
                    go_wp2_with (first
                      | (with_reducible show wpList _ _ _ (⟨some 71, _, _, _, _, _⟩ :: _) _ _; go_must (refine wpList_copy_KU rfl (.tmp 67) (.tmp 70) rfl w.heap.size g3 n c3 t (S ++ [0]) HO7.out Hti.out S1 S2 rfl rfl HS1.out HS2.out w HB7.out ?_); go_must (intro w8 ho8 hb8; have HO8 := Go.Lib.hid ho8; have HB8 := Go.Lib.hid hb8; obtain ⟨y8, hc8⟩ := KU.there ho8 t (by simp only [List.length_append, List.length_take, List.length_drop, List.length_cons, List.length_nil]; omega); have hf8 := ho8.frozenAt t; clear ho8 hb8 HO7 HB7 Hti HS1 HS2))
                      | fail)
                    go_roundw
                    case rel =>
                      have hlen8 : t < ((S ++ [0]).take (t + 1) ++ ((S ++ [0]).drop t).take ((S ++ [0]).length - (t + 1))).length := by simp only [List.length_append, List.length_take, List.length_drop, List.length_cons, List.length_nil]; omega
                      have hset := KU.set HO8.out t hlen8 x
                      rw [insAt_of S t x hts] at hset
                      have hlx := insAt_length S t x hts
                      refine ⟨i + 1, insAt S t x, by go_num, by omega, by omega, by rw [← hnS]; exact hset.1, Go.Lib.hid (insAt_rise HP.out hts HA.out hlast.out), Go.Lib.hid (insAt_mem HS.out hx64), ?_⟩
                      exact HB8.out.grown hset.2 HB8.out.size (fun k hk => by cases hk; exact hB3)
                    case measure => simp only [intOf]; omega
            · have hlast : Hid (0 < t → S.getD (t - 1) 0 < x) := Go.Lib.hid fun h => absurd h ht0
              have htzI : ¬ (0 : Int) < (t : Int) := by omega
              clear ht0
              have hone := KU.one1 wc 0
              rw [show ((0 : Nat) : Int) = 0 from rfl] at hone
              have hOa := HO.out.alloc (.cells #[.int .u64 0] 23)
              have hbA : Below w.heap.size w (wc.alloc (.cells #[.int .u64 0] 23)) := hbr.alloc hbr.size _
              have hsz := hbA.size
              have hl1 : S.length + [0].length ≤ 1000000 := by simp; omega
              have hone := Go.Lib.hid hone
              have hOa := Go.Lib.hid hOa
              have hbA := Go.Lib.hid hbA
              have hl1 := Go.Lib.hid hl1
              go_upto_region 13 with (first
                | (with_reducible show wpList _ _ _ (⟨some 63, _, _, _, _, _⟩ :: _) _ _; go_must (refine KU_ok.append rfl (.tmp 61) (.tmp 62) rfl w.heap.size (.slice ao S.length co) (.slice (some ⟨wc.heap.size, 0, none⟩) 1 1) S [0] rfl rfl hOa.out hone.out hl1.out hsz ?_); go_must (intro v3 w3 ho3 hg3; have hb3 := hbA.out.grown hg3 hsz hOa.out.row; obtain ⟨g3, c3, rfl, hB3, hlt3, hcl3, hcm3⟩ := ho3.form (by simp); have HO3 := Go.Lib.hid ho3; have HB3 := Go.Lib.hid hb3; clear hg3 ho3 hb3))
                | fail)
              obtain ⟨n, hnS⟩ : ∃ n, n = S.length + 1 := ⟨_, rfl⟩
              rw [← hnS]
              have hn : n = (S ++ [0]).length := by rw [hnS]; simp
              have HO4 : Hid (KU.O w3 w.heap.size (.slice (some ⟨g3, 0, none⟩) n c3) (S ++ [0])) := Go.Lib.hid (by rw [hn]; exact HO3.out)
              have HN := Go.Lib.hid hn
              have Hsl1 : ∀ W, (Instr.slice 22 (.slice (some ⟨g3, 0, none⟩) n c3) (some (.int .i64 ((t : Int) + 1))) none none).run Try.prog W = .ok (sliced (some ⟨g3, 0, none⟩) (t + 1) n c3 KU.size) W := fun W => KU_ok.run_l (some ⟨g3, 0, none⟩) n c3 (t + 1) (by omega) .i64 W
              have Hsl2 : ∀ W, (Instr.slice 22 (.slice (some ⟨g3, 0, none⟩) n c3) (some (.int .i64 (t : Int))) none none).run Try.prog W = .ok (sliced (some ⟨g3, 0, none⟩) t n c3 KU.size) W := fun W => KU_ok.run_l (some ⟨g3, 0, none⟩) n c3 t (by omega) .i64 W
              obtain ⟨S1, hS1⟩ : ∃ S1, S1 = sliced (some ⟨g3, 0, none⟩) (t + 1) n c3 KU.size := ⟨_, rfl⟩
              obtain ⟨S2, hS2⟩ : ∃ S2, S2 = sliced (some ⟨g3, 0, none⟩) t n c3 KU.size := ⟨_, rfl⟩
              rw [← hS1] at Hsl1
              rw [← hS2] at Hsl2
              have HS1 := Go.Lib.hid hS1
              have HS2 := Go.Lib.hid hS2
              have htw : IntKind.i64.wrap ((t : Int) + 1) = (t : Int) + 1 := by rw [IntKind.wrap_i64]; omega
              have ht40 : t ≤ 40 := by omega
              clear hn hS1 hS2 hone hOa hbA hsz hl1 HO3 hcl3 hcm3
              refine wp_region_head 7 (by decide) (by kernel_rfl) (V13s g3 n c3 t S1 S2) (V13s_below g3 n c3 t S1 S2) (by decide +kernel) (by rfl) [64, 65, 66, 67, 68, 69, 70] (by rfl) ?_ ?_
              · intro i o hin ho a w6 hb6 hlen hg
                match i, hin, ho with
                | 0, hin, ho =>
                  obtain rfl := Option.some.inj ho
                  have h5 := given_old hg 5 (by decide +kernel)
                  clear hg
                  exact st_yield ho (wanted_none rfl) (.slice (some ⟨g3, 0, none⟩) n c3) w6 (by simp [execOp, Act.eval, h5, go_sem]) ⟨_, rfl, Below.refl _ _, by rintro t' ⟨⟩; rfl⟩
                | 1, hin, ho =>
                  obtain rfl := Option.some.inj ho
                  have h8 := given_old hg 8 (by decide +kernel)
                  clear hg
                  exact st_yield ho (wanted_none rfl) (.int .i64 (t : Int)) w6 (by simp [execOp, Act.eval, h8, go_sem]) ⟨_, rfl, Below.refl _ _, by rintro t' ⟨⟩; rfl⟩
                | 2, hin, ho =>
                  obtain rfl := Option.some.inj ho
                  obtain ⟨_, h65, rfl⟩ := given_fed hg 65 (by decide +kernel)
                  clear hg
                  exact st_yield ho (wanted_none rfl) (.int .i64 ((t : Int) + 1)) w6 (by simp [execOp, Act.eval, h65, go_sem, htw]) ⟨_, rfl, Below.refl _ _, by rintro t' ⟨⟩; rfl⟩
                | 3, hin, ho =>
                  obtain rfl := Option.some.inj ho
                  obtain ⟨_, h64, rfl⟩ := given_fed hg 64 (by decide +kernel)
                  obtain ⟨_, h66, rfl⟩ := given_fed hg 66 (by decide +kernel)
                  clear hg
                  exact st_yield ho (wanted_none rfl) S1 w6 (by simp [execOp, Act.eval, h64, h66, run_sliceAt_slice w6 22 _ _ _ _ Try.underlying22, Hsl1, Result.andThen]) ⟨_, rfl, Below.refl _ _, by rintro t' ⟨⟩; rfl⟩
                | 4, hin, ho =>
                  obtain rfl := Option.some.inj ho
                  have h5 := given_old hg 5 (by decide +kernel)
                  clear hg
                  exact st_yield ho (wanted_none rfl) (.slice (some ⟨g3, 0, none⟩) n c3) w6 (by simp [execOp, Act.eval, h5, go_sem]) ⟨_, rfl, Below.refl _ _, by rintro t' ⟨⟩; rfl⟩
                | 5, hin, ho =>
                  obtain rfl := Option.some.inj ho
                  have h8 := given_old hg 8 (by decide +kernel)
                  clear hg
                  exact st_yield ho (wanted_none rfl) (.int .i64 (t : Int)) w6 (by simp [execOp, Act.eval, h8, go_sem]) ⟨_, rfl, Below.refl _ _, by rintro t' ⟨⟩; rfl⟩
                | 6, hin, ho =>
                  obtain rfl := Option.some.inj ho
                  obtain ⟨_, h68, rfl⟩ := given_fed hg 68 (by decide +kernel)
                  obtain ⟨_, h69, rfl⟩ := given_fed hg 69 (by decide +kernel)
                  clear hg
                  exact st_yield ho (wanted_none rfl) S2 w6 (by simp [execOp, Act.eval, h68, h69, run_sliceAt_slice w6 22 _ _ _ _ Try.underlying22, Hsl2, Result.andThen]) ⟨_, rfl, Below.refl _ _, by rintro t' ⟨⟩; rfl⟩
                | n + 7, hin, ho => omega
              · intro f w7 hb7 hv
                have h67 := hv 67 (by decide)
                have h70 := hv 70 (by decide)
                simp only [V13s] at h67 h70
                have HO7 := Go.Lib.hid (HO4.out.below hb7)
                have HB7 := Go.Lib.hid (HB3.out.trans (hb7.mono HB3.out.size))
                have hti : t + 1 ≤ (S ++ [0]).length := by rw [← HN.out]; omega
                have Hti := Go.Lib.hid hti
                have i4 := idxU g3 0 n c3 t (by omega)
                rw [Nat.zero_add] at i4
                clear hv hb7 Hsl1 Hsl2 HB3 HO4 hti
                unfold putAll
                simp only [List.foldl, List.drop]
                simp only [h67, h70]
                go_simp
                go_wp2_with (first
                  | (with_reducible show wpList _ _ _ (⟨some 71, _, _, _, _, _⟩ :: _) _ _; go_must (refine wpList_copy_KU rfl (.tmp 67) (.tmp 70) rfl w.heap.size g3 n c3 t (S ++ [0]) HO7.out Hti.out S1 S2 rfl rfl HS1.out HS2.out w HB7.out ?_); go_must (intro w8 ho8 hb8; have HO8 := Go.Lib.hid ho8; have HB8 := Go.Lib.hid hb8; obtain ⟨y8, hc8⟩ := KU.there ho8 t (by simp only [List.length_append, List.length_take, List.length_drop, List.length_cons, List.length_nil]; omega); have hf8 := ho8.frozenAt t; clear ho8 hb8 HO7 HB7 Hti HS1 HS2))
                  | fail)
                go_roundw
                case rel =>
                  have hlen8 : t < ((S ++ [0]).take (t + 1) ++ ((S ++ [0]).drop t).take ((S ++ [0]).length - (t + 1))).length := by simp only [List.length_append, List.length_take, List.length_drop, List.length_cons, List.length_nil]; omega
                  have hset := KU.set HO8.out t hlen8 x
                  rw [insAt_of S t x hts] at hset
                  have hlx := insAt_length S t x hts
                  refine ⟨i + 1, insAt S t x, by go_num, by omega, by omega, by rw [← hnS]; exact hset.1, Go.Lib.hid (insAt_rise HP.out hts HA.out hlast.out), Go.Lib.hid (insAt_mem HS.out hx64), ?_⟩
                  exact HB8.out.grown hset.2 HB8.out.size (fun k hk => by cases hk; exact hB3)
                case measure => simp only [intOf]; omega
    · have hfin : Hid (KU.R wr (.slice ao S.length co) S) := Go.Lib.hid HO.out.r
      by_cases hl2 : i < L.length
      · have hi2 : ¬ (i : Int) < 40 := by omega
        have hl2I : (i : Int) < (L.length : Int) := by omega
        go_wp2_with fail
        go_ret
        exact ⟨_, rfl, S, hfin.out, HP.out, by omega, HS.out, hbr⟩
      · have hl2I : ¬ (i : Int) < (L.length : Int) := by omega
        go_wp2_with fail
        go_ret
        exact ⟨_, rfl, S, hfin.out, HP.out, by omega, HS.out, hbr⟩

end Go.Proofs.Ytmphcpggfgehhaa
