/-
  The reference's Tree.
-/
import Derived.Test.YtmphcpggfgehhaaTrieR
import Derived.Test.YtmphcpggfgehhaaKUW
import Derived.Deep.DeepMust
namespace Go.Proofs.Ytmphcpggfgehhaa
open Go.RowKit

theorem countP_step (p : Nat → Bool) (L : List Nat) (i : Nat) (h : i < L.length) : (L.take (i + 1)).countP p = (L.take i).countP p + (if p L[i] then 1 else 0) := by
  rw [List.take_succ_eq_append_getElem h, List.countP_append, List.countP_singleton]

set_option maxHeartbeats 1000000 in
set_option maxRecDepth 100000 in
theorem rtree_c : ∀ (k d : Nat) (L : List Nat) (v : Value) (w : World), d + k = 64 → KU.R w v L → (∀ x ∈ L, x < 18446744073709551616) → L.length ≤ 4096 → (treeL k L).length ≤ 100000000 →
    Calls Try.prog 11 #[v, .int .i64 (d : Int)] w fun e w' => ∃ v', e = .returned v' ∧ OwnV 4 w' w.heap.size v' (zb (treeL k L)) ∧ Below w.heap.size w w' := by
  intro k
  induction k with
  | zero =>
    intro d L v w hdk hv _ _ _
    obtain rfl : d = 64 := by omega
    obtain ⟨ad, cap, rfl, hl⟩ := hv.form
    clear hv
    by_cases hs : L.length ≤ 1
    · have hsI : (L.length : Int) ≤ 1 := by omega
      go_enter Try.func11, Try.ntmps11
      go_wp2_with fail
      go_ret
      exact ⟨_, rfl, OwnV.nil _ _ _, Below.refl _ _⟩
    · have hsI : ¬ (L.length : Int) ≤ 1 := by omega
      go_enter Try.func11, Try.ntmps11
      go_wp2_with fail
      go_ret
      exact ⟨_, rfl, OwnV.nil _ _ _, Below.refl _ _⟩
  | succ k ih =>
    intro d L v w hdk hv hb h4 hlen
    obtain ⟨ad, cap, rfl, hl⟩ := hv.form
    by_cases hs : L.length ≤ 1
    · have hsI : (L.length : Int) ≤ 1 := by omega
      rw [treeL, if_pos hs]
      clear hv ih
      go_enter Try.func11, Try.ntmps11
      go_wp2_with fail
      go_ret
      exact ⟨_, rfl, OwnV.nil _ _ _, Below.refl _ _⟩
    have hsI : ¬ (L.length : Int) ≤ 1 := by omega
    obtain ⟨bs, os, rfl, -, hbs, -⟩ := KU.at' hv 0 (by omega)
    obtain ⟨m, hm⟩ : ∃ m, m = L.countP fun x => !x.testBit k := ⟨_, rfl⟩
    have hml : m ≤ L.length := by rw [hm]; exact List.countP_le_length
    have htree : treeL (k + 1) L = gam (m + 1) ++ treeL k (L.take m) ++ treeL k (L.drop m) := by rw [treeL, if_neg hs, ← hm]
    rw [htree] at hlen ⊢
    simp only [List.length_append] at hlen
    have hn := hv.len
    have Hsl1 : ∀ W, (Instr.slice 22 (.slice (some ⟨bs, os, none⟩) L.length cap) none (some (.int .i64 (m : Int))) none).run Try.prog W = .ok (sliced (some ⟨bs, os, none⟩) 0 m cap KU.size) W := fun W => KU_ok.run_h (some ⟨bs, os, none⟩) L.length cap m (by omega) .i64 W
    have Hsl2 : ∀ W, (Instr.slice 22 (.slice (some ⟨bs, os, none⟩) L.length cap) (some (.int .i64 (m : Int))) none none).run Try.prog W = .ok (sliced (some ⟨bs, os, none⟩) m L.length cap KU.size) W := fun W => KU_ok.run_l (some ⟨bs, os, none⟩) L.length cap m (by omega) .i64 W
    have hR1 := hv.cut KU_ok 0 m cap (by omega) hml (by omega) (Nat.le_refl _)
    have hR2 := hv.cut KU_ok m L.length cap (by omega) (by omega) (by omega) (Nat.le_refl _)
    rw [List.drop_zero] at hR1
    rw [List.take_of_length_le (Nat.le_refl _)] at hR2
    obtain ⟨S1, hS1⟩ : ∃ S1, S1 = sliced (some ⟨bs, os, none⟩) 0 m cap KU.size := ⟨_, rfl⟩
    obtain ⟨S2, hS2⟩ : ∃ S2, S2 = sliced (some ⟨bs, os, none⟩) m L.length cap KU.size := ⟨_, rfl⟩
    rw [← hS1] at hR1 Hsl1
    rw [← hS2] at hR2 Hsl2
    have hd1 : ((d + 1 : Nat) : Int) = (d : Int) + 1 := by omega
    have CT1 := fun (W : World) (hW : Below w.heap.size w W) => ih (d + 1) (L.take m) S1 W (by omega) (hR1.below hW) (fun x hx => hb x (List.mem_of_mem_take hx)) (by rw [List.length_take]; omega) (by omega)
    have CT2 := fun (W : World) (hW : Below w.heap.size w W) => ih (d + 1) (L.drop m) S2 W (by omega) (hR2.below hW) (fun x hx => hb x (List.mem_of_mem_drop hx)) (by rw [List.length_drop]; omega) (by omega)
    have CG := fun W => rgamma_c (m + 1) W (by omega)
    have hmI : ((m + 1 : Nat) : Int) = (m : Int) + 1 := by omega
    simp only [hd1] at CT1 CT2
    simp only [hmI] at CG
    have KT1 := Go.Lib.hid CT1
    have KT2 := Go.Lib.hid CT2
    have KG := Go.Lib.hid CG
    have HS1 := Go.Lib.hid Hsl1
    have HS2 := Go.Lib.hid Hsl2
    have H := Go.Lib.hid hv
    have HM := Go.Lib.hid hm
    have HB := Go.Lib.hid hb
    have HL := Go.Lib.hid hlen
    have hdk2 : (63 : Int) - (d : Int) = (k : Int) := by omega
    have hk63 : k ≤ 63 := by omega
    have hd63 : ¬ 63 < (d : Int) := by omega
    have hd64 : d ≤ 63 := by omega
    clear ih hv hb hR1 hR2 htree hlen hn CT1 CT2 CG Hsl1 Hsl2 hS1 hS2 hm hd1 hmI hdk hs
    go_enter Try.func11, Try.ntmps11
    go_wp2_with fail
    go_loop [5, 6] (fun n' i' => ∃ i c : Nat, n' = .int .i64 (c : Int) ∧ i' = .int .i64 (i : Int) ∧ i ≤ L.length ∧ c ≤ i ∧ Hid (c = (L.take i).countP fun x => !x.testBit k)) (fun _ i' => L.length - (intOf i').toNat)
    case atStart => exact ⟨0, 0, rfl, rfl, by omega, by omega, Go.Lib.hid rfl⟩
    case round =>
      obtain ⟨i, c, rfl, rfl, hi, hci, HC⟩ := hrel
      by_cases hlt : i < L.length
      · obtain ⟨b', o', e, -, -, c1⟩ := KU.at' H.out i hlt
        cases e
        have i1 := idxU bs os L.length cap i hlt
        have hx64 := HB.out L[i] (List.getElem_mem hlt)
        have hstep := countP_step (fun x => !x.testBit k) L i hlt
        generalize L[i] = x at *
        have hand := and_nought x k hx64
        cases hbit : x.testBit k with
        | false =>
          rw [hbit] at hand hstep
          simp only [Bool.not_false] at hand hstep
          rw [← HC.out] at hstep
          simp only [if_true] at hstep
          have HC2 : Hid (c + 1 = (L.take (i + 1)).countP fun x => !x.testBit k) := Go.Lib.hid hstep.symm
          clear hstep HC hbit
          go_wp2_with fail
          go_round
          case rel => exact ⟨i + 1, c + 1, by go_num, by go_num, by omega, by omega, HC2⟩
          case measure => simp only [intOf]; omega
        | true =>
          rw [hbit] at hand hstep
          simp only [Bool.not_true] at hand hstep
          rw [← HC.out] at hstep
          simp only [Bool.false_eq_true, if_false, Nat.add_zero] at hstep
          have HC2 : Hid (c = (L.take (i + 1)).countP fun x => !x.testBit k) := Go.Lib.hid hstep.symm
          clear hstep HC hbit
          go_wp2_with fail
          go_round
          case rel => exact ⟨i + 1, c, by go_num, by go_num, by omega, by omega, HC2⟩
          case measure => simp only [intOf]; omega
      · obtain rfl : i = L.length := by omega
        have hcm : c = m := by rw [HC.out, HM.out, List.take_length]
        subst hcm
        clear HC hci hi hlt
        go_wp2_with fail
        refine (KG.out _).mono ?_
        rintro e w1 ⟨v1, rfl, ho1, hb1⟩
        have hr1 := ho1.rv
        have l1 : ([] : List Bool).length + (gam (c + 1)).length ≤ 140737488355328 := by have := HL.out; rw [List.length_nil]; omega
        have hnil : OwnV 4 w1 w.heap.size (.slice none 0 0) (zb []) := OwnV.nil _ _ _
        have hs1 := hb1.size
        obtain ⟨ad1, cp1, rfl, -⟩ := hr1.zbForm
        have l10 := Go.Lib.hid l1
        have hr10 := Go.Lib.hid hr1
        have hnil0 := Go.Lib.hid hnil
        have hb10 := Go.Lib.hid hb1
        clear l1 hr1 hnil hb1 ho1 KG
        go_wp2_with (first
          | (with_reducible show wpList _ _ _ (⟨some 37, _, _, _, _, _⟩ :: _) _ _; go_must (refine wpList_append_zb rfl (.const (.slice none 0 0)) (.tmp 36) 30 rfl w.heap.size 4 Try.underlying30 infoB (.slice none 0 0) (.slice ad1 (gam (c + 1)).length cp1) [] (gam (c + 1)) rfl rfl hnil0.out hr10.out l10.out hs1 ?_); go_must (intro v2 w2 ho2 hg2; rw [List.nil_append] at ho2; have hb2 := hb10.out.trans ((grown_new hg2).mono hs1); have HO2 := Go.Lib.hid ho2; have HB2 := Go.Lib.hid hb2; have hsl := HS1.out; clear hg2 ho2 hb2 l10 hr10 hnil0 hb10))
          | (with_reducible show wpList _ _ _ (⟨some 41, _, _, _, _, _⟩ :: _) _ _; go_must (refine wpList_cut_h rfl (.tmp 39) (.tmp 40) 22 rfl (by kernel_rfl) (some ⟨bs, os, none⟩) L.length cap (.int .i64 (c : Int)) S1 rfl rfl HS1.out ?_))
          | fail)
        refine (KT1.out _ HB2.out).mono ?_
        rintro e w3 ⟨v3, rfl, ho3, hb3⟩
        have hs2 := HB2.out.size
        have hb4 := HB2.out.trans (hb3.mono hs2)
        have ho4 := HO2.out.below hb3
        obtain ⟨ad3, cp3, rfl, -⟩ := ho3.rv.zbForm
        have hr30 := Go.Lib.hid ho3.rv
        have ho40 := Go.Lib.hid ho4
        have hb40 := Go.Lib.hid hb4
        have l30 : Hid ((gam (c + 1)).length + (treeL k (L.take c)).length ≤ 140737488355328) := Go.Lib.hid (by have := HL.out; omega)
        have hs4 := hb4.size
        clear hs2 hb4 ho4 ho3 hb3 HB2 HO2 KT1
        go_wp2_with (first
          | (with_reducible show wpList _ _ _ (⟨some 45, _, _, _, _, _⟩ :: _) _ _; go_must (refine wpList_append_zb rfl (.tmp 38) (.tmp 44) 30 rfl w.heap.size 4 Try.underlying30 infoB v2 (.slice ad3 (treeL k (L.take c)).length cp3) (gam (c + 1)) (treeL k (L.take c)) rfl rfl ho40.out hr30.out l30.out hs4 ?_); go_must (intro v5 w5 ho5 hg5; have hb5 := hb40.out.grown hg5 hs4 ho40.out.row; have HO5 := Go.Lib.hid ho5; have HB5 := Go.Lib.hid hb5; clear hg5 ho5 hb5 hr30 ho40 hb40 l30))
          | (with_reducible show wpList _ _ _ (⟨some 49, _, _, _, _, _⟩ :: _) _ _; go_must (refine wpList_cut_l rfl (.tmp 47) (.tmp 48) 22 rfl (by kernel_rfl) (some ⟨bs, os, none⟩) L.length cap (.int .i64 (c : Int)) S2 rfl rfl HS2.out ?_))
          | fail)
        refine (KT2.out _ HB5.out).mono ?_
        rintro e w6 ⟨v6, rfl, ho6, hb6⟩
        have hs5 := HB5.out.size
        have hb7 := HB5.out.trans (hb6.mono hs5)
        have ho7 := HO5.out.below hb6
        obtain ⟨ad6, cp6, rfl, -⟩ := ho6.rv.zbForm
        have hr60 := Go.Lib.hid ho6.rv
        have ho70 := Go.Lib.hid ho7
        have hb70 := Go.Lib.hid hb7
        have l60 : Hid ((gam (c + 1) ++ treeL k (L.take c)).length + (treeL k (L.drop c)).length ≤ 140737488355328) := Go.Lib.hid (by have := HL.out; rw [List.length_append]; omega)
        have hs7 := hb7.size
        clear hs5 hb7 ho7 ho6 hb6 HB5 HO5 KT2
        go_wp2_with (first
          | (with_reducible show wpList _ _ _ (⟨some 53, _, _, _, _, _⟩ :: _) _ _; go_must (refine wpList_append_zb rfl (.tmp 46) (.tmp 52) 30 rfl w.heap.size 4 Try.underlying30 infoB v5 (.slice ad6 (treeL k (L.drop c)).length cp6) (gam (c + 1) ++ treeL k (L.take c)) (treeL k (L.drop c)) rfl rfl ho70.out hr60.out l60.out hs7 ?_); go_must (intro v8 w8 ho8 hg8; have hb8 := hb70.out.grown hg8 hs7 ho70.out.row; have HO8 := Go.Lib.hid ho8; have HB8 := Go.Lib.hid hb8; clear hg8 ho8 hb8 hr60 ho70 hb70 l60))
          | fail)
        go_ret
        exact ⟨_, rfl, HO8.out, HB8.out⟩

end Go.Proofs.Ytmphcpggfgehhaa
