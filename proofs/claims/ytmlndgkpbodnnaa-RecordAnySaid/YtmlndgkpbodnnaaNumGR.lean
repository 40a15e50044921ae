/-
  Contract of the reference's Get.
-/
import Derived.Test.YtmlndgkpbodnnaaNumG
namespace Go.Proofs.Ytmlndgkpbodnnaa
open Go.RowKit
open Go.Lib (uvarint zigzag)

set_option maxRecDepth 100000 in
theorem rget_c (v : Value) (l : List UInt8) (w : World) (hv : RB w v l) :
    Calls Try.prog 51 #[v] w fun e w' => e = .returned (gv (getB l)) ∧ w = w' := by
  obtain ⟨a, cap, rfl, h1, h2, h3, h4⟩ := hv
  have hm : l.length ≤ 9223372036854775807 := by unfold maxLen at h2; omega
  have H4 := Go.Lib.hid h4; clear h4
  clear h3
  go_enter Try.func51, Try.ntmps51
  go_wp2_with fail
  go_loop [5, 6, 7] (fun u t i => ∃ k acc W : Nat, k ≤ l.length ∧ k ≤ 9 ∧ i = .int .i64 (k : Int) ∧ u = .int .u64 (acc : Int) ∧ acc < 18446744073709551616 ∧ t = .int .u64 (W : Int) ∧ W < 18446744073709551616 ∧ Hid (W = 128 ^ k) ∧ Hid (acc < 128 ^ k) ∧ Hid (getB l = getS (l.drop k) k acc)) (fun _ _ i => l.length - (intOf i).toNat)
  case atStart => exact ⟨0, 0, 1, by omega, by omega, rfl, rfl, by omega, rfl, by omega, by simp [Hid], by simp [Hid], rfl⟩
  case round =>
    obtain ⟨k, acc, W, hk, hk9, rfl, rfl, hacc, rfl, hW, hWk, hpow, hg⟩ := hrel
    by_cases hlt : k < l.length
    · obtain ⟨b, o, rfl, hc⟩ := H4.out (by intro e; subst e; simp at hlt)
      have hck := hc k hlt
      clear hc
      have hst := getS_step l k acc hlt
      obtain ⟨c, Hc⟩ : ∃ c, c = l[k] := ⟨_, rfl⟩
      have hc256 : c.toNat < 256 := c.toNat_lt
      rw [← Hc] at hck hst
      have Hst := Go.Lib.hid hst; clear hst
      have HC := Go.Lib.hid Hc; clear Hc
      by_cases hb9 : k = 9 ∧ 1 < c.toNat
      · have h9 : ((k : Int) == 9) = true := by simp; omega
        have hc1 : (1 : Int) < (c.toNat : Int) := by omega
        have Hb9 := Go.Lib.hid hb9; clear hb9
        go_wp2
        go_ret3
        exact ⟨ret_gv (r := (0, 0, 1)) rfl (by rw [hg.out, Hst.out, if_pos Hb9.out]), rfl⟩
      · obtain ⟨A, HA⟩ : ∃ A, A = acc + c.toNat % 128 * 128 ^ k := ⟨_, rfl⟩
        have hu0 := gather2 acc c.toNat k W hWk.out hk9 hc256 hpow.out (by intro h; omega)
        rw [← HA] at hu0
        obtain ⟨hu, hA⟩ := hu0
        have hnx := gather_next acc c.toNat k hpow.out
        rw [← HA] at hnx
        have Hnx := Go.Lib.hid hnx; clear hnx
        have HA' := Go.Lib.hid HA; clear HA
        have Hb9 := Go.Lib.hid hb9
        clear hb9
        by_cases h128 : 128 ≤ c.toNat
        · have hk9' : k < 9 := by have := Hb9.out; omega
          have h9 : ((k : Int) == 9) = false := by simp; omega
          have hw' := nextW k W hWk.out hk9'
          obtain ⟨hw1, hw2, hw3⟩ := hw'
          have Hw3 := Go.Lib.hid hw3; clear hw3
          by_cases hk0 : 0 < k
          all_goals
            go_wp2
            go_round
            case rel => exact ⟨k + 1, A, W * 128, by omega, by omega, by go_num, rfl, hA, rfl, hw2, Hw3, Hnx, by rw [Hid, hg.out, Hst.out, if_neg Hb9.out, if_pos h128, HA'.out]⟩
            case measure => simp [intOf]; omega
        · by_cases h0 : c.toNat = 0 ∧ 0 < k
          · have H0 := Go.Lib.hid h0
            have hc0 : ((c.toNat : Int) == 0) = true := by simp; omega
            have hkp : 0 < k := h0.2
            have hc1 : ¬ (1 : Int) < (c.toNat : Int) := by omega
            have hd : decide ((1 : Int) < (c.toNat : Int)) = false := by simp; omega
            clear h0
            by_cases h9 : ((k : Int) == 9) = true
            all_goals
              go_wp2
              go_ret3
              exact ⟨ret_gv (r := (0, 0, 1)) rfl (by rw [hg.out, Hst.out, if_neg Hb9.out, if_neg h128, if_pos H0.out]), rfl⟩
          · have H0 := Go.Lib.hid h0
            have hfin : getB l = (unzig A, k + 1, 0) := by
              rw [hg.out, Hst.out, if_neg Hb9.out, if_neg h128, if_neg h0, HA'.out, Nat.mod_eq_of_lt (by omega)]
            have Hfin := Go.Lib.hid hfin
            clear h0 hfin
            have hodd : Hid (A % 2 = 1 → unzig A = -((A / 2 : Nat) : Int) - 1) := fun h => by rw [unzig, if_pos h]
            have heven : Hid (¬ A % 2 = 1 → unzig A = ((A / 2 : Nat) : Int)) := fun h => by rw [unzig, if_neg h]
            by_cases hk9' : k = 9
            · have h9 : ((k : Int) == 9) = true := by simp; omega
              have hd : decide ((1 : Int) < (c.toNat : Int)) = false := by have := Hb9.out; simp; omega
              have hc0 : ((c.toNat : Int) == 0) = false := by have := H0.out; simp; omega
              have hkp : 0 < k := by omega
              have Hk9 := Go.Lib.hid hk9'; clear hk9'
              by_cases hp : A % 2 = 1
              · have hpi : ((A : Int) % 2 == 1) = true := by simp; omega
                have Hp := Go.Lib.hid hp; clear hp
                go_wp2
                go_ret3
                refine ⟨ret_gv (r := (-((A / 2 : Nat) : Int) - 1, k + 1, 0)) rfl (by rw [Hfin.out, hodd.out Hp.out]), rfl⟩
              · have hpi : ((A : Int) % 2 == 1) = false := by simp; omega
                have Hp := Go.Lib.hid hp; clear hp
                go_wp2
                go_ret3
                refine ⟨ret_gv (r := (((A / 2 : Nat) : Int), k + 1, 0)) rfl (by rw [Hfin.out, heven.out Hp.out]), rfl⟩
            · have h9 : ((k : Int) == 9) = false := by simp; omega
              by_cases hk0 : 0 < k
              · have hc0 : ((c.toNat : Int) == 0) = false := by have := H0.out; simp; omega
                by_cases hp : A % 2 = 1
                · have hpi : ((A : Int) % 2 == 1) = true := by simp; omega
                  have Hp := Go.Lib.hid hp; clear hp
                  go_wp2
                  go_ret3
                  refine ⟨ret_gv (r := (-((A / 2 : Nat) : Int) - 1, k + 1, 0)) rfl (by rw [Hfin.out, hodd.out Hp.out]), rfl⟩
                · have hpi : ((A : Int) % 2 == 1) = false := by simp; omega
                  have Hp := Go.Lib.hid hp; clear hp
                  go_wp2
                  go_ret3
                  refine ⟨ret_gv (r := (((A / 2 : Nat) : Int), k + 1, 0)) rfl (by rw [Hfin.out, heven.out Hp.out]), rfl⟩
              · have hkd : decide ((0 : Int) < (k : Int)) = false := by simp; omega
                by_cases hp : A % 2 = 1
                · have hpi : ((A : Int) % 2 == 1) = true := by simp; omega
                  have Hp := Go.Lib.hid hp; clear hp
                  go_wp2
                  go_ret3
                  refine ⟨ret_gv (r := (-((A / 2 : Nat) : Int) - 1, k + 1, 0)) rfl (by rw [Hfin.out, hodd.out Hp.out]), rfl⟩
                · have hpi : ((A : Int) % 2 == 1) = false := by simp; omega
                  have Hp := Go.Lib.hid hp; clear hp
                  go_wp2
                  go_ret3
                  refine ⟨ret_gv (r := (((A / 2 : Nat) : Int), k + 1, 0)) rfl (by rw [Hfin.out, heven.out Hp.out]), rfl⟩
    · go_wp2
      go_ret3
      exact ⟨ret_gv (r := (0, 0, 2)) rfl (by rw [hg.out, List.drop_of_length_le (by omega), getS]), rfl⟩

end Go.Proofs.Ytmlndgkpbodnnaa
