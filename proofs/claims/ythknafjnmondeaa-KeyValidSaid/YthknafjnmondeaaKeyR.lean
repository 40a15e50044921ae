/-
  Keys: contracts of the reference's MayKey, CompareRunes.
-/
import Derived.Test.YthknafjnmondeaaRRunes
import Derived.Test.YthknafjnmondeaaKeyM
import Derived.LoopTactic
import Derived.Deep.DeepCutAuto
namespace Go.Proofs.Ythknafjnmondeaa
open Go.RowKit Go.Op

def mayK (s : ByteArray) : Bool := decide (1 ≤ s.size) && decide (s.size ≤ 16)
def cmpS (a b : ByteArray) : Int := cmpN (runesOf (toks (bl a))) (runesOf (toks (bl b)))

set_option maxRecDepth 100000 in
theorem rmay_c (s : ByteArray) (w : World) (hm : s.size ≤ maxLen) : Calls Try.prog 10 #[.string s] w fun e w' => e = .returned (.bool (mayK s)) ∧ w = w' := by
  unfold maxLen at hm
  by_cases h1 : 1 ≤ s.size
  · by_cases h2 : s.size ≤ 16
    · go_enter Try.func10, Try.ntmps10
      go_wp2
      go_ret
      exact ⟨ret_of (congrArg Value.bool (by unfold mayK; simp [h1, h2]; try omega)), rfl⟩
    · go_enter Try.func10, Try.ntmps10
      go_wp2
      go_ret
      exact ⟨ret_of (congrArg Value.bool (by unfold mayK; simp [h2]; try omega)), rfl⟩
  · go_enter Try.func10, Try.ntmps10
    go_wp2
    go_ret
    exact ⟨ret_of (congrArg Value.bool (by unfold mayK; simp [h1]; try omega)), rfl⟩

set_option maxHeartbeats 2000000 in
set_option maxRecDepth 100000 in
theorem rcmp_c (a b : ByteArray) (w : World) (ha : a.size ≤ 1000000) (hb : b.size ≤ 1000000) :
    Calls Try.prog 13 #[.string a, .string b] w fun e w' => e = .returned (.int .i64 (cmpS a b)) ∧ Below w.heap.size w w' := by
  have hla := toks_length (bl a)
  have hlb := toks_length (bl b)
  rw [← bl_size] at hla hlb
  have c1 := fun W => rrunes_c a W (by omega)
  have c2 := fun W => rrunes_c b W (by omega)
  have hca : cmpS a b = cmpN ((runesOf (toks (bl a))).drop 0) ((runesOf (toks (bl b))).drop 0) := rfl
  have hxl : (runesOf (toks (bl a))).length ≤ 1000000 := by unfold runesOf; rw [List.length_map]; omega
  have hyl : (runesOf (toks (bl b))).length ≤ 1000000 := by unfold runesOf; rw [List.length_map]; omega
  generalize runesOf (toks (bl a)) = x at *
  generalize runesOf (toks (bl b)) = y at *
  generalize cmpS a b = c at *
  have C1 := Go.Lib.hid c1; clear c1
  have C2 := Go.Lib.hid c2; clear c2
  clear hla hlb ha hb
  go_enter Try.func13, Try.ntmps13
  go_wp2_with fail
  refine (C1.out _).mono ?_
  rintro e w1 ⟨v1, v2, rfl, hx, -, hb1⟩
  clear C1
  go_wp2_with fail
  refine (C2.out _).mono ?_
  rintro e w2 ⟨v3, v4, rfl, hy, -, hb2⟩
  have hx := hx.rv.below hb2
  have hy := hy.rv
  have hbb := hb1.trans (hb2.mono hb1.size)
  clear hb1 hb2 C2
  obtain ⟨a1, p1, rfl, -⟩ := id hx
  obtain ⟨a2, p2, rfl, -⟩ := id hy
  rw [zi_length] at hx hy
  rw [zi_length, zi_length]
  have hx' := Go.Lib.hid hx; clear hx
  have hy' := Go.Lib.hid hy; clear hy
  have Hc := Go.Lib.hid hca; clear hca
  go_wp2_with fail
  go_loopw [9] (fun i wr => ∃ k : Nat, k ≤ x.length ∧ k ≤ y.length ∧ i = .int .i64 (k : Int) ∧ Hid (c = cmpN (x.drop k) (y.drop k)) ∧ Below w2.heap.size w2 wr) (fun i _ => x.length - (intOf i).toNat)
  case atStart => exact ⟨0, by omega, by omega, rfl, Hc, Below.refl _ _⟩
  case round =>
    obtain ⟨k, hkx, hky, rfl, hc, hbr⟩ := hrel
    by_cases hlt : k < x.length ∧ k < y.length
    · obtain ⟨hk1, hk2⟩ := hlt
      obtain ⟨b1, o1, rfl, q1, -⟩ := (hx'.out.below hbr).at k (by rw [zi_length]; exact hk1)
      obtain ⟨b2, o2, rfl, q2, -⟩ := (hy'.out.below hbr).at k (by rw [zi_length]; exact hk2)
      rw [zi_at _ _ _ hk1] at q1
      rw [zi_at _ _ _ hk2] at q2
      have hat := cmpN_at x y k hk1 hk2
      rw [← hc.out] at hat
      generalize x[k] = p at *
      generalize y[k] = q at *
      have Hat := Go.Lib.hid hat; clear hat hc
      rcases Nat.lt_trichotomy p q with h | h | h
      · have he := Hat.out
        rw [if_pos h] at he
        have He := Go.Lib.hid he; clear he Hat
        go_wp2_with fail
        go_region
        go_wp2
        go_ret
        exact ⟨ret_int He.out.symm, hbb.trans ((below_drewN hbr 1).mono hbb.size)⟩
      · have he := Hat.out
        subst h
        rw [if_neg (by omega), if_neg (by omega)] at he
        have He := Go.Lib.hid he; clear he Hat
        go_wp2_with fail
        go_region
        go_wp2_with fail
        go_region
        go_wp2
        go_roundw
        case rel => exact ⟨k + 1, by omega, by omega, by go_num, He, below_drewN hbr 2⟩
        case measure => simp [intOf]; omega
      · have he := Hat.out
        rw [if_neg (by omega), if_pos h] at he
        have He := Go.Lib.hid he; clear he Hat
        go_wp2_with fail
        go_region
        go_wp2_with fail
        go_region
        go_wp2
        go_ret
        exact ⟨ret_int He.out.symm, hbb.trans ((below_drewN hbr 2).mono hbb.size)⟩
    · have he := hc.out.trans (cmpN_end x y k hkx hky (by omega))
      have hbw := hbb.trans (hbr.mono hbb.size)
      clear hc hbr hbb hx' hy' Hc
      by_cases h1 : x.length < y.length
      · rw [if_pos h1] at he
        have He := Go.Lib.hid he; clear he
        by_cases hk : k < x.length
        · omega
        · go_wp2
          go_ret
          exact ⟨ret_int He.out.symm, hbw⟩
      · by_cases h2 : y.length < x.length
        · rw [if_neg h1, if_pos h2] at he
          have He := Go.Lib.hid he; clear he
          have hk : k < x.length := by omega
          have hk2 : ¬ k < y.length := by omega
          clear hlt
          go_wp2
          go_ret
          exact ⟨ret_int He.out.symm, hbw⟩
        · rw [if_neg h1, if_neg h2] at he
          have He := Go.Lib.hid he; clear he
          have hk : ¬ k < x.length := by omega
          clear hlt
          go_wp2
          go_ret
          exact ⟨ret_int He.out.symm, hbw⟩

end Go.Proofs.Ythknafjnmondeaa
