/-
  The reference's bits: PutNum.
-/
import Derived.Test.YtmphcpggfgehhaaRNum
import Derived.Deep.DeepMust
namespace Go.Proofs.Ytmphcpggfgehhaa
open Go.RowKit

theorem and_bit (x i : Nat) (hx : x < 18446744073709551616) : (bits .and .u64 ((x / 2 ^ i : Nat) : Int) 1 == 1) = bit x i := by
  have h1 : x / 2 ^ i < 18446744073709551616 := Nat.lt_of_le_of_lt (Nat.div_le_self _ _) hx
  have h2 := u64_and_nat (x / 2 ^ i) 1 h1 (by omega)
  rw [show ((1 : Nat) : Int) = 1 from rfl] at h2
  rw [h2, Nat.and_one_is_mod]
  unfold bit
  rcases Nat.mod_two_eq_zero_or_one (x / 2 ^ i) with h | h <;> rw [h] <;> rfl

set_option maxHeartbeats 400000 in
set_option maxRecDepth 100000 in
theorem rbitp_c (v : Value) (l : List Bool) (x n : Nat) (w : World) (h : RV w v (zb l)) (hx : x < 18446744073709551616) (hn : n ≤ 64) (hl : l.length ≤ 1000000) :
    Calls Try.prog 35 #[v, .int .u64 (x : Int), .int .i64 (n : Int)] w fun e w' => ∃ v', e = .returned v' ∧ OwnV 4 w' w.heap.size v' (zb (l ++ numB x n)) ∧ Below w.heap.size w w' := by
  obtain ⟨ad, cap, rfl, -⟩ := h.zbForm
  have l1 : ([] : List Bool).length + l.length ≤ 140737488355328 := by rw [List.length_nil]; omega
  have hx' := Go.Lib.hid hx
  clear hx
  go_enter Try.func35, Try.ntmps35
  go_wp2_with (first
    | (with_reducible show wpList _ _ _ (⟨some 10, _, _, _, _, _⟩ :: _) _ _; go_must (refine wpList_append_zb rfl (.const (.slice none 0 0)) (.tmp 9) 30 rfl w.heap.size 4 Try.underlying30 infoB (.slice none 0 0) (.slice ad l.length cap) [] l rfl rfl (OwnV.nil _ _ _) h l1 (Nat.le_refl _) ?_); go_must (intro v2 w2 ho2 hg2; rw [List.nil_append] at ho2; have hb2 := grown_new hg2; clear hg2 l1 h))
    | fail)
  go_loopw [7, 8] (fun u i wr => ∃ (k : Nat) (m : List Bool), k ≤ n ∧ i = .int .i64 ((k : Int) - 1) ∧ m ++ numB x k = l ++ numB x n ∧ OwnV 4 wr w.heap.size u (zb m) ∧ Below w.heap.size w wr) (fun _ i _ => (intOf i + 1).toNat)
  case atStart => exact ⟨n, l, Nat.le_refl _, rfl, rfl, ho2, hb2⟩
  case round =>
    obtain ⟨k, m, hk, rfl, hm, ho, hb⟩ := hrel
    have hml : m.length ≤ 1000064 := by have := congrArg List.length hm; simp only [List.length_append, numB_length] at this; omega
    have Hm := Go.Lib.hid hm
    clear hm
    by_cases hlt : 0 < k
    · obtain ⟨i, rfl⟩ : ∃ i, k = i + 1 := ⟨k - 1, by omega⟩
      have hi := and_bit x i hx'.out
      rw [show ((x / 2 ^ i : Nat) : Int) = (x : Int) / 2 ^ i from by simp] at hi
      obtain ⟨t, ht⟩ : ∃ t, t = bit x i := ⟨_, rfl⟩
      rw [← ht] at hi
      have Ht := Go.Lib.hid ht
      clear ht
      have hbs := hb.size
      have e1 : ((i + 1 : Nat) : Int) - 1 = (i : Int) := by omega
      rw [e1]
      clear e1 hlt
      have kA : Below wr.heap.size wr (wr.alloc (.cells #[.bool t] 4)) := (Below.refl _ _).alloc (Nat.le_refl _) _
      have hbA := hb.trans (kA.mono hb.size)
      have hoA := ho.below kA
      have hone := RV.zbOne wr 4 t
      have hsz := hbA.size
      have l1 : m.length + [t].length ≤ 140737488355328 := by simp; omega
      clear kA hb ho hbs
      go_wp2_with (first
        | (with_reducible show wpList _ _ _ (⟨some 32, _, _, _, _, _⟩ :: _) _ _; go_must (refine wpList_append_zb rfl (.tmp 24) (.tmp 31) 30 rfl w.heap.size 4 Try.underlying30 infoB u7 (.slice (some ⟨wr.heap.size, 0, none⟩) 1 1) m [t] rfl rfl hoA hone l1 hsz ?_); go_must (intro v3 w3 ho3 hg3; have hb3 := hbA.grown hg3 hsz hoA.row; clear hg3 hoA hone hbA hsz l1))
        | fail)
      go_roundw
      case rel =>
        refine ⟨i, m ++ [t], by omega, by congr 1, ?_, ho3, hb3⟩
        rw [List.append_assoc, ← Hm.out, numB, Ht.out]
        rfl
      case measure => simp only [intOf]; omega
    · obtain rfl : k = 0 := by omega
      rw [show numB x 0 = [] from rfl, List.append_nil] at Hm
      have e := Go.Lib.hid Hm
      have ho' : Hid (OwnV 4 wr w.heap.size u7 (zb (l ++ numB x n))) := by rw [← e.out]; exact ho
      clear ho e
      go_wp2_with fail
      go_ret
      exact ⟨_, rfl, ho'.out, hb⟩

end Go.Proofs.Ytmphcpggfgehhaa
