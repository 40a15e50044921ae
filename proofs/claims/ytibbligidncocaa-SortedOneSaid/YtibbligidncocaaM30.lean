/-
  The reference's bits: Num.
  The reference's bits: PutNum.
  The reference's digits, Gamma, GetGamma.
-/
import Derived.Test.YtibbligidncocaaM29
import Derived.Deep.DeepMust
import Derived.Test.YtibbligidncocaaM07
namespace Go.Proofs.Ytibbligidncocaa
open Go.RowKit

set_option maxRecDepth 100000 in
theorem rnum_no (v : Value) (l : List Bool) (a n : Int) (w : World) (h : RV w v (zb l)) (hno : a < 0 ∨ n < 0 ∨ 64 < n ∨ (l.length : Int) < a ∨ (l.length : Int) - a < n) :
    Calls Try.prog 96 #[v, .int .i64 a, .int .i64 n] w fun e w' => e = .returned (.tuple #[.int .u64 0, .bool false]) ∧ w = w' := by
  obtain ⟨ad, cap, rfl, hl, -⟩ := h.zbForm
  clear h
  by_cases h1 : a < 0
  · go_enter Try.func96, Try.ntmps96
    go_wp2_with fail
    go_ret2
    exact ⟨rfl, rfl⟩
  by_cases h2 : n < 0
  · go_enter Try.func96, Try.ntmps96
    go_wp2_with fail
    go_ret2
    exact ⟨rfl, rfl⟩
  by_cases h3 : 64 < n
  · go_enter Try.func96, Try.ntmps96
    go_wp2_with fail
    go_ret2
    exact ⟨rfl, rfl⟩
  by_cases h4 : (l.length : Int) < a
  · go_enter Try.func96, Try.ntmps96
    go_wp2_with fail
    go_ret2
    exact ⟨rfl, rfl⟩
  have h5 : (l.length : Int) - a < n := by omega
  clear hno
  go_enter Try.func96, Try.ntmps96
  go_wp2_with fail
  go_ret2
  exact ⟨rfl, rfl⟩

theorem val_next (l : List Bool) (a i : Nat) (h : a + i < l.length) : val ((l.drop a).take (i + 1)) = 2 * val ((l.drop a).take i) + bv l[a + i] := by
  have h1 : i < (l.drop a).length := by rw [List.length_drop]; omega
  rw [List.take_succ_eq_append_getElem h1, val_snoc, List.getElem_drop]

set_option maxHeartbeats 400000 in
set_option maxRecDepth 100000 in
theorem rnum_c (v : Value) (l : List Bool) (a n : Nat) (w : World) (h : RV w v (zb l)) (hn : n ≤ 64) (ha : a + n ≤ l.length) :
    Calls Try.prog 96 #[v, .int .i64 (a : Int), .int .i64 (n : Int)] w fun e w' => e = .returned (.tuple #[.int .u64 (val ((l.drop a).take n) : Int), .bool true]) ∧ w = w' := by
  obtain ⟨ad, cap, rfl, hl, -⟩ := h.zbForm
  have H := Go.Lib.hid h
  clear h
  have h1 : ¬ (l.length : Int) < (a : Int) := by omega
  have h2 : ¬ (l.length : Int) - (a : Int) < (n : Int) := by omega
  go_enter Try.func96, Try.ntmps96
  go_wp2_with fail
  go_loop [8, 9] (fun x i => ∃ k : Nat, k ≤ n ∧ i = .int .i64 (k : Int) ∧ x = .int .u64 (val ((l.drop a).take k) : Int)) (fun _ i => n - (intOf i).toNat)
  case atStart => exact ⟨0, by omega, rfl, rfl⟩
  case round =>
    obtain ⟨k, hk, rfl, rfl⟩ := hrel
    by_cases hlt : k < n
    · obtain ⟨b, o, rfl, hc, -⟩ := H.out.zbAt (a + k) (by omega)
      have hv := val_next l a k (by omega)
      have hlt2 : val ((l.drop a).take k) < 9223372036854775808 := by
        have h3 : 2 ^ ((l.drop a).take k).length ≤ 2 ^ 63 := Nat.pow_le_pow_right (by omega) (by simp only [List.length_take]; omega)
        exact Nat.lt_of_lt_of_le (val_lt _) h3
      have Hv := Go.Lib.hid hv
      clear hv
      generalize val ((l.drop a).take k) = x at *
      have hx2 : (x : Int) < 9223372036854775808 := by omega
      cases hb : l[a + k] with
      | false =>
        rw [hb] at hc
        have Hb := Go.Lib.hid hb
        clear hb
        go_wp2_with fail
        go_round
        case rel => exact ⟨k + 1, by omega, by go_num, by rw [Hv.out, Hb.out]; simp only [bv]; congr 1; (try simp); omega⟩
        case measure => simp only [intOf]; omega
      | true =>
        rw [hb] at hc
        have Hb := Go.Lib.hid hb
        clear hb
        go_wp2_with fail
        go_round
        case rel => exact ⟨k + 1, by omega, by go_num, by rw [Hv.out, Hb.out]; simp only [bv]; congr 1; (try simp); omega⟩
        case measure => simp only [intOf]; omega
    · obtain rfl : k = n := by omega
      clear h1 h2
      go_wp2_with fail
      go_ret2
      exact ⟨rfl, rfl⟩

end Go.Proofs.Ytibbligidncocaa

namespace Go.Proofs.Ytibbligidncocaa
open Go.RowKit

theorem and_bit (x i : Nat) (hx : x < 18446744073709551616) : (bits .and .u64 ((x / 2 ^ i : Nat) : Int) 1 == 1) = bit x i := by
  have h1 : x / 2 ^ i < 18446744073709551616 := Nat.lt_of_le_of_lt (Nat.div_le_self _ _) hx
  have h2 := u64_and_nat (x / 2 ^ i) 1 h1 (by omega)
  rw [show ((1 : Nat) : Int) = 1 from rfl] at h2
  rw [h2, Nat.and_one_is_mod]
  unfold bit
  rcases Nat.mod_two_eq_zero_or_one (x / 2 ^ i) with h | h <;> rw [h] <;> rfl

set_option maxHeartbeats 400000 in
set_option maxRecDepth 100000 in
theorem rbitp_c (v : Value) (l : List Bool) (x n : Nat) (w : World) (h : RV w v (zb l)) (hx : x < 18446744073709551616) (hn : n ≤ 64) (hl : l.length ≤ 1000000) :
    Calls Try.prog 98 #[v, .int .u64 (x : Int), .int .i64 (n : Int)] w fun e w' => ∃ v', e = .returned v' ∧ OwnV 4 w' w.heap.size v' (zb (l ++ numB x n)) ∧ Below w.heap.size w w' := by
  obtain ⟨ad, cap, rfl, -⟩ := h.zbForm
  have l1 : ([] : List Bool).length + l.length ≤ 140737488355328 := by rw [List.length_nil]; omega
  have hx' := Go.Lib.hid hx
  clear hx
  go_enter Try.func98, Try.ntmps98
  go_wp2_with (first
    | (with_reducible show wpList _ _ _ (⟨some 10, _, _, _, _, _⟩ :: _) _ _; go_must (refine wpList_append_zb rfl (.const (.slice none 0 0)) (.tmp 9) 100 rfl w.heap.size 4 Try.underlying100 infoB (.slice none 0 0) (.slice ad l.length cap) [] l rfl rfl (OwnV.nil _ _ _) h l1 (Nat.le_refl _) ?_); go_must (intro v2 w2 ho2 hg2; rw [List.nil_append] at ho2; have hb2 := grown_new hg2; clear hg2 l1 h))
    | fail)
  go_loopw [7, 8] (fun u i wr => ∃ (k : Nat) (m : List Bool), k ≤ n ∧ i = .int .i64 ((k : Int) - 1) ∧ m ++ numB x k = l ++ numB x n ∧ OwnV 4 wr w.heap.size u (zb m) ∧ Below w.heap.size w wr) (fun _ i _ => (intOf i + 1).toNat)
  case atStart => exact ⟨n, l, Nat.le_refl _, rfl, rfl, ho2, hb2⟩
  case round =>
    obtain ⟨k, m, hk, rfl, hm, ho, hb⟩ := hrel
    have hml : m.length ≤ 1000064 := by have := congrArg List.length hm; simp only [List.length_append, numB_length] at this; omega
    have Hm := Go.Lib.hid hm
    clear hm
    by_cases hlt : 0 < k
    · obtain ⟨i, rfl⟩ : ∃ i, k = i + 1 := ⟨k - 1, by omega⟩
      have hi := and_bit x i hx'.out
      rw [show ((x / 2 ^ i : Nat) : Int) = (x : Int) / 2 ^ i from by simp] at hi
      obtain ⟨t, ht⟩ : ∃ t, t = bit x i := ⟨_, rfl⟩
      rw [← ht] at hi
      have Ht := Go.Lib.hid ht
      clear ht
      have hbs := hb.size
      have e1 : ((i + 1 : Nat) : Int) - 1 = (i : Int) := by omega
      rw [e1]
      clear e1 hlt
      have kA : Below wr.heap.size wr (wr.alloc (.cells #[.bool t] 4)) := (Below.refl _ _).alloc (Nat.le_refl _) _
      have hbA := hb.trans (kA.mono hb.size)
      have hoA := ho.below kA
      have hone := RV.zbOne wr 4 t
      have hsz := hbA.size
      have l1 : m.length + [t].length ≤ 140737488355328 := by simp; omega
      clear kA hb ho hbs
      go_wp2_with (first
        | (with_reducible show wpList _ _ _ (⟨some 32, _, _, _, _, _⟩ :: _) _ _; go_must (refine wpList_append_zb rfl (.tmp 24) (.tmp 31) 100 rfl w.heap.size 4 Try.underlying100 infoB u7 (.slice (some ⟨wr.heap.size, 0, none⟩) 1 1) m [t] rfl rfl hoA hone l1 hsz ?_); go_must (intro v3 w3 ho3 hg3; have hb3 := hbA.grown hg3 hsz hoA.row; clear hg3 hoA hone hbA hsz l1))
        | fail)
      go_roundw
      case rel =>
        refine ⟨i, m ++ [t], by omega, by congr 1, ?_, ho3, hb3⟩
        rw [List.append_assoc, ← Hm.out, numB, Ht.out]
        rfl
      case measure => simp only [intOf]; omega
    · obtain rfl : k = 0 := by omega
      rw [show numB x 0 = [] from rfl, List.append_nil] at Hm
      have e := Go.Lib.hid Hm
      have ho' : Hid (OwnV 4 wr w.heap.size u7 (zb (l ++ numB x n))) := by rw [← e.out]; exact ho
      clear ho e
      go_wp2_with fail
      go_ret
      exact ⟨_, rfl, ho'.out, hb⟩

end Go.Proofs.Ytibbligidncocaa

namespace Go.Proofs.Ytibbligidncocaa
open Go.RowKit

set_option maxRecDepth 100000 in
theorem rdigits_c (x : Nat) (w : World) (hx : x < 18446744073709551616) : Calls Try.prog 97 #[.int .u64 (x : Int)] w fun e w' => e = .returned (.int .i64 (digits x : Int)) ∧ w = w' := by
  have h64 := digits_64 x hx
  clear hx
  go_enter Try.func97, Try.ntmps97
  go_wp2_with fail
  go_loop [0, 3] (fun y n => ∃ (z k : Nat), y = .int .u64 (z : Int) ∧ n = .int .i64 (k : Int) ∧ k + digits z = digits x) (fun y _ => (intOf y).toNat)
  case atStart => exact ⟨x, 0, rfl, rfl, by omega⟩
  case round =>
    obtain ⟨z, k, rfl, rfl, hd⟩ := hrel
    by_cases hz : 0 < z
    · have h1 := digits_half z (by omega)
      have hk : k ≤ 64 := by omega
      have Hd := Go.Lib.hid (show k + 1 + digits (z / 2) = digits x by omega)
      clear hd h1
      go_wp2_with fail
      go_round
      case rel => exact ⟨z / 2, k + 1, by (try simp), by go_num, Hd.out⟩
      case measure => simp only [intOf]; omega
    · obtain rfl : z = 0 := by omega
      have Hd : Hid (k = digits x) := by rw [digits_zero] at hd; exact hd
      clear hd
      go_wp2_with fail
      go_ret
      exact ⟨by rw [← Hd.out]; rfl, rfl⟩

set_option maxRecDepth 100000 in
theorem rgamma_c (x : Nat) (w : World) (hx : x < 18446744073709551616) : Calls Try.prog 81 #[.int .u64 (x : Int)] w fun e w' => ∃ v', e = .returned v' ∧ OwnV 4 w' w.heap.size v' (zb (gam x)) ∧ Below w.heap.size w w' := by
  by_cases h0 : x = 0
  · subst h0
    go_enter Try.func81, Try.ntmps81
    go_wp2_with fail
    go_ret
    exact ⟨_, rfl, OwnV.nil _ _ _, Below.refl _ _⟩
  · obtain ⟨-, -, hk1⟩ := digits_bounds x h0
    have hk64 := digits_64 x hx
    have C1 := Go.Lib.hid fun W => rdigits_c x W hx
    have C2 := Go.Lib.hid fun v W (h : RV W v (zb (List.replicate (digits x - 1) false))) => rbitp_c v _ x (digits x) W h hx hk64 (by simp; omega)
    have Hg := Go.Lib.hid (show gam x = List.replicate (digits x - 1) false ++ numB x (digits x) by unfold gam; rw [if_neg h0])
    have hx0 : ((x : Int) == 0) = false := by simp; omega
    clear hx h0
    generalize digits x = k at *
    go_enter Try.func81, Try.ntmps81
    go_wp2_with fail
    refine (C1.out _).mono ?_
    rintro e w1 ⟨rfl, rfl⟩
    have hk : (k : Int) - 1 = ((k - 1 : Nat) : Int) := by omega
    have hkm : k - 1 ≤ 140737488355328 := by omega
    have Hk := Go.Lib.hid hk
    clear hk
    go_wp2_with (first
      | (with_reducible show wpList _ _ _ (⟨some 10, _, _, _, _, _⟩ :: _) _ _; go_must (refine wpList_make_zb rfl (.tmp 9) (.tmp 9) 100 rfl 4 Try.underlying100 infoB .i64 .i64 _ (k - 1) rfl rfl Hk.out hkm ?_); go_must (intro v2 w2 ho2 hb2; have hr2 := ho2.rv))
      | fail)
    refine (C2.out _ _ hr2).mono ?_
    rintro e w3 ⟨v3, rfl, ho3, hb3⟩
    rw [← Hg.out] at ho3
    have ho3' : OwnV 4 w3 w.heap.size v3 (zb (gam x)) := ho3.mono hb2.size
    have hb := hb2.trans (hb3.mono hb2.size)
    go_wp2_with fail
    go_ret
    exact ⟨_, rfl, ho3', hb⟩

/-- What GetGamma answers. -/
def getGV (l : List Bool) (i : Int) : Value := match (if 0 ≤ i then getG l i.toNat else none) with
  | some (x, e) => .tuple #[.int .u64 (x : Int), .int .i64 (e : Int), .bool true]
  | none => .tuple #[.int .u64 0, .int .i64 i, .bool false]
theorem getGV_neg {l : List Bool} {i : Int} (h : i < 0) : getGV l i = .tuple #[.int .u64 0, .int .i64 i, .bool false] := by
  unfold getGV
  rw [if_neg (by omega)]
theorem getGV_none {l : List Bool} {i : Nat} (h : getG l i = none) : getGV l (i : Int) = .tuple #[.int .u64 0, .int .i64 (i : Int), .bool false] := by
  unfold getGV
  rw [if_pos (by omega), Int.toNat_natCast, h]
theorem getGV_some {l : List Bool} {i x e : Nat} (h : getG l i = some (x, e)) : getGV l (i : Int) = .tuple #[.int .u64 (x : Int), .int .i64 (e : Int), .bool true] := by
  unfold getGV
  rw [if_pos (by omega), Int.toNat_natCast, h]
/-- k noughts from i on, then not one more that counts. -/
theorem noughts_step (l : List Bool) (i k : Nat) (h : ∀ j, j < k → l.getD (i + j) true = false) : k ≤ noughts (l.drop i) := by
  unfold noughts
  induction k generalizing i with
  | zero => omega
  | succ k ih =>
    have h0 := h 0 (by omega)
    rw [Nat.add_zero] at h0
    have hi : i < l.length := by
      rcases Nat.lt_or_ge i l.length with h1 | h1
      · exact h1
      · rw [List.getD_eq_getElem?_getD, List.getElem?_eq_none h1] at h0; cases h0
    rw [List.getD_eq_getElem?_getD, List.getElem?_eq_getElem hi] at h0
    rw [List.drop_eq_getElem_cons hi, List.takeWhile_cons_of_pos (by rw [show l[i] = false from h0]; rfl), List.length_cons]
    have := ih (i + 1) (fun j hj => by have := h (j + 1) (by omega); rw [show i + (j + 1) = i + 1 + j from by omega] at this; exact this)
    omega
theorem noughts_eq (l : List Bool) (i k : Nat) (h : ∀ j, j < k → l.getD (i + j) true = false) (h2 : l.getD (i + k) true = true) : noughts (l.drop i) = k := by
  have h1 := noughts_step l i k h
  rcases Nat.eq_or_lt_of_le h1 with h3 | h3
  · exact h3.symm
  · exfalso
    have h4 : ∀ (m : List Bool) (j : Nat) (hj : j < noughts m), m.getD j true = false := by
      intro m
      unfold noughts
      induction m with
      | nil => intro j hj; simp at hj
      | cons b m ih =>
        intro j hj
        cases b with
        | true => simp at hj
        | false =>
          cases j with
          | zero => rfl
          | succ j =>
            rw [List.takeWhile_cons_of_pos (by rfl), List.length_cons] at hj
            exact ih j (by omega)
    have h5 := h4 (l.drop i) k h3
    rw [List.getD_eq_getElem?_getD, List.getElem?_drop, ← List.getD_eq_getElem?_getD, h2] at h5
    cases h5

end Go.Proofs.Ytibbligidncocaa
