/-
  The reference's digits, Gamma, GetGamma.
-/
import Derived.Test.YtmphcpggfgehhaaRPut
import Derived.Test.YtmphcpggfgehhaaGamM
namespace Go.Proofs.Ytmphcpggfgehhaa
open Go.RowKit

set_option maxRecDepth 100000 in
theorem rdigits_c (x : Nat) (w : World) (hx : x < 18446744073709551616) : Calls Try.prog 34 #[.int .u64 (x : Int)] w fun e w' => e = .returned (.int .i64 (digits x : Int)) ∧ w = w' := by
  have h64 := digits_64 x hx
  clear hx
  go_enter Try.func34, Try.ntmps34
  go_wp2_with fail
  go_loop [0, 3] (fun y n => ∃ (z k : Nat), y = .int .u64 (z : Int) ∧ n = .int .i64 (k : Int) ∧ k + digits z = digits x) (fun y _ => (intOf y).toNat)
  case atStart => exact ⟨x, 0, rfl, rfl, by omega⟩
  case round =>
    obtain ⟨z, k, rfl, rfl, hd⟩ := hrel
    by_cases hz : 0 < z
    · have h1 := digits_half z (by omega)
      have hk : k ≤ 64 := by omega
      have Hd := Go.Lib.hid (show k + 1 + digits (z / 2) = digits x by omega)
      clear hd h1
      go_wp2_with fail
      go_round
      case rel => exact ⟨z / 2, k + 1, by (try simp), by go_num, Hd.out⟩
      case measure => simp only [intOf]; omega
    · obtain rfl : z = 0 := by omega
      have Hd : Hid (k = digits x) := by rw [digits_zero] at hd; exact hd
      clear hd
      go_wp2_with fail
      go_ret
      exact ⟨by rw [← Hd.out]; rfl, rfl⟩

set_option maxRecDepth 100000 in
theorem rgamma_c (x : Nat) (w : World) (hx : x < 18446744073709551616) : Calls Try.prog 21 #[.int .u64 (x : Int)] w fun e w' => ∃ v', e = .returned v' ∧ OwnV 4 w' w.heap.size v' (zb (gam x)) ∧ Below w.heap.size w w' := by
  by_cases h0 : x = 0
  · subst h0
    go_enter Try.func21, Try.ntmps21
    go_wp2_with fail
    go_ret
    exact ⟨_, rfl, OwnV.nil _ _ _, Below.refl _ _⟩
  · obtain ⟨-, -, hk1⟩ := digits_bounds x h0
    have hk64 := digits_64 x hx
    have C1 := Go.Lib.hid fun W => rdigits_c x W hx
    have C2 := Go.Lib.hid fun v W (h : RV W v (zb (List.replicate (digits x - 1) false))) => rbitp_c v _ x (digits x) W h hx hk64 (by simp; omega)
    have Hg := Go.Lib.hid (show gam x = List.replicate (digits x - 1) false ++ numB x (digits x) by unfold gam; rw [if_neg h0])
    have hx0 : ((x : Int) == 0) = false := by simp; omega
    clear hx h0
    generalize digits x = k at *
    go_enter Try.func21, Try.ntmps21
    go_wp2_with fail
    refine (C1.out _).mono ?_
    rintro e w1 ⟨rfl, rfl⟩
    have hk : (k : Int) - 1 = ((k - 1 : Nat) : Int) := by omega
    have hkm : k - 1 ≤ 140737488355328 := by omega
    have Hk := Go.Lib.hid hk
    clear hk
    go_wp2_with (first
      | (with_reducible show wpList _ _ _ (⟨some 10, _, _, _, _, _⟩ :: _) _ _; go_must (refine wpList_make_zb rfl (.tmp 9) (.tmp 9) 30 rfl 4 Try.underlying30 infoB .i64 .i64 _ (k - 1) rfl rfl Hk.out hkm ?_); go_must (intro v2 w2 ho2 hb2; have hr2 := ho2.rv))
      | fail)
    refine (C2.out _ _ hr2).mono ?_
    rintro e w3 ⟨v3, rfl, ho3, hb3⟩
    rw [← Hg.out] at ho3
    have ho3' : OwnV 4 w3 w.heap.size v3 (zb (gam x)) := ho3.mono hb2.size
    have hb := hb2.trans (hb3.mono hb2.size)
    go_wp2_with fail
    go_ret
    exact ⟨_, rfl, ho3', hb⟩

/-- What GetGamma answers. -/
def getGV (l : List Bool) (i : Int) : Value := match (if 0 ≤ i then getG l i.toNat else none) with
  | some (x, e) => .tuple #[.int .u64 (x : Int), .int .i64 (e : Int), .bool true]
  | none => .tuple #[.int .u64 0, .int .i64 i, .bool false]
theorem getGV_neg {l : List Bool} {i : Int} (h : i < 0) : getGV l i = .tuple #[.int .u64 0, .int .i64 i, .bool false] := by
  unfold getGV
  rw [if_neg (by omega)]
theorem getGV_none {l : List Bool} {i : Nat} (h : getG l i = none) : getGV l (i : Int) = .tuple #[.int .u64 0, .int .i64 (i : Int), .bool false] := by
  unfold getGV
  rw [if_pos (by omega), Int.toNat_natCast, h]
theorem getGV_some {l : List Bool} {i x e : Nat} (h : getG l i = some (x, e)) : getGV l (i : Int) = .tuple #[.int .u64 (x : Int), .int .i64 (e : Int), .bool true] := by
  unfold getGV
  rw [if_pos (by omega), Int.toNat_natCast, h]
/-- k noughts from i on, then not one more that counts. -/
theorem noughts_step (l : List Bool) (i k : Nat) (h : ∀ j, j < k → l.getD (i + j) true = false) : k ≤ noughts (l.drop i) := by
  unfold noughts
  induction k generalizing i with
  | zero => omega
  | succ k ih =>
    have h0 := h 0 (by omega)
    rw [Nat.add_zero] at h0
    have hi : i < l.length := by
      rcases Nat.lt_or_ge i l.length with h1 | h1
      · exact h1
      · rw [List.getD_eq_getElem?_getD, List.getElem?_eq_none h1] at h0; cases h0
    rw [List.getD_eq_getElem?_getD, List.getElem?_eq_getElem hi] at h0
    rw [List.drop_eq_getElem_cons hi, List.takeWhile_cons_of_pos (by rw [show l[i] = false from h0]; rfl), List.length_cons]
    have := ih (i + 1) (fun j hj => by have := h (j + 1) (by omega); rw [show i + (j + 1) = i + 1 + j from by omega] at this; exact this)
    omega
theorem noughts_eq (l : List Bool) (i k : Nat) (h : ∀ j, j < k → l.getD (i + j) true = false) (h2 : l.getD (i + k) true = true) : noughts (l.drop i) = k := by
  have h1 := noughts_step l i k h
  rcases Nat.eq_or_lt_of_le h1 with h3 | h3
  · exact h3.symm
  · exfalso
    have h4 : ∀ (m : List Bool) (j : Nat) (hj : j < noughts m), m.getD j true = false := by
      intro m
      unfold noughts
      induction m with
      | nil => intro j hj; simp at hj
      | cons b m ih =>
        intro j hj
        cases b with
        | true => simp at hj
        | false =>
          cases j with
          | zero => rfl
          | succ j =>
            rw [List.takeWhile_cons_of_pos (by rfl), List.length_cons] at hj
            exact ih j (by omega)
    have h5 := h4 (l.drop i) k h3
    rw [List.getD_eq_getElem?_getD, List.getElem?_drop, ← List.getD_eq_getElem?_getD, h2] at h5
    cases h5

end Go.Proofs.Ytmphcpggfgehhaa
