/-
  The contracts of gamma: All.
-/
import Derived.Test.YtfhbpaecpoijfaaBitO
import Derived.Test.YtfhbpaecpoijfaaBools
import Derived.Test.YtfhbpaecpoijfaaGamG
namespace Go.Proofs.Ytfhbpaecpoijfaa
open Go.RowKit

theorem infoU64 : (Try.prog.info? 31).map (fun i => (i.zero, i.size, i.bytes)) = some (some (.int .u64 0), 1, 8) := by kernel_rfl
theorem stepG_bound {l : List Bool} {i : Int} {x e : Nat} (h : stepG l i = some (x, e)) : e ≤ l.length ∧ x < 18446744073709551616 := by
  unfold stepG at h
  split at h
  · exact getG_bound h
  · cases h
theorem allG_end {l : List Bool} : ∀ {k : Nat} {i : Int} {xs : List Nat} {e : Int}, allG l k i = some (xs, e) → e = i ∨ (0 ≤ e ∧ e ≤ l.length)
  | 0, i, xs, e, h => by
    rw [allG] at h
    cases h
    exact .inl rfl
  | k + 1, i, xs, e, h => by
    rw [allG_snoc] at h
    cases ha : allG l k i with
    | none => rw [ha] at h; cases h
    | some p =>
      obtain ⟨ys, e1⟩ := p
      rw [ha] at h
      simp only [] at h
      cases hs : stepG l e1 with
      | none => rw [hs] at h; cases h
      | some q =>
        obtain ⟨x, e2⟩ := q
        rw [hs] at h
        cases h
        have := (stepG_bound hs).1
        exact .inr ⟨by omega, by omega⟩
theorem getGV_step (l : List Bool) (i : Int) : getGV l i = match stepG l i with
    | some (x, e) => .tuple #[.int .u64 (x : Int), .int .i64 (e : Int), .bool true]
    | none => .tuple #[.int .u64 0, .int .i64 i, .bool false] := rfl

set_option maxHeartbeats 1000000 in
set_option maxRecDepth 100000 in
theorem gall_c (i : Int) (k : Nat) (w : World) (B b : Nat) (v : Value) (l : List Bool) (h : BT w B b v l) (hl : l.length ≤ 100000000) (h0 : -9223372036854775808 ≤ i) (h1 : i ≤ 9223372036854775807) (hk : k ≤ 1000000) :
    Calls Try.prog 12 #[.pointer (some ⟨b, 0, none⟩), .int .i64 i, .int .i64 (k : Int)] w fun e w' =>
      (∃ xs e' v, allG l k i = some (xs, e') ∧ e = .returned (.tuple #[v, .int .i64 e', .bool true]) ∧ RV w' v (zi .u64 xs) ∧ Below w.heap.size w w') ∨
      (allG l k i = none ∧ e = .returned (.tuple #[.slice none 0 0, .int .i64 i, .bool false]) ∧ Below w.heap.size w w') := by
  have CG := Go.Lib.hid fun (j : Int) (w1 : World) (hb : Below w.heap.size w w1) (h0 : -9223372036854775808 ≤ j) (h1 : j ≤ 9223372036854775807) => gget_c j w1 B b v l (h.below hb) hl h0 h1
  have Hl := Go.Lib.hid hl
  have H0 := Go.Lib.hid h0
  have H1 := Go.Lib.hid h1
  clear h hl h0 h1
  go_enter Try.func12, Try.ntmps12
  go_wp2_with fail
  go_loopw [9, 10, 19] (fun u e' j' wr => ∃ (j : Nat) (ys : List Nat) (e : Int) (v9 : Value), v9 = u ∧ e' = .int .i64 e ∧ j' = .int .i64 (j : Int) ∧ j ≤ k ∧ allG l j i = some (ys, e) ∧ OwnV 31 wr w.heap.size v9 (zi .u64 ys) ∧ Below w.heap.size w wr) (fun _ _ j' _ => k - (intOf j').toNat)
  case atStart => exact ⟨0, [], i, _, rfl, rfl, rfl, by omega, rfl, OwnV.nil _ _ _, Below.refl _ _⟩
  case round =>
    obtain ⟨j, ys, e, v9, rfl, rfl, rfl, hj, ha, hown, hb⟩ := hrel
    have Ha := Go.Lib.hid ha
    clear ha
    by_cases hlt : j < k
    · have heb : -9223372036854775808 ≤ e ∧ e ≤ 9223372036854775807 := by
        have := H0.out
        have := H1.out
        have := Hl.out
        rcases allG_end Ha.out with rfl | ⟨h2, h3⟩ <;> omega
      have C := CG.out e wr hb heb.1 heb.2
      rw [getGV_step] at C
      have hsn := allG_snoc l j i
      rw [Ha.out] at hsn
      simp only [] at hsn
      cases hs : stepG l e with
      | none =>
        rw [hs] at hsn C
        simp only [] at hsn C
        have hno := Go.Lib.hid (allG_none l hsn k (by omega))
        have HC := Go.Lib.hid C
        clear hs hsn C heb
        go_wp2_with fail
        refine HC.out.mono ?_
        rintro e2 w2 ⟨rfl, hb2⟩
        go_wp2_with fail
        go_ret3
        exact .inr ⟨hno.out, rfl, hb.trans (hb2.mono hb.size)⟩
      | some p =>
        obtain ⟨x, e3⟩ := p
        have hbd := stepG_bound hs
        rw [hs] at hsn C
        simp only [] at hsn C
        have Hsn := Go.Lib.hid hsn
        have HC := Go.Lib.hid C
        have Hbd := Go.Lib.hid hbd
        clear hs hsn C heb hbd
        have hyl : ys.length = j := allG_length l j i ys e Ha.out
        have Hyl := Go.Lib.hid hyl
        clear hyl
        go_upto_if 29 with (fail)
        refine HC.out.mono ?_
        rintro e2 w2 ⟨rfl, hb2⟩
        have hbw := hb.trans (hb2.mono hb.size)
        have hown2 := hown.below hb2
        have hown3 := hown2.alloc (.cells #[.int .u64 (x : Int)] 31)
        have hrv := RV.one w2 31 (.int .u64 (x : Int))
        have hbw3 := hbw.alloc hbw.size (.cells #[.int .u64 (x : Int)] 31)
        have hone : ∀ u ∈ [Value.int .u64 (x : Int)], u.oneCell' = true := by intro u hu; obtain rfl := List.mem_singleton.1 hu; rfl
        have hln1 : ((zi .u64 ys).length + [Value.int .u64 (x : Int)].length) * 8 ≤ 140737488355328 := by rw [zi_length, Hyl.out]; simp only [List.length_cons, List.length_nil]; omega
        have hln2 : (zi .u64 ys).length + [Value.int .u64 (x : Int)].length ≤ 140737488355328 := by omega
        clear hb hb2 hown hown2
        go_wp2_with (first
          | (with_reducible show wpList _ _ _ (⟨some 34, _, _, _, _, _⟩ :: _) _ _; go_must (refine wpList_append_RV rfl (.tmp 31) (.tmp 33) 22 rfl w.heap.size 31 Try.underlying22 (.int .u64 0) 8 rfl infoU64 v9 (.slice (some ⟨w2.heap.size, 0, none⟩) 1 1) (zi .u64 ys) [.int .u64 (x : Int)] rfl rfl hown3 hrv hone hln1 hln2 hbw3.size ?_); intro v4 w4 hown4 hg4; have hb4 := hbw3.grown hg4 hbw3.size hown3.row)
          | fail)
        go_roundw
        case rel => exact ⟨j + 1, ys ++ [x], e3, _, rfl, rfl, by go_num, by omega, Hsn.out, by rw [zi_append]; exact hown4, hb4⟩
        case measure => simp only [intOf]; omega
    · obtain rfl : j = k := by omega
      go_wp2_with fail
      go_ret3
      exact .inl ⟨ys, e, _, Ha.out, rfl, hown.rv, hb⟩

set_option maxRecDepth 100000 in
theorem gall_nil (i : Int) (w : World) : Calls Try.prog 12 #[.pointer none, .int .i64 i, .int .i64 0] w fun e w' => ∃ v, e = .returned (.tuple #[v, .int .i64 i, .bool true]) ∧ RV w' v [] ∧ Below w.heap.size w w' := by
  go_enter Try.func12, Try.ntmps12
  go_wp2_with fail
  go_loopw [9, 10, 19] (fun u e' j' wr => u = .slice none 0 0 ∧ e' = .int .i64 i ∧ j' = .int .i64 0 ∧ Below w.heap.size w wr) (fun _ _ _ _ => 0)
  case atStart => exact ⟨rfl, rfl, rfl, Below.refl _ _⟩
  case round =>
    obtain ⟨rfl, rfl, rfl, hb⟩ := hrel
    go_wp2_with fail
    go_ret3
    exact ⟨_, rfl, (OwnV.nil 31 wr w.heap.size).rv, hb⟩
theorem gall_yes (i : Int) (k : Nat) (w : World) (B b : Nat) (v : Value) (l : List Bool) (xs : List Nat) (e' : Int) (h : BT w B b v l) (hl : l.length ≤ 100000000) (h0 : -9223372036854775808 ≤ i) (h1 : i ≤ 9223372036854775807) (hk : k ≤ 1000000) (ha : allG l k i = some (xs, e')) :
    Calls Try.prog 12 #[.pointer (some ⟨b, 0, none⟩), .int .i64 i, .int .i64 (k : Int)] w fun e w' => ∃ v, e = .returned (.tuple #[v, .int .i64 e', .bool true]) ∧ RV w' v (zi .u64 xs) ∧ Below w.heap.size w w' := by
  refine (gall_c i k w B b v l h hl h0 h1 hk).mono ?_
  rintro e w' (⟨xs2, e2, v2, ha2, rfl, hr, hb⟩ | ⟨ha2, -⟩)
  · rw [ha] at ha2
    cases ha2
    exact ⟨v2, rfl, hr, hb⟩
  · rw [ha] at ha2
    cases ha2
theorem gall_no (i : Int) (k : Nat) (w : World) (B b : Nat) (v : Value) (l : List Bool) (h : BT w B b v l) (hl : l.length ≤ 100000000) (h0 : -9223372036854775808 ≤ i) (h1 : i ≤ 9223372036854775807) (hk : k ≤ 1000000) (ha : allG l k i = none) :
    Calls Try.prog 12 #[.pointer (some ⟨b, 0, none⟩), .int .i64 i, .int .i64 (k : Int)] w fun e w' => ∃ v, e = .returned (.tuple #[v, .int .i64 i, .bool false]) ∧ RV w' v [] ∧ Below w.heap.size w w' := by
  refine (gall_c i k w B b v l h hl h0 h1 hk).mono ?_
  rintro e w' (⟨xs2, e2, v2, ha2, -⟩ | ⟨-, rfl, hb⟩)
  · rw [ha] at ha2
    cases ha2
  · exact ⟨_, rfl, (OwnV.nil 31 w' w'.heap.size).rv, hb⟩

end Go.Proofs.Ytfhbpaecpoijfaa
