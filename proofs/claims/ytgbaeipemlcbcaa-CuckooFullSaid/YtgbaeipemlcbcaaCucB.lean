/-
  Stage 17: At, Len.
-/
import Derived.Test.YtgbaeipemlcbcaaCucD
import Derived.BigQuiet
namespace Go.Proofs.Ytgbaeipemlcbcaa
open Go.RowKit

theorem addr_mid (d o j : Nat) : (⟨d, o, none⟩ : Addr).add j = ⟨d, o + j, none⟩ := Addr.add_mid d o j
theorem idxB (d b : Nat) (hb : b < 8) (W : World) : (Instr.indexAt 51 (.pointer (some ⟨d, 0, none⟩)) (.int .i64 (b : Int))).run Try.prog W = .ok (.pointer (some ⟨d, 12 * b, none⟩)) W := by
  have hu : Try.prog.underlying 51 = some (.array 8 50) := by kernel_rfl
  have hs : (Try.prog.info? 50).map (fun i => i.size) = some 12 := by kernel_rfl
  have h8 : ¬ 8 ≤ b := by omega
  have h8' : (b : Int) < 8 := by omega
  cases hi : Try.prog.info? 50 with
  | none => rw [hi] at hs; cases hs
  | some i =>
    rw [hi] at hs
    have hs' : i.size = 12 := by simpa using hs
    simp [Instr.indexAt, run_underlying hu, Instr.sureAddr, asIntOf, h8, sizeOf, typeInfo, hi, hs', Result.andThen, Addr.add_mid, Nat.mul_comm]
theorem idxS (d o s : Nat) (hs4 : s < 4) (W : World) : (Instr.indexAt 50 (.pointer (some ⟨d, o, none⟩)) (.int .i64 (s : Int))).run Try.prog W = .ok (.pointer (some ⟨d, o + 3 * s, none⟩)) W := by
  have hu : Try.prog.underlying 50 = some (.array 4 49) := by kernel_rfl
  have hs : (Try.prog.info? 49).map (fun i => i.size) = some 3 := by kernel_rfl
  have h8 : ¬ 4 ≤ s := by omega
  have h8' : (s : Int) < 4 := by omega
  cases hi : Try.prog.info? 49 with
  | none => rw [hi] at hs; cases hs
  | some i =>
    rw [hi] at hs
    have hs' : i.size = 3 := by simpa using hs
    simp [Instr.indexAt, run_underlying hu, Instr.sureAddr, asIntOf, h8, sizeOf, typeInfo, hi, hs', Result.andThen, Addr.add_mid, Nat.mul_comm]
/-- What lies in slot s of bucket b. -/
theorem CK.at {w : World} {d : Nat} {T : SlT} (h : CK w d T) {b s : Nat} (hb : b < 8) (hs : s < 4) : w.cell? ⟨d, 12 * b + 3 * s, none⟩ = some (.bool (hasO (T (4 * b + s)))) ∧ w.cell? ⟨d, 12 * b + 3 * s + 1, none⟩ = some (.int .i64 (tagO (T (4 * b + s)) : Int)) ∧ w.cell? ⟨d, 12 * b + 3 * s + 2, none⟩ = some (.int .i64 (idO (T (4 * b + s)))) := by
  rw [show 12 * b + 3 * s = 3 * (4 * b + s) by omega]
  exact ⟨h.has _ (by omega), h.tag _ (by omega), h.id _ (by omega)⟩

set_option maxRecDepth 100000 in
theorem cat_w {w : World} {d : Nat} {T : SlT} (h : CK w d T) {b s : Nat} (hb : b < 8) (hs : s < 4) :
    Calls Try.prog 18 #[.pointer (some ⟨d, 0, none⟩), .int .i64 (b : Int), .int .i64 (s : Int)] w fun e w' => e = .returned (.tuple #[.int .i64 (idO (T (4 * b + s))), .int .i64 (tagO (T (4 * b + s)) : Int), .bool (hasO (T (4 * b + s)))]) ∧ Below w.heap.size w w' := by
  obtain ⟨c0, c1, c2⟩ := h.at hb hs
  have hlt := h.lt
  have h1 := idxB d b hb w
  have h2 := idxS d (12 * b) s hs w
  have hbI : (b : Int) < 8 := by omega
  have hsI : (s : Int) < 4 := by omega
  generalize hasO (T (4 * b + s)) = H at *
  generalize tagO (T (4 * b + s)) = t at *
  generalize idO (T (4 * b + s)) = i at *
  go_enter Try.func18, Try.ntmps18
  go_wp2_with fail
  go_quiet (fail)
  go_wp2_with fail
  go_ret3
  exact ⟨rfl, below_drewN ((Below.refl _ _).alloc (Nat.le_refl _) _) _⟩
theorem cat_some {w : World} {d : Nat} {T : SlT} (h : CK w d T) {b s t : Nat} {i : Int} (hb : b < 8) (hs : s < 4) (ht : T (4 * b + s) = some (t, i)) :
    Calls Try.prog 18 #[.pointer (some ⟨d, 0, none⟩), .int .i64 (b : Int), .int .i64 (s : Int)] w fun e w' => e = .returned (.tuple #[.int .i64 i, .int .i64 (t : Int), .bool true]) ∧ Below w.heap.size w w' := by
  have e := cat_w h hb hs
  rw [ht] at e
  exact e
theorem cat_none {w : World} {d : Nat} {T : SlT} (h : CK w d T) {b s : Nat} (hb : b < 8) (hs : s < 4) (ht : T (4 * b + s) = none) :
    Calls Try.prog 18 #[.pointer (some ⟨d, 0, none⟩), .int .i64 (b : Int), .int .i64 (s : Int)] w fun e w' => e = .returned (.tuple #[.int .i64 0, .int .i64 0, .bool false]) ∧ Below w.heap.size w w' := by
  have e := cat_w h hb hs
  rw [ht] at e
  exact e
set_option maxRecDepth 100000 in
theorem cat_bad (v : Option Addr) (b s : Int) (w : World) (hb : v = none ∨ b < 0 ∨ 8 ≤ b ∨ s < 0 ∨ 4 ≤ s) :
    Calls Try.prog 18 #[.pointer v, .int .i64 b, .int .i64 s] w fun e w' => e = .returned (.tuple #[.int .i64 0, .int .i64 0, .bool false]) ∧ Below w.heap.size w w' := by
  have hbb := Below.refl w.heap.size w
  cases v with
  | none =>
    clear hb
    go_enter Try.func18, Try.ntmps18
    go_wp2_with fail
    go_ret3
    exact ⟨rfl, hbb⟩
  | some a =>
    by_cases h1 : b < 0
    · clear hb
      go_enter Try.func18, Try.ntmps18
      go_wp2_with fail
      go_ret3
      exact ⟨rfl, hbb⟩
    by_cases h2 : 8 ≤ b
    · clear hb
      go_enter Try.func18, Try.ntmps18
      go_wp2_with fail
      go_ret3
      exact ⟨rfl, hbb⟩
    by_cases h3 : s < 0
    · clear hb
      go_enter Try.func18, Try.ntmps18
      go_wp2_with fail
      go_ret3
      exact ⟨rfl, hbb⟩
    have h4 : 4 ≤ s := by
      rcases hb with h | h | h | h | h
      · cases h
      all_goals omega
    clear hb
    go_enter Try.func18, Try.ntmps18
    go_wp2_with fail
    go_ret3
    exact ⟨rfl, hbb⟩
theorem cat_out {w : World} {d : Nat} {T : SlT} (_h : CK w d T) {b s : Int} (hb : b < 0 ∨ 8 ≤ b ∨ s < 0 ∨ 4 ≤ s) (_h0 : -100 ≤ b ∧ b ≤ 100 ∧ -100 ≤ s ∧ s ≤ 100) :
    Calls Try.prog 18 #[.pointer (some ⟨d, 0, none⟩), .int .i64 b, .int .i64 s] w fun e w' => e = .returned (.tuple #[.int .i64 0, .int .i64 0, .bool false]) ∧ Below w.heap.size w w' := cat_bad _ b s w (.inr hb)
theorem cnil_at (b s : Int) (w : World) : Calls Try.prog 18 #[.pointer none, .int .i64 b, .int .i64 s] w fun e w' => e = .returned (.tuple #[.int .i64 0, .int .i64 0, .bool false]) ∧ Below w.heap.size w w' := cat_bad _ b s w (.inl rfl)

/-! ### Len. -/
def allO (T : SlT) : List Value := rowO T 0 ++ (rowO T 1 ++ (rowO T 2 ++ (rowO T 3 ++ (rowO T 4 ++ (rowO T 5 ++ (rowO T 6 ++ rowO T 7))))))
theorem allO_at (T : SlT) (b k : Nat) (hb : b < 8) (hk : k < 12) : (allO T)[12 * b + k]? = (rowO T b)[k]? := by
  rcases (by omega : b = 0 ∨ b = 1 ∨ b = 2 ∨ b = 3 ∨ b = 4 ∨ b = 5 ∨ b = 6 ∨ b = 7) with rfl | rfl | rfl | rfl | rfl | rfl | rfl | rfl <;>
    rcases (by omega : k = 0 ∨ k = 1 ∨ k = 2 ∨ k = 3 ∨ k = 4 ∨ k = 5 ∨ k = 6 ∨ k = 7 ∨ k = 8 ∨ k = 9 ∨ k = 10 ∨ k = 11) with rfl | rfl | rfl | rfl | rfl | rfl | rfl | rfl | rfl | rfl | rfl | rfl <;> rfl
theorem CK.all {w : World} {d : Nat} {T : SlT} (h : CK w d T) : w.rangeAt d 0 (allO T) := by
  intro k v hv
  have hk : k < 96 := (List.getElem?_eq_some_iff.1 hv).1
  have e := allO_at T (k / 12) (k % 12) (by omega) (by omega)
  rw [show 12 * (k / 12) + k % 12 = k by omega, hv] at e
  have := h.range (k / 12) (by omega) (k % 12) v e.symm
  rwa [show 12 * (k / 12) + k % 12 = 0 + k by omega] at this
theorem idxAll (T : SlT) (b : Nat) (hb : b < 8) (W : World) : (Instr.index 51 (.agg (allO T).toArray) (.int .i64 (b : Int))).run Try.prog W = .ok (.agg (rowO T b).toArray) W := by
  rcases (by omega : b = 0 ∨ b = 1 ∨ b = 2 ∨ b = 3 ∨ b = 4 ∨ b = 5 ∨ b = 6 ∨ b = 7) with rfl | rfl | rfl | rfl | rfl | rfl | rfl | rfl <;> kernel_rfl
theorem idxRow (T : SlT) (b s : Nat) (hs : s < 4) (W : World) : (Instr.index 50 (.agg (rowO T b).toArray) (.int .i64 (s : Int))).run Try.prog W = .ok (.agg #[.bool (hasO (T (4 * b + s))), .int .i64 (tagO (T (4 * b + s)) : Int), .int .i64 (idO (T (4 * b + s)))]) W := by
  rcases (by omega : s = 0 ∨ s = 1 ∨ s = 2 ∨ s = 3) with rfl | rfl | rfl | rfl <;> kernel_rfl
def cntT (T : SlT) (k : Nat) : Nat := (List.range k).countP fun q => hasO (T q)
theorem cntT_succ (T : SlT) (k : Nat) : cntT T (k + 1) = cntT T k + (if hasO (T k) = true then 1 else 0) := by
  unfold cntT
  rw [List.range_succ, List.countP_append, List.countP_singleton]
theorem cntT_le (T : SlT) (k : Nat) : cntT T k ≤ k := by
  have := List.countP_le_length (p := fun q => hasO (T q)) (l := List.range k)
  rw [List.length_range] at this
  exact this
theorem cntT_all (T : SlT) : cntT T 32 = (slL T).length := by
  unfold cntT slL
  induction List.range 32 with
  | nil => rfl
  | cons q l ih =>
    rw [List.countP_cons, List.filterMap_cons, ih]
    cases hT : T q <;> simp [hasO]

set_option maxRecDepth 100000 in
theorem clen_c {w : World} {d : Nat} {T : SlT} (h : CK w d T) : Calls Try.prog 17 #[.pointer (some ⟨d, 0, none⟩)] w fun e w' => e = .returned (.int .i64 ((slL T).length : Int)) ∧ Below w.heap.size w w' := by
  have HA := Go.Lib.hid h.all
  have HI := Go.Lib.hid (idxAll T)
  have HR := Go.Lib.hid (idxRow T)
  have HN := Go.Lib.hid (cntT_all T)
  have HS := Go.Lib.hid (cntT_succ T)
  have HL := Go.Lib.hid (cntT_le T)
  have HLEN := Go.Lib.hid (show (Try.prog.info? 51).map (·.size) = some (allO T).length by kernel_rfl)
  generalize allO T = A at *
  generalize slL T = SL at *
  clear h
  go_enter Try.func17, Try.ntmps17
  go_wp2_with (first
    | ((with_reducible show wpList _ _ _ (⟨some 13, _, _, _, _, _⟩ :: _) _ _); go_loud (refine wpList_load_mid rfl 51 (.tmp 12) rfl d 0 rfl A _ HA.out Try.underlying51 rfl HLEN.out ?_))
    | fail)
  go_loopw [3, 14] (fun nv bv wr => ∃ b : Nat, b ≤ 8 ∧ bv = .int .i64 (b : Int) ∧ nv = .int .i64 (cntT T (4 * b) : Int) ∧ Below w.heap.size w wr) (fun _ bv _ => 8 - (intOf bv).toNat)
  case atStart => exact ⟨0, by omega, rfl, rfl, Below.refl _ _⟩
  case round =>
    obtain ⟨b, hb, rfl, rfl, hbc⟩ := hrel
    by_cases hb8 : b < 8
    · have hbI : (b : Int) < 8 := by omega
      have hix := HI.out b hb8
      have hir := HR.out b
      have e12 : (rowO T b).toArray = #[.bool (hasO (T (4 * b))), .int .i64 (tagO (T (4 * b)) : Int), .int .i64 (idO (T (4 * b))), .bool (hasO (T (4 * b + 1))), .int .i64 (tagO (T (4 * b + 1)) : Int), .int .i64 (idO (T (4 * b + 1))), .bool (hasO (T (4 * b + 2))), .int .i64 (tagO (T (4 * b + 2)) : Int), .int .i64 (idO (T (4 * b + 2))), .bool (hasO (T (4 * b + 3))), .int .i64 (tagO (T (4 * b + 3)) : Int), .int .i64 (idO (T (4 * b + 3)))] := rfl
      rw [e12] at hix hir
      clear e12
      have HBC := Go.Lib.hid hbc
      clear hbc
      generalize hg0 : hasO (T (4 * b)) = g0 at *
      generalize hg1 : hasO (T (4 * b + 1)) = g1 at *
      generalize hg2 : hasO (T (4 * b + 2)) = g2 at *
      generalize hg3 : hasO (T (4 * b + 3)) = g3 at *
      generalize tagO (T (4 * b)) = t0 at *
      generalize tagO (T (4 * b + 1)) = t1 at *
      generalize tagO (T (4 * b + 2)) = t2 at *
      generalize tagO (T (4 * b + 3)) = t3 at *
      generalize idO (T (4 * b)) = i0 at *
      generalize idO (T (4 * b + 1)) = i1 at *
      generalize idO (T (4 * b + 2)) = i2 at *
      generalize idO (T (4 * b + 3)) = i3 at *
      go_wp2_with fail
      go_loopw [3, 18] (fun nv sv w2 => ∃ s : Nat, s ≤ 4 ∧ sv = .int .i64 (s : Int) ∧ nv = .int .i64 (cntT T (4 * b + s) : Int) ∧ Below w.heap.size w w2) (fun _ sv _ => 4 - (intOf sv).toNat)
      case atStart => exact ⟨0, by omega, rfl, rfl, HBC.out.alloc HBC.out.size _⟩
      case round =>
        obtain ⟨s, hs, rfl, rfl, hbc⟩ := hrel
        by_cases hs4 : s < 4
        · have hsI : (s : Int) < 4 := by omega
          have hie := hir s hs4
          have H1 := Go.Lib.hid (HS.out (4 * b + s))
          have h2 := HL.out (4 * b + s)
          have HB := Go.Lib.hid hbc
          clear hbc hir hix
          generalize cntT T (4 * b + s) = n at *
          generalize tagO (T (4 * b + s)) = tt at *
          generalize idO (T (4 * b + s)) = ii at *
          cases hh : hasO (T (4 * b + s)) with
          | true =>
            rw [hh] at hie
            rw [hh, if_pos rfl] at H1
            clear hh
            go_wp2_with fail
            go_roundw
            case rel => exact ⟨s + 1, by omega, by go_num, by rw [show 4 * b + (s + 1) = 4 * b + s + 1 from rfl, H1.out]; go_num, HB.out.alloc HB.out.size _⟩
            case measure => simp only [intOf]; omega
          | false =>
            rw [hh] at hie
            rw [hh, if_neg (by simp)] at H1
            clear hh
            go_wp2_with fail
            go_roundw
            case rel => exact ⟨s + 1, by omega, by go_num, by rw [show 4 * b + (s + 1) = 4 * b + s + 1 from rfl, H1.out, Nat.add_zero], HB.out.alloc HB.out.size _⟩
            case measure => simp only [intOf]; omega
        · obtain rfl : s = 4 := by omega
          clear hir hix hs4
          have HB := Go.Lib.hid hbc
          clear hbc
          go_wp2_with fail
          go_roundw
          case rel => exact ⟨b + 1, by omega, by go_num, by rw [show 4 * (b + 1) = 4 * b + 4 from rfl], HB.out⟩
          case measure => simp only [intOf]; omega
    · obtain rfl : b = 8 := by omega
      have HB := Go.Lib.hid hbc
      clear hbc hb8
      go_wp2_with fail
      go_ret
      exact ⟨ret_int (by rw [show 4 * 8 = 32 from rfl, HN.out]), HB.out⟩
theorem cnil_len (w : World) : Calls Try.prog 17 #[.pointer none] w fun e w' => e = .returned (.int .i64 0) ∧ Below w.heap.size w w' := by
  have hbb := Below.refl w.heap.size w
  go_enter Try.func17, Try.ntmps17
  go_wp2_with fail
  go_ret
  exact ⟨rfl, hbb⟩

end Go.Proofs.Ytgbaeipemlcbcaa
