/-
  Stage 17: slices of places; places.
-/
import Derived.Test.YtgbaeipemlcbcaaCucB
import Derived.Deep.DeepCutAuto
namespace Go.Proofs.Ytgbaeipemlcbcaa
open Go.RowKit

def KP : Lay (Nat × Nat) := ⟨fun e => [.int .i64 (e.1 : Int), .int .i64 (e.2 : Int)], 2, 63, 58, .agg #[.int .i64 0, .int .i64 0], 16⟩
theorem KP_ok : KP.Ok Try.prog := ⟨by decide, fun _ => rfl, fun x u hu => by
  rcases List.mem_cons.1 hu with rfl | hu
  · rfl
  · rw [List.mem_singleton.1 hu]; rfl, Try.underlying58, by kernel_rfl, rfl, by decide⟩
theorem KP.one' (w : World) (b s : Nat) : KP.R (w.alloc (.cells #[.int .i64 (b : Int), .int .i64 (s : Int)] 63)) (.slice (some ⟨w.heap.size, 0, none⟩) 1 1) [(b, s)] := Lay.R.one w KP_ok (b, s) 63 (0, 0)
theorem KP.at' {w : World} {a : Option Addr} {n cap : Nat} {l : List (Nat × Nat)} (h : KP.R w (.slice a n cap) l) (i : Nat) (hi : i < l.length) : ∃ b o, a = some ⟨b, o, none⟩ ∧ n = l.length ∧ b < w.heap.size ∧ w.cell? ⟨b, o + i * 2, none⟩ = some (.int .i64 (l[i].1 : Int)) ∧ w.cell? ⟨b, o + i * 2 + 1, none⟩ = some (.int .i64 (l[i].2 : Int)) := by
  obtain ⟨b, o, h1, h2, h3, h4⟩ := h.at KP_ok i hi
  exact ⟨b, o, h1, h2, h3, h4 0 _ rfl, h4 1 _ rfl⟩
theorem idxP (b o n cap j : Nat) (h : j < n) (W : World) : (Instr.indexAt 58 (.slice (some ⟨b, o, none⟩) n cap) (.int .i64 (j : Int))).run Try.prog W = .ok (.pointer (some ⟨b, o + j * 2, none⟩)) W := KP_ok.run_idx b o n cap j h W

/-! ### Where entries of a tag lie. -/
def hitO (t : Nat) : Option (Nat × Int) → Bool
  | some x => x.1 == t
  | none => false
theorem hitO_eq (t : Nat) (x : Option (Nat × Int)) : hitO t x = (hasO x && tagO x == t) := by
  cases x <;> rfl
def hitsT (T : SlT) (t b k : Nat) : List (Nat × Nat) := ((List.range k).filter fun s => hitO t (T (4 * b + s))).map fun s => (b, s)
theorem hitsT_succ (T : SlT) (t b k : Nat) : hitsT T t b (k + 1) = hitsT T t b k ++ (if hitO t (T (4 * b + k)) = true then [(b, k)] else []) := by
  unfold hitsT
  rw [List.range_succ, List.filter_append, List.map_append]
  congr 1
  rw [List.filter_cons, List.filter_nil]
  split <;> rfl
theorem hitsT_len (T : SlT) (t b k : Nat) : (hitsT T t b k).length ≤ k := by
  unfold hitsT
  rw [List.length_map]
  have := List.length_filter_le (fun s => hitO t (T (4 * b + s))) (List.range k)
  rw [List.length_range] at this
  exact this
def bkX (x i : Nat) : Nat := if i = 0 then firstN x else othN (firstN x) (tagN x)
theorem bkX_lt (x i : Nat) : bkX x i < 8 := by
  unfold bkX
  split
  · exact first_lt x
  · exact oth_lt _ (first_lt x)
def foundT (T : SlT) (x : Nat) : Nat → List (Nat × Nat)
  | 0 => []
  | i + 1 => foundT T x i ++ hitsT T (tagN x) (bkX x i) 4
theorem foundT_len (T : SlT) (x : Nat) : ∀ i, (foundT T x i).length ≤ 4 * i
  | 0 => by simp [foundT]
  | i + 1 => by have := foundT_len T x i; have := hitsT_len T (tagN x) (bkX x i) 4; rw [foundT, List.length_append]; omega
def placesT (T : SlT) (x : Nat) : List (Nat × Nat) := foundT T x 2

theorem idx2 (f o i : Nat) (hi : i < 2) (W : World) : (Instr.index 72 (.agg #[.int .i64 (f : Int), .int .i64 (o : Int)]) (.int .i64 (i : Int))).run Try.prog W = .ok (.int .i64 ((if i = 0 then f else o : Nat) : Int)) W := by
  rcases (by omega : i = 0 ∨ i = 1) with rfl | rfl <;> kernel_rfl

set_option maxHeartbeats 1000000 in
set_option maxRecDepth 100000 in
theorem cplaces_c {w : World} {d : Nat} {T : SlT} (h : CK w d T) {x : Nat} (hx : x < 18446744073709551616) :
    Calls Try.prog 26 #[.pointer (some ⟨d, 0, none⟩), .int .u64 (x : Int)] w fun e w' => ∃ v, e = .returned v ∧ KP.O w' w.heap.size v (placesT T x) ∧ Below w.heap.size w w' := by
  have HD := Go.Lib.hid fun W (hW : Below w.heap.size w W) => h.below hW
  have PA := Go.Lib.hid fun W => cpair_c x W hx
  have TA := Go.Lib.hid fun W => htag_c x W hx
  have HR := Go.Lib.hid (idxRow T)
  have HI2 := Go.Lib.hid (show ∀ i : Nat, i < 2 → ∀ W, (Instr.index 72 (.agg #[.int .i64 (firstN x : Int), .int .i64 (othN (firstN x) (tagN x) : Int)]) (.int .i64 (i : Int))).run Try.prog W = .ok (.int .i64 (bkX x i : Int)) W from fun i hi W => idx2 _ _ i hi W)
  have HBK := Go.Lib.hid (bkX_lt x)
  have HLEN := Go.Lib.hid (fun b => show (Try.prog.info? 50).map (·.size) = some (rowO T b).length by kernel_rfl)
  clear h hx
  generalize hfx : firstN x = fx at *
  generalize hox : othN fx (tagN x) = ox at *
  go_enter Try.func26, Try.ntmps26
  go_wp2_with fail
  refine (PA.out _).mono ?_
  rintro e w1 ⟨rfl, rfl⟩
  go_wp2_with fail
  go_loopw [5, 22] (fun lv iv wr => ∃ (i : Nat) (u : Value), u = lv ∧ i ≤ 2 ∧ iv = .int .i64 (i : Int) ∧ KP.O wr w.heap.size u (foundT T x i) ∧ Below w.heap.size w wr) (fun _ iv _ => 2 - (intOf iv).toNat)
  case atStart => exact ⟨0, _, rfl, by omega, rfl, Lay.O.nil _ _, Below.refl _ _⟩
  case round =>
    obtain ⟨i, u, rfl, hi, rfl, hO, hbc⟩ := hrel
    by_cases hi2 : i < 2
    · have hiI : (i : Int) < 2 := by omega
      have h2 := HI2.out i hi2
      have hbk := HBK.out i
      have HLB := Go.Lib.hid (foundT_len T x i)
      have HF1 := Go.Lib.hid (show foundT T x (i + 1) = foundT T x i ++ hitsT T (tagN x) (bkX x i) 4 from rfl)
      generalize hbb : bkX x i = bk at *
      have h1 := fun W => idxB d bk hbk W
      have HRG := Go.Lib.hid ((HD.out wr hbc).range bk hbk)
      have HO := Go.Lib.hid hO
      have HB := Go.Lib.hid hbc
      have hir := HR.out bk
      have HL2 := Go.Lib.hid (HLEN.out bk)
      have HS0 := Go.Lib.hid (hitsT_succ T (tagN x) bk)
      have HSL := Go.Lib.hid (hitsT_len T (tagN x) bk)
      have HIT := Go.Lib.hid (fun s => hitO_eq (tagN x) (T (4 * bk + s)))
      generalize foundT T x i = F at *
      generalize rowO T bk = R at *
      clear hO hbc hbb
      go_wp2_with (first
        | ((with_reducible show wpList _ _ _ (⟨some 30, _, _, _, _, _⟩ :: _) _ _); go_loud (refine wpList_load_mid rfl 50 (.tmp 29) rfl d (12 * bk) rfl R _ HRG.out Try.underlying50 rfl HL2.out ?_))
        | fail)
      clear h1 h2
      go_loopw [5, 31] (fun lv sv w2 => ∃ (s : Nat) (u : Value), u = lv ∧ s ≤ 4 ∧ sv = .int .i64 (s : Int) ∧ KP.O w2 w.heap.size u (F ++ hitsT T (tagN x) bk s) ∧ Below w.heap.size w w2) (fun _ sv _ => 4 - (intOf sv).toNat)
      case atStart => exact ⟨0, _, rfl, by omega, rfl, by rw [show hitsT T (tagN x) bk 0 = [] from rfl, List.append_nil]; exact HO.out, HB.out⟩
      case round =>
        obtain ⟨s, u2, rfl, hs, rfl, hO, hbc⟩ := hrel
        by_cases hs4 : s < 4
        · have hsI : (s : Int) < 4 := by omega
          have hie := hir s hs4
          have H1 := Go.Lib.hid (HS0.out s)
          have HT1 := Go.Lib.hid (HIT.out s)
          have HLX := Go.Lib.hid (show (F ++ hitsT T (tagN x) bk s).length ≤ 100 by have := HSL.out s; have := HLB.out; rw [List.length_append]; omega)
          have HO2 := Go.Lib.hid hO
          have HB2 := Go.Lib.hid hbc
          clear hO hbc hir
          have hZ0 : ∃ Z, Z = hitsT T (tagN x) bk (s + 1) := ⟨_, rfl⟩
          obtain ⟨Z, hZ0⟩ := hZ0
          rw [← hZ0] at H1
          have HZ0 := Go.Lib.hid hZ0
          clear hZ0
          generalize hitsT T (tagN x) bk s = Y at *
          generalize hitO (tagN x) (T (4 * bk + s)) = hit at *
          generalize tagO (T (4 * bk + s)) = tt at *
          generalize idO (T (4 * bk + s)) = ii at *
          generalize tagN x = tx at *
          have hb1 := (Below.refl wr.heap.size wr).alloc (Nat.le_refl _) (.cells #[.bool (hasO (T (4 * bk + s))), .int .i64 (tt : Int), .int .i64 ii] 49)
          have HO3 := Go.Lib.hid (HO2.out.below hb1)
          have HB3 := Go.Lib.hid (HB2.out.trans (hb1.mono HB2.out.size))
          clear hb1
          generalize hasO (T (4 * bk + s)) = hh at *
          cases hh with
          | false =>
            have HZ := Go.Lib.hid (show F ++ Z = F ++ Y by rw [H1.out, HT1.out]; simp)
            clear H1 HT1
            go_upto_region 11 with (fail)
            go_quiet (fail)
            go_wp2_with fail
            go_roundw
            case rel => exact ⟨s + 1, _, rfl, by omega, by go_num, by rw [← HZ0.out, HZ.out]; exact HO3.out.below (below_drewN (Below.refl _ _) _), below_drewN HB3.out _⟩
            case measure => simp only [intOf]; omega
          | true =>
            by_cases ht : tt = tx
            · have b1 : ((tt : Int) == (tx : Int)) = true := by simp [ht]
              have HZ := Go.Lib.hid (show F ++ Z = (F ++ Y) ++ [(bk, s)] by rw [H1.out, HT1.out]; simp [ht])
              clear H1 HT1 ht
              generalize F ++ Y = FY at *
              go_upto_region 11 with (fail)
              go_quiet ((go_at_call 25; exact Calls.quiet_of_same ((TA.out _).mono fun _ _ ⟨h, hw⟩ => ⟨h, hw.symm⟩)))
              have HOQ := Go.Lib.hid (HO3.out.below (below_drewN (Below.refl _ _) nq))
              have HBQ := Go.Lib.hid (below_drewN HB3.out nq)
              generalize ((wr.alloc (.cells #[.bool true, .int .i64 (tt : Int), .int .i64 ii] 49)).drewN nq) = w3 at *
              have hb4 := (Below.refl w3.heap.size w3).alloc (Nat.le_refl _) (.cells #[.int .i64 (bk : Int), .int .i64 (s : Int)] 63)
              have HO4 := Go.Lib.hid (HOQ.out.below hb4)
              have HB4 := Go.Lib.hid (HBQ.out.trans (hb4.mono HBQ.out.size))
              have HONE := Go.Lib.hid (KP.one' w3 bk s)
              clear hb4 HO3 HB3 HO2 HB2
              go_wp2_with (first
                | ((with_reducible show wpList _ _ _ (⟨some 49, _, _, _, _, _⟩ :: _) _ _); go_loud (refine KP_ok.append rfl (.tmp 44) (.tmp 48) rfl w.heap.size u2 (.slice (some ⟨w3.heap.size, 0, none⟩) 1 1) FY [(bk, s)] rfl rfl HO4.out HONE.out (by have := HLX.out; simp; omega) HB4.out.size ?_); intro v5 w5 hown5 hg5; have HB5 := Go.Lib.hid (HB4.out.grown hg5 HB4.out.size HO4.out.row); have HO5 := Go.Lib.hid hown5; clear hown5 hg5)
                | fail)
              go_roundw
              case rel => exact ⟨s + 1, _, rfl, by omega, by go_num, by rw [← HZ0.out, HZ.out]; exact HO5.out, HB5.out⟩
              case measure => simp only [intOf]; omega
            · have b1 : ((tt : Int) == (tx : Int)) = false := by simp only [beq_eq_false_iff_ne, ne_eq]; omega
              have HZ := Go.Lib.hid (show F ++ Z = F ++ Y by rw [H1.out, HT1.out]; simp [ht])
              clear H1 HT1 ht
              go_upto_region 11 with (fail)
              go_quiet ((go_at_call 25; exact Calls.quiet_of_same ((TA.out _).mono fun _ _ ⟨h, hw⟩ => ⟨h, hw.symm⟩)))
              go_wp2_with fail
              go_roundw
              case rel => exact ⟨s + 1, _, rfl, by omega, by go_num, by rw [← HZ0.out, HZ.out]; exact HO3.out.below (below_drewN (Below.refl _ _) _), below_drewN HB3.out _⟩
              case measure => simp only [intOf]; omega
        · obtain rfl : s = 4 := by omega
          have HO3 := Go.Lib.hid hO
          have HB3 := Go.Lib.hid hbc
          clear hO hbc hir hs4
          go_wp2_with fail
          go_roundw
          case rel => exact ⟨i + 1, _, rfl, by omega, by go_num, by rw [HF1.out]; exact HO3.out, HB3.out⟩
          case measure => simp only [intOf]; omega
    · obtain rfl : i = 2 := by omega
      have HO3 := Go.Lib.hid hO
      have HB3 := Go.Lib.hid hbc
      clear hO hbc hi2
      go_wp2_with fail
      go_ret
      exact ⟨_, rfl, HO3.out, HB3.out⟩

theorem cplaces_nil (x : Nat) (w : World) : Calls Try.prog 26 #[.pointer none, .int .u64 (x : Int)] w fun e w' => e = .returned (.slice none 0 0) ∧ w = w' := by
  go_enter Try.func26, Try.ntmps26
  go_wp2_with fail
  go_ret
  exact ⟨rfl, rfl⟩

end Go.Proofs.Ytgbaeipemlcbcaa
