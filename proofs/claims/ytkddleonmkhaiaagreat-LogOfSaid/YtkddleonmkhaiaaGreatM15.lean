/-
  Stage 17: At, Len.
  Stage 17: slices of places; places.
  Stage 17: Set; what lies where, told by its places.
-/
import Derived.Test.YtkddleonmkhaiaaGreatM14
import Derived.BigQuiet
import Derived.Deep.DeepCutAuto
namespace Go.Proofs.YtkddleonmkhaiaaGreat
open Go.RowKit

theorem addr_mid (d o j : Nat) : (⟨d, o, none⟩ : Addr).add j = ⟨d, o + j, none⟩ := Addr.add_mid d o j
theorem idxB (d b : Nat) (hb : b < 8) (W : World) : (Instr.indexAt 80 (.pointer (some ⟨d, 0, none⟩)) (.int .i64 (b : Int))).run Tryz.prog W = .ok (.pointer (some ⟨d, 12 * b, none⟩)) W := by
  have hu : Tryz.prog.underlying 80 = some (.array 8 79) := by kernel_rfl
  have hs : (Tryz.prog.info? 79).map (fun i => i.size) = some 12 := by kernel_rfl
  have h8 : ¬ 8 ≤ b := by omega
  have h8' : (b : Int) < 8 := by omega
  cases hi : Tryz.prog.info? 79 with
  | none => rw [hi] at hs; cases hs
  | some i =>
    rw [hi] at hs
    have hs' : i.size = 12 := by simpa using hs
    simp [Instr.indexAt, run_underlying hu, Instr.sureAddr, asIntOf, h8, sizeOf, typeInfo, hi, hs', Result.andThen, Addr.add_mid, Nat.mul_comm]
theorem idxS (d o s : Nat) (hs4 : s < 4) (W : World) : (Instr.indexAt 79 (.pointer (some ⟨d, o, none⟩)) (.int .i64 (s : Int))).run Tryz.prog W = .ok (.pointer (some ⟨d, o + 3 * s, none⟩)) W := by
  have hu : Tryz.prog.underlying 79 = some (.array 4 78) := by kernel_rfl
  have hs : (Tryz.prog.info? 78).map (fun i => i.size) = some 3 := by kernel_rfl
  have h8 : ¬ 4 ≤ s := by omega
  have h8' : (s : Int) < 4 := by omega
  cases hi : Tryz.prog.info? 78 with
  | none => rw [hi] at hs; cases hs
  | some i =>
    rw [hi] at hs
    have hs' : i.size = 3 := by simpa using hs
    simp [Instr.indexAt, run_underlying hu, Instr.sureAddr, asIntOf, h8, sizeOf, typeInfo, hi, hs', Result.andThen, Addr.add_mid, Nat.mul_comm]
/-- What lies in slot s of bucket b. -/
theorem CK.at {w : World} {d : Nat} {T : SlT} (h : CK w d T) {b s : Nat} (hb : b < 8) (hs : s < 4) : w.cell? ⟨d, 12 * b + 3 * s, none⟩ = some (.bool (hasO (T (4 * b + s)))) ∧ w.cell? ⟨d, 12 * b + 3 * s + 1, none⟩ = some (.int .i64 (tagO (T (4 * b + s)) : Int)) ∧ w.cell? ⟨d, 12 * b + 3 * s + 2, none⟩ = some (.int .i64 (idO (T (4 * b + s)))) := by
  rw [show 12 * b + 3 * s = 3 * (4 * b + s) by omega]
  exact ⟨h.has _ (by omega), h.tag _ (by omega), h.id _ (by omega)⟩

set_option maxRecDepth 100000 in
theorem cat_w {w : World} {d : Nat} {T : SlT} (h : CK w d T) {b s : Nat} (hb : b < 8) (hs : s < 4) :
    Calls Tryz.prog 59 #[.pointer (some ⟨d, 0, none⟩), .int .i64 (b : Int), .int .i64 (s : Int)] w fun e w' => e = .returned (.tuple #[.int .i64 (idO (T (4 * b + s))), .int .i64 (tagO (T (4 * b + s)) : Int), .bool (hasO (T (4 * b + s)))]) ∧ Below w.heap.size w w' := by
  obtain ⟨c0, c1, c2⟩ := h.at hb hs
  have hlt := h.lt
  have h1 := idxB d b hb w
  have h2 := idxS d (12 * b) s hs w
  have hbI : (b : Int) < 8 := by omega
  have hsI : (s : Int) < 4 := by omega
  generalize hasO (T (4 * b + s)) = H at *
  generalize tagO (T (4 * b + s)) = t at *
  generalize idO (T (4 * b + s)) = i at *
  go_enter Tryz.func59, Tryz.ntmps59
  go_wp2_with fail
  go_quiet (fail)
  go_wp2_with fail
  go_ret3
  exact ⟨rfl, below_drewN ((Below.refl _ _).alloc (Nat.le_refl _) _) _⟩
theorem cat_some {w : World} {d : Nat} {T : SlT} (h : CK w d T) {b s t : Nat} {i : Int} (hb : b < 8) (hs : s < 4) (ht : T (4 * b + s) = some (t, i)) :
    Calls Tryz.prog 59 #[.pointer (some ⟨d, 0, none⟩), .int .i64 (b : Int), .int .i64 (s : Int)] w fun e w' => e = .returned (.tuple #[.int .i64 i, .int .i64 (t : Int), .bool true]) ∧ Below w.heap.size w w' := by
  have e := cat_w h hb hs
  rw [ht] at e
  exact e
theorem cat_none {w : World} {d : Nat} {T : SlT} (h : CK w d T) {b s : Nat} (hb : b < 8) (hs : s < 4) (ht : T (4 * b + s) = none) :
    Calls Tryz.prog 59 #[.pointer (some ⟨d, 0, none⟩), .int .i64 (b : Int), .int .i64 (s : Int)] w fun e w' => e = .returned (.tuple #[.int .i64 0, .int .i64 0, .bool false]) ∧ Below w.heap.size w w' := by
  have e := cat_w h hb hs
  rw [ht] at e
  exact e
set_option maxRecDepth 100000 in
theorem cat_bad (v : Option Addr) (b s : Int) (w : World) (hb : v = none ∨ b < 0 ∨ 8 ≤ b ∨ s < 0 ∨ 4 ≤ s) :
    Calls Tryz.prog 59 #[.pointer v, .int .i64 b, .int .i64 s] w fun e w' => e = .returned (.tuple #[.int .i64 0, .int .i64 0, .bool false]) ∧ Below w.heap.size w w' := by
  have hbb := Below.refl w.heap.size w
  cases v with
  | none =>
    clear hb
    go_enter Tryz.func59, Tryz.ntmps59
    go_wp2_with fail
    go_ret3
    exact ⟨rfl, hbb⟩
  | some a =>
    by_cases h1 : b < 0
    · clear hb
      go_enter Tryz.func59, Tryz.ntmps59
      go_wp2_with fail
      go_ret3
      exact ⟨rfl, hbb⟩
    by_cases h2 : 8 ≤ b
    · clear hb
      go_enter Tryz.func59, Tryz.ntmps59
      go_wp2_with fail
      go_ret3
      exact ⟨rfl, hbb⟩
    by_cases h3 : s < 0
    · clear hb
      go_enter Tryz.func59, Tryz.ntmps59
      go_wp2_with fail
      go_ret3
      exact ⟨rfl, hbb⟩
    have h4 : 4 ≤ s := by
      rcases hb with h | h | h | h | h
      · cases h
      all_goals omega
    clear hb
    go_enter Tryz.func59, Tryz.ntmps59
    go_wp2_with fail
    go_ret3
    exact ⟨rfl, hbb⟩
theorem cat_out {w : World} {d : Nat} {T : SlT} (_h : CK w d T) {b s : Int} (hb : b < 0 ∨ 8 ≤ b ∨ s < 0 ∨ 4 ≤ s) (_h0 : -100 ≤ b ∧ b ≤ 100 ∧ -100 ≤ s ∧ s ≤ 100) :
    Calls Tryz.prog 59 #[.pointer (some ⟨d, 0, none⟩), .int .i64 b, .int .i64 s] w fun e w' => e = .returned (.tuple #[.int .i64 0, .int .i64 0, .bool false]) ∧ Below w.heap.size w w' := cat_bad _ b s w (.inr hb)
theorem cnil_at (b s : Int) (w : World) : Calls Tryz.prog 59 #[.pointer none, .int .i64 b, .int .i64 s] w fun e w' => e = .returned (.tuple #[.int .i64 0, .int .i64 0, .bool false]) ∧ Below w.heap.size w w' := cat_bad _ b s w (.inl rfl)

/-! ### Len. -/
def allO (T : SlT) : List Value := rowO T 0 ++ (rowO T 1 ++ (rowO T 2 ++ (rowO T 3 ++ (rowO T 4 ++ (rowO T 5 ++ (rowO T 6 ++ rowO T 7))))))
theorem allO_at (T : SlT) (b k : Nat) (hb : b < 8) (hk : k < 12) : (allO T)[12 * b + k]? = (rowO T b)[k]? := by
  rcases (by omega : b = 0 ∨ b = 1 ∨ b = 2 ∨ b = 3 ∨ b = 4 ∨ b = 5 ∨ b = 6 ∨ b = 7) with rfl | rfl | rfl | rfl | rfl | rfl | rfl | rfl <;>
    rcases (by omega : k = 0 ∨ k = 1 ∨ k = 2 ∨ k = 3 ∨ k = 4 ∨ k = 5 ∨ k = 6 ∨ k = 7 ∨ k = 8 ∨ k = 9 ∨ k = 10 ∨ k = 11) with rfl | rfl | rfl | rfl | rfl | rfl | rfl | rfl | rfl | rfl | rfl | rfl <;> rfl
theorem CK.all {w : World} {d : Nat} {T : SlT} (h : CK w d T) : w.rangeAt d 0 (allO T) := by
  intro k v hv
  have hk : k < 96 := (List.getElem?_eq_some_iff.1 hv).1
  have e := allO_at T (k / 12) (k % 12) (by omega) (by omega)
  rw [show 12 * (k / 12) + k % 12 = k by omega, hv] at e
  have := h.range (k / 12) (by omega) (k % 12) v e.symm
  rwa [show 12 * (k / 12) + k % 12 = 0 + k by omega] at this
theorem idxAll (T : SlT) (b : Nat) (hb : b < 8) (W : World) : (Instr.index 80 (.agg (allO T).toArray) (.int .i64 (b : Int))).run Tryz.prog W = .ok (.agg (rowO T b).toArray) W := by
  rcases (by omega : b = 0 ∨ b = 1 ∨ b = 2 ∨ b = 3 ∨ b = 4 ∨ b = 5 ∨ b = 6 ∨ b = 7) with rfl | rfl | rfl | rfl | rfl | rfl | rfl | rfl <;> kernel_rfl
theorem idxRow (T : SlT) (b s : Nat) (hs : s < 4) (W : World) : (Instr.index 79 (.agg (rowO T b).toArray) (.int .i64 (s : Int))).run Tryz.prog W = .ok (.agg #[.bool (hasO (T (4 * b + s))), .int .i64 (tagO (T (4 * b + s)) : Int), .int .i64 (idO (T (4 * b + s)))]) W := by
  rcases (by omega : s = 0 ∨ s = 1 ∨ s = 2 ∨ s = 3) with rfl | rfl | rfl | rfl <;> kernel_rfl
def cntT (T : SlT) (k : Nat) : Nat := (List.range k).countP fun q => hasO (T q)
theorem cntT_succ (T : SlT) (k : Nat) : cntT T (k + 1) = cntT T k + (if hasO (T k) = true then 1 else 0) := by
  unfold cntT
  rw [List.range_succ, List.countP_append, List.countP_singleton]
theorem cntT_le (T : SlT) (k : Nat) : cntT T k ≤ k := by
  have := List.countP_le_length (p := fun q => hasO (T q)) (l := List.range k)
  rw [List.length_range] at this
  exact this
theorem cntT_all (T : SlT) : cntT T 32 = (slL T).length := by
  unfold cntT slL
  induction List.range 32 with
  | nil => rfl
  | cons q l ih =>
    rw [List.countP_cons, List.filterMap_cons, ih]
    cases hT : T q <;> simp [hasO]

end Go.Proofs.YtkddleonmkhaiaaGreat

namespace Go.Proofs.YtkddleonmkhaiaaGreat
open Go.RowKit

def KP : Lay (Nat × Nat) := ⟨fun e => [.int .i64 (e.1 : Int), .int .i64 (e.2 : Int)], 2, 96, 91, .agg #[.int .i64 0, .int .i64 0], 16⟩
theorem KP_ok : KP.Ok Tryz.prog := ⟨by decide, fun _ => rfl, fun x u hu => by
  rcases List.mem_cons.1 hu with rfl | hu
  · rfl
  · rw [List.mem_singleton.1 hu]; rfl, Tryz.underlying91, by kernel_rfl, rfl, by decide⟩
theorem KP.one' (w : World) (b s : Nat) : KP.R (w.alloc (.cells #[.int .i64 (b : Int), .int .i64 (s : Int)] 96)) (.slice (some ⟨w.heap.size, 0, none⟩) 1 1) [(b, s)] := Lay.R.one w KP_ok (b, s) 96 (0, 0)
theorem KP.at' {w : World} {a : Option Addr} {n cap : Nat} {l : List (Nat × Nat)} (h : KP.R w (.slice a n cap) l) (i : Nat) (hi : i < l.length) : ∃ b o, a = some ⟨b, o, none⟩ ∧ n = l.length ∧ b < w.heap.size ∧ w.cell? ⟨b, o + i * 2, none⟩ = some (.int .i64 (l[i].1 : Int)) ∧ w.cell? ⟨b, o + i * 2 + 1, none⟩ = some (.int .i64 (l[i].2 : Int)) := by
  obtain ⟨b, o, h1, h2, h3, h4⟩ := h.at KP_ok i hi
  exact ⟨b, o, h1, h2, h3, h4 0 _ rfl, h4 1 _ rfl⟩
theorem idxP (b o n cap j : Nat) (h : j < n) (W : World) : (Instr.indexAt 91 (.slice (some ⟨b, o, none⟩) n cap) (.int .i64 (j : Int))).run Tryz.prog W = .ok (.pointer (some ⟨b, o + j * 2, none⟩)) W := KP_ok.run_idx b o n cap j h W

/-! ### Where entries of a tag lie. -/
def hitO (t : Nat) : Option (Nat × Int) → Bool
  | some x => x.1 == t
  | none => false
theorem hitO_eq (t : Nat) (x : Option (Nat × Int)) : hitO t x = (hasO x && tagO x == t) := by
  cases x <;> rfl
def hitsT (T : SlT) (t b k : Nat) : List (Nat × Nat) := ((List.range k).filter fun s => hitO t (T (4 * b + s))).map fun s => (b, s)
theorem hitsT_succ (T : SlT) (t b k : Nat) : hitsT T t b (k + 1) = hitsT T t b k ++ (if hitO t (T (4 * b + k)) = true then [(b, k)] else []) := by
  unfold hitsT
  rw [List.range_succ, List.filter_append, List.map_append]
  congr 1
  rw [List.filter_cons, List.filter_nil]
  split <;> rfl
theorem hitsT_len (T : SlT) (t b k : Nat) : (hitsT T t b k).length ≤ k := by
  unfold hitsT
  rw [List.length_map]
  have := List.length_filter_le (fun s => hitO t (T (4 * b + s))) (List.range k)
  rw [List.length_range] at this
  exact this
def bkX (x i : Nat) : Nat := if i = 0 then firstN x else othN (firstN x) (tagN x)
theorem bkX_lt (x i : Nat) : bkX x i < 8 := by
  unfold bkX
  split
  · exact first_lt x
  · exact oth_lt _ (first_lt x)
def foundT (T : SlT) (x : Nat) : Nat → List (Nat × Nat)
  | 0 => []
  | i + 1 => foundT T x i ++ hitsT T (tagN x) (bkX x i) 4
theorem foundT_len (T : SlT) (x : Nat) : ∀ i, (foundT T x i).length ≤ 4 * i
  | 0 => by simp [foundT]
  | i + 1 => by have := foundT_len T x i; have := hitsT_len T (tagN x) (bkX x i) 4; rw [foundT, List.length_append]; omega
def placesT (T : SlT) (x : Nat) : List (Nat × Nat) := foundT T x 2

theorem idx2 (f o i : Nat) (hi : i < 2) (W : World) : (Instr.index 120 (.agg #[.int .i64 (f : Int), .int .i64 (o : Int)]) (.int .i64 (i : Int))).run Tryz.prog W = .ok (.int .i64 ((if i = 0 then f else o : Nat) : Int)) W := by
  rcases (by omega : i = 0 ∨ i = 1) with rfl | rfl <;> kernel_rfl

set_option maxHeartbeats 1000000 in
set_option maxRecDepth 100000 in
theorem cplaces_c {w : World} {d : Nat} {T : SlT} (h : CK w d T) {x : Nat} (hx : x < 18446744073709551616) :
    Calls Tryz.prog 57 #[.pointer (some ⟨d, 0, none⟩), .int .u64 (x : Int)] w fun e w' => ∃ v, e = .returned v ∧ KP.O w' w.heap.size v (placesT T x) ∧ Below w.heap.size w w' := by
  have HD := Go.Lib.hid fun W (hW : Below w.heap.size w W) => h.below hW
  have PA := Go.Lib.hid fun W => cpair_c x W hx
  have TA := Go.Lib.hid fun W => htag_c x W hx
  have HR := Go.Lib.hid (idxRow T)
  have HI2 := Go.Lib.hid (show ∀ i : Nat, i < 2 → ∀ W, (Instr.index 120 (.agg #[.int .i64 (firstN x : Int), .int .i64 (othN (firstN x) (tagN x) : Int)]) (.int .i64 (i : Int))).run Tryz.prog W = .ok (.int .i64 (bkX x i : Int)) W from fun i hi W => idx2 _ _ i hi W)
  have HBK := Go.Lib.hid (bkX_lt x)
  have HLEN := Go.Lib.hid (fun b => show (Tryz.prog.info? 79).map (·.size) = some (rowO T b).length by kernel_rfl)
  clear h hx
  generalize hfx : firstN x = fx at *
  generalize hox : othN fx (tagN x) = ox at *
  go_enter Tryz.func57, Tryz.ntmps57
  go_wp2_with fail
  refine (PA.out _).mono ?_
  rintro e w1 ⟨rfl, rfl⟩
  go_wp2_with fail
  go_loopw [5, 22] (fun lv iv wr => ∃ (i : Nat) (u : Value), u = lv ∧ i ≤ 2 ∧ iv = .int .i64 (i : Int) ∧ KP.O wr w.heap.size u (foundT T x i) ∧ Below w.heap.size w wr) (fun _ iv _ => 2 - (intOf iv).toNat)
  case atStart => exact ⟨0, _, rfl, by omega, rfl, Lay.O.nil _ _, Below.refl _ _⟩
  case round =>
    obtain ⟨i, u, rfl, hi, rfl, hO, hbc⟩ := hrel
    by_cases hi2 : i < 2
    · have hiI : (i : Int) < 2 := by omega
      have h2 := HI2.out i hi2
      have hbk := HBK.out i
      have HLB := Go.Lib.hid (foundT_len T x i)
      have HF1 := Go.Lib.hid (show foundT T x (i + 1) = foundT T x i ++ hitsT T (tagN x) (bkX x i) 4 from rfl)
      generalize hbb : bkX x i = bk at *
      have h1 := fun W => idxB d bk hbk W
      have HRG := Go.Lib.hid ((HD.out wr hbc).range bk hbk)
      have HO := Go.Lib.hid hO
      have HB := Go.Lib.hid hbc
      have hir := HR.out bk
      have HL2 := Go.Lib.hid (HLEN.out bk)
      have HS0 := Go.Lib.hid (hitsT_succ T (tagN x) bk)
      have HSL := Go.Lib.hid (hitsT_len T (tagN x) bk)
      have HIT := Go.Lib.hid (fun s => hitO_eq (tagN x) (T (4 * bk + s)))
      generalize foundT T x i = F at *
      generalize rowO T bk = R at *
      clear hO hbc hbb
      go_wp2_with (first
        | ((with_reducible show wpList _ _ _ (⟨some 30, _, _, _, _, _⟩ :: _) _ _); go_loud (refine wpList_load_mid rfl 79 (.tmp 29) rfl d (12 * bk) rfl R _ HRG.out Tryz.underlying79 rfl HL2.out ?_))
        | fail)
      clear h1 h2
      go_loopw [5, 31] (fun lv sv w2 => ∃ (s : Nat) (u : Value), u = lv ∧ s ≤ 4 ∧ sv = .int .i64 (s : Int) ∧ KP.O w2 w.heap.size u (F ++ hitsT T (tagN x) bk s) ∧ Below w.heap.size w w2) (fun _ sv _ => 4 - (intOf sv).toNat)
      case atStart => exact ⟨0, _, rfl, by omega, rfl, by rw [show hitsT T (tagN x) bk 0 = [] from rfl, List.append_nil]; exact HO.out, HB.out⟩
      case round =>
        obtain ⟨s, u2, rfl, hs, rfl, hO, hbc⟩ := hrel
        by_cases hs4 : s < 4
        · have hsI : (s : Int) < 4 := by omega
          have hie := hir s hs4
          have H1 := Go.Lib.hid (HS0.out s)
          have HT1 := Go.Lib.hid (HIT.out s)
          have HLX := Go.Lib.hid (show (F ++ hitsT T (tagN x) bk s).length ≤ 100 by have := HSL.out s; have := HLB.out; rw [List.length_append]; omega)
          have HO2 := Go.Lib.hid hO
          have HB2 := Go.Lib.hid hbc
          clear hO hbc hir
          have hZ0 : ∃ Z, Z = hitsT T (tagN x) bk (s + 1) := ⟨_, rfl⟩
          obtain ⟨Z, hZ0⟩ := hZ0
          rw [← hZ0] at H1
          have HZ0 := Go.Lib.hid hZ0
          clear hZ0
          generalize hitsT T (tagN x) bk s = Y at *
          generalize hitO (tagN x) (T (4 * bk + s)) = hit at *
          generalize tagO (T (4 * bk + s)) = tt at *
          generalize idO (T (4 * bk + s)) = ii at *
          generalize tagN x = tx at *
          have hb1 := (Below.refl wr.heap.size wr).alloc (Nat.le_refl _) (.cells #[.bool (hasO (T (4 * bk + s))), .int .i64 (tt : Int), .int .i64 ii] 78)
          have HO3 := Go.Lib.hid (HO2.out.below hb1)
          have HB3 := Go.Lib.hid (HB2.out.trans (hb1.mono HB2.out.size))
          clear hb1
          generalize hasO (T (4 * bk + s)) = hh at *
          cases hh with
          | false =>
            have HZ := Go.Lib.hid (show F ++ Z = F ++ Y by rw [H1.out, HT1.out]; simp)
            clear H1 HT1
            go_upto_region 11 with (fail)
            go_quiet (fail)
            go_wp2_with fail
            go_roundw
            case rel => exact ⟨s + 1, _, rfl, by omega, by go_num, by rw [← HZ0.out, HZ.out]; exact HO3.out.below (below_drewN (Below.refl _ _) _), below_drewN HB3.out _⟩
            case measure => simp only [intOf]; omega
          | true =>
            by_cases ht : tt = tx
            · have b1 : ((tt : Int) == (tx : Int)) = true := by simp [ht]
              have HZ := Go.Lib.hid (show F ++ Z = (F ++ Y) ++ [(bk, s)] by rw [H1.out, HT1.out]; simp [ht])
              clear H1 HT1 ht
              generalize F ++ Y = FY at *
              go_upto_region 11 with (fail)
              go_quiet ((go_at_call 55; exact Calls.quiet_of_same ((TA.out _).mono fun _ _ ⟨h, hw⟩ => ⟨h, hw.symm⟩)))
              have HOQ := Go.Lib.hid (HO3.out.below (below_drewN (Below.refl _ _) nq))
              have HBQ := Go.Lib.hid (below_drewN HB3.out nq)
              generalize ((wr.alloc (.cells #[.bool true, .int .i64 (tt : Int), .int .i64 ii] 78)).drewN nq) = w3 at *
              have hb4 := (Below.refl w3.heap.size w3).alloc (Nat.le_refl _) (.cells #[.int .i64 (bk : Int), .int .i64 (s : Int)] 96)
              have HO4 := Go.Lib.hid (HOQ.out.below hb4)
              have HB4 := Go.Lib.hid (HBQ.out.trans (hb4.mono HBQ.out.size))
              have HONE := Go.Lib.hid (KP.one' w3 bk s)
              clear hb4 HO3 HB3 HO2 HB2
              go_wp2_with (first
                | ((with_reducible show wpList _ _ _ (⟨some 49, _, _, _, _, _⟩ :: _) _ _); go_loud (refine KP_ok.append rfl (.tmp 44) (.tmp 48) rfl w.heap.size u2 (.slice (some ⟨w3.heap.size, 0, none⟩) 1 1) FY [(bk, s)] rfl rfl HO4.out HONE.out (by have := HLX.out; simp; omega) HB4.out.size ?_); intro v5 w5 hown5 hg5; have HB5 := Go.Lib.hid (HB4.out.grown hg5 HB4.out.size HO4.out.row); have HO5 := Go.Lib.hid hown5; clear hown5 hg5)
                | fail)
              go_roundw
              case rel => exact ⟨s + 1, _, rfl, by omega, by go_num, by rw [← HZ0.out, HZ.out]; exact HO5.out, HB5.out⟩
              case measure => simp only [intOf]; omega
            · have b1 : ((tt : Int) == (tx : Int)) = false := by simp only [beq_eq_false_iff_ne, ne_eq]; omega
              have HZ := Go.Lib.hid (show F ++ Z = F ++ Y by rw [H1.out, HT1.out]; simp [ht])
              clear H1 HT1 ht
              go_upto_region 11 with (fail)
              go_quiet ((go_at_call 55; exact Calls.quiet_of_same ((TA.out _).mono fun _ _ ⟨h, hw⟩ => ⟨h, hw.symm⟩)))
              go_wp2_with fail
              go_roundw
              case rel => exact ⟨s + 1, _, rfl, by omega, by go_num, by rw [← HZ0.out, HZ.out]; exact HO3.out.below (below_drewN (Below.refl _ _) _), below_drewN HB3.out _⟩
              case measure => simp only [intOf]; omega
        · obtain rfl : s = 4 := by omega
          have HO3 := Go.Lib.hid hO
          have HB3 := Go.Lib.hid hbc
          clear hO hbc hir hs4
          go_wp2_with fail
          go_roundw
          case rel => exact ⟨i + 1, _, rfl, by omega, by go_num, by rw [HF1.out]; exact HO3.out, HB3.out⟩
          case measure => simp only [intOf]; omega
    · obtain rfl : i = 2 := by omega
      have HO3 := Go.Lib.hid hO
      have HB3 := Go.Lib.hid hbc
      clear hO hbc hi2
      go_wp2_with fail
      go_ret
      exact ⟨_, rfl, HO3.out, HB3.out⟩

theorem cplaces_nil (x : Nat) (w : World) : Calls Tryz.prog 57 #[.pointer none, .int .u64 (x : Int)] w fun e w' => e = .returned (.slice none 0 0) ∧ w = w' := by
  go_enter Tryz.func57, Tryz.ntmps57
  go_wp2_with fail
  go_ret
  exact ⟨rfl, rfl⟩

end Go.Proofs.YtkddleonmkhaiaaGreat

namespace Go.Proofs.YtkddleonmkhaiaaGreat
open Go.RowKit

/-! ### Mathematics: places and entries. -/
theorem hits_mem {T : SlT} {t b k : Nat} {p : Nat × Nat} : p ∈ hitsT T t b k ↔ p.1 = b ∧ p.2 < k ∧ hitO t (T (4 * b + p.2)) = true := by
  unfold hitsT
  rw [List.mem_map]
  constructor
  · rintro ⟨s, hs, rfl⟩
    rw [List.mem_filter, List.mem_range] at hs
    exact ⟨rfl, hs.1, hs.2⟩
  · rintro ⟨h1, h2, h3⟩
    exact ⟨p.2, by rw [List.mem_filter, List.mem_range]; exact ⟨h2, h3⟩, by rw [← h1]⟩
theorem hitO_some {t : Nat} {x : Option (Nat × Int)} (h : hitO t x = true) : x = some (t, idO x) := by
  cases x with
  | none => cases h
  | some y =>
    have h1 : y.1 = t := by simpa [hitO] using h
    rw [← h1]
    rfl
theorem places_mem {T : SlT} {x : Nat} {p : Nat × Nat} : p ∈ placesT T x ↔ (p.1 = firstN x ∨ p.1 = othN (firstN x) (tagN x)) ∧ p.2 < 4 ∧ hitO (tagN x) (T (4 * p.1 + p.2)) = true := by
  show p ∈ ([] ++ hitsT T (tagN x) (bkX x 0) 4) ++ hitsT T (tagN x) (bkX x 1) 4 ↔ _
  rw [List.nil_append, List.mem_append, hits_mem, hits_mem]
  have e0 : bkX x 0 = firstN x := rfl
  have e1 : bkX x 1 = othN (firstN x) (tagN x) := rfl
  rw [e0, e1]
  constructor
  · rintro (⟨h1, h2, h3⟩ | ⟨h1, h2, h3⟩)
    · exact ⟨.inl h1, h2, by rw [h1]; exact h3⟩
    · exact ⟨.inr h1, h2, by rw [h1]; exact h3⟩
  · rintro ⟨h1 | h1, h2, h3⟩
    · exact .inl ⟨h1, h2, by rw [h1] at h3; exact h3⟩
    · exact .inr ⟨h1, h2, by rw [h1] at h3; exact h3⟩
theorem places_lt {T : SlT} {x : Nat} {p : Nat × Nat} (h : p ∈ placesT T x) : p.1 < 8 ∧ p.2 < 4 ∧ T (4 * p.1 + p.2) = some (tagN x, idO (T (4 * p.1 + p.2))) ∧ keyN p.1 (tagN x) = keyH x := by
  obtain ⟨h1, h2, h3⟩ := places_mem.1 h
  have hf := first_lt x
  have ho := oth_lt (tagN x) hf
  refine ⟨by omega, h2, hitO_some h3, ?_⟩
  unfold keyH
  rcases h1 with h1 | h1
  · rw [h1]
  · rw [h1, keyN_oth _ hf]
theorem places_of {T : SlT} {x q : Nat} {i : Int} (hT : T q = some (tagN x, i)) (hq : q < 32) (hk : keyN (q / 4) (tagN x) = keyH x) : (q / 4, q % 4) ∈ placesT T x := by
  rw [places_mem]
  refine ⟨?_, Nat.mod_lt _ (by omega), ?_⟩
  · unfold keyH at hk
    exact ((keyN_iff (by omega) (first_lt x)).1 hk).2
  · rw [show 4 * (q / 4) + q % 4 = q by omega, hT]
    simp [hitO]
/-- An entry that is there lies in a slot. -/
theorem Fits.slot {T : SlT} {es : List EnT} (h : Fits T es) {k : Nat} (hk : k < es.length) : ∃ q, q < 32 ∧ T q = some (tagN es[k].1, es[k].2) ∧ keyN (q / 4) (tagN es[k].1) = keyH es[k].1 := by
  have h1 : keyE es[k] ∈ (slL T).map keyS := (List.Perm.mem_iff h).2 (List.mem_map.2 ⟨es[k], List.getElem_mem hk, rfl⟩)
  obtain ⟨y, hy, hye⟩ := List.mem_map.1 h1
  obtain ⟨q, hq, hqe⟩ := List.mem_filterMap.1 hy
  rw [Option.map_eq_some_iff] at hqe
  obtain ⟨z, hz, rfl⟩ := hqe
  have hq' := List.mem_range.1 hq
  unfold keyS keyE at hye
  rw [Prod.mk.injEq] at hye
  obtain ⟨h2, h3⟩ := hye
  simp only [] at h2 h3
  have h4 : z.1 = tagN es[k].1 := by
    have := congrArg Prod.snd h2
    simpa [keyN, keyH] using this
  refine ⟨q, hq', ?_, ?_⟩
  · rw [hz, ← h4, ← h3]
  · rw [← h4]; exact h2
/-- What lies in a slot is there. -/
theorem Fits.entry {T : SlT} {es : List EnT} (h : Fits T es) {q t : Nat} {i : Int} (hq : q < 32) (hT : T q = some (t, i)) : ∃ k, ∃ hk : k < es.length, keyE es[k] = (keyN (q / 4) t, i) := by
  have h1 : (keyN (q / 4) t, i) ∈ es.map keyE := (List.Perm.mem_iff h).1 (List.mem_map.2 ⟨(q / 4, t, i), List.mem_filterMap.2 ⟨q, List.mem_range.2 hq, by rw [hT]; rfl⟩, rfl⟩)
  obtain ⟨e, he, hee⟩ := List.mem_map.1 h1
  obtain ⟨k, hk, rfl⟩ := List.mem_iff_getElem.1 he
  exact ⟨k, hk, hee⟩

/-! ### A slot is written. -/
section
variable {w w' : World} {d : Nat} {T : SlT}
theorem CK.setSlot (h : CK w d T) {q : Nat} (hq : q < 32) (x : Option (Nat × Int)) (hx : ∀ y, x = some y → y.1 < 32768) : CK (w.setCells d (3 * q) (encO x)) d (layT T q x) := by
  obtain ⟨cs, fr, hr⟩ := h.row
  have hin : ∀ j, j < 3 → (w.setCells d (3 * q) (encO x)).cell? ⟨d, 3 * q + j, none⟩ = (encO x)[j]? := fun j hj => by
    rw [World.cell?_setCells_in d (encO x) (3 * q) w (fun i hi => by rw [h.cell q i hq hi, List.getElem?_eq_getElem (show i < (encO (T q)).length from hi)]; rfl) j hj]
    exact (List.getElem?_eq_getElem hj).symm
  have hout : ∀ p j, p < 32 → j < 3 → p ≠ q → (w.setCells d (3 * q) (encO x)).cell? ⟨d, 3 * p + j, none⟩ = w.cell? ⟨d, 3 * p + j, none⟩ := fun p j hp hj hne =>
    World.cell?_setCells_out d (encO x) (3 * q) w ⟨d, 3 * p + j, none⟩ (fun _ _ => by show 3 * p + j < 3 * q ∨ 3 * q + 3 ≤ 3 * p + j; omega)
  have hall : ∀ p j, p < 32 → j < 3 → (w.setCells d (3 * q) (encO x)).cell? ⟨d, 3 * p + j, none⟩ = (encO (layT T q x p))[j]? := fun p j hp hj => by
    unfold layT
    by_cases hpq : p = q
    · rw [if_pos hpq, hpq]; exact hin j hj
    · rw [if_neg hpq, hout p j hp hj hpq]; exact h.cell p j hp hj
  refine ⟨?_, ?_, fun o => by rw [World.frozen?_setCells]; exact h.fr o, fun p hp => hall p 0 hp (by omega), fun p hp => hall p 1 hp (by omega), fun p hp => hall p 2 hp (by omega)⟩
  · have key : ∀ (vs : List Value) (w : World) (o : Nat) (cs : Array Value), w.heap[d]? = some (.cells cs 82 fr) → ∃ cs', (w.setCells d o vs).heap[d]? = some (.cells cs' 82 fr) := by
      intro vs
      induction vs with
      | nil => intro w o cs hr; exact ⟨cs, hr⟩
      | cons v r ih =>
        intro w o cs hr
        rw [World.setCells]
        exact ih (w.setCell ⟨d, o, none⟩ v) (o + 1) (cs.setIfInBounds o v) (by simp [World.setCell, Array.getElem?_modify, hr])
    obtain ⟨cs', hc⟩ := key (encO x) w (3 * q) cs hr
    exact ⟨cs', fr, hc⟩
  · intro p y hy
    unfold layT at hy
    split at hy
    · rename_i e
      exact ⟨by omega, hx y hy⟩
    · exact h.tok p y hy
theorem CK.setId (h : CK w d T) {q t : Nat} {j : Int} (hq : q < 32) (hT : T q = some (t, j)) (i : Int) : CK (w.setCell ⟨d, 3 * q + 2, none⟩ (.int .i64 i)) d (layT T q (some (t, i))) := by
  obtain ⟨cs, fr, hr⟩ := h.row
  have hs : (w.setCell ⟨d, 3 * q + 2, none⟩ (.int .i64 i)).cell? ⟨d, 3 * q + 2, none⟩ = some (.int .i64 i) := World.cell?_setCell_same _ _ _ (h.id q hq)
  have ho : ∀ p j, (p ≠ q ∨ j ≠ 2) → j < 3 → (w.setCell ⟨d, 3 * q + 2, none⟩ (.int .i64 i)).cell? ⟨d, 3 * p + j, none⟩ = w.cell? ⟨d, 3 * p + j, none⟩ := fun p j hp hj =>
    World.cell?_setCell_other _ _ _ _ (fun e => by simp only [Addr.mk.injEq] at e; omega)
  have hne : ∀ p, p ≠ q → layT T q (some (t, i)) p = T p := fun p hp => by unfold layT; rw [if_neg hp]
  have heq : layT T q (some (t, i)) q = some (t, i) := by unfold layT; rw [if_pos rfl]
  refine ⟨⟨cs.setIfInBounds (3 * q + 2) (.int .i64 i), fr, by simp [World.setCell, Array.getElem?_modify, hr]⟩, ?_, fun o => by rw [World.frozen?_setCell]; exact h.fr o, fun p hp => ?_, fun p hp => ?_, fun p hp => ?_⟩
  · intro p y hy
    unfold layT at hy
    split at hy
    · rename_i e
      cases hy
      exact ⟨by omega, (h.tok q _ hT).2⟩
    · exact h.tok p y hy
  · rw [show 3 * p = 3 * p + 0 from rfl, ho p 0 (.inr (by omega)) (by omega)]
    by_cases e : p = q
    · rw [e, heq]; have := h.has q hq; rw [hT] at this; exact this
    · rw [hne p e]; exact h.has p hp
  · rw [ho p 1 (.inr (by omega)) (by omega)]
    by_cases e : p = q
    · rw [e, heq]; have := h.tag q hq; rw [hT] at this; exact this
    · rw [hne p e]; exact h.tag p hp
  · by_cases e : p = q
    · rw [e, heq]; exact hs
    · rw [ho p 2 (.inl e) (by omega), hne p e]; exact h.id p hp
end

/-! ### Set. -/
/-- The first place whose number is old, if there is one. -/
def idP (T : SlT) (p : Nat × Nat) : Int := idO (T (4 * p.1 + p.2))
end Go.Proofs.YtkddleonmkhaiaaGreat
