/-
  Stage 17: At, Len.
  Stage 17: slices of places; places.
  Stage 17: Set; what lies where, told by its places.
  slices.Sort of ints: the library's contract laid at this program (made by gen/SortI.py).
  A region whose order is open, whose operations read and make memory but change none that stands: one condition for each slot that it writes, kept whatever comes up between; each operation is shown once, not once for each order.
  A region whose order is open at its beginning alone: the first n operations come in some order and change nothing that stands (see XDraw); behind them the others come one by one: what is left is their list.
  Stage 17: slices.Sort of ints that the call made; Find.
  Mathematics of ways (of no code): the slots along which entries give way, one to the next.
-/
import Derived.Test.YtggokffdgjedgaaGreatM05
import Derived.BigQuiet
import Derived.Deep.DeepCutAuto
import Derived.Shelf.SlGeneric
import Derived.Shelf.SortM.Plain
import Derived.Shelf.SortM.SortNone
import Derived.Ground.SlgmProg
import Derived.Test.YtggokffdgjedgaaGreatProg
import Derived.Test.YtggokffdgjedgaaGreatM01
import Derived.Orders
import Derived.Sort.OwnSortedInts
import Derived.Test.YtggokffdgjedgaaGreatM04
namespace Go.Proofs.YtggokffdgjedgaaGreat
open Go.RowKit

theorem addr_mid (d o j : Nat) : (⟨d, o, none⟩ : Addr).add j = ⟨d, o + j, none⟩ := Addr.add_mid d o j
theorem idxB (d b : Nat) (hb : b < 8) (W : World) : (Instr.indexAt 80 (.pointer (some ⟨d, 0, none⟩)) (.int .i64 (b : Int))).run Tryz.prog W = .ok (.pointer (some ⟨d, 12 * b, none⟩)) W := by
  have hu : Tryz.prog.underlying 80 = some (.array 8 79) := by kernel_rfl
  have hs : (Tryz.prog.info? 79).map (fun i => i.size) = some 12 := by kernel_rfl
  have h8 : ¬ 8 ≤ b := by omega
  have h8' : (b : Int) < 8 := by omega
  cases hi : Tryz.prog.info? 79 with
  | none => rw [hi] at hs; cases hs
  | some i =>
    rw [hi] at hs
    have hs' : i.size = 12 := by simpa using hs
    simp [Instr.indexAt, run_underlying hu, Instr.sureAddr, asIntOf, h8, sizeOf, typeInfo, hi, hs', Result.andThen, Addr.add_mid, Nat.mul_comm]
theorem idxS (d o s : Nat) (hs4 : s < 4) (W : World) : (Instr.indexAt 79 (.pointer (some ⟨d, o, none⟩)) (.int .i64 (s : Int))).run Tryz.prog W = .ok (.pointer (some ⟨d, o + 3 * s, none⟩)) W := by
  have hu : Tryz.prog.underlying 79 = some (.array 4 78) := by kernel_rfl
  have hs : (Tryz.prog.info? 78).map (fun i => i.size) = some 3 := by kernel_rfl
  have h8 : ¬ 4 ≤ s := by omega
  have h8' : (s : Int) < 4 := by omega
  cases hi : Tryz.prog.info? 78 with
  | none => rw [hi] at hs; cases hs
  | some i =>
    rw [hi] at hs
    have hs' : i.size = 3 := by simpa using hs
    simp [Instr.indexAt, run_underlying hu, Instr.sureAddr, asIntOf, h8, sizeOf, typeInfo, hi, hs', Result.andThen, Addr.add_mid, Nat.mul_comm]
/-- What lies in slot s of bucket b. -/
theorem CK.at {w : World} {d : Nat} {T : SlT} (h : CK w d T) {b s : Nat} (hb : b < 8) (hs : s < 4) : w.cell? ⟨d, 12 * b + 3 * s, none⟩ = some (.bool (hasO (T (4 * b + s)))) ∧ w.cell? ⟨d, 12 * b + 3 * s + 1, none⟩ = some (.int .i64 (tagO (T (4 * b + s)) : Int)) ∧ w.cell? ⟨d, 12 * b + 3 * s + 2, none⟩ = some (.int .i64 (idO (T (4 * b + s)))) := by
  rw [show 12 * b + 3 * s = 3 * (4 * b + s) by omega]
  exact ⟨h.has _ (by omega), h.tag _ (by omega), h.id _ (by omega)⟩

set_option maxRecDepth 100000 in
theorem cat_w {w : World} {d : Nat} {T : SlT} (h : CK w d T) {b s : Nat} (hb : b < 8) (hs : s < 4) :
    Calls Tryz.prog 58 #[.pointer (some ⟨d, 0, none⟩), .int .i64 (b : Int), .int .i64 (s : Int)] w fun e w' => e = .returned (.tuple #[.int .i64 (idO (T (4 * b + s))), .int .i64 (tagO (T (4 * b + s)) : Int), .bool (hasO (T (4 * b + s)))]) ∧ Below w.heap.size w w' := by
  obtain ⟨c0, c1, c2⟩ := h.at hb hs
  have hlt := h.lt
  have h1 := idxB d b hb w
  have h2 := idxS d (12 * b) s hs w
  have hbI : (b : Int) < 8 := by omega
  have hsI : (s : Int) < 4 := by omega
  generalize hasO (T (4 * b + s)) = H at *
  generalize tagO (T (4 * b + s)) = t at *
  generalize idO (T (4 * b + s)) = i at *
  go_enter Tryz.func58, Tryz.ntmps58
  go_wp2_with fail
  go_quiet (fail)
  go_wp2_with fail
  go_ret3
  exact ⟨rfl, below_drewN ((Below.refl _ _).alloc (Nat.le_refl _) _) _⟩
theorem cat_some {w : World} {d : Nat} {T : SlT} (h : CK w d T) {b s t : Nat} {i : Int} (hb : b < 8) (hs : s < 4) (ht : T (4 * b + s) = some (t, i)) :
    Calls Tryz.prog 58 #[.pointer (some ⟨d, 0, none⟩), .int .i64 (b : Int), .int .i64 (s : Int)] w fun e w' => e = .returned (.tuple #[.int .i64 i, .int .i64 (t : Int), .bool true]) ∧ Below w.heap.size w w' := by
  have e := cat_w h hb hs
  rw [ht] at e
  exact e
theorem cat_none {w : World} {d : Nat} {T : SlT} (h : CK w d T) {b s : Nat} (hb : b < 8) (hs : s < 4) (ht : T (4 * b + s) = none) :
    Calls Tryz.prog 58 #[.pointer (some ⟨d, 0, none⟩), .int .i64 (b : Int), .int .i64 (s : Int)] w fun e w' => e = .returned (.tuple #[.int .i64 0, .int .i64 0, .bool false]) ∧ Below w.heap.size w w' := by
  have e := cat_w h hb hs
  rw [ht] at e
  exact e
set_option maxRecDepth 100000 in
theorem cat_bad (v : Option Addr) (b s : Int) (w : World) (hb : v = none ∨ b < 0 ∨ 8 ≤ b ∨ s < 0 ∨ 4 ≤ s) :
    Calls Tryz.prog 58 #[.pointer v, .int .i64 b, .int .i64 s] w fun e w' => e = .returned (.tuple #[.int .i64 0, .int .i64 0, .bool false]) ∧ Below w.heap.size w w' := by
  have hbb := Below.refl w.heap.size w
  cases v with
  | none =>
    clear hb
    go_enter Tryz.func58, Tryz.ntmps58
    go_wp2_with fail
    go_ret3
    exact ⟨rfl, hbb⟩
  | some a =>
    by_cases h1 : b < 0
    · clear hb
      go_enter Tryz.func58, Tryz.ntmps58
      go_wp2_with fail
      go_ret3
      exact ⟨rfl, hbb⟩
    by_cases h2 : 8 ≤ b
    · clear hb
      go_enter Tryz.func58, Tryz.ntmps58
      go_wp2_with fail
      go_ret3
      exact ⟨rfl, hbb⟩
    by_cases h3 : s < 0
    · clear hb
      go_enter Tryz.func58, Tryz.ntmps58
      go_wp2_with fail
      go_ret3
      exact ⟨rfl, hbb⟩
    have h4 : 4 ≤ s := by
      rcases hb with h | h | h | h | h
      · cases h
      all_goals omega
    clear hb
    go_enter Tryz.func58, Tryz.ntmps58
    go_wp2_with fail
    go_ret3
    exact ⟨rfl, hbb⟩
theorem cat_out {w : World} {d : Nat} {T : SlT} (_h : CK w d T) {b s : Int} (hb : b < 0 ∨ 8 ≤ b ∨ s < 0 ∨ 4 ≤ s) (_h0 : -100 ≤ b ∧ b ≤ 100 ∧ -100 ≤ s ∧ s ≤ 100) :
    Calls Tryz.prog 58 #[.pointer (some ⟨d, 0, none⟩), .int .i64 b, .int .i64 s] w fun e w' => e = .returned (.tuple #[.int .i64 0, .int .i64 0, .bool false]) ∧ Below w.heap.size w w' := cat_bad _ b s w (.inr hb)
theorem cnil_at (b s : Int) (w : World) : Calls Tryz.prog 58 #[.pointer none, .int .i64 b, .int .i64 s] w fun e w' => e = .returned (.tuple #[.int .i64 0, .int .i64 0, .bool false]) ∧ Below w.heap.size w w' := cat_bad _ b s w (.inl rfl)

/-! ### Len. -/
def allO (T : SlT) : List Value := rowO T 0 ++ (rowO T 1 ++ (rowO T 2 ++ (rowO T 3 ++ (rowO T 4 ++ (rowO T 5 ++ (rowO T 6 ++ rowO T 7))))))
theorem allO_at (T : SlT) (b k : Nat) (hb : b < 8) (hk : k < 12) : (allO T)[12 * b + k]? = (rowO T b)[k]? := by
  rcases (by omega : b = 0 ∨ b = 1 ∨ b = 2 ∨ b = 3 ∨ b = 4 ∨ b = 5 ∨ b = 6 ∨ b = 7) with rfl | rfl | rfl | rfl | rfl | rfl | rfl | rfl <;>
    rcases (by omega : k = 0 ∨ k = 1 ∨ k = 2 ∨ k = 3 ∨ k = 4 ∨ k = 5 ∨ k = 6 ∨ k = 7 ∨ k = 8 ∨ k = 9 ∨ k = 10 ∨ k = 11) with rfl | rfl | rfl | rfl | rfl | rfl | rfl | rfl | rfl | rfl | rfl | rfl <;> rfl
theorem CK.all {w : World} {d : Nat} {T : SlT} (h : CK w d T) : w.rangeAt d 0 (allO T) := by
  intro k v hv
  have hk : k < 96 := (List.getElem?_eq_some_iff.1 hv).1
  have e := allO_at T (k / 12) (k % 12) (by omega) (by omega)
  rw [show 12 * (k / 12) + k % 12 = k by omega, hv] at e
  have := h.range (k / 12) (by omega) (k % 12) v e.symm
  rwa [show 12 * (k / 12) + k % 12 = 0 + k by omega] at this
theorem idxAll (T : SlT) (b : Nat) (hb : b < 8) (W : World) : (Instr.index 80 (.agg (allO T).toArray) (.int .i64 (b : Int))).run Tryz.prog W = .ok (.agg (rowO T b).toArray) W := by
  rcases (by omega : b = 0 ∨ b = 1 ∨ b = 2 ∨ b = 3 ∨ b = 4 ∨ b = 5 ∨ b = 6 ∨ b = 7) with rfl | rfl | rfl | rfl | rfl | rfl | rfl | rfl <;> kernel_rfl
theorem idxRow (T : SlT) (b s : Nat) (hs : s < 4) (W : World) : (Instr.index 79 (.agg (rowO T b).toArray) (.int .i64 (s : Int))).run Tryz.prog W = .ok (.agg #[.bool (hasO (T (4 * b + s))), .int .i64 (tagO (T (4 * b + s)) : Int), .int .i64 (idO (T (4 * b + s)))]) W := by
  rcases (by omega : s = 0 ∨ s = 1 ∨ s = 2 ∨ s = 3) with rfl | rfl | rfl | rfl <;> kernel_rfl
def cntT (T : SlT) (k : Nat) : Nat := (List.range k).countP fun q => hasO (T q)
theorem cntT_succ (T : SlT) (k : Nat) : cntT T (k + 1) = cntT T k + (if hasO (T k) = true then 1 else 0) := by
  unfold cntT
  rw [List.range_succ, List.countP_append, List.countP_singleton]
theorem cntT_le (T : SlT) (k : Nat) : cntT T k ≤ k := by
  have := List.countP_le_length (p := fun q => hasO (T q)) (l := List.range k)
  rw [List.length_range] at this
  exact this
theorem cntT_all (T : SlT) : cntT T 32 = (slL T).length := by
  unfold cntT slL
  induction List.range 32 with
  | nil => rfl
  | cons q l ih =>
    rw [List.countP_cons, List.filterMap_cons, ih]
    cases hT : T q <;> simp [hasO]

end Go.Proofs.YtggokffdgjedgaaGreat

namespace Go.Proofs.YtggokffdgjedgaaGreat
open Go.RowKit

def KP : Lay (Nat × Nat) := ⟨fun e => [.int .i64 (e.1 : Int), .int .i64 (e.2 : Int)], 2, 96, 91, .agg #[.int .i64 0, .int .i64 0], 16⟩
theorem KP_ok : KP.Ok Tryz.prog := ⟨by decide, fun _ => rfl, fun x u hu => by
  rcases List.mem_cons.1 hu with rfl | hu
  · rfl
  · rw [List.mem_singleton.1 hu]; rfl, Tryz.underlying91, by kernel_rfl, rfl, by decide⟩
theorem KP.one' (w : World) (b s : Nat) : KP.R (w.alloc (.cells #[.int .i64 (b : Int), .int .i64 (s : Int)] 96)) (.slice (some ⟨w.heap.size, 0, none⟩) 1 1) [(b, s)] := Lay.R.one w KP_ok (b, s) 96 (0, 0)
theorem KP.at' {w : World} {a : Option Addr} {n cap : Nat} {l : List (Nat × Nat)} (h : KP.R w (.slice a n cap) l) (i : Nat) (hi : i < l.length) : ∃ b o, a = some ⟨b, o, none⟩ ∧ n = l.length ∧ b < w.heap.size ∧ w.cell? ⟨b, o + i * 2, none⟩ = some (.int .i64 (l[i].1 : Int)) ∧ w.cell? ⟨b, o + i * 2 + 1, none⟩ = some (.int .i64 (l[i].2 : Int)) := by
  obtain ⟨b, o, h1, h2, h3, h4⟩ := h.at KP_ok i hi
  exact ⟨b, o, h1, h2, h3, h4 0 _ rfl, h4 1 _ rfl⟩
theorem idxP (b o n cap j : Nat) (h : j < n) (W : World) : (Instr.indexAt 91 (.slice (some ⟨b, o, none⟩) n cap) (.int .i64 (j : Int))).run Tryz.prog W = .ok (.pointer (some ⟨b, o + j * 2, none⟩)) W := KP_ok.run_idx b o n cap j h W

/-! ### Where entries of a tag lie. -/
def hitO (t : Nat) : Option (Nat × Int) → Bool
  | some x => x.1 == t
  | none => false
theorem hitO_eq (t : Nat) (x : Option (Nat × Int)) : hitO t x = (hasO x && tagO x == t) := by
  cases x <;> rfl
def hitsT (T : SlT) (t b k : Nat) : List (Nat × Nat) := ((List.range k).filter fun s => hitO t (T (4 * b + s))).map fun s => (b, s)
theorem hitsT_succ (T : SlT) (t b k : Nat) : hitsT T t b (k + 1) = hitsT T t b k ++ (if hitO t (T (4 * b + k)) = true then [(b, k)] else []) := by
  unfold hitsT
  rw [List.range_succ, List.filter_append, List.map_append]
  congr 1
  rw [List.filter_cons, List.filter_nil]
  split <;> rfl
theorem hitsT_len (T : SlT) (t b k : Nat) : (hitsT T t b k).length ≤ k := by
  unfold hitsT
  rw [List.length_map]
  have := List.length_filter_le (fun s => hitO t (T (4 * b + s))) (List.range k)
  rw [List.length_range] at this
  exact this
def bkX (x i : Nat) : Nat := if i = 0 then firstN x else othN (firstN x) (tagN x)
theorem bkX_lt (x i : Nat) : bkX x i < 8 := by
  unfold bkX
  split
  · exact first_lt x
  · exact oth_lt _ (first_lt x)
def foundT (T : SlT) (x : Nat) : Nat → List (Nat × Nat)
  | 0 => []
  | i + 1 => foundT T x i ++ hitsT T (tagN x) (bkX x i) 4
theorem foundT_len (T : SlT) (x : Nat) : ∀ i, (foundT T x i).length ≤ 4 * i
  | 0 => by simp [foundT]
  | i + 1 => by have := foundT_len T x i; have := hitsT_len T (tagN x) (bkX x i) 4; rw [foundT, List.length_append]; omega
def placesT (T : SlT) (x : Nat) : List (Nat × Nat) := foundT T x 2

theorem idx2 (f o i : Nat) (hi : i < 2) (W : World) : (Instr.index 120 (.agg #[.int .i64 (f : Int), .int .i64 (o : Int)]) (.int .i64 (i : Int))).run Tryz.prog W = .ok (.int .i64 ((if i = 0 then f else o : Nat) : Int)) W := by
  rcases (by omega : i = 0 ∨ i = 1) with rfl | rfl <;> kernel_rfl

set_option maxHeartbeats 1000000 in
set_option maxRecDepth 100000 in
theorem cplaces_c {w : World} {d : Nat} {T : SlT} (h : CK w d T) {x : Nat} (hx : x < 18446744073709551616) :
    Calls Tryz.prog 56 #[.pointer (some ⟨d, 0, none⟩), .int .u64 (x : Int)] w fun e w' => ∃ v, e = .returned v ∧ KP.O w' w.heap.size v (placesT T x) ∧ Below w.heap.size w w' := by
  have HD := Go.Lib.hid fun W (hW : Below w.heap.size w W) => h.below hW
  have PA := Go.Lib.hid fun W => cpair_c x W hx
  have TA := Go.Lib.hid fun W => htag_c x W hx
  have HR := Go.Lib.hid (idxRow T)
  have HI2 := Go.Lib.hid (show ∀ i : Nat, i < 2 → ∀ W, (Instr.index 120 (.agg #[.int .i64 (firstN x : Int), .int .i64 (othN (firstN x) (tagN x) : Int)]) (.int .i64 (i : Int))).run Tryz.prog W = .ok (.int .i64 (bkX x i : Int)) W from fun i hi W => idx2 _ _ i hi W)
  have HBK := Go.Lib.hid (bkX_lt x)
  have HLEN := Go.Lib.hid (fun b => show (Tryz.prog.info? 79).map (·.size) = some (rowO T b).length by kernel_rfl)
  clear h hx
  generalize hfx : firstN x = fx at *
  generalize hox : othN fx (tagN x) = ox at *
  go_enter Tryz.func56, Tryz.ntmps56
  go_wp2_with fail
  refine (PA.out _).mono ?_
  rintro e w1 ⟨rfl, rfl⟩
  go_wp2_with fail
  go_loopw [5, 22] (fun lv iv wr => ∃ (i : Nat) (u : Value), u = lv ∧ i ≤ 2 ∧ iv = .int .i64 (i : Int) ∧ KP.O wr w.heap.size u (foundT T x i) ∧ Below w.heap.size w wr) (fun _ iv _ => 2 - (intOf iv).toNat)
  case atStart => exact ⟨0, _, rfl, by omega, rfl, Lay.O.nil _ _, Below.refl _ _⟩
  case round =>
    obtain ⟨i, u, rfl, hi, rfl, hO, hbc⟩ := hrel
    by_cases hi2 : i < 2
    · have hiI : (i : Int) < 2 := by omega
      have h2 := HI2.out i hi2
      have hbk := HBK.out i
      have HLB := Go.Lib.hid (foundT_len T x i)
      have HF1 := Go.Lib.hid (show foundT T x (i + 1) = foundT T x i ++ hitsT T (tagN x) (bkX x i) 4 from rfl)
      generalize hbb : bkX x i = bk at *
      have h1 := fun W => idxB d bk hbk W
      have HRG := Go.Lib.hid ((HD.out wr hbc).range bk hbk)
      have HO := Go.Lib.hid hO
      have HB := Go.Lib.hid hbc
      have hir := HR.out bk
      have HL2 := Go.Lib.hid (HLEN.out bk)
      have HS0 := Go.Lib.hid (hitsT_succ T (tagN x) bk)
      have HSL := Go.Lib.hid (hitsT_len T (tagN x) bk)
      have HIT := Go.Lib.hid (fun s => hitO_eq (tagN x) (T (4 * bk + s)))
      generalize foundT T x i = F at *
      generalize rowO T bk = R at *
      clear hO hbc hbb
      go_wp2_with (first
        | ((with_reducible show wpList _ _ _ (⟨some 30, _, _, _, _, _⟩ :: _) _ _); go_loud (refine wpList_load_mid rfl 79 (.tmp 29) rfl d (12 * bk) rfl R _ HRG.out Tryz.underlying79 rfl HL2.out ?_))
        | fail)
      clear h1 h2
      go_loopw [5, 31] (fun lv sv w2 => ∃ (s : Nat) (u : Value), u = lv ∧ s ≤ 4 ∧ sv = .int .i64 (s : Int) ∧ KP.O w2 w.heap.size u (F ++ hitsT T (tagN x) bk s) ∧ Below w.heap.size w w2) (fun _ sv _ => 4 - (intOf sv).toNat)
      case atStart => exact ⟨0, _, rfl, by omega, rfl, by rw [show hitsT T (tagN x) bk 0 = [] from rfl, List.append_nil]; exact HO.out, HB.out⟩
      case round =>
        obtain ⟨s, u2, rfl, hs, rfl, hO, hbc⟩ := hrel
        by_cases hs4 : s < 4
        · have hsI : (s : Int) < 4 := by omega
          have hie := hir s hs4
          have H1 := Go.Lib.hid (HS0.out s)
          have HT1 := Go.Lib.hid (HIT.out s)
          have HLX := Go.Lib.hid (show (F ++ hitsT T (tagN x) bk s).length ≤ 100 by have := HSL.out s; have := HLB.out; rw [List.length_append]; omega)
          have HO2 := Go.Lib.hid hO
          have HB2 := Go.Lib.hid hbc
          clear hO hbc hir
          have hZ0 : ∃ Z, Z = hitsT T (tagN x) bk (s + 1) := ⟨_, rfl⟩
          obtain ⟨Z, hZ0⟩ := hZ0
          rw [← hZ0] at H1
          have HZ0 := Go.Lib.hid hZ0
          clear hZ0
          generalize hitsT T (tagN x) bk s = Y at *
          generalize hitO (tagN x) (T (4 * bk + s)) = hit at *
          generalize tagO (T (4 * bk + s)) = tt at *
          generalize idO (T (4 * bk + s)) = ii at *
          generalize tagN x = tx at *
          have hb1 := (Below.refl wr.heap.size wr).alloc (Nat.le_refl _) (.cells #[.bool (hasO (T (4 * bk + s))), .int .i64 (tt : Int), .int .i64 ii] 78)
          have HO3 := Go.Lib.hid (HO2.out.below hb1)
          have HB3 := Go.Lib.hid (HB2.out.trans (hb1.mono HB2.out.size))
          clear hb1
          generalize hasO (T (4 * bk + s)) = hh at *
          cases hh with
          | false =>
            have HZ := Go.Lib.hid (show F ++ Z = F ++ Y by rw [H1.out, HT1.out]; simp)
            clear H1 HT1
            go_upto_region 11 with (fail)
            go_quiet (fail)
            go_wp2_with fail
            go_roundw
            case rel => exact ⟨s + 1, _, rfl, by omega, by go_num, by rw [← HZ0.out, HZ.out]; exact HO3.out.below (below_drewN (Below.refl _ _) _), below_drewN HB3.out _⟩
            case measure => simp only [intOf]; omega
          | true =>
            by_cases ht : tt = tx
            · have b1 : ((tt : Int) == (tx : Int)) = true := by simp [ht]
              have HZ := Go.Lib.hid (show F ++ Z = (F ++ Y) ++ [(bk, s)] by rw [H1.out, HT1.out]; simp [ht])
              clear H1 HT1 ht
              generalize F ++ Y = FY at *
              go_upto_region 11 with (fail)
              go_quiet ((go_at_call 54; exact Calls.quiet_of_same ((TA.out _).mono fun _ _ ⟨h, hw⟩ => ⟨h, hw.symm⟩)))
              have HOQ := Go.Lib.hid (HO3.out.below (below_drewN (Below.refl _ _) nq))
              have HBQ := Go.Lib.hid (below_drewN HB3.out nq)
              generalize ((wr.alloc (.cells #[.bool true, .int .i64 (tt : Int), .int .i64 ii] 78)).drewN nq) = w3 at *
              have hb4 := (Below.refl w3.heap.size w3).alloc (Nat.le_refl _) (.cells #[.int .i64 (bk : Int), .int .i64 (s : Int)] 96)
              have HO4 := Go.Lib.hid (HOQ.out.below hb4)
              have HB4 := Go.Lib.hid (HBQ.out.trans (hb4.mono HBQ.out.size))
              have HONE := Go.Lib.hid (KP.one' w3 bk s)
              clear hb4 HO3 HB3 HO2 HB2
              go_wp2_with (first
                | ((with_reducible show wpList _ _ _ (⟨some 49, _, _, _, _, _⟩ :: _) _ _); go_loud (refine KP_ok.append rfl (.tmp 44) (.tmp 48) rfl w.heap.size u2 (.slice (some ⟨w3.heap.size, 0, none⟩) 1 1) FY [(bk, s)] rfl rfl HO4.out HONE.out (by have := HLX.out; simp; omega) HB4.out.size ?_); intro v5 w5 hown5 hg5; have HB5 := Go.Lib.hid (HB4.out.grown hg5 HB4.out.size HO4.out.row); have HO5 := Go.Lib.hid hown5; clear hown5 hg5)
                | fail)
              go_roundw
              case rel => exact ⟨s + 1, _, rfl, by omega, by go_num, by rw [← HZ0.out, HZ.out]; exact HO5.out, HB5.out⟩
              case measure => simp only [intOf]; omega
            · have b1 : ((tt : Int) == (tx : Int)) = false := by simp only [beq_eq_false_iff_ne, ne_eq]; omega
              have HZ := Go.Lib.hid (show F ++ Z = F ++ Y by rw [H1.out, HT1.out]; simp [ht])
              clear H1 HT1 ht
              go_upto_region 11 with (fail)
              go_quiet ((go_at_call 54; exact Calls.quiet_of_same ((TA.out _).mono fun _ _ ⟨h, hw⟩ => ⟨h, hw.symm⟩)))
              go_wp2_with fail
              go_roundw
              case rel => exact ⟨s + 1, _, rfl, by omega, by go_num, by rw [← HZ0.out, HZ.out]; exact HO3.out.below (below_drewN (Below.refl _ _) _), below_drewN HB3.out _⟩
              case measure => simp only [intOf]; omega
        · obtain rfl : s = 4 := by omega
          have HO3 := Go.Lib.hid hO
          have HB3 := Go.Lib.hid hbc
          clear hO hbc hir hs4
          go_wp2_with fail
          go_roundw
          case rel => exact ⟨i + 1, _, rfl, by omega, by go_num, by rw [HF1.out]; exact HO3.out, HB3.out⟩
          case measure => simp only [intOf]; omega
    · obtain rfl : i = 2 := by omega
      have HO3 := Go.Lib.hid hO
      have HB3 := Go.Lib.hid hbc
      clear hO hbc hi2
      go_wp2_with fail
      go_ret
      exact ⟨_, rfl, HO3.out, HB3.out⟩

theorem cplaces_nil (x : Nat) (w : World) : Calls Tryz.prog 56 #[.pointer none, .int .u64 (x : Int)] w fun e w' => e = .returned (.slice none 0 0) ∧ w = w' := by
  go_enter Tryz.func56, Tryz.ntmps56
  go_wp2_with fail
  go_ret
  exact ⟨rfl, rfl⟩

end Go.Proofs.YtggokffdgjedgaaGreat

namespace Go.Proofs.YtggokffdgjedgaaGreat
open Go.RowKit

/-! ### Mathematics: places and entries. -/
theorem hits_mem {T : SlT} {t b k : Nat} {p : Nat × Nat} : p ∈ hitsT T t b k ↔ p.1 = b ∧ p.2 < k ∧ hitO t (T (4 * b + p.2)) = true := by
  unfold hitsT
  rw [List.mem_map]
  constructor
  · rintro ⟨s, hs, rfl⟩
    rw [List.mem_filter, List.mem_range] at hs
    exact ⟨rfl, hs.1, hs.2⟩
  · rintro ⟨h1, h2, h3⟩
    exact ⟨p.2, by rw [List.mem_filter, List.mem_range]; exact ⟨h2, h3⟩, by rw [← h1]⟩
theorem hitO_some {t : Nat} {x : Option (Nat × Int)} (h : hitO t x = true) : x = some (t, idO x) := by
  cases x with
  | none => cases h
  | some y =>
    have h1 : y.1 = t := by simpa [hitO] using h
    rw [← h1]
    rfl
theorem places_mem {T : SlT} {x : Nat} {p : Nat × Nat} : p ∈ placesT T x ↔ (p.1 = firstN x ∨ p.1 = othN (firstN x) (tagN x)) ∧ p.2 < 4 ∧ hitO (tagN x) (T (4 * p.1 + p.2)) = true := by
  show p ∈ ([] ++ hitsT T (tagN x) (bkX x 0) 4) ++ hitsT T (tagN x) (bkX x 1) 4 ↔ _
  rw [List.nil_append, List.mem_append, hits_mem, hits_mem]
  have e0 : bkX x 0 = firstN x := rfl
  have e1 : bkX x 1 = othN (firstN x) (tagN x) := rfl
  rw [e0, e1]
  constructor
  · rintro (⟨h1, h2, h3⟩ | ⟨h1, h2, h3⟩)
    · exact ⟨.inl h1, h2, by rw [h1]; exact h3⟩
    · exact ⟨.inr h1, h2, by rw [h1]; exact h3⟩
  · rintro ⟨h1 | h1, h2, h3⟩
    · exact .inl ⟨h1, h2, by rw [h1] at h3; exact h3⟩
    · exact .inr ⟨h1, h2, by rw [h1] at h3; exact h3⟩
theorem places_lt {T : SlT} {x : Nat} {p : Nat × Nat} (h : p ∈ placesT T x) : p.1 < 8 ∧ p.2 < 4 ∧ T (4 * p.1 + p.2) = some (tagN x, idO (T (4 * p.1 + p.2))) ∧ keyN p.1 (tagN x) = keyH x := by
  obtain ⟨h1, h2, h3⟩ := places_mem.1 h
  have hf := first_lt x
  have ho := oth_lt (tagN x) hf
  refine ⟨by omega, h2, hitO_some h3, ?_⟩
  unfold keyH
  rcases h1 with h1 | h1
  · rw [h1]
  · rw [h1, keyN_oth _ hf]
theorem places_of {T : SlT} {x q : Nat} {i : Int} (hT : T q = some (tagN x, i)) (hq : q < 32) (hk : keyN (q / 4) (tagN x) = keyH x) : (q / 4, q % 4) ∈ placesT T x := by
  rw [places_mem]
  refine ⟨?_, Nat.mod_lt _ (by omega), ?_⟩
  · unfold keyH at hk
    exact ((keyN_iff (by omega) (first_lt x)).1 hk).2
  · rw [show 4 * (q / 4) + q % 4 = q by omega, hT]
    simp [hitO]
/-- An entry that is there lies in a slot. -/
theorem Fits.slot {T : SlT} {es : List EnT} (h : Fits T es) {k : Nat} (hk : k < es.length) : ∃ q, q < 32 ∧ T q = some (tagN es[k].1, es[k].2) ∧ keyN (q / 4) (tagN es[k].1) = keyH es[k].1 := by
  have h1 : keyE es[k] ∈ (slL T).map keyS := (List.Perm.mem_iff h).2 (List.mem_map.2 ⟨es[k], List.getElem_mem hk, rfl⟩)
  obtain ⟨y, hy, hye⟩ := List.mem_map.1 h1
  obtain ⟨q, hq, hqe⟩ := List.mem_filterMap.1 hy
  rw [Option.map_eq_some_iff] at hqe
  obtain ⟨z, hz, rfl⟩ := hqe
  have hq' := List.mem_range.1 hq
  unfold keyS keyE at hye
  rw [Prod.mk.injEq] at hye
  obtain ⟨h2, h3⟩ := hye
  simp only [] at h2 h3
  have h4 : z.1 = tagN es[k].1 := by
    have := congrArg Prod.snd h2
    simpa [keyN, keyH] using this
  refine ⟨q, hq', ?_, ?_⟩
  · rw [hz, ← h4, ← h3]
  · rw [← h4]; exact h2
/-- What lies in a slot is there. -/
theorem Fits.entry {T : SlT} {es : List EnT} (h : Fits T es) {q t : Nat} {i : Int} (hq : q < 32) (hT : T q = some (t, i)) : ∃ k, ∃ hk : k < es.length, keyE es[k] = (keyN (q / 4) t, i) := by
  have h1 : (keyN (q / 4) t, i) ∈ es.map keyE := (List.Perm.mem_iff h).1 (List.mem_map.2 ⟨(q / 4, t, i), List.mem_filterMap.2 ⟨q, List.mem_range.2 hq, by rw [hT]; rfl⟩, rfl⟩)
  obtain ⟨e, he, hee⟩ := List.mem_map.1 h1
  obtain ⟨k, hk, rfl⟩ := List.mem_iff_getElem.1 he
  exact ⟨k, hk, hee⟩

/-! ### A slot is written. -/
section
variable {w w' : World} {d : Nat} {T : SlT}
theorem CK.setSlot (h : CK w d T) {q : Nat} (hq : q < 32) (x : Option (Nat × Int)) (hx : ∀ y, x = some y → y.1 < 32768) : CK (w.setCells d (3 * q) (encO x)) d (layT T q x) := by
  obtain ⟨cs, fr, hr⟩ := h.row
  have hin : ∀ j, j < 3 → (w.setCells d (3 * q) (encO x)).cell? ⟨d, 3 * q + j, none⟩ = (encO x)[j]? := fun j hj => by
    rw [World.cell?_setCells_in d (encO x) (3 * q) w (fun i hi => by rw [h.cell q i hq hi, List.getElem?_eq_getElem (show i < (encO (T q)).length from hi)]; rfl) j hj]
    exact (List.getElem?_eq_getElem hj).symm
  have hout : ∀ p j, p < 32 → j < 3 → p ≠ q → (w.setCells d (3 * q) (encO x)).cell? ⟨d, 3 * p + j, none⟩ = w.cell? ⟨d, 3 * p + j, none⟩ := fun p j hp hj hne =>
    World.cell?_setCells_out d (encO x) (3 * q) w ⟨d, 3 * p + j, none⟩ (fun _ _ => by show 3 * p + j < 3 * q ∨ 3 * q + 3 ≤ 3 * p + j; omega)
  have hall : ∀ p j, p < 32 → j < 3 → (w.setCells d (3 * q) (encO x)).cell? ⟨d, 3 * p + j, none⟩ = (encO (layT T q x p))[j]? := fun p j hp hj => by
    unfold layT
    by_cases hpq : p = q
    · rw [if_pos hpq, hpq]; exact hin j hj
    · rw [if_neg hpq, hout p j hp hj hpq]; exact h.cell p j hp hj
  refine ⟨?_, ?_, fun o => by rw [World.frozen?_setCells]; exact h.fr o, fun p hp => hall p 0 hp (by omega), fun p hp => hall p 1 hp (by omega), fun p hp => hall p 2 hp (by omega)⟩
  · have key : ∀ (vs : List Value) (w : World) (o : Nat) (cs : Array Value), w.heap[d]? = some (.cells cs 82 fr) → ∃ cs', (w.setCells d o vs).heap[d]? = some (.cells cs' 82 fr) := by
      intro vs
      induction vs with
      | nil => intro w o cs hr; exact ⟨cs, hr⟩
      | cons v r ih =>
        intro w o cs hr
        rw [World.setCells]
        exact ih (w.setCell ⟨d, o, none⟩ v) (o + 1) (cs.setIfInBounds o v) (by simp [World.setCell, Array.getElem?_modify, hr])
    obtain ⟨cs', hc⟩ := key (encO x) w (3 * q) cs hr
    exact ⟨cs', fr, hc⟩
  · intro p y hy
    unfold layT at hy
    split at hy
    · rename_i e
      exact ⟨by omega, hx y hy⟩
    · exact h.tok p y hy
theorem CK.setId (h : CK w d T) {q t : Nat} {j : Int} (hq : q < 32) (hT : T q = some (t, j)) (i : Int) : CK (w.setCell ⟨d, 3 * q + 2, none⟩ (.int .i64 i)) d (layT T q (some (t, i))) := by
  obtain ⟨cs, fr, hr⟩ := h.row
  have hs : (w.setCell ⟨d, 3 * q + 2, none⟩ (.int .i64 i)).cell? ⟨d, 3 * q + 2, none⟩ = some (.int .i64 i) := World.cell?_setCell_same _ _ _ (h.id q hq)
  have ho : ∀ p j, (p ≠ q ∨ j ≠ 2) → j < 3 → (w.setCell ⟨d, 3 * q + 2, none⟩ (.int .i64 i)).cell? ⟨d, 3 * p + j, none⟩ = w.cell? ⟨d, 3 * p + j, none⟩ := fun p j hp hj =>
    World.cell?_setCell_other _ _ _ _ (fun e => by simp only [Addr.mk.injEq] at e; omega)
  have hne : ∀ p, p ≠ q → layT T q (some (t, i)) p = T p := fun p hp => by unfold layT; rw [if_neg hp]
  have heq : layT T q (some (t, i)) q = some (t, i) := by unfold layT; rw [if_pos rfl]
  refine ⟨⟨cs.setIfInBounds (3 * q + 2) (.int .i64 i), fr, by simp [World.setCell, Array.getElem?_modify, hr]⟩, ?_, fun o => by rw [World.frozen?_setCell]; exact h.fr o, fun p hp => ?_, fun p hp => ?_, fun p hp => ?_⟩
  · intro p y hy
    unfold layT at hy
    split at hy
    · rename_i e
      cases hy
      exact ⟨by omega, (h.tok q _ hT).2⟩
    · exact h.tok p y hy
  · rw [show 3 * p = 3 * p + 0 from rfl, ho p 0 (.inr (by omega)) (by omega)]
    by_cases e : p = q
    · rw [e, heq]; have := h.has q hq; rw [hT] at this; exact this
    · rw [hne p e]; exact h.has p hp
  · rw [ho p 1 (.inr (by omega)) (by omega)]
    by_cases e : p = q
    · rw [e, heq]; have := h.tag q hq; rw [hT] at this; exact this
    · rw [hne p e]; exact h.tag p hp
  · by_cases e : p = q
    · rw [e, heq]; exact hs
    · rw [ho p 2 (.inl e) (by omega), hne p e]; exact h.id p hp
end

/-! ### Set. -/
/-- The first place whose number is old, if there is one. -/
def idP (T : SlT) (p : Nat × Nat) : Int := idO (T (4 * p.1 + p.2))
end Go.Proofs.YtggokffdgjedgaaGreat

namespace Go.Proofs.YtggokffdgjedgaaGreat
open Go.RowKit Go.Sort Go.Shelf
def sortIL_ren : Go.Shelf.Ren := ⟨fun | 5 => 57 | 8 => 69 | 7 => 68 | 19 => 83 | 20 => 84 | 10 => 74 | 11 => 75 | 12 => 76 | 13 => 77 | 14 => 78 | 15 => 79 | 16 => 80 | 17 => 81 | 18 => 82 | 30 => 88 | 31 => 89 | 32 => 90 | 33 => 91 | 34 => 92 | 35 => 93 | 40 => 104 | n => n, fun | 23 => 63 | 25 => 3 | 3 => 3 | 32 => 86 | 22 => 63 | 0 => 0 | 44 => 138 | 46 => 58 | 4 => 4 | 36 => 130 | 35 => 129 | 41 => 135 | 5 => 5 | 9 => 9 | 53 => 141 | 57 => 145 | 63 => 153 | 64 => 93 | n => n, fun | n => n⟩
theorem sortIL : Go.Proofs.SlLaysM.n5 Tryz.prog sortIL_ren := {
  mixed := by kernel_rfl
  f5 := ⟨Tryz.f57.name, by decide, Tryz.func57.trans (congrArg some (by kernel_rfl))⟩
  f7 := ⟨Tryz.f68.name, by decide, Tryz.func68.trans (congrArg some (by kernel_rfl))⟩
  f8 := Tryz.func69.trans (congrArg some (by kernel_rfl))
  f10 := ⟨Tryz.f74.name, by decide, Tryz.func74.trans (congrArg some (by kernel_rfl))⟩
  f11 := ⟨Tryz.f75.name, by decide, Tryz.func75.trans (congrArg some (by kernel_rfl))⟩
  f12 := ⟨Tryz.f76.name, by decide, Tryz.func76.trans (congrArg some (by kernel_rfl))⟩
  f13 := ⟨Tryz.f77.name, by decide, Tryz.func77.trans (congrArg some (by kernel_rfl))⟩
  f14 := ⟨Tryz.f78.name, by decide, Tryz.func78.trans (congrArg some (by kernel_rfl))⟩
  f15 := ⟨Tryz.f79.name, by decide, Tryz.func79.trans (congrArg some (by kernel_rfl))⟩
  f16 := ⟨Tryz.f80.name, by decide, Tryz.func80.trans (congrArg some (by kernel_rfl))⟩
  f17 := ⟨Tryz.f81.name, by decide, Tryz.func81.trans (congrArg some (by kernel_rfl))⟩
  f18 := ⟨Tryz.f82.name, by decide, Tryz.func82.trans (congrArg some (by kernel_rfl))⟩
  f19 := Tryz.func83.trans (congrArg some (by kernel_rfl))
  f20 := Tryz.func84.trans (congrArg some (by kernel_rfl))
  f30 := ⟨Tryz.f88.name, by decide, Tryz.func88.trans (congrArg some (by kernel_rfl))⟩
  f31 := Tryz.func89.trans (congrArg some (by kernel_rfl))
  f32 := Tryz.func90.trans (congrArg some (by kernel_rfl))
  f33 := ⟨Tryz.f91.name, by decide, Tryz.func91.trans (congrArg some (by kernel_rfl))⟩
  f34 := ⟨Tryz.f92.name, by decide, Tryz.func92.trans (congrArg some (by kernel_rfl))⟩
  f35 := ⟨Tryz.f93.name, by decide, Tryz.func93.trans (congrArg some (by kernel_rfl))⟩
  f40 := ⟨Tryz.f104.name, by decide, Tryz.func104.trans (congrArg some (by kernel_rfl))⟩
  t0 := Tryz.underlying0
  a0 := Tryz.isAgg0
  z0 := Tryz.sizeOf0
  v0 := Tryz.zeroValue0
  t3 := Tryz.underlying3
  a3 := Tryz.isAgg3
  z3 := Tryz.sizeOf3
  v3 := Tryz.zeroValue3
  t4 := Tryz.underlying4
  a4 := Tryz.isAgg4
  z4 := Tryz.sizeOf4
  v4 := Tryz.zeroValue4
  t5 := Tryz.underlying5
  a5 := Tryz.isAgg5
  z5 := Tryz.sizeOf5
  v5 := Tryz.zeroValue5
  t9 := Tryz.underlying9
  a9 := Tryz.isAgg9
  z9 := Tryz.sizeOf9
  v9 := Tryz.zeroValue9
  t22 := Tryz.underlying63
  a22 := Tryz.isAgg63
  z22 := Tryz.sizeOf63
  v22 := Tryz.zeroValue63
  t23 := Tryz.underlying63
  a23 := Tryz.isAgg63
  z23 := Tryz.sizeOf63
  v23 := Tryz.zeroValue63
  t25 := Tryz.underlying3
  a25 := Tryz.isAgg3
  z25 := Tryz.sizeOf3
  v25 := Tryz.zeroValue3
  t32 := Tryz.underlying86
  a32 := Tryz.isAgg86
  z32 := Tryz.sizeOf86
  v32 := Tryz.zeroValue86
  t35 := Tryz.underlying129
  a35 := Tryz.isAgg129
  z35 := Tryz.sizeOf129
  v35 := Tryz.zeroValue129
  t36 := Tryz.underlying130
  a36 := Tryz.isAgg130
  z36 := Tryz.sizeOf130
  v36 := Tryz.zeroValue130
  t41 := Tryz.underlying135
  a41 := Tryz.isAgg135
  z41 := Tryz.sizeOf135
  v41 := Tryz.zeroValue135
  t44 := Tryz.underlying138
  a44 := Tryz.isAgg138
  z44 := Tryz.sizeOf138
  v44 := Tryz.zeroValue138
  t46 := Tryz.underlying58
  a46 := Tryz.isAgg58
  z46 := Tryz.sizeOf58
  v46 := Tryz.zeroValue58
  t53 := Tryz.underlying141
  a53 := Tryz.isAgg141
  z53 := Tryz.sizeOf141
  v53 := Tryz.zeroValue141
  t57 := Tryz.underlying145
  a57 := Tryz.isAgg145
  z57 := Tryz.sizeOf145
  v57 := Tryz.zeroValue145
  t63 := Tryz.underlying153
  a63 := Tryz.isAgg153
  z63 := Tryz.sizeOf153
  v63 := Tryz.zeroValue153
  t64 := Tryz.underlying93
  a64 := Tryz.isAgg93
  z64 := Tryz.sizeOf93
  v64 := Tryz.zeroValue93 }

end Go.Proofs.YtggokffdgjedgaaGreat

namespace Go.Proofs.YtggokffdgjedgaaGreat
open Go.RowKit

/-- Has slot t been written ahead of operation o, by one that o waits for? -/
def fedB (ops : Array Oper) (o : Oper) (t : Nat) : Bool :=
  o.after.any fun e => Region.binds .any e && (match ops[e.on]? with | some p => p.dst == some t | none => false)
/-- Does whoever writes t wait for operation i? -/
def lateB (ops : Array Oper) (i t : Nat) : Bool :=
  (List.range ops.size).all fun j => match ops[j]? with
    | some p => p.dst != some t || (p.after.any fun e => Region.binds .any e && e.on == i)
    | none => true
/-- Each slot that an operation looks at is written ahead of it, or behind it. -/
def tidyB (ops : Array Oper) : Bool :=
  (List.range ops.size).all fun i => match ops[i]? with
    | some o => (o.looksAt ops).all fun t => fedB ops o t || lateB ops i t
    | none => true

/-- Each operation waits for earlier ones alone. -/
def lowB (ops : Array Oper) : Bool :=
  (List.range ops.size).all fun i => match ops[i]? with
    | some o => o.after.all fun e => !Region.binds .any e || decide (e.on < i)
    | none => true

theorem countP_lt {p q : Nat → Bool} {i : Nat} : ∀ {l : List Nat}, (∀ j ∈ l, q j = true → p j = true) → i ∈ l → p i = true → q i = false → l.countP q < l.countP p
  | [], _, hi, _, _ => by cases hi
  | x :: l, hpq, hi, hp, hq => by
    have hle : l.countP q ≤ l.countP p := List.countP_mono_left fun j hj => hpq j (List.mem_cons_of_mem _ hj)
    rcases List.mem_cons.1 hi with rfl | hi'
    · rw [List.countP_cons_of_pos hp, List.countP_cons_of_neg (by simp [hq])]
      omega
    · have ih := countP_lt (fun j hj => hpq j (List.mem_cons_of_mem _ hj)) hi' hp hq
      rw [List.countP_cons, List.countP_cons]
      have hx := hpq x (by simp)
      cases hqx : q x with
      | false => simp only [Bool.false_eq_true, if_false]; omega
      | true => simp only [hx hqx, if_true]; omega

theorem listed_all {ops : Array Oper} (hlow : lowB ops = true) {listed : Array Bool} (hs : listed.size = ops.size) (hr : Region.ready .any ops listed = []) :
    ∀ (i : Nat) (o : Oper), ops[i]? = some o → listed.getD i false = true := by
  intro i
  induction i using Nat.strongRecOn with
  | ind i ih =>
    intro o ho
    have hi : i < ops.size := (Array.getElem?_eq_some_iff.1 ho).1
    have hil : i < listed.size := by rw [hs]; exact hi
    cases hl : listed.getD i false with
    | true => rfl
    | false =>
      have hmem : i ∈ Region.ready .any ops listed := by
        rw [mem_ready]
        refine ⟨by simp [hil] at hl ⊢; exact hl, o, ho, fun e he hb => ?_⟩
        unfold lowB at hlow
        rw [List.all_eq_true] at hlow
        have h1 := hlow i (by rw [List.mem_range]; exact hi)
        rw [ho] at h1
        simp only [Array.all_eq_true] at h1
        obtain ⟨k, hk, rfl⟩ := Array.mem_iff_getElem.1 he
        have h2 := h1 k hk
        rw [hb] at h2
        have hlt : (o.after[k]).on < i := by simpa using h2
        have hlt' : (o.after[k]).on < ops.size := by omega
        exact ih _ hlt ops[(o.after[k]).on] (by simp [hlt'])
      rw [hr] at hmem
      cases hmem

section
variable {P : Program} {ops : Array Oper} {Q : Exit → Act → World → Prop}

/-- What is kept while the region goes on. -/
structure Held (ops : Array Oper) (V : Nat → World → Value → Prop) (a0 : Act) (w0 : World) (listed : Array Bool) (a : Act) (w : World) : Prop where
  size : listed.size = ops.size
  below : Below w0.heap.size w0 w
  defers : a.defers = a0.defers
  len : a.tmps.size = a0.tmps.size
  old : ∀ t : Nat, (∀ (i : Nat) (o : Oper), ops[i]? = some o → o.dst = some t → listed.getD i false = false) → a.tmps[t]? = a0.tmps[t]?
  new : ∀ (i : Nat) (o : Oper) (t : Nat), ops[i]? = some o → o.dst = some t → listed.getD i false = true → ∃ v, a.tmps[t]? = some v ∧ V t w v
  shut : ∀ (i : Nat) (o : Oper), ops[i]? = some o → listed.getD i false = true → ∀ e ∈ o.after, Region.binds .any e = true → listed.getD e.on false = true

/-- What operation o may take as given: the slots that it looks at. -/
def Given (ops : Array Oper) (V : Nat → World → Value → Prop) (a0 : Act) (o : Oper) (a : Act) (w : World) : Prop :=
  ∀ t ∈ o.looksAt ops, (fedB ops o t = true → ∃ v, a.tmps[t]? = some v ∧ V t w v) ∧ (fedB ops o t = false → a.tmps[t]? = a0.tmps[t]?)

theorem getD_false_of {l : Array Bool} {i : Nat} (h : i < l.size) (h1 : l.getD i true = false) : l.getD i false = false := by
  simp [h] at h1 ⊢; exact h1

theorem wp_region_kept {id : Nat} {a0 : Act} {w0 : World} (hm : P.follows .mixedOrders = true) (V : Nat → World → Value → Prop)
    (hV : ∀ t w w' v, V t w v → Below w.heap.size w w' → V t w' v) (htidy : tidyB ops = true) (hdst : ∀ (i : Nat) (o : Oper), ops[i]? = some o → ∃ t : Nat, o.dst = some t ∧ t < a0.tmps.size)
    (hstep : ∀ (i : Nat) (o : Oper), ops[i]? = some o → ∀ (a : Act) (w : World), Below w0.heap.size w0 w → a.tmps.size = a0.tmps.size → Given ops V a0 o a w →
      wpOp P ops Q i (fun a' w' => ∃ v, a' = a.put o.dst v ∧ Below w.heap.size w w' ∧ ∀ t, o.dst = some t → V t w' v) a w)
    (hend : ∀ (a : Act) (w : World), Below w0.heap.size w0 w → a.defers = a0.defers → a.tmps.size = a0.tmps.size → (∀ t : Nat, (∀ (i : Nat) (o : Oper), ops[i]? = some o → o.dst ≠ some t) → a.tmps[t]? = a0.tmps[t]?) →
      (∀ (i : Nat) (o : Oper) (t : Nat), ops[i]? = some o → o.dst = some t → ∃ v, a.tmps[t]? = some v ∧ V t w v) → Q .normal a w)
    (hlow : lowB ops = true) :
    (Code.region id ops true).wp P Q a0 w0 := by
  refine wp_region_any hm ?_
  have hfin : ∀ (listed : Array Bool) (a : Act) (w : World), Held ops V a0 w0 listed a w → Region.ready .any ops listed = [] → Q .normal a w := fun listed a w h hr =>
    hend a w h.below h.defers h.len (fun t ht => h.old t fun i o hi hd => absurd hd (ht i o hi)) fun i o t hi hd => h.new i o t hi hd (listed_all hlow h.size hr i o hi)
  have key : ∀ (fuel : Nat) (listed : Array Bool) (a : Act) (w : World), Held ops V a0 w0 listed a w →
      (List.range ops.size).countP (fun j => !listed.getD j true) ≤ fuel → wpAny P .any ops Q fuel listed a w := by
    intro fuel
    induction fuel with
    | zero =>
      intro listed a w h hcount
      have hr : Region.ready .any ops listed = [] := by
        cases hrr : Region.ready .any ops listed with
        | nil => rfl
        | cons x xs =>
          have hx : x ∈ Region.ready .any ops listed := by rw [hrr]; simp
          obtain ⟨hun, o, ho, -⟩ := mem_ready.1 hx
          have : 0 < (List.range ops.size).countP (fun j => !listed.getD j true) := List.countP_pos_iff.2 ⟨x, by rw [List.mem_range]; exact (Array.getElem?_eq_some_iff.1 ho).1, by rw [hun]; rfl⟩
          omega
      exact ⟨hr, hfin _ _ _ h hr⟩
    | succ fuel ih =>
      intro listed a w h hcount
      refine ⟨fun hr => hfin _ _ _ h hr, fun i hi => ?_⟩
      obtain ⟨hun, o, ho, hall⟩ := mem_ready.1 hi
      have hil : i < listed.size := by
        rw [h.size]
        exact (Array.getElem?_eq_some_iff.1 ho).1
      have hunf := getD_false_of hil hun
      have hgiven : Given ops V a0 o a w := by
        intro t ht
        refine ⟨fun hf => ?_, fun hf => ?_⟩
        · unfold fedB at hf
          rw [Array.any_eq_true] at hf
          obtain ⟨k, hk, hke⟩ := hf
          simp only [Bool.and_eq_true] at hke
          obtain ⟨hb, hw⟩ := hke
          have hl := hall o.after[k] (Array.getElem_mem hk) hb
          cases hp : ops[(o.after[k]).on]? with
          | none => rw [hp] at hw; cases hw
          | some p =>
            rw [hp] at hw
            exact h.new _ p t hp (by simpa using hw) hl
        · refine h.old t fun j p hj hd => ?_
          have hti := htidy
          unfold tidyB at hti
          rw [List.all_eq_true] at hti
          have h1 := hti i (by rw [List.mem_range]; exact (Array.getElem?_eq_some_iff.1 ho).1)
          rw [ho] at h1
          simp only [List.all_eq_true] at h1
          have h2 := h1 t ht
          rw [hf, Bool.false_or] at h2
          unfold lateB at h2
          rw [List.all_eq_true] at h2
          have h3 := h2 j (by rw [List.mem_range]; exact (Array.getElem?_eq_some_iff.1 hj).1)
          rw [hj] at h3
          simp only [hd, bne_self_eq_false, Bool.false_or, Array.any_eq_true, Bool.and_eq_true] at h3
          obtain ⟨k, hk, hb, hon⟩ := h3
          cases hlj : listed.getD j false with
          | false => rfl
          | true =>
            have := h.shut j p hj hlj p.after[k] (Array.getElem_mem hk) hb
            rw [show (p.after[k]).on = i from by simpa using hon, hunf] at this
            cases this
      refine wpOp_mono ?_ (hstep i o ho a w h.below h.len hgiven)
      rintro a' w' ⟨v, rfl, hb, hv⟩
      obtain ⟨d, hd, hdl⟩ := hdst i o ho
      have hset : ∀ j, (listed.setIfInBounds i true).getD j false = if j = i then true else listed.getD j false := by
        intro j
        by_cases hji : j = i
        · subst hji; simp [hil]
        · simp [hji, Array.getElem?_setIfInBounds_ne (Ne.symm hji), Array.getD_eq_getD_getElem?]
      refine ih _ _ _ ⟨by simpa using h.size, h.below.trans (hb.mono h.below.size), ?_, ?_, ?_, ?_, ?_⟩ ?_
      · rw [hd]; exact h.defers
      · rw [hd]; simp [Act.put, h.len]
      · intro t ht
        have hdt : d ≠ t := by
          intro e
          subst e
          have := ht i o ho hd
          rw [hset, if_pos rfl] at this
          cases this
        rw [hd]
        simp only [Act.put]
        rw [Array.getElem?_setIfInBounds_ne hdt]
        refine h.old t fun j p hj hdj => ?_
        have := ht j p hj hdj
        rw [hset] at this
        split at this
        · cases this
        · exact this
      · intro j p t hj hdj hlj
        rw [hd]
        simp only [Act.put]
        by_cases hdt : d = t
        · subst hdt
          have : d < a.tmps.size := by rw [h.len]; exact hdl
          exact ⟨v, by simp [this], hv d hd⟩
        · rw [Array.getElem?_setIfInBounds_ne hdt]
          rw [hset] at hlj
          split at hlj
          · rename_i hji
            subst hji
            rw [ho] at hj
            cases hj
            rw [hd] at hdj
            exact absurd (Option.some.inj hdj) hdt
          · obtain ⟨u, hu, hVu⟩ := h.new j p t hj hdj hlj
            exact ⟨u, hu, hV _ _ _ _ hVu hb⟩
      · intro j p hj hlj e he hbe
        rw [hset] at hlj ⊢
        split
        · rfl
        · split at hlj
          · rename_i hji
            subst hji
            rw [ho] at hj
            cases hj
            exact hall e he hbe
          · exact h.shut j p hj hlj e he hbe
      · have : (List.range ops.size).countP (fun j => !(listed.setIfInBounds i true).getD j true) < (List.range ops.size).countP (fun j => !listed.getD j true) := by
          refine countP_lt (i := i) (fun j hj hq => ?_) (by rw [List.mem_range, ← h.size]; exact hil) (by rw [hun]; rfl) (by simp [hil])
          by_cases hji : j = i
          · subst hji; rw [hun]; rfl
          · simp only [Array.getD_eq_getD_getElem?] at hq ⊢
            rwa [Array.getElem?_setIfInBounds_ne (Ne.symm hji)] at hq
        omega
  refine key ops.size _ _ _ ⟨by simp, ⟨rfl, rfl, rfl, Nat.le_refl _, fun _ _ => rfl⟩, rfl, rfl, fun _ _ => rfl, fun i o t hi _ hl => ?_, fun i o hi hl => ?_⟩ ?_
  · rw [Array.getD_eq_getD_getElem?, Array.getElem?_replicate] at hl
    split at hl <;> cases hl
  · rw [Array.getD_eq_getD_getElem?, Array.getElem?_replicate] at hl
    split at hl <;> cases hl
  · exact Nat.le_trans List.countP_le_length (by simp)

/-- The frame behind the region. -/
def putAll (a0 : Act) (f : Nat → Value) (l : List Nat) : Act := l.foldl (fun b t => b.put (some t) (f t)) a0

theorem putAll_tmps (f : Nat → Value) : ∀ (l : List Nat) (a0 : Act) (t : Nat), (putAll a0 f l).tmps[t]? = if t ∈ l ∧ t < a0.tmps.size then some (f t) else a0.tmps[t]?
  | [], a0, t => by simp [putAll]
  | x :: l, a0, t => by
    have ih := putAll_tmps f l (a0.put (some x) (f x)) t
    unfold putAll at ih ⊢
    rw [List.foldl_cons, ih]
    simp only [Act.put, Array.size_setIfInBounds, List.mem_cons]
    by_cases hxt : x = t
    · subst hxt
      by_cases hs : x < a0.tmps.size
      · by_cases hm : x ∈ l <;> simp [hm, hs]
      · simp [hs]
    · rw [Array.getElem?_setIfInBounds_ne hxt]
      simp [Ne.symm hxt]

theorem putAll_size (f : Nat → Value) : ∀ (l : List Nat) (a0 : Act), (putAll a0 f l).tmps.size = a0.tmps.size ∧ (putAll a0 f l).defers = a0.defers
  | [], a0 => ⟨rfl, rfl⟩
  | x :: l, a0 => by
    have ih := putAll_size f l (a0.put (some x) (f x))
    unfold putAll at ih ⊢
    rw [List.foldl_cons]
    exact ⟨ih.1.trans (by simp [Act.put]), ih.2.trans rfl⟩

/-- The slots that the region writes. -/
def dsts (ops : Array Oper) : List Nat := ops.toList.filterMap (·.dst)

theorem wp_region_each {id : Nat} {a0 : Act} {w0 : World} (hm : P.follows .mixedOrders = true) (V : Nat → World → Value → Prop)
    (hV : ∀ t w w' v, V t w v → Below w.heap.size w w' → V t w' v) (htidy : tidyB ops = true) (hlow : lowB ops = true) (hdst : (ops.toList.all fun o => match o.dst with | some t => decide (t < a0.tmps.size) | none => false) = true)
    (l : List Nat) (hl : dsts ops = l)
    (hstep : ∀ (i : Nat) (o : Oper), ops[i]? = some o → ∀ (a : Act) (w : World), Below w0.heap.size w0 w → a.tmps.size = a0.tmps.size → Given ops V a0 o a w →
      wpOp P ops Q i (fun a' w' => ∃ v, a' = a.put o.dst v ∧ Below w.heap.size w w' ∧ ∀ t, o.dst = some t → V t w' v) a w)
    (hend : ∀ (f : Nat → Value) (w : World), Below w0.heap.size w0 w → (∀ t, t ∈ l → V t w (f t)) → Q .normal (putAll a0 f l) w) :
    (Code.region id ops true).wp P Q a0 w0 := by
  have hd : ∀ (i : Nat) (o : Oper), ops[i]? = some o → ∃ t : Nat, o.dst = some t ∧ t < a0.tmps.size := by
    intro i o ho
    rw [List.all_eq_true] at hdst
    have h1 := hdst o (by obtain ⟨h, rfl⟩ := Array.getElem?_eq_some_iff.1 ho; simp)
    cases hod : o.dst with
    | none => rw [hod] at h1; cases h1
    | some t => rw [hod] at h1; exact ⟨t, rfl, of_decide_eq_true h1⟩
  have hmem : ∀ t, t ∈ l ↔ ∃ (i : Nat) (o : Oper), ops[i]? = some o ∧ o.dst = some t := by
    intro t
    rw [← hl, dsts, List.mem_filterMap]
    constructor
    · rintro ⟨o, ho, hot⟩
      obtain ⟨i, hi, rfl⟩ := List.mem_iff_getElem.1 ho
      have hi' : i < ops.size := by simpa using hi
      exact ⟨i, ops[i], by simp [hi'], by simpa using hot⟩
    · rintro ⟨i, o, ho, hot⟩
      obtain ⟨h, rfl⟩ := Array.getElem?_eq_some_iff.1 ho
      exact ⟨ops[i], by simp, hot⟩
  refine wp_region_kept hm V hV htidy hd hstep ?_ hlow
  intro a w hb hdef hlen hold hnew
  have hf : ∀ t, t ∈ l → ∃ v, a.tmps[t]? = some v ∧ V t w v := fun t ht => by
    obtain ⟨i, o, ho, hot⟩ := (hmem t).1 ht
    exact hnew i o t ho hot
  have ha : a = putAll a0 (fun t => a.tmps.getD t undef) l := by
    obtain ⟨tm, df⟩ := a
    obtain ⟨h1, h2⟩ := putAll_size (fun t => tm.getD t undef) l a0
    have h3 : tm = (putAll a0 (fun t => tm.getD t undef) l).tmps := by
      apply Array.ext_getElem?
      intro t
      rw [putAll_tmps]
      by_cases ht : t ∈ l
      · obtain ⟨v, hv, -⟩ := hf t ht
        simp only [] at hv
        have hts : t < a0.tmps.size := by rw [← hlen]; exact (Array.getElem?_eq_some_iff.1 hv).1
        rw [if_pos ⟨ht, hts⟩, Array.getD_eq_getD_getElem?, hv]
        rfl
      · rw [if_neg (fun h => ht h.1)]
        exact hold t fun i o ho hot => ht ((hmem t).2 ⟨i, o, ho, hot⟩)
    have h4 : df = (putAll a0 (fun t => tm.getD t undef) l).defers := by rw [h2]; exact hdef
    calc (⟨tm, df⟩ : Act) = ⟨(putAll a0 (fun t => tm.getD t undef) l).tmps, (putAll a0 (fun t => tm.getD t undef) l).defers⟩ := by rw [← h3, ← h4]
      _ = _ := rfl
  rw [ha]
  refine hend _ w hb fun t ht => ?_
  obtain ⟨v, hv, hVv⟩ := hf t ht
  rw [Array.getD_eq_getD_getElem?, hv]
  exact hVv

theorem st_yield {K : Act → World → Prop} {i : Nat} {o : Oper} {a : Act} {w : World} (ho : ops[i]? = some o) (hw : Region.wanted o (yielded ops a.tmps) = true) (v : Value) (w' : World)
    (hrun : (execOp a.eval o).run P w = .ok (.value v) w') (h : K (a.put o.dst v) w') : wpOp P ops Q i K a w := by
  unfold wpOp
  rw [ho]
  simp only [hw, if_true]
  refine .inl ?_
  unfold Oper.wp
  rw [hrun, Oper.upon_value]
  exact h

theorem st_enter {K : Act → World → Prop} {i : Nat} {o : Oper} {a : Act} {w w1 : World} (ho : ops[i]? = some o) (hw : Region.wanted o (yielded ops a.tmps) = true) (f : FuncId) (args : Array Value)
    (hrun : (execOp a.eval o).run P w = .ok (.enter f args) w1) (h : Calls P f args w1 fun e w' => ∃ v, e = .returned v ∧ K (a.put o.dst v) w') : wpOp P ops Q i K a w := by
  unfold wpOp
  rw [ho]
  simp only [hw, if_true]
  refine .inl ?_
  unfold Oper.wp
  rw [hrun, Oper.upon_enter]
  refine h.mono ?_
  rintro e w' ⟨v, rfl, hk⟩
  exact hk

theorem st_skip {K : Act → World → Prop} {i : Nat} {o : Oper} {a : Act} {w : World} (ho : ops[i]? = some o) (hw : Region.wanted o (yielded ops a.tmps) = false) (h : K (a.put o.dst undef) w) : wpOp P ops Q i K a w := by
  unfold wpOp
  rw [ho]
  simp only [hw, Bool.false_eq_true, if_false]
  exact h

theorem given_fed {V : Nat → World → Value → Prop} {a0 : Act} {o : Oper} {a : Act} {w : World} (hg : Given ops V a0 o a w) (t : Nat) (h : ((o.looksAt ops).contains t && fedB ops o t) = true) : ∃ v, a.tmps[t]? = some v ∧ V t w v := by
  rw [Bool.and_eq_true, List.contains_iff_mem] at h
  exact (hg t h.1).1 h.2
theorem given_old {V : Nat → World → Value → Prop} {a0 : Act} {o : Oper} {a : Act} {w : World} (hg : Given ops V a0 o a w) (t : Nat) (h : ((o.looksAt ops).contains t && !fedB ops o t) = true) : a.tmps[t]? = a0.tmps[t]? := by
  rw [Bool.and_eq_true, List.contains_iff_mem, Bool.not_eq_true'] at h
  exact (hg t h.1).2 h.2
theorem wanted_none {o : Oper} {y : Nat → Option Bool} (h : o.guard = none) : Region.wanted o y = true := by simp [Region.wanted, h]
theorem wanted_some {o : Oper} {tmps : Array Value} {g : Nat} {p b : Bool} {t : Nat} (h : o.guard = some (g, p)) (hp : (ops[g]?).bind (·.dst) = some t) (hv : tmps[t]? = some (.bool b)) (hb : b = p) : Region.wanted o (yielded ops tmps) = true := by
  subst hb
  simp [Region.wanted, h, yielded, hp, hv]
theorem wanted_undef {o : Oper} {tmps : Array Value} {g : Nat} {p : Bool} {t : Nat} (h : o.guard = some (g, p)) (hp : (ops[g]?).bind (·.dst) = some t) (hv : tmps[t]? = some undef) : Region.wanted o (yielded ops tmps) = false := by
  simp [Region.wanted, h, yielded, hp, hv, undef]
theorem wanted_not {o : Oper} {tmps : Array Value} {g : Nat} {p b : Bool} {t : Nat} (h : o.guard = some (g, p)) (hp : (ops[g]?).bind (·.dst) = some t) (hv : tmps[t]? = some (.bool b)) (hb : b ≠ p) : Region.wanted o (yielded ops tmps) = false := by
  simp [Region.wanted, h, yielded, hp, hv, hb]

end

end Go.Proofs.YtggokffdgjedgaaGreat

namespace Go.Proofs.YtggokffdgjedgaaGreat
open Go.RowKit

/-- Each slot that one of the first n looks at is written ahead of it, or behind it. -/
def tidyN (ops : Array Oper) (n : Nat) : Bool :=
  (List.range n).all fun i => match ops[i]? with
    | some o => (o.looksAt ops).all fun t => fedB ops o t || lateB ops i t
    | none => true
/-- Behind the first n each waits for the one ahead. -/
def chainN (ops : Array Oper) (n : Nat) : Bool :=
  (List.range ops.size).all fun i => decide (i ≤ n) || (match ops[i]? with | some o => o.after.any fun e => Region.binds .any e && e.on == i - 1 | none => true)
def edges (ops : Array Oper) (i : Nat) : List Nat := match ops[i]? with | some o => (o.after.toList.filter (Region.binds .any ·)).map (·.on) | none => []
def reach (ops : Array Oper) : Nat → List Nat → List Nat
  | 0, m => m
  | k + 1, m => reach ops k (if m.contains k then m ++ edges ops k else m)
/-- Operation n waits for all ahead of it. -/
def waitN (ops : Array Oper) (n : Nat) : Bool := (List.range n).all fun j => (reach ops n (edges ops n)).contains j

theorem edges_mem {ops : Array Oper} {i : Nat} {o : Oper} (ho : ops[i]? = some o) {j : Nat} (hj : j ∈ edges ops i) : ∃ e ∈ o.after, Region.binds .any e = true ∧ e.on = j := by
  unfold edges at hj
  rw [ho] at hj
  obtain ⟨e, he, rfl⟩ := List.mem_map.1 hj
  rw [List.mem_filter] at he
  exact ⟨e, by simpa using he.1, he.2, rfl⟩

theorem reach_listed {ops : Array Oper} {listed : Array Bool} (hshut : ∀ (i : Nat) (o : Oper), ops[i]? = some o → listed.getD i false = true → ∀ e ∈ o.after, Region.binds .any e = true → listed.getD e.on false = true) :
    ∀ (k : Nat) (m : List Nat), (∀ j ∈ m, listed.getD j false = true) → ∀ j ∈ reach ops k m, listed.getD j false = true
  | 0, m, hm, j, hj => hm j hj
  | k + 1, m, hm, j, hj => by
    refine reach_listed hshut k _ ?_ j hj
    intro x hx
    split at hx
    · rename_i hk
      rcases List.mem_append.1 hx with h | h
      · exact hm x h
      · rw [List.contains_iff_mem] at hk
        cases ho : ops[k]? with
        | none => unfold edges at h; rw [ho] at h; cases h
        | some o =>
          obtain ⟨e, he, hb, rfl⟩ := edges_mem ho h
          exact hshut k o ho (hm k hk) e he hb
    · exact hm x hx

section
variable {P : Program} {ops : Array Oper} {Q : Exit → Act → World → Prop}

theorem wpAny_more : ∀ (fuel : Nat) (listed : Array Bool) (a : Act) (w : World), wpAny P .any ops Q fuel listed a w → wpAny P .any ops Q (fuel + 1) listed a w
  | 0, listed, a, w, h => ⟨fun _ => h.2, fun i hi => by rw [h.1] at hi; cases hi⟩
  | fuel + 1, listed, a, w, h => ⟨h.1, fun i hi => wpOp_mono (fun a' w' h' => wpAny_more fuel _ a' w' h') (h.2 i hi)⟩
theorem wpAny_le {fuel fuel' : Nat} (hle : fuel ≤ fuel') {listed : Array Bool} {a : Act} {w : World} (h : wpAny P .any ops Q fuel listed a w) : wpAny P .any ops Q fuel' listed a w := by
  induction hle with
  | refl => exact h
  | step _ ih => exact wpAny_more _ _ _ _ ih

theorem tail_list {n : Nat} (hlow : lowB ops = true) (hchain : chainN ops n = true) : ∀ (k m : Nat) (listed : Array Bool) (a : Act) (w : World), n ≤ m → m + k = ops.size → listed.size = ops.size → (∀ i, i < ops.size → listed.getD i false = decide (i < m)) →
    wpList P ops Q (ops.toList.drop m) a w → wpAny P .any ops Q k listed a w := by
  have hd : ∀ (l : Array Bool) (i : Nat), i < l.size → l.getD i true = l.getD i false := by intro l i hi; simp [hi]
  intro k
  induction k with
  | zero =>
    intro m listed a w hnm hmk hsize hl hq
    rw [List.drop_of_length_le (by rw [Array.length_toList]; omega)] at hq
    refine ⟨?_, hq⟩
    cases hr : Region.ready .any ops listed with
    | nil => rfl
    | cons x xs =>
      obtain ⟨hun, o, ho, -⟩ := mem_ready.1 (show x ∈ Region.ready .any ops listed by rw [hr]; simp)
      have hx : x < ops.size := (Array.getElem?_eq_some_iff.1 ho).1
      rw [hd _ _ (by omega), hl x hx] at hun
      simp at hun
      omega
  | succ k ih =>
    intro m listed a w hnm hmk hsize hl hq
    have hm : m < ops.size := by omega
    have hom : ops[m]? = some ops[m] := by simp [hm]
    have hready : m ∈ Region.ready .any ops listed := by
      rw [mem_ready]
      refine ⟨by rw [hd _ _ (by omega), hl m hm]; simp, ops[m], hom, fun e he hb => ?_⟩
      have h1 := hlow
      unfold lowB at h1
      rw [List.all_eq_true] at h1
      have h2 := h1 m (by rw [List.mem_range]; exact hm)
      rw [hom] at h2
      simp only [Array.all_eq_true] at h2
      obtain ⟨j, hj, rfl⟩ := Array.mem_iff_getElem.1 he
      have h3 := h2 j hj
      rw [hb] at h3
      have hlt : (ops[m].after[j]).on < m := by simpa using h3
      rw [hl _ (by omega)]
      simpa using hlt
    refine ⟨fun hr => (by rw [hr] at hready; cases hready), fun i hi => ?_⟩
    obtain ⟨hun, o, ho, hall⟩ := mem_ready.1 hi
    have hi' : i < ops.size := (Array.getElem?_eq_some_iff.1 ho).1
    rw [hd _ _ (by omega), hl i hi'] at hun
    have him : m ≤ i := by simpa using hun
    have hie : i = m := by
      rcases Nat.lt_or_ge m i with hlt | hge
      · exfalso
        have h1 := hchain
        unfold chainN at h1
        rw [List.all_eq_true] at h1
        have h2 := h1 i (by rw [List.mem_range]; exact hi')
        rw [ho] at h2
        simp only [Bool.or_eq_true, decide_eq_true_eq, Array.any_eq_true, Bool.and_eq_true, beq_iff_eq] at h2
        rcases h2 with h2 | ⟨j, hj, hb, hon⟩
        · omega
        · have h3 := hall _ (Array.getElem_mem hj) hb
          rw [hon, hl _ (by omega)] at h3
          simp at h3
          omega
      · omega
    subst hie
    have hdrop : ops.toList.drop i = ops[i] :: ops.toList.drop (i + 1) := by
      rw [List.drop_eq_getElem_cons (by rw [Array.length_toList]; exact hi')]
      simp
    rw [hdrop] at hq
    have hset : ∀ j, j < ops.size → (listed.setIfInBounds i true).getD j false = decide (j < i + 1) := by
      intro j hj
      by_cases hji : j = i
      · subst hji; simp [hsize, hj]
      · have : (listed.setIfInBounds i true).getD j false = listed.getD j false := by simp [Array.getElem?_setIfInBounds_ne (Ne.symm hji), Array.getD_eq_getD_getElem?]
        rw [this, hl j hj]
        simp
        omega
    have hK : ∀ a' w', wpList P ops Q (ops.toList.drop (i + 1)) a' w' → wpAny P .any ops Q k (listed.setIfInBounds i true) a' w' := fun a' w' h => ih (i + 1) _ a' w' (by omega) (by omega) (by simp [hsize]) hset h
    refine wpOp_mono hK ?_
    unfold wpOp
    rw [hom]
    exact hq

theorem wp_region_kept_head {id : Nat} {a0 : Act} {w0 : World} (n : Nat) (hn : n ≤ ops.size) (hm : P.follows .mixedOrders = true) (V : Nat → World → Value → Prop)
    (hV : ∀ t w w' v, V t w v → Below w.heap.size w w' → V t w' v) (htidy : tidyN ops n = true) (hdst : ∀ (i : Nat) (o : Oper), i < n → ops[i]? = some o → ∃ t : Nat, o.dst = some t ∧ t < a0.tmps.size)
    (hstep : ∀ (i : Nat) (o : Oper), i < n → ops[i]? = some o → ∀ (a : Act) (w : World), Below w0.heap.size w0 w → a.tmps.size = a0.tmps.size → Given ops V a0 o a w →
      wpOp P ops Q i (fun a' w' => ∃ v, a' = a.put o.dst v ∧ Below w.heap.size w w' ∧ ∀ t, o.dst = some t → V t w' v) a w)
    (hend : ∀ (a : Act) (w : World), Below w0.heap.size w0 w → a.defers = a0.defers → a.tmps.size = a0.tmps.size → (∀ t : Nat, (∀ (i : Nat) (o : Oper), i < n → ops[i]? = some o → o.dst ≠ some t) → a.tmps[t]? = a0.tmps[t]?) →
      (∀ (i : Nat) (o : Oper) (t : Nat), i < n → ops[i]? = some o → o.dst = some t → ∃ v, a.tmps[t]? = some v ∧ V t w v) → wpList P ops Q (ops.toList.drop n) a w)
    (hlow : lowB ops = true) (hchain : chainN ops n = true) (hwait : waitN ops n = true) :
    (Code.region id ops true).wp P Q a0 w0 := by
  refine wp_region_any hm ?_
  have hd : ∀ (l : Array Bool) (i : Nat), i < l.size → l.getD i true = l.getD i false := by intro l i hi; simp [hi]
  have hfin : ∀ (listed : Array Bool) (a : Act) (w : World) (fuel : Nat), Held ops V a0 w0 listed a w → (∀ i, n ≤ i → listed.getD i false = false) → (∀ i, i < n → listed.getD i false = true) → ops.size - n ≤ fuel → wpAny P .any ops Q fuel listed a w := by
    intro listed a w fuel h hno hyes hf
    refine wpAny_le hf (tail_list hlow hchain (ops.size - n) n listed a w (Nat.le_refl _) (by omega) h.size ?_ ?_)
    · intro i hi
      rcases Nat.lt_or_ge i n with hlt | hge
      · rw [hyes i hlt]; simp [hlt]
      · rw [hno i hge]; simp [Nat.not_lt.2 hge]
    · refine hend a w h.below h.defers h.len (fun t ht => h.old t fun i o hi hd' => ?_) fun i o t hin hi hd' => h.new i o t hi hd' (hyes i hin)
      rcases Nat.lt_or_ge i n with hlt | hge
      · exact absurd hd' (ht i o hlt hi)
      · exact hno i hge
  have key : ∀ (fuel : Nat) (listed : Array Bool) (a : Act) (w : World), Held ops V a0 w0 listed a w → (∀ i, n ≤ i → listed.getD i false = false) →
      (List.range ops.size).countP (fun j => !listed.getD j true) ≤ fuel → wpAny P .any ops Q fuel listed a w := by
    intro fuel
    induction fuel with
    | zero =>
      intro listed a w h hno hcount
      have hall : ∀ i, i < ops.size → listed.getD i false = true := by
        intro i hi
        cases hl : listed.getD i false with
        | true => rfl
        | false =>
          have : 0 < (List.range ops.size).countP (fun j => !listed.getD j true) := List.countP_pos_iff.2 ⟨i, by rw [List.mem_range]; exact hi, by rw [hd _ _ (by rw [h.size]; exact hi), hl]; rfl⟩
          omega
      have hns : ops.size ≤ n := by
        rcases Nat.lt_or_ge n ops.size with hlt | hge
        · have := hall n hlt
          rw [hno n (Nat.le_refl _)] at this
          cases this
        · exact hge
      exact hfin listed a w 0 h hno (fun i hi => hall i (by omega)) (by omega)
    | succ fuel ih =>
      intro listed a w h hno hcount
      by_cases hyes : ∀ i, i < n → listed.getD i false = true
      · refine hfin listed a w _ h hno hyes ?_
        have : ops.size - n ≤ (List.range ops.size).countP (fun j => !listed.getD j true) := by
          have h1 : (List.range' n (ops.size - n)).countP (fun j => !listed.getD j true) = ops.size - n := by
            rw [List.countP_eq_length.2, List.length_range']
            intro j hj
            rw [List.mem_range'_1] at hj
            rw [hd _ _ (by rw [h.size]; omega), hno j hj.1]
            rfl
          have h2 : List.range ops.size = List.range n ++ List.range' n (ops.size - n) := by
            rw [List.range_eq_range', List.range_eq_range']
            have h3 := List.range'_append_1 (s := 0) (m := n) (n := ops.size - n)
            rw [Nat.zero_add] at h3
            rw [h3]
            congr 1
            omega
          rw [h2, List.countP_append, h1]
          omega
        omega
      · have hsmall : ∀ i ∈ Region.ready .any ops listed, i < n := by
          intro i hi
          obtain ⟨hun, o, ho, hall⟩ := mem_ready.1 hi
          have hi' : i < ops.size := (Array.getElem?_eq_some_iff.1 ho).1
          rcases Nat.lt_or_ge i n with hlt | hge
          · exact hlt
          exfalso
          rcases Nat.lt_or_ge n i with hlt | hge2
          · have h1 := hchain
            unfold chainN at h1
            rw [List.all_eq_true] at h1
            have h2 := h1 i (by rw [List.mem_range]; exact hi')
            rw [ho] at h2
            simp only [Bool.or_eq_true, decide_eq_true_eq, Array.any_eq_true, Bool.and_eq_true, beq_iff_eq] at h2
            rcases h2 with h2 | ⟨j, hj, hb, hon⟩
            · omega
            · have h3 := hall _ (Array.getElem_mem hj) hb
              rw [hon, hno _ (by omega)] at h3
              cases h3
          · obtain rfl : i = n := by omega
            refine hyes fun j hj => ?_
            have h1 := hwait
            unfold waitN at h1
            rw [List.all_eq_true] at h1
            have h2 := h1 j (by rw [List.mem_range]; exact hj)
            rw [List.contains_iff_mem] at h2
            refine reach_listed h.shut i (edges ops i) ?_ j h2
            intro x hx
            obtain ⟨e, he, hb, rfl⟩ := edges_mem ho hx
            exact hall e he hb
        have hne : Region.ready .any ops listed ≠ [] := by
          intro hr
          apply hyes
          intro i hi
          exact listed_all hlow h.size hr i (ops[i]'(by omega)) (by simp)
        refine ⟨fun hr => absurd hr hne, fun i hi => ?_⟩
        have hin := hsmall i hi
        obtain ⟨hun, o, ho, hall⟩ := mem_ready.1 hi
        have hil : i < listed.size := by
          rw [h.size]
          exact (Array.getElem?_eq_some_iff.1 ho).1
        have hunf := getD_false_of hil hun
        have hgiven : Given ops V a0 o a w := by
          intro t ht
          refine ⟨fun hf => ?_, fun hf => ?_⟩
          · unfold fedB at hf
            rw [Array.any_eq_true] at hf
            obtain ⟨k, hk, hke⟩ := hf
            simp only [Bool.and_eq_true] at hke
            obtain ⟨hb, hw⟩ := hke
            have hl := hall o.after[k] (Array.getElem_mem hk) hb
            cases hp : ops[(o.after[k]).on]? with
            | none => rw [hp] at hw; cases hw
            | some p =>
              rw [hp] at hw
              exact h.new _ p t hp (by simpa using hw) hl
          · refine h.old t fun j p hj hd => ?_
            have hti := htidy
            unfold tidyN at hti
            rw [List.all_eq_true] at hti
            have h1 := hti i (by rw [List.mem_range]; exact hin)
            rw [ho] at h1
            simp only [List.all_eq_true] at h1
            have h2 := h1 t ht
            rw [hf, Bool.false_or] at h2
            unfold lateB at h2
            rw [List.all_eq_true] at h2
            have h3 := h2 j (by rw [List.mem_range]; exact (Array.getElem?_eq_some_iff.1 hj).1)
            rw [hj] at h3
            simp only [hd, bne_self_eq_false, Bool.false_or, Array.any_eq_true, Bool.and_eq_true] at h3
            obtain ⟨k, hk, hb, hon⟩ := h3
            cases hlj : listed.getD j false with
            | false => rfl
            | true =>
              have := h.shut j p hj hlj p.after[k] (Array.getElem_mem hk) hb
              rw [show (p.after[k]).on = i from by simpa using hon, hunf] at this
              cases this
        refine wpOp_mono ?_ (hstep i o hin ho a w h.below h.len hgiven)
        rintro a' w' ⟨v, rfl, hb, hv⟩
        obtain ⟨d, hd', hdl⟩ := hdst i o hin ho
        have hset : ∀ j, (listed.setIfInBounds i true).getD j false = if j = i then true else listed.getD j false := by
          intro j
          by_cases hji : j = i
          · subst hji; simp [hil]
          · simp [hji, Array.getElem?_setIfInBounds_ne (Ne.symm hji), Array.getD_eq_getD_getElem?]
        refine ih _ _ _ ⟨by simpa using h.size, h.below.trans (hb.mono h.below.size), ?_, ?_, ?_, ?_, ?_⟩ ?_ ?_
        · rw [hd']; exact h.defers
        · rw [hd']; simp [Act.put, h.len]
        · intro t ht
          have hdt : d ≠ t := by
            intro e
            subst e
            have := ht i o ho hd'
            rw [hset, if_pos rfl] at this
            cases this
          rw [hd']
          simp only [Act.put]
          rw [Array.getElem?_setIfInBounds_ne hdt]
          refine h.old t fun j p hj hdj => ?_
          have := ht j p hj hdj
          rw [hset] at this
          split at this
          · cases this
          · exact this
        · intro j p t hj hdj hlj
          rw [hd']
          simp only [Act.put]
          by_cases hdt : d = t
          · subst hdt
            have : d < a.tmps.size := by rw [h.len]; exact hdl
            exact ⟨v, by simp [this], hv d hd'⟩
          · rw [Array.getElem?_setIfInBounds_ne hdt]
            rw [hset] at hlj
            split at hlj
            · rename_i hji
              subst hji
              rw [ho] at hj
              cases hj
              rw [hd'] at hdj
              exact absurd (Option.some.inj hdj) hdt
            · obtain ⟨u, hu, hVu⟩ := h.new j p t hj hdj hlj
              exact ⟨u, hu, hV _ _ _ _ hVu hb⟩
        · intro j p hj hlj e he hbe
          rw [hset] at hlj ⊢
          split
          · rfl
          · split at hlj
            · rename_i hji
              subst hji
              rw [ho] at hj
              cases hj
              exact hall e he hbe
            · exact h.shut j p hj hlj e he hbe
        · intro j hj
          rw [hset, if_neg (by omega)]
          exact hno j hj
        · have : (List.range ops.size).countP (fun j => !(listed.setIfInBounds i true).getD j true) < (List.range ops.size).countP (fun j => !listed.getD j true) := by
            refine countP_lt (i := i) (fun j hj hq => ?_) (by rw [List.mem_range, ← h.size]; exact hil) (by rw [hun]; rfl) (by simp [hil])
            by_cases hji : j = i
            · subst hji; rw [hun]; rfl
            · simp only [Array.getD_eq_getD_getElem?] at hq ⊢
              rwa [Array.getElem?_setIfInBounds_ne (Ne.symm hji)] at hq
          omega
  refine key ops.size _ _ _ ⟨by simp, ⟨rfl, rfl, rfl, Nat.le_refl _, fun _ _ => rfl⟩, rfl, rfl, fun _ _ => rfl, fun i o t hi _ hl => ?_, fun i o hi hl => ?_⟩ (fun i _ => ?_) ?_
  · rw [Array.getD_eq_getD_getElem?, Array.getElem?_replicate] at hl
    split at hl <;> cases hl
  · rw [Array.getD_eq_getD_getElem?, Array.getElem?_replicate] at hl
    split at hl <;> cases hl
  · rw [Array.getD_eq_getD_getElem?, Array.getElem?_replicate]
    split <;> rfl
  · exact Nat.le_trans List.countP_le_length (by simp)

/-- The slots that the first n write. -/
def dstsN (ops : Array Oper) (n : Nat) : List Nat := (ops.toList.take n).filterMap (·.dst)

theorem wp_region_head {id : Nat} {a0 : Act} {w0 : World} (n : Nat) (hn : n ≤ ops.size) (hm : P.follows .mixedOrders = true) (V : Nat → World → Value → Prop)
    (hV : ∀ t w w' v, V t w v → Below w.heap.size w w' → V t w' v) (hcheck : (tidyN ops n && lowB ops && chainN ops n && waitN ops n) = true)
    (hdst : ((ops.toList.take n).all fun o => match o.dst with | some t => decide (t < a0.tmps.size) | none => false) = true)
    (l : List Nat) (hl : dstsN ops n = l)
    (hstep : ∀ (i : Nat) (o : Oper), i < n → ops[i]? = some o → ∀ (a : Act) (w : World), Below w0.heap.size w0 w → a.tmps.size = a0.tmps.size → Given ops V a0 o a w →
      wpOp P ops Q i (fun a' w' => ∃ v, a' = a.put o.dst v ∧ Below w.heap.size w w' ∧ ∀ t, o.dst = some t → V t w' v) a w)
    (hend : ∀ (f : Nat → Value) (w : World), Below w0.heap.size w0 w → (∀ t, t ∈ l → V t w (f t)) → wpList P ops Q (ops.toList.drop n) (putAll a0 f l) w) :
    (Code.region id ops true).wp P Q a0 w0 := by
  simp only [Bool.and_eq_true] at hcheck
  obtain ⟨⟨⟨htidy, hlow⟩, hchain⟩, hwait⟩ := hcheck
  have hget : ∀ (i : Nat) (o : Oper), i < n → ops[i]? = some o → o ∈ ops.toList.take n := by
    intro i o hin ho
    rw [List.mem_take_iff_getElem]
    obtain ⟨h, rfl⟩ := Array.getElem?_eq_some_iff.1 ho
    exact ⟨i, by simp; omega, by simp⟩
  have hd : ∀ (i : Nat) (o : Oper), i < n → ops[i]? = some o → ∃ t : Nat, o.dst = some t ∧ t < a0.tmps.size := by
    intro i o hin ho
    rw [List.all_eq_true] at hdst
    have h1 := hdst o (hget i o hin ho)
    cases hod : o.dst with
    | none => rw [hod] at h1; cases h1
    | some t => rw [hod] at h1; exact ⟨t, rfl, of_decide_eq_true h1⟩
  have hmem : ∀ t, t ∈ l ↔ ∃ (i : Nat) (o : Oper), i < n ∧ ops[i]? = some o ∧ o.dst = some t := by
    intro t
    rw [← hl, dstsN, List.mem_filterMap]
    constructor
    · rintro ⟨o, ho, hot⟩
      obtain ⟨i, hi, rfl⟩ := List.mem_take_iff_getElem.1 ho
      have hi' : i < ops.size := by simp at hi; omega
      exact ⟨i, ops[i], by omega, by simp [hi'], by simpa using hot⟩
    · rintro ⟨i, o, hin, ho, hot⟩
      exact ⟨o, hget i o hin ho, hot⟩
  refine wp_region_kept_head n hn hm V hV htidy hd hstep ?_ hlow hchain hwait
  intro a w hb hdef hlen hold hnew
  have hf : ∀ t, t ∈ l → ∃ v, a.tmps[t]? = some v ∧ V t w v := fun t ht => by
    obtain ⟨i, o, hin, ho, hot⟩ := (hmem t).1 ht
    exact hnew i o t hin ho hot
  have ha : a = putAll a0 (fun t => a.tmps.getD t undef) l := by
    obtain ⟨tm, df⟩ := a
    obtain ⟨h1, h2⟩ := putAll_size (fun t => tm.getD t undef) l a0
    have h3 : tm = (putAll a0 (fun t => tm.getD t undef) l).tmps := by
      apply Array.ext_getElem?
      intro t
      rw [putAll_tmps]
      by_cases ht : t ∈ l
      · obtain ⟨v, hv, -⟩ := hf t ht
        simp only [] at hv
        have hts : t < a0.tmps.size := by rw [← hlen]; exact (Array.getElem?_eq_some_iff.1 hv).1
        rw [if_pos ⟨ht, hts⟩, Array.getD_eq_getD_getElem?, hv]
        rfl
      · rw [if_neg (fun h => ht h.1)]
        exact hold t fun i o hin ho hot => ht ((hmem t).2 ⟨i, o, hin, ho, hot⟩)
    have h4 : df = (putAll a0 (fun t => tm.getD t undef) l).defers := by rw [h2]; exact hdef
    calc (⟨tm, df⟩ : Act) = ⟨(putAll a0 (fun t => tm.getD t undef) l).tmps, (putAll a0 (fun t => tm.getD t undef) l).defers⟩ := by rw [← h3, ← h4]
      _ = _ := rfl
  rw [ha]
  refine hend _ w hb fun t ht => ?_
  obtain ⟨v, hv, hVv⟩ := hf t ht
  rw [Array.getD_eq_getD_getElem?, hv]
  exact hVv

/-- An operation of a region by a law over lists of operations. -/
theorem st_list {K : Act → World → Prop} {i : Nat} {o : Oper} {a : Act} {w : World} (ho : ops[i]? = some o) (hw : Region.wanted o (yielded ops a.tmps) = true)
    (h : ∀ Q' : Exit → Act → World → Prop, (∀ a' w', K a' w' → Q' .normal a' w') → wpList P ops Q' [o] a w) : wpOp P ops Q i K a w := by
  have h1 := h (fun ex a' w' => ex = .normal ∧ K a' w') (fun a' w' hk => ⟨rfl, hk⟩)
  unfold wpList at h1
  rw [if_pos hw] at h1
  unfold wpOp
  rw [ho]
  simp only [hw, if_true]
  refine .inl ?_
  rcases h1 with h1 | ⟨-, a', w', he, -⟩
  · unfold Oper.wp at *
    generalize (execOp a.eval o).run P w = r at *
    cases r with
    | ok n w' =>
      cases n <;> simp only [Oper.upon] at h1 ⊢ <;>
        first
          | exact h1.2
          | exact Rows.mono h1 (fun _ _ he => he.2)
          | exact Calls.mono h1 (fun e w'' he => by
              cases e with
              | returned v => exact he.2
              | panicked c => exact absurd he.1 (by simp)
              | outgrown => obtain ⟨_, _, hx, _⟩ := he; cases hx)
    | halt x w' =>
      cases x <;> simp only [Oper.upon] at h1 ⊢ <;> first | exact h1 | exact absurd h1.1 (by simp)
  · cases he

end

theorem rb_take {w : World} {a : Option Addr} {len cap : Nat} {l : List UInt8} (h : RB w (.slice a len cap) l) (n : Nat) : RB w (.slice a (min n len) cap) (l.take n) := by
  obtain ⟨a', cap', hv, h1, h2, h3, h4⟩ := h
  simp only [Value.slice.injEq] at hv
  obtain ⟨rfl, rfl, rfl⟩ := hv
  refine ⟨a, cap, by rw [List.length_take], by rw [List.length_take]; omega, h2, h3, fun hl => ?_⟩
  obtain ⟨b, o, ha, hc⟩ := h4 (by intro e; subst e; simp at hl)
  exact ⟨b, o, ha, fun i hi => by
    have := hc i (by rw [List.length_take] at hi; omega)
    simpa using this⟩

/-- 'b[n:]', in whatever world. -/
theorem RB.run_l {P : Program} {w : World} {a : Option Addr} {len cap : Nat} {l : List UInt8} (h : RB w (.slice a len cap) l) (t e : TypeId) (ht : P.underlying t = some (.slice e)) (hinfo : (P.info? e).map (fun i => (i.zero, i.size, i.bytes)) = some (some (.int .u8 0), 1, 1))
    (n : Nat) (hn : n ≤ l.length) (k : IntKind) : ∃ v, (∀ W, RB W (.slice a len cap) l → RB W v (l.drop n)) ∧ ∀ W, (Instr.slice t (.slice a len cap) (some (.int k (n : Int))) none none).run P W = .ok v W := by
  obtain ⟨h1, h2, h3⟩ := h.len
  refine ⟨sliced a n len cap 1, fun W hW => ?_, fun W => ?_⟩
  · have hc := hW.cut n l.length (by omega) (Nat.le_refl _)
    rw [List.take_of_length_le (Nat.le_refl _), ← h1] at hc
    exact hc
  · obtain ⟨ht', hs⟩ := run_sizeOf (P := P) (w := W) ht hinfo
    have hr := run_slice_l (P := P) W t a len cap ht' k (n : Int) (by omega) (by omega)
    rw [hs] at hr
    simpa [Result.andThen] using hr

end Go.Proofs.YtggokffdgjedgaaGreat

namespace Go.Proofs.YtggokffdgjedgaaGreat
open Go.RowKit Go.Sort Go.Shelf

theorem flatI (l : List Int) : KI.flat l = l.map (Value.int .i64) := by
  unfold Lay.flat
  induction l with
  | nil => rfl
  | cons x l ih => rw [List.flatMap_cons, ih]; rfl
theorem sortI_c (w : World) (B : Nat) (v : Value) (F : List Int) (hown : KI.O w B v F) (hl : F.length ≤ 100000) :
    Calls Tryz.prog 57 #[v] w fun e w' => e = .returned (.tuple #[]) ∧ ∃ G, G.Perm F ∧ G.Pairwise (· ≤ ·) ∧ KI.O w' B v G ∧ w.grownBy w' v.ownBlock := by
  have h0 := hown
  rcases hown with ⟨h1, ⟨rfl, hn⟩ | ⟨g, cap, cur, rfl, hB, h2, h3, h4, h5, h6⟩⟩
  · obtain rfl : F = [] := List.eq_nil_of_length_eq_zero hn
    have h := AnyM.slices_Sort_int_none { sortIL with } none 0 w
    change Calls Tryz.prog 57 _ _ _ at h
    refine h.mono ?_
    rintro e w' ⟨rfl, rfl⟩
    exact ⟨rfl, [], List.Perm.refl _, List.Pairwise.nil, h0, World.grownBy.refl _ _⟩
  · have hH : Holds (Value.int .i64) w g 0 F.toArray := fun j hj => by
      have hjl : j < F.length := by simpa using hj
      refine ⟨?_, frozen_of_row _ _ _ _ _ h2⟩
      have := Lay.O.cell h0 KI_ok j hjl 0 _ rfl
      rw [getElem!_pos F.toArray j hj]
      simpa [KI] using this
    have h := AnyM.slices_Sort_int sortIL g 0 cap F w hH (Array.getElem?_eq_some_iff.1 h2).1 (by omega)
    change Calls Tryz.prog 57 _ _ _ at h
    refine h.mono ?_
    rintro e w' ⟨rfl, n, os, rfl⟩
    have hp : (F.mergeSort fun x y => decide (x ≤ y)).Perm F := List.mergeSort_perm _ _
    have hs : (F.mergeSort fun x y => decide (x ≤ y)).Pairwise (· ≤ ·) := by
      have := List.pairwise_mergeSort (le := fun x y : Int => decide (x ≤ y)) (fun a b c h1 h2 => by simp at *; omega) (fun a b => by simp; omega) F
      exact this.imp fun h => by simpa using h
    generalize F.mergeSort (fun x y => decide (x ≤ y)) = G at *
    refine ⟨rfl, G, hp, hs, ?_, grownBy_sortedI _⟩
    have hlen := hp.length_eq
    have := ownsRow_sortedI (w := w) (base := B) (n := n) (e := 3) (os := os) (ss := F) (ts := G) hlen hB h2 h3 h4 (by simpa [KI] using h5)
    unfold Lay.O
    rw [flatI, hlen]
    exact this

/-! ### Whose numbers they are. -/
def qP (p : Nat × Nat) : Nat := 4 * p.1 + p.2
theorem hits_nodup (T : SlT) (t b k : Nat) : ((hitsT T t b k).map qP).Nodup := by
  unfold hitsT
  rw [List.map_map]
  unfold List.Nodup
  rw [List.pairwise_map]
  refine List.Pairwise.imp (R := fun a b : Nat => a ≠ b) (fun {a c} hac => ?_) (List.Pairwise.filter _ List.nodup_range)
  show 4 * b + a ≠ 4 * b + c
  omega
theorem places_nodup (T : SlT) (x : Nat) : ((placesT T x).map qP).Nodup := by
  show ((([] : List (Nat × Nat)) ++ hitsT T (tagN x) (bkX x 0) 4) ++ hitsT T (tagN x) (bkX x 1) 4).map qP |>.Nodup
  rw [List.nil_append, List.map_append, List.nodup_append]
  refine ⟨hits_nodup _ _ _ _, hits_nodup _ _ _ _, fun a ha b hb => ?_⟩
  obtain ⟨p, hp, rfl⟩ := List.mem_map.1 ha
  obtain ⟨q, hq, rfl⟩ := List.mem_map.1 hb
  obtain ⟨h1, h2, -⟩ := hits_mem.1 hp
  obtain ⟨h3, h4, -⟩ := hits_mem.1 hq
  have hne : othN (firstN x) (tagN x) ≠ firstN x := oth_ne _ (first_lt x)
  have e0 : bkX x 0 = firstN x := rfl
  have e1 : bkX x 1 = othN (firstN x) (tagN x) := rfl
  unfold qP
  omega
def hereT (T : SlT) (x q : Nat) : Bool := hitO (tagN x) (T q) && keyN (q / 4) (tagN x) == keyH x
theorem places_q (T : SlT) (x : Nat) : ((placesT T x).map qP).Perm ((List.range 32).filter (hereT T x)) := by
  rw [List.perm_ext_iff_of_nodup (places_nodup T x) (List.Pairwise.filter _ List.nodup_range)]
  intro q
  rw [List.mem_filter, List.mem_range]
  constructor
  · intro h
    obtain ⟨p, hp, rfl⟩ := List.mem_map.1 h
    obtain ⟨h1, h2, h3, h4⟩ := places_lt hp
    have e : qP p / 4 = p.1 := by unfold qP; omega
    refine ⟨by unfold qP; omega, ?_⟩
    unfold hereT
    have e5 : hitO (tagN x) (T (qP p)) = true := (places_mem.1 hp).2.2
    rw [e, h4, e5]
    simp
  · rintro ⟨hq, hh⟩
    unfold hereT at hh
    rw [Bool.and_eq_true, beq_iff_eq] at hh
    refine List.mem_map.2 ⟨(q / 4, q % 4), places_of (hitO_some hh.1) hq hh.2, ?_⟩
    unfold qP
    simp only []
    omega
theorem here_slots (T : SlT) (x : Nat) : (((slL T).map keyS).filter fun k => k.1 == keyH x).map Prod.snd = ((List.range 32).filter (hereT T x)).map fun q => idO (T q) := by
  unfold slL
  induction List.range 32 with
  | nil => rfl
  | cons q l ih =>
    rw [List.filterMap_cons, List.filter_cons]
    cases hT : T q with
    | none =>
      have e : hereT T x q = false := by unfold hereT; rw [hT]; rfl
      rw [e]
      simp only [Option.map_none]
      exact ih
    | some y =>
      simp only [Option.map_some, List.map_cons, List.filter_cons]
      by_cases hk : keyN (q / 4) y.1 = keyH x
      · have ht : y.1 = tagN x := by
          have := congrArg Prod.snd hk
          simpa [keyN, keyH] using this
        have e : hereT T x q = true := by unfold hereT; rw [hT, ← ht]; simp [hitO, hk]
        have e2 : (keyS (q / 4, y.1, y.2)).1 == keyH x := by rw [beq_iff_eq]; exact hk
        rw [e, if_pos e2, if_pos rfl, List.map_cons, List.map_cons, ih, hT]
        rfl
      · have e : hereT T x q = false := by
          unfold hereT
          rw [hT]
          by_cases ht : y.1 = tagN x
          · rw [← ht]; simp [hk]
          · simp [hitO, ht]
        have e2 : ¬ ((keyS (q / 4, y.1, y.2)).1 == keyH x) = true := by rw [beq_iff_eq]; exact hk
        rw [e, if_neg e2, if_neg (by simp)]
        exact ih
theorem places_perm {T : SlT} {es : List EnT} (h : Fits T es) (x : Nat) : ((placesT T x).map (idP T)).Perm ((es.filter fun e => nearN x e.1).map Prod.snd) := by
  have h1 : ((placesT T x).map (idP T)).Perm (((List.range 32).filter (hereT T x)).map fun q => idO (T q)) := by
    have := (places_q T x).map fun q => idO (T q)
    rw [List.map_map] at this
    exact this
  have h2 := (List.Perm.filter (fun k => k.1 == keyH x) h).map Prod.snd
  rw [here_slots] at h2
  refine h1.trans (h2.trans ?_)
  rw [List.filter_map, List.map_map]
  have e : ((fun k : (Nat × Nat) × Int => k.1 == keyH x) ∘ keyE) = fun e : EnT => nearN x e.1 := by
    funext e
    rw [Bool.eq_iff_iff, near_iff]
    show (keyH e.1 == keyH x) = true ↔ _
    rw [beq_iff_eq]
    exact eq_comm
  rw [e]
  exact List.Perm.refl _

theorem KI.one' (w : World) (z : Int) : KI.R (w.alloc (.cells #[.int .i64 z] 3)) (.slice (some ⟨w.heap.size, 0, none⟩) 1 1) [z] := Lay.R.one w KI_ok z 3 (0, 0)
def VFd (d g pb ps : Nat) (u : Value) (z : Int) : Nat → World → Value → Prop
  | 16, _, v => v = u
  | 17, _, v => v = .pointer (some ⟨d, 0, none⟩)
  | 18, _, v => v = .pointer (some ⟨g, 0, none⟩)
  | 19, _, v => v = .int .i64 (pb : Int)
  | 20, _, v => v = .pointer (some ⟨g, 1, none⟩)
  | 21, _, v => v = .int .i64 (ps : Int)
  | 22, _, v => v = .pointer (some ⟨d, 0, none⟩)
  | 23, _, v => v = .pointer (some ⟨d, 0, none⟩)
  | 24, _, v => v = .pointer (some ⟨d, 12 * pb, none⟩)
  | 25, _, v => v = .pointer (some ⟨d, 12 * pb + 3 * ps, none⟩)
  | 26, _, v => v = .pointer (some ⟨d, 12 * pb + 3 * ps + 2, none⟩)
  | 27, _, v => v = .int .i64 z
  | 28, w, v => KI.R w v [z]
  | _, _, _ => True

theorem VFd_below (d g pb ps : Nat) (u : Value) (z : Int) : ∀ (i : Nat) (w w' : World) (v : Value), VFd d g pb ps u z i w v → Below w.heap.size w w' → VFd d g pb ps u z i w' v := by
  intro i w w' v h hb
  unfold VFd at h ⊢
  split at h <;> first | exact h | trivial | exact Lay.R.below h hb

set_option maxHeartbeats 2000000 in
set_option maxRecDepth 100000 in
theorem cfind_w {w : World} {d : Nat} {T : SlT} (h : CK w d T) {x : Nat} (hx : x < 18446744073709551616) :
    Calls Tryz.prog 35 #[.pointer (some ⟨d, 0, none⟩), .int .u64 (x : Int)] w fun e w' => ∃ v F, e = .returned v ∧ KI.O w' w.heap.size v F ∧ F.Pairwise (· ≤ ·) ∧ F.Perm ((placesT T x).map (idP T)) ∧ Below w.heap.size w w' := by
  have HD := Go.Lib.hid fun W (hW : Below w.heap.size w W) => h.below hW
  have PC := Go.Lib.hid (cplaces_c h hx)
  have HPL := Go.Lib.hid fun (p : Nat × Nat) (hp : p ∈ placesT T x) => places_lt hp
  have HLN := Go.Lib.hid (show (placesT T x).length ≤ 8 from foundT_len T x 2)
  clear h hx
  generalize placesT T x = PL at *
  go_enter Tryz.func35, Tryz.ntmps35
  go_wp2_with fail
  refine PC.out.mono ?_
  rintro e w1 ⟨v, rfl, hown, hb1⟩
  obtain ⟨a, cap, rfl, hlm⟩ := hown.r.form
  have HR1 := Go.Lib.hid hown.r
  have HB1 := Go.Lib.hid hb1
  clear hown hb1 PC
  go_wp2_with fail
  go_loopw [5, 12] (fun lv jv wr => ∃ (j : Nat) (u : Value), u = lv ∧ j ≤ PL.length ∧ jv = .int .i64 (j : Int) ∧ KI.O wr w1.heap.size u ((PL.take j).map (idP T)) ∧ Below w1.heap.size w1 wr) (fun _ jv _ => PL.length - (intOf jv).toNat)
  case atStart => exact ⟨0, _, rfl, by omega, rfl, Lay.O.nil _ _, Below.refl _ _⟩
  case round =>
    obtain ⟨j, u, rfl, hj, rfl, hO, hbc⟩ := hrel
    by_cases hjl : j < PL.length
    · obtain ⟨b, o, rfl, -, hbs, c0, c1⟩ := KP.at' (HR1.out.below hbc) j hjl
      have hix := idxP b o PL.length cap j hjl wr
      obtain ⟨hp1, hp2, hp3, -⟩ := HPL.out PL[j] (List.getElem_mem hjl)
      have HTK := Go.Lib.hid (show (PL.take (j + 1)).map (idP T) = (PL.take j).map (idP T) ++ [idP T PL[j]] by rw [List.take_succ_eq_append_getElem hjl, List.map_append]; rfl)
      have HTL := Go.Lib.hid (show ((PL.take j).map (idP T)).length ≤ 8 by have := HLN.out; rw [List.length_map, List.length_take]; omega)
      have hidp : idP T PL[j] = idO (T (4 * PL[j].1 + PL[j].2)) := rfl
      generalize hpj : PL[j] = pj at *
      obtain ⟨pb, ps⟩ := pj
      simp only [] at c0 c1 hp1 hp2 hp3 hidp
      have hck := HD.out wr (HB1.out.trans (hbc.mono HB1.out.size))
      obtain ⟨d0, d1, d2⟩ := hck.at hp1 hp2
      have hd := hck.lt
      have h1 := fun W => idxB d pb hp1 W
      have h2 := fun W => idxS d (12 * pb) ps hp2 W
      rw [← hidp] at d2
      have hb2 := (Below.refl wr.heap.size wr).alloc (Nat.le_refl _) (.cells #[.int .i64 (pb : Int), .int .i64 (ps : Int)] 96)
      have HO3 := Go.Lib.hid (hO.below hb2)
      have HB3 := Go.Lib.hid (hbc.trans (hb2.mono hbc.size))
      have HD2 := Go.Lib.hid (keepC d2 hb2)
      have HG := Go.Lib.hid (heap_alloc_new wr (.cells #[.int .i64 (pb : Int), .int .i64 (ps : Int)] 96))
      clear hO hbc hck hp3 hidp hb2 hd d0 d1 d2 hpj
      generalize idP T (pb, ps) = z at *
      generalize (PL.take j).map (idP T) = F at *
      go_upto_region 5 with (fail)
      obtain ⟨g, hg⟩ : ∃ g, g = wr.heap.size := ⟨_, rfl⟩
      rw [← hg] at HG ⊢
      clear hg c0 c1 hix hbs
      generalize wr.alloc (.cells #[.int .i64 (pb : Int), .int .i64 (ps : Int)] 96) = w3 at *
      have B0 := Go.Lib.hid (show w3.cell? ⟨g, 0, none⟩ = some (.int .i64 (pb : Int)) from by rw [cell_of_row _ _ _ _ _ _ HG.out]; rfl)
      have B1 := Go.Lib.hid (show w3.cell? ⟨g, 1, none⟩ = some (.int .i64 (ps : Int)) from by rw [cell_of_row _ _ _ _ _ _ HG.out]; rfl)
      refine wp_region_head 13 (by decide) (by kernel_rfl) (VFd d g pb ps u z) (VFd_below d g pb ps u z) (by decide +kernel) (by rfl) [16, 17, 18, 19, 20, 21, 22, 23, 24, 25, 26, 27, 28] (by rfl) ?_ ?_
      · intro i o hin ho a w6 hb6 hlen hg
        have x0 := keepC B0.out hb6
        have x1 := keepC B1.out hb6
        have x2 := keepC HD2.out hb6
        match i, hin, ho with
        | 0, hin, ho =>
          obtain rfl := Option.some.inj ho
          have h5 := given_old hg 5 (by decide +kernel)
          clear hg
          exact st_yield ho (wanted_none rfl) (u) w6 (by simp [execOp, Act.eval, h5, go_sem]) ⟨_, rfl, Below.refl _ _, by rintro t' ⟨⟩; rfl⟩
        | 1, hin, ho =>
          obtain rfl := Option.some.inj ho
          have h0 := given_old hg 0 (by decide +kernel)
          clear hg
          exact st_yield ho (wanted_none rfl) (.pointer (some ⟨d, 0, none⟩)) w6 (by simp [execOp, Act.eval, h0, go_sem]) ⟨_, rfl, Below.refl _ _, by rintro t' ⟨⟩; rfl⟩
        | 2, hin, ho =>
          obtain rfl := Option.some.inj ho
          have h7 := given_old hg 7 (by decide +kernel)
          clear hg
          exact st_yield ho (wanted_none rfl) (.pointer (some ⟨g, 0, none⟩)) w6 (by simp [execOp, Act.eval, h7, go_sem]) ⟨_, rfl, Below.refl _ _, by rintro t' ⟨⟩; rfl⟩
        | 3, hin, ho =>
          obtain rfl := Option.some.inj ho
          obtain ⟨_, h18, rfl⟩ := given_fed hg 18 (by decide +kernel)
          clear hg
          exact st_yield ho (wanted_none rfl) (.int .i64 (pb : Int)) w6 (by simp [execOp, Act.eval, h18, go_sem, x0]) ⟨_, rfl, Below.refl _ _, by rintro t' ⟨⟩; rfl⟩
        | 4, hin, ho =>
          obtain rfl := Option.some.inj ho
          have h7 := given_old hg 7 (by decide +kernel)
          clear hg
          exact st_yield ho (wanted_none rfl) (.pointer (some ⟨g, 1, none⟩)) w6 (by simp [execOp, Act.eval, h7, go_sem]) ⟨_, rfl, Below.refl _ _, by rintro t' ⟨⟩; rfl⟩
        | 5, hin, ho =>
          obtain rfl := Option.some.inj ho
          obtain ⟨_, h20, rfl⟩ := given_fed hg 20 (by decide +kernel)
          clear hg
          exact st_yield ho (wanted_none rfl) (.int .i64 (ps : Int)) w6 (by simp [execOp, Act.eval, h20, go_sem, x1]) ⟨_, rfl, Below.refl _ _, by rintro t' ⟨⟩; rfl⟩
        | 6, hin, ho =>
          obtain rfl := Option.some.inj ho
          obtain ⟨_, h17, rfl⟩ := given_fed hg 17 (by decide +kernel)
          clear hg
          exact st_yield ho (wanted_none rfl) (.pointer (some ⟨d, 0, none⟩)) w6 (by simp [execOp, Act.eval, h17, go_sem]) ⟨_, rfl, Below.refl _ _, by rintro t' ⟨⟩; rfl⟩
        | 7, hin, ho =>
          obtain rfl := Option.some.inj ho
          obtain ⟨_, h22, rfl⟩ := given_fed hg 22 (by decide +kernel)
          clear hg
          exact st_yield ho (wanted_none rfl) (.pointer (some ⟨d, 0, none⟩)) w6 (by simp [execOp, Act.eval, h22, go_sem]) ⟨_, rfl, Below.refl _ _, by rintro t' ⟨⟩; rfl⟩
        | 8, hin, ho =>
          obtain rfl := Option.some.inj ho
          obtain ⟨_, h23, rfl⟩ := given_fed hg 23 (by decide +kernel)
          obtain ⟨_, h19, rfl⟩ := given_fed hg 19 (by decide +kernel)
          clear hg
          exact st_yield ho (wanted_none rfl) (.pointer (some ⟨d, 12 * pb, none⟩)) w6 (by simp [execOp, Act.eval, h23, h19, go_sem, h1]) ⟨_, rfl, Below.refl _ _, by rintro t' ⟨⟩; rfl⟩
        | 9, hin, ho =>
          obtain rfl := Option.some.inj ho
          obtain ⟨_, h24, rfl⟩ := given_fed hg 24 (by decide +kernel)
          obtain ⟨_, h21, rfl⟩ := given_fed hg 21 (by decide +kernel)
          clear hg
          exact st_yield ho (wanted_none rfl) (.pointer (some ⟨d, 12 * pb + 3 * ps, none⟩)) w6 (by simp [execOp, Act.eval, h24, h21, go_sem, h2]) ⟨_, rfl, Below.refl _ _, by rintro t' ⟨⟩; rfl⟩
        | 10, hin, ho =>
          obtain rfl := Option.some.inj ho
          obtain ⟨_, h25, rfl⟩ := given_fed hg 25 (by decide +kernel)
          clear hg
          exact st_yield ho (wanted_none rfl) (.pointer (some ⟨d, 12 * pb + 3 * ps + 2, none⟩)) w6 (by simp [execOp, Act.eval, h25, go_sem]) ⟨_, rfl, Below.refl _ _, by rintro t' ⟨⟩; rfl⟩
        | 11, hin, ho =>
          obtain rfl := Option.some.inj ho
          obtain ⟨_, h26, rfl⟩ := given_fed hg 26 (by decide +kernel)
          clear hg
          exact st_yield ho (wanted_none rfl) (.int .i64 z) w6 (by simp [execOp, Act.eval, h26, go_sem, x2]) ⟨_, rfl, Below.refl _ _, by rintro t' ⟨⟩; rfl⟩
        | 12, hin, ho =>
          obtain rfl := Option.some.inj ho
          obtain ⟨_, h27, rfl⟩ := given_fed hg 27 (by decide +kernel)
          clear hg
          exact st_yield ho (wanted_none rfl) (.slice (some ⟨w6.heap.size, 0, none⟩) 1 1) (w6.alloc (.cells #[.int .i64 z] 3)) (by simp [execOp, Act.eval, h27, go_sem]) ⟨_, rfl, (Below.refl _ _).alloc (Nat.le_refl _) _, by rintro t' ⟨⟩; exact KI.one' w6 z⟩
        | n + 13, hin, ho => omega
      · intro f w6 hb6 hv
        have h16 := hv 16 (by decide)
        have h28 := hv 28 (by decide)
        simp only [VFd] at h16 h28
        have HO6 := Go.Lib.hid (HO3.out.below hb6)
        have HB6 := Go.Lib.hid (HB3.out.trans (hb6.mono HB3.out.size))
        have HONE := Go.Lib.hid h28
        clear hv hb6 h28
        unfold putAll
        simp only [List.foldl, List.drop]
        simp only [h16]
        go_simp
        go_wp2_with (first
          | ((with_reducible show wpList _ _ _ (⟨some 29, _, _, _, _, _⟩ :: _) _ _); go_loud (refine KI_ok.append rfl (.tmp 16) (.tmp 28) rfl w1.heap.size u (f 28) F [z] rfl rfl HO6.out HONE.out (by have := HTL.out; simp; omega) HB6.out.size ?_); intro v7 w7 hown7 hg7; have HB7 := Go.Lib.hid (HB6.out.grown hg7 HB6.out.size HO6.out.row); have HO7 := Go.Lib.hid hown7; clear hown7 hg7)
          | fail)
        go_roundw
        case rel => exact ⟨j + 1, _, rfl, by omega, by go_num, by rw [HTK.out]; exact HO7.out, HB7.out⟩
        case measure => simp only [intOf]; omega
    · obtain rfl : j = PL.length := by omega
      rw [List.take_length] at hO
      have HO := Go.Lib.hid (hO.mono HB1.out.size)
      have HB := Go.Lib.hid (HB1.out.trans (hbc.mono HB1.out.size))
      have SC := Go.Lib.hid (sortI_c wr w.heap.size u (PL.map (idP T)) (hO.mono HB1.out.size) (by have := HLN.out; rw [List.length_map]; omega))
      clear hO hbc hjl
      go_wp2_with fail
      refine SC.out.mono ?_
      rintro e w2 ⟨rfl, G, hp, hs, hown, hg⟩
      have HB2 := Go.Lib.hid (HB.out.grown hg HB.out.size HO.out.row)
      clear hg
      have HOW := Go.Lib.hid hown
      have HP := Go.Lib.hid hp
      have HS := Go.Lib.hid hs
      clear hown hp hs
      go_wp2_with fail
      go_ret
      exact ⟨_, G, rfl, HOW.out, HS.out, HP.out, HB2.out⟩
theorem cfind_c {w : World} {d : Nat} {T : SlT} {es : List EnT} (h : CK w d T) (hf : Fits T es) {x : Nat} (hx : x < 18446744073709551616) (_hl : es.length ≤ 60) :
    Calls Tryz.prog 35 #[.pointer (some ⟨d, 0, none⟩), .int .u64 (x : Int)] w fun e w' => ∃ v F, e = .returned v ∧ KI.O w' w.heap.size v F ∧ F.Pairwise (· ≤ ·) ∧ F.Perm ((es.filter fun e => nearN x e.1).map Prod.snd) ∧ Below w.heap.size w w' := by
  refine (cfind_w h hx).mono ?_
  rintro e w' ⟨v, F, h1, h2, h3, h4, h5⟩
  exact ⟨v, F, h1, h2, h3, h4.trans (places_perm hf x), h5⟩
set_option maxRecDepth 100000 in
theorem cnil_find (x : Nat) (_hx : x < 18446744073709551616) (w : World) : Calls Tryz.prog 35 #[.pointer none, .int .u64 (x : Int)] w fun e w' => e = .returned (.slice none 0 0) ∧ Below w.heap.size w w' := by
  have PC := Go.Lib.hid (fun W => cplaces_nil x W)
  have SC := Go.Lib.hid (fun W => show Calls Tryz.prog 57 #[.slice none 0 0] W fun e w' => e = .returned (.tuple #[]) ∧ w' = W from AnyM.slices_Sort_int_none { sortIL with } none 0 W)
  have HB := Go.Lib.hid (Below.refl w.heap.size w)
  go_enter Tryz.func35, Tryz.ntmps35
  go_wp2_with fail
  refine (PC.out _).mono ?_
  rintro e w1 ⟨rfl, rfl⟩
  go_wp2_with fail
  go_loop [5, 12] (fun lv jv => lv = .slice none 0 0 ∧ jv = .int .i64 0) (fun _ _ => 0)
  case atStart => exact ⟨rfl, rfl⟩
  case round =>
    obtain ⟨rfl, rfl⟩ := hrel
    go_wp2_with fail
    refine (SC.out _).mono ?_
    rintro e w1 ⟨rfl, rfl⟩
    go_wp2_with fail
    go_ret
    exact ⟨rfl, HB.out⟩

end Go.Proofs.YtggokffdgjedgaaGreat

namespace Go.Proofs.YtggokffdgjedgaaGreat

/-- From bucket c on: each slot of the way is full, its entry can move to the next one's bucket, the last one's to bucket e. -/
def Chain (T : SlT) : Nat → List (Nat × Nat) → Nat → Prop
  | c, [], e => c = e
  | c, p :: P, e => p.1 = c ∧ p.2 < 4 ∧ ∃ x, T (4 * c + p.2) = some x ∧ Chain T (othN c x.1) P e
theorem Chain.snoc {T : SlT} {x : Nat × Int} {s : Nat} : ∀ {P : List (Nat × Nat)} {c e : Nat}, Chain T c P e → s < 4 → T (4 * e + s) = some x → Chain T c (P ++ [(e, s)]) (othN e x.1)
  | [], c, e, h, hs, hT => by
    have h : c = e := h
    subst h
    exact ⟨rfl, hs, x, hT, rfl⟩
  | p :: P, c, e, h, hs, hT => by
    obtain ⟨h1, h2, y, h3, h4⟩ := h
    exact ⟨h1, h2, y, h3, Chain.snoc h4 hs hT⟩

theorem chain_slot {T : SlT} : ∀ {P : List (Nat × Nat)} {c e : Nat}, Chain T c P e → ∀ p ∈ P, p.2 < 4
  | [], c, e, _, p, hp => by cases hp
  | q :: P, c, e, h, p, hp => by
    obtain ⟨h1, h2, y, h3, h4⟩ := h
    rcases List.mem_cons.1 hp with rfl | hp
    · exact h2
    · exact chain_slot h4 p hp

/-- What is held is put down at each slot, what lay there is taken up. -/
def shiftT : SlT → Option (Nat × Int) → List (Nat × Nat) → SlT × Option (Nat × Int)
  | U, x, [] => (U, x)
  | U, x, p :: P => shiftT (layT U (4 * p.1 + p.2) x) (U (4 * p.1 + p.2)) P
theorem shift_snoc (p : Nat × Nat) : ∀ (P : List (Nat × Nat)) (U : SlT) (x : Option (Nat × Int)), shiftT U x (P ++ [p]) = (layT (shiftT U x P).1 (4 * p.1 + p.2) (shiftT U x P).2, (shiftT U x P).1 (4 * p.1 + p.2))
  | [], _U, _x => rfl
  | q :: P, U, x => shift_snoc p P (layT U (4 * q.1 + q.2) x) (U (4 * q.1 + q.2))

theorem put_key (U : SlT) {q : Nat} (hq : q < 32) (x : Nat × Int) : ((keyS (q / 4, x.1, x.2) :: (slL U).map keyS).Perm (((U q).map fun y => keyS (q / 4, y.1, y.2)).toList ++ (slL (layT U q (some x))).map keyS)) := by
  obtain ⟨a, b, h1, h2⟩ := slL_split U hq
  rw [h1, h2]
  cases hU : U q with
  | none =>
    simp only [Option.map_none, Option.toList_none, List.nil_append, Option.map_some, Option.toList_some, List.map_append, List.map_cons, List.singleton_append]
    exact List.perm_middle.symm
  | some y =>
    simp only [Option.map_some, Option.toList_some, List.map_append, List.map_cons, List.singleton_append]
    refine (List.Perm.cons _ List.perm_middle).trans ((List.Perm.swap _ _ _).trans (List.Perm.cons _ List.perm_middle.symm))
theorem putT_other {U : SlT} {q k : Nat} {x : Option (Nat × Int)} (h : k ≠ q) : layT U q x k = U k := by unfold layT; rw [if_neg h]

/-- Along a way all go one further; what was held ahead lies with the others. -/
theorem shift_perm (T : SlT) {s e : Nat} (he : e < 8) (hs : s < 4) (hT : T (4 * e + s) = none) : ∀ (P : List (Nat × Nat)) (c : Nat) (U : SlT) (x : Nat × Int), Chain T c P e → (∀ p ∈ P, p.1 < 8) → (P.map Prod.fst ++ [e]).Nodup →
    (∀ b ∈ P.map Prod.fst ++ [e], ∀ k, k < 4 → U (4 * b + k) = T (4 * b + k)) → ((slL (shiftT U (some x) (P ++ [(e, s)])).1).map keyS).Perm (keyS (c, x.1, x.2) :: (slL U).map keyS)
  | [], c, U, x, h, _, _, hU => by
    have h : c = e := h
    subst h
    have hq : 4 * c + s < 32 := by omega
    have e4 : (4 * c + s) / 4 = c := by omega
    have h1 := put_key U hq x
    rw [hU c (by simp) s hs, hT, e4] at h1
    exact h1.symm
  | p :: P, c, U, x, h, h8, hn, hU => by
    obtain ⟨h1, h2, y, h3, h4⟩ := h
    subst h1
    have hp8 := h8 p (List.mem_cons_self ..)
    have hq : 4 * p.1 + p.2 < 32 := by omega
    have e4 : (4 * p.1 + p.2) / 4 = p.1 := by omega
    have hUp : U (4 * p.1 + p.2) = some y := (hU p.1 (by simp) p.2 h2).trans h3
    have hn' : p.1 ∉ P.map Prod.fst ++ [e] ∧ (P.map Prod.fst ++ [e]).Nodup := by
      have : (p.1 :: (P.map Prod.fst ++ [e])).Nodup := hn
      exact List.nodup_cons.1 this
    have ih := shift_perm T he hs hT P (othN p.1 y.1) (layT U (4 * p.1 + p.2) (some x)) y h4 (fun q hq => h8 q (List.mem_cons_of_mem _ hq)) hn'.2 (fun b hb k hk => by
      rw [putT_other (by
        intro hc
        have : b = p.1 := by omega
        exact hn'.1 (this ▸ hb))]
      exact hU b (List.mem_cons_of_mem _ hb) k hk)
    have h5 := put_key U hq x
    rw [hUp, e4] at h5
    simp only [Option.map_some, Option.toList_some, List.singleton_append] at h5
    have hk : keyS (othN p.1 y.1, y.1, y.2) = keyS (p.1, y.1, y.2) := by unfold keyS; simp only []; rw [keyN_oth _ hp8]
    rw [hk] at ih
    show ((slL (shiftT (layT U (4 * p.1 + p.2) (some x)) (U (4 * p.1 + p.2)) (P ++ [(e, s)])).1).map keyS).Perm _
    rw [hUp]
    exact ih.trans h5.symm
theorem shift_fits {T : SlT} {es : List EnT} (h : Fits T es) {s e c : Nat} (he : e < 8) (hs : s < 4) (hT : T (4 * e + s) = none) {P : List (Nat × Nat)} (hc : Chain T c P e) (h8 : ∀ p ∈ P, p.1 < 8) (hn : (P.map Prod.fst ++ [e]).Nodup) {x : Nat} {i : Int} (hk : keyN c (tagN x) = keyH x) :
    Fits (shiftT T (some (tagN x, i)) (P ++ [(e, s)])).1 (es ++ [(x, i)]) := by
  have h1 := shift_perm T he hs hT P c T (tagN x, i) hc h8 hn (fun _ _ _ _ => rfl)
  unfold Fits at *
  refine h1.trans ?_
  have e1 : keyS (c, tagN x, i) = keyE (x, i) := by unfold keyS keyE; simp only []; rw [hk]
  rw [show ((tagN x, i) : Nat × Int).1 = tagN x from rfl, show ((tagN x, i) : Nat × Int).2 = i from rfl, e1, List.map_append]
  exact (List.Perm.cons _ h).trans (List.perm_append_singleton _ _).symm

/-! ### Sets of buckets, as a number. -/
theorem mask_all : ∀ b0 b1 b2 b3 b4 b5 b6 b7 : Bool, ∃ S : Fin 256, bitN S.val 0 = b0.toNat ∧ bitN S.val 1 = b1.toNat ∧ bitN S.val 2 = b2.toNat ∧ bitN S.val 3 = b3.toNat ∧ bitN S.val 4 = b4.toNat ∧ bitN S.val 5 = b5.toNat ∧ bitN S.val 6 = b6.toNat ∧ bitN S.val 7 = b7.toNat := by
  intro b0 b1 b2 b3 b4 b5 b6 b7
  refine ⟨⟨b0.toNat + 2 * b1.toNat + 4 * b2.toNat + 8 * b3.toNat + 16 * b4.toNat + 32 * b5.toNat + 64 * b6.toNat + 128 * b7.toNat, ?_⟩, ?_⟩
  · cases b0 <;> cases b1 <;> cases b2 <;> cases b3 <;> cases b4 <;> cases b5 <;> cases b6 <;> cases b7 <;> decide
  · revert b0 b1 b2 b3 b4 b5 b6 b7
    decide +kernel
theorem mask_of (f : Nat → Bool) : ∃ S, S < 256 ∧ ∀ b, b < 8 → bitN S b = (f b).toNat := by
  obtain ⟨S, h0, h1, h2, h3, h4, h5, h6, h7⟩ := mask_all (f 0) (f 1) (f 2) (f 3) (f 4) (f 5) (f 6) (f 7)
  refine ⟨S.val, S.isLt, fun b hb => ?_⟩
  rcases (by omega : b = 0 ∨ b = 1 ∨ b = 2 ∨ b = 3 ∨ b = 4 ∨ b = 5 ∨ b = 6 ∨ b = 7) with rfl | rfl | rfl | rfl | rfl | rfl | rfl | rfl <;> assumption

/-! ### The buckets that are reached. -/
/-- A bucket and the way to it. -/
abbrev ReT := Nat × List (Nat × Nat)
def bks (L : List ReT) : List Nat := L.map Prod.fst
structure LineOk (T : SlT) (a b : Nat) (L : List ReT) : Prop where
  nodup : (bks L).Nodup
  lt : ∀ x ∈ L, x.1 < 8
  hasA : a ∈ bks L
  hasB : b ∈ bks L
  way : ∀ x ∈ L, ∃ c, (c = a ∨ c = b) ∧ Chain T c x.2 x.1 ∧ (x.2.map Prod.fst ++ [x.1]).Nodup ∧ ∀ p ∈ x.2, p.1 ∈ bks L
theorem LineOk.lt' {T : SlT} {a b : Nat} {L : List ReT} (h : LineOk T a b L) {c : Nat} (hc : c ∈ bks L) : c < 8 := by
  obtain ⟨x, hx, rfl⟩ := List.mem_map.1 hc
  exact h.lt x hx
theorem LineOk.start {T : SlT} {a b : Nat} (ha : a < 8) (hb : b < 8) (hab : a ≠ b) : LineOk T a b [(a, []), (b, [])] := by
  refine ⟨?_, ?_, by simp [bks], by simp [bks], ?_⟩
  · simp [bks, hab]
  · intro x hx
    simp only [List.mem_cons, List.not_mem_nil, or_false] at hx
    rcases hx with rfl | rfl
    · exact ha
    · exact hb
  · intro x hx
    simp only [List.mem_cons, List.not_mem_nil, or_false] at hx
    rcases hx with rfl | rfl
    · exact ⟨a, .inl rfl, rfl, by simp, by simp⟩
    · exact ⟨b, .inr rfl, rfl, by simp, by simp⟩
theorem nodup_le8 {l : List Nat} (hn : l.Nodup) (h8 : ∀ x ∈ l, x < 8) : l.length ≤ 8 := by
  have hp : l.Perm ((List.range 8).filter fun x => decide (x ∈ l)) := by
    rw [List.perm_ext_iff_of_nodup hn (List.Pairwise.filter _ List.nodup_range)]
    intro x
    rw [List.mem_filter, List.mem_range, decide_eq_true_eq]
    exact ⟨fun h => ⟨h8 x h, h⟩, fun h => h.2⟩
  rw [hp.length_eq]
  have := List.length_filter_le (fun x => decide (x ∈ l)) (List.range 8)
  rw [List.length_range] at this
  exact this
theorem LineOk.len {T : SlT} {a b : Nat} {L : List ReT} (h : LineOk T a b L) : L.length ≤ 8 := by
  have := nodup_le8 h.nodup (fun c hc => h.lt' hc)
  rw [bks, List.length_map] at this
  exact this
/-- One more bucket, reached by way of slot s of bucket i. -/
theorem LineOk.more {T : SlT} {a b : Nat} {L : List ReT} (h : LineOk T a b L) {i s : Nat} (hi : i < L.length) (hs : s < 4) {x : Nat × Int} (hT : T (4 * L[i].1 + s) = some x) (hnew : othN L[i].1 x.1 ∉ bks L) :
    LineOk T a b (L ++ [(othN L[i].1 x.1, L[i].2 ++ [(L[i].1, s)])]) := by
  have hm := List.getElem_mem hi
  have h8 := h.lt _ hm
  obtain ⟨c, hc, hch, hnd, hin⟩ := h.way _ hm
  have hb : ∀ L' : List ReT, ∀ c, c ∈ bks L → c ∈ bks (L ++ L') := fun L' c hc => by unfold bks at *; rw [List.map_append]; exact List.mem_append_left _ hc
  have hib : L[i].1 ∈ bks L := List.mem_map.2 ⟨_, hm, rfl⟩
  refine ⟨?_, ?_, hb _ _ h.hasA, hb _ _ h.hasB, ?_⟩
  · unfold bks at *
    rw [List.map_append, List.nodup_append]
    exact ⟨h.nodup, by simp, fun u hu v hv => by
      simp only [List.map_cons, List.map_nil, List.mem_singleton] at hv
      subst hv
      intro e
      exact hnew (e ▸ hu)⟩
  · intro y hy
    rcases List.mem_append.1 hy with hy | hy
    · exact h.lt y hy
    · rw [List.mem_singleton.1 hy]
      exact oth_lt _ h8
  · intro y hy
    rcases List.mem_append.1 hy with hy | hy
    · obtain ⟨c', h1, h2, h3, h4⟩ := h.way y hy
      exact ⟨c', h1, h2, h3, fun p hp => hb _ _ (h4 p hp)⟩
    · rw [List.mem_singleton.1 hy]
      refine ⟨c, hc, hch.snoc hs hT, ?_, fun p hp => ?_⟩
      · simp only [List.map_append, List.map_cons, List.map_nil]
        rw [List.nodup_append]
        refine ⟨hnd, by simp, fun u hu v hv => ?_⟩
        rw [List.mem_singleton.1 hv]
        intro e
        apply hnew
        rw [← e]
        rcases List.mem_append.1 hu with hu | hu
        · obtain ⟨p, hp, rfl⟩ := List.mem_map.1 hu
          exact hin p hp
        · rw [List.mem_singleton.1 hu]; exact hib
      · simp only [] at hp
        rcases List.mem_append.1 hp with hp | hp
        · exact hb _ _ (hin p hp)
        · rw [List.mem_singleton.1 hp]; exact hb _ _ hib
/-- What was looked at ahead of slot s of bucket i is full, and can move only to buckets that are reached. -/
def DoneT (T : SlT) (L : List ReT) (i s : Nat) : Prop := ∀ j, j ≤ i → ∀ (hj : j < L.length), ∀ k, k < 4 → (j < i ∨ k < s) → ∃ x, T (4 * L[j].1 + k) = some x ∧ othN L[j].1 x.1 ∈ bks L
theorem DoneT.zero (T : SlT) (L : List ReT) : DoneT T L 0 0 := fun j hj _ k _ h => by omega
theorem DoneT.next {T : SlT} {L : List ReT} {i : Nat} (h : DoneT T L i 4) : DoneT T L (i + 1) 0 := fun j hj hjl k hk hh => h j (by omega) hjl k hk (by omega)
theorem DoneT.step {T : SlT} {L : List ReT} {i s : Nat} (h : DoneT T L i s) (hi : i < L.length) {x : Nat × Int} (hT : T (4 * L[i].1 + s) = some x) (hin : othN L[i].1 x.1 ∈ bks L) : DoneT T L i (s + 1) := fun j hj hjl k hk hh => by
  by_cases hc : j < i ∨ k < s
  · exact h j hj hjl k hk hc
  · have h1 : j = i := by omega
    have h2 : k = s := by omega
    subst h1 h2
    exact ⟨x, hT, hin⟩
theorem DoneT.grow {T : SlT} {L : List ReT} {i s : Nat} (h : DoneT T L i s) (hi : i < L.length) (y : ReT) : DoneT T (L ++ [y]) i s := fun j hj hjl k hk hh => by
  have hjl' : j < L.length := by omega
  obtain ⟨x, h1, h2⟩ := h j hj hjl' k hk hh
  have e : (L ++ [y])[j] = L[j] := List.getElem_append_left hjl'
  refine ⟨x, by rw [e]; exact h1, ?_⟩
  rw [e]
  unfold bks at *
  rw [List.map_append]
  exact List.mem_append_left _ h2
/-- All looked at, no slot empty: one more finds no room. -/
theorem stuck {T : SlT} {es : List EnT} (hf : Fits T es) {x : Nat} {L : List ReT} (h : LineOk T (firstN x) (othN (firstN x) (tagN x)) L) (hd : DoneT T L L.length 0) : roomB (es.map Prod.fst ++ [x]) = false := by
  obtain ⟨S, hS, hbit⟩ := mask_of fun b => decide (b ∈ bks L)
  have hin : ∀ c, c ∈ bks L → bitN S c = 1 := fun c hc => by rw [hbit c (h.lt' hc), decide_eq_true hc]; rfl
  refine no_room hf hS ?_ ?_
  · unfold inS
    rw [hin _ h.hasA, hin _ h.hasB]
    rfl
  · intro q hq hb
    have hq8 : q / 4 < 8 := by omega
    rw [hbit _ hq8] at hb
    have hm : q / 4 ∈ bks L := by
      by_cases hc : q / 4 ∈ bks L
      · exact hc
      · rw [decide_eq_false hc] at hb; cases hb
    obtain ⟨y, hy, hye⟩ := List.mem_map.1 hm
    obtain ⟨j, hj, rfl⟩ := List.mem_iff_getElem.1 hy
    obtain ⟨z, h1, h2⟩ := hd j (Nat.le_of_lt hj) hj (q % 4) (Nat.mod_lt _ (by omega)) (.inl hj)
    rw [hye] at h1 h2
    rw [show 4 * (q / 4) + q % 4 = q by omega] at h1
    exact ⟨z, h1, hin _ h2⟩

end Go.Proofs.YtggokffdgjedgaaGreat
