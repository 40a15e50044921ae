/-
  The contracts of store's takeOne, takeList.
  The contract of store's takeList.
  The contract of store's place.
  Puts as Apply gets them, what stands of a name last, the contract of store's split.
  The contract of strings.Clone.
  As XDrawI's wp_region_inv2, with an invariant that sees the slots too.
  A region whose order is open, but whose operations that change memory wait for one another, one by one (a chain: calls, appends, stores): all others only read, and what they yield is known ahead. The chain's values are a list; the condition C speaks of the values that there are so far.
-/
import Derived.Test.YtnalokjnbccjnaaGreatDoorM08
import Derived.Test.YtnalokjnbccjnaaGreatDoorM04
import Derived.Deep.MidRow
import Derived.Test.YtnalokjnbccjnaaGreatDoorM07
import Derived.Maps.OwnSet
import Derived.Maps.OwnOps
import Derived.Test.YtnalokjnbccjnaaGreatDoorM02
import Derived.Lib.UnsafeStr
import Derived.Lib.BufferWrite
import Derived.Test.YtnalokjnbccjnaaGreatDoorM06
namespace Go.Proofs.YtnalokjnbccjnaaGreatDoor
open Go.RowKit

/-- The sector that takeOne takes. -/
def nextI (n : Nat) (U : List Nat) : Option Nat :=
  match fitF (gL n U) (n - 12 + 12) 1 with
  | some x => some x.1
  | none => match (spS (gF n U) (2 + (n - 14))).getLast? with
    | some x => some (x.1 + x.2 - 1)
    | none => none
section
variable {w : World} {B rf rl n : Nat} {vf vl : Value} {U : List Nat}
theorem RO.base (h : RO w B rf rl n vf vl U) : B ≤ w.heap.size := Nat.le_trans h.f.low (Nat.le_of_lt h.f.lt)
theorem fit1_none {G : Nat → Bool} {M : Nat} (hout : ∀ k, M ≤ k → G k = false) (h : fitF G M 1 = none) (k : Nat) : G k = false := by
  have := fit_none (by omega) hout h k
  cases hG : G k with
  | false => rfl
  | true => exact absurd (fun j j1 j2 => (show j = k by omega) ▸ hG) this

set_option maxHeartbeats 4000000 in
set_option maxRecDepth 100000 in
theorem takeone_c (h : RO w B rf rl n vf vl U) :
    Calls Tryz.prog 89 #[.agg #[.pointer (some ⟨rf, 0, none⟩), .pointer (some ⟨rl, 0, none⟩)]] w fun e w' => Below B w w' ∧ TF 4 w w' ∧
      ((∃ i : Nat, nextI n U = some i ∧ e = .returned (.tuple #[.int .i64 (i : Int), .bool true]) ∧ 2 ≤ i ∧ i < n ∧ i ∉ U ∧ RO w' B rf rl n vf vl (U ++ [i])) ∨
       (nextI n U = none ∧ e = .returned (.tuple #[.int .i64 0, .bool false]) ∧ (∀ i, 2 ≤ i → i < n → i ∈ U) ∧ RO w' B rf rl n vf vl U)) := by
  have hn0 := h.n0
  have hn1 := h.n1
  have hbx := newB w (.cells #[.pointer (some ⟨rf, 0, none⟩), .pointer (some ⟨rl, 0, none⟩)] 92)
  have hk := heap_alloc_new w (.cells #[.pointer (some ⟨rf, 0, none⟩), .pointer (some ⟨rl, 0, none⟩)] 92)
  have hx := h.below hbx
  obtain ⟨z0, z1⟩ := cell_of2 hk
  have HBX := Go.Lib.hid hbx
  have HK := Go.Lib.hid hk
  have HX := Go.Lib.hid hx
  have HB := Go.Lib.hid h.base
  clear h hbx hk
  cases hf : fitF (gL n U) (n - 12 + 12) 1 with
  | some x =>
    obtain ⟨hall, -, hle, -⟩ := fit_some (by omega) (fun k hk => hx.l.out k (.inr hk)) hf
    have hG := gL_iff.1 (hall x.1 (Nat.le_refl _) (by omega))
    have C := Go.Lib.hid (take_q hx.l 1 1 (x.1 : Int) x _ rfl rfl (by omega) hf (gL_one n U x.1))
    have hfar := Go.Lib.hid (gF_far n U [x.1] (fun j hj => by obtain rfl := List.mem_singleton.1 hj; right; omega))
    have HG := Go.Lib.hid hG
    have HNX := Go.Lib.hid (show nextI n U = some x.1 from by unfold nextI; rw [hf])
    clear hx hf hall hle hG
    generalize x.1 = i at *
    go_enter Tryz.func89, Tryz.ntmps89
    go_wp2_with fail
    refine C.out.mono ?_
    rintro e w1 ⟨rfl, hr, hg⟩
    have HR := Go.Lib.hid (HX.out.toL hg hr hfar.out)
    have HBL := Go.Lib.hid (HX.out.belL hg (Nat.le_trans HB.out HBX.out.size))
    have HTF := Go.Lib.hid (HX.out.tfL hg)
    clear hr hg
    have HN := Go.Lib.hid (newB w1 (.cells #[.int .i64 (i : Int), .int .i64 1] 96))
    go_wp2_with fail
    go_ret2
    refine ⟨(HBX.out.mono HB.out).trans (HBL.out.trans (HN.out.mono (Nat.le_trans (Nat.le_trans HB.out HBX.out.size) HBL.out.size))), ((TF.of_below HBX.out).trans HTF.out).trans (TF.of_below HN.out), .inl ⟨i, HNX.out, rfl, by have := HG.out; omega, HG.out.2.1, HG.out.2.2, HR.out.below HN.out⟩⟩
  | none =>
    have hnoL := fit1_none (fun k hk => hx.l.out k (.inr hk)) hf
    have C := Go.Lib.hid (takeno_q hx.l 1 1 rfl (by omega) hf)
    have hno : ∀ i, n - 12 ≤ i → i < n → i ∈ U := fun i h1 h2 => by
      by_cases hm : i ∈ U
      · exact hm
      · exact absurd (gL_iff.2 ⟨h1, h2, hm⟩) (by rw [hnoL i]; simp)
    obtain ⟨l, hl⟩ : ∃ l, spS (gF n U) (2 + (n - 14)) = l := ⟨_, rfl⟩
    have hrows := spS_rows (gF n U) (2 + (n - 14))
    have hlen := spS_len (gF n U) (2 + (n - 14))
    rw [hl] at hrows hlen
    have HNX := Go.Lib.hid (show nextI n U = (match l.getLast? with | some x => some (x.1 + x.2 - 1) | none => none) from by unfold nextI; rw [hf, hl])
    have HNO := Go.Lib.hid hno
    have HROWS := Go.Lib.hid hrows
    have HL := Go.Lib.hid hl
    have HLEN := Go.Lib.hid hlen
    clear hx hf hnoL hno hrows hl hlen
    go_enter Tryz.func89, Tryz.ntmps89
    go_wp2_with fail
    refine C.out.mono ?_
    rintro e w1 ⟨rfl, hb1⟩
    have hn2 := newB w1 (.cells #[.int .i64 0, .int .i64 0] 96)
    have hb2 := below_to hb1 (Nat.le_refl _) hn2
    have HX2 := Go.Lib.hid (HX.out.below hb2)
    have k2 := (hb2.block _ (Array.getElem?_eq_some_iff.1 HK.out).1).trans HK.out
    obtain ⟨y0, y1⟩ := cell_of2 k2
    have HK2 := Go.Lib.hid k2
    have HB2 := Go.Lib.hid (below_to HBX.out (Nat.le_refl _) hb2)
    have C2 := Go.Lib.hid (spans_q HX2.out.f l HL.out)
    clear hb1 hn2 hb2 z0 z1 k2
    go_wp2_with fail
    refine C2.out.mono ?_
    rintro e w3 ⟨a3, c3, rfl, hown, hb3⟩
    have HX3 := Go.Lib.hid (HX2.out.below hb3)
    have k3 := (hb3.block _ (Array.getElem?_eq_some_iff.1 HK2.out).1).trans HK2.out
    have HB3 := Go.Lib.hid (below_to HB2.out (Nat.le_refl _) hb3)
    by_cases h0 : l.length = 0
    · obtain rfl := List.eq_nil_of_length_eq_zero h0
      clear y0 y1 hown hb3 k3
      go_wp2_with fail
      go_ret2
      refine ⟨HB3.out.mono HB.out, TF.of_below HB3.out, .inr ⟨HNX.out, rfl, fun i h1 h2 => ?_, HX3.out⟩⟩
      by_cases h3 : n - 12 ≤ i
      · exact HNO.out i h3 h2
      · by_cases hm : i ∈ U
        · exact hm
        · obtain ⟨x, hx, -⟩ := HROWS.out.all i (by omega) (gF_iff.2 ⟨h1, by omega, hm⟩)
          exact absurd hx (by simp)
    · obtain ⟨g, rfl, -, x0, x1, -, hgl⟩ := hown.at (l.length - 1) (by omega)
      have hx := HROWS.out.each l[l.length - 1] (List.getElem_mem (by omega))
      have hgl2 : l.getLast? = some l[l.length - 1] := by rw [List.getLast?_eq_getElem?, List.getElem?_eq_getElem]
      have hnx := HNX.out
      rw [hgl2] at hnx
      replace hnx : nextI n U = some (l[l.length - 1].1 + l[l.length - 1].2 - 1) := hnx
      clear hgl2
      obtain ⟨x, hxe⟩ : ∃ x, x = l[l.length - 1]'(by omega) := ⟨_, rfl⟩
      rw [← hxe] at x0 x1 hx hnx
      clear hxe
      obtain ⟨q, hq⟩ : ∃ q, q = l.length - 1 := ⟨_, rfl⟩
      rw [← hq] at x0 x1
      have hall := hx.2.2.1 (x.1 + x.2 - 1) (by omega) (by omega)
      have hG := gF_iff.1 hall
      obtain ⟨i, hi⟩ : ∃ i, i = x.1 + x.2 - 1 := ⟨_, rfl⟩
      rw [← hi] at hall hG hnx
      have HNX2 := Go.Lib.hid hnx
      have CU := Go.Lib.hid fun (W : World) (hW : RO W B rf rl n vf vl U) => use_q hW.f i 1 (i : Int) 1 _ rfl rfl (by omega) (fun j j1 j2 => (show j = i by omega) ▸ hall) (gF_one n U i)
      have hfar := Go.Lib.hid (gL_far n U [i] (fun j hj => by obtain rfl := List.mem_singleton.1 hj; left; omega))
      have HG := Go.Lib.hid hG
      have hln := HLEN.out
      have e1 : IntKind.i64.wrap ((l.length : Int) - 1) = (q : Int) := by rw [IntKind.wrap_i64]; omega
      have e2 : IntKind.i64.wrap ((x.1 : Int) + (x.2 : Int)) = (x.1 : Int) + (x.2 : Int) := by rw [IntKind.wrap_i64]; omega
      have e3 : IntKind.i64.wrap ((x.1 : Int) + (x.2 : Int) - 1) = (i : Int) := by rw [IntKind.wrap_i64]; omega
      have e4 : ¬ (l.length : Int) = 0 := by omega
      have e5 : (q : Int) < (l.length : Int) := by omega
      have hal := newB w3 (.cells #[.int .i64 (x.1 : Int), .int .i64 (x.2 : Int)] 96)
      obtain ⟨u0, u1⟩ := cell_of2 (heap_alloc_new w3 (.cells #[.int .i64 (x.1 : Int), .int .i64 (x.2 : Int)] 96))
      obtain ⟨v0, v1⟩ := cell_of2 ((hal.block _ (Array.getElem?_eq_some_iff.1 k3).1).trans k3)
      have HX4 := Go.Lib.hid (HX3.out.below hal)
      have HB4 := Go.Lib.hid (below_to HB3.out (Nat.le_refl _) hal)
      clear hown hb3 k3 hal hx hall hG hi hq hgl y0 y1 hln hnx
      go_wp2_with fail
      refine (CU.out _ HX4.out).mono ?_
      rintro e w5 ⟨rfl, hr5, hg5⟩
      have HR5 := Go.Lib.hid (HX4.out.toF hg5 hr5 hfar.out)
      have HB5 := Go.Lib.hid (HX4.out.belF hg5 (Nat.le_trans HB.out HB4.out.size))
      have HT5 := Go.Lib.hid (HX4.out.tfF hg5)
      clear hr5 hg5
      go_wp2_with fail
      go_ret2
      exact ⟨(HB4.out.mono HB.out).trans HB5.out, (TF.of_below HB4.out).trans HT5.out, .inl ⟨i, HNX2.out, rfl, HG.out.1, by have := HG.out; omega, HG.out.2.2, HR5.out⟩⟩
end

end Go.Proofs.YtnalokjnbccjnaaGreatDoor

namespace Go.Proofs.YtnalokjnbccjnaaGreatDoor
open Go.RowKit

/-- Sectors that were free, each once. -/
structure NewL (n : Nat) (U L : List Nat) : Prop where
  nodup : L.Nodup
  free : ∀ i ∈ L, 2 ≤ i ∧ i < n ∧ i ∉ U
theorem NewL.nil (n : Nat) (U : List Nat) : NewL n U [] := ⟨List.nodup_nil, fun i hi => absurd hi (by simp)⟩
theorem NewL.snoc {n i : Nat} {U L : List Nat} (h : NewL n U L) (h1 : 2 ≤ i) (h2 : i < n) (h3 : i ∉ U ++ L) : NewL n U (L ++ [i]) := by
  rw [List.mem_append] at h3
  refine ⟨?_, fun j hj => ?_⟩
  · rw [List.nodup_append]
    refine ⟨h.nodup, by simp, fun a ha b hb => ?_⟩
    obtain rfl := List.mem_singleton.1 hb
    rintro rfl
    exact h3 (.inr ha)
  · rcases List.mem_append.1 hj with hj | hj
    · exact h.free j hj
    · obtain rfl := List.mem_singleton.1 hj
      exact ⟨h1, h2, fun h4 => h3 (.inl h4)⟩

/-- What is told: all of them or none. -/
def wholeL (L : List Nat) (m : Nat) : List Nat := if L.length = m then L else []
theorem wholeL_yes {L : List Nat} {m : Nat} (h : L.length = m) : wholeL L m = L := if_pos h
theorem wholeL_no {L : List Nat} {m : Nat} (h : ¬ L.length = m) : wholeL L m = [] := if_neg h
/-- The sectors that takeList takes. -/
def takeL (n : Nat) (U : List Nat) : Nat → List Nat
  | 0 => []
  | k + 1 => match nextI n (U ++ takeL n U k) with
    | some i => takeL n U k ++ [i]
    | none => takeL n U k
theorem takeL_stop {n : Nat} {U : List Nat} {k : Nat} (h : nextI n (U ++ takeL n U k) = none) : ∀ j, takeL n U (k + j) = takeL n U k
  | 0 => rfl
  | j + 1 => by
    have ih := takeL_stop h j
    show (match nextI n (U ++ takeL n U (k + j)) with | some i => takeL n U (k + j) ++ [i] | none => takeL n U (k + j)) = _
    rw [ih, h]
theorem takeL_more {n : Nat} {U : List Nat} {k i : Nat} (h : nextI n (U ++ takeL n U k) = some i) : takeL n U (k + 1) = takeL n U k ++ [i] := by
  show (match nextI n (U ++ takeL n U k) with | some i => takeL n U k ++ [i] | none => takeL n U k) = _
  rw [h]
section
variable {w : World} {B rf rl n : Nat} {vf vl : Value} {U : List Nat}
set_option maxHeartbeats 4000000 in
set_option maxRecDepth 100000 in
theorem takelist_c (h : RO w B rf rl n vf vl U) (m : Nat) (hm : m ≤ 100000) :
    Calls Tryz.prog 59 #[.agg #[.pointer (some ⟨rf, 0, none⟩), .pointer (some ⟨rl, 0, none⟩)], .int .i64 (m : Int)] w fun e w' => Below B w w' ∧ TF 4 w w' ∧ NewL n U (takeL n U m) ∧ RO w' B rf rl n vf vl (U ++ takeL n U m) ∧
      ∃ v, e = .returned (.tuple #[v, .bool (decide ((takeL n U m).length = m))]) ∧ OwnV 3 w' w.heap.size v (zi .i64 (wholeL (takeL n U m) m)) ∧
       ((takeL n U m).length = m ∨ (takeL n U m).length < m ∧ (∀ i, 2 ≤ i → i < n → i ∈ U ++ takeL n U m)) := by
  have hbx := newB w (.cells #[.pointer (some ⟨rf, 0, none⟩), .pointer (some ⟨rl, 0, none⟩)] 92)
  have hk := heap_alloc_new w (.cells #[.pointer (some ⟨rf, 0, none⟩), .pointer (some ⟨rl, 0, none⟩)] 92)
  have HBX := Go.Lib.hid hbx
  have HK := Go.Lib.hid hk
  have HX := Go.Lib.hid (h.below hbx)
  have HB := Go.Lib.hid h.base
  clear h hbx hk
  go_enter Tryz.func59, Tryz.ntmps59
  go_wp2_with fail
  go_loopw [6, 10] (fun u c wr => ∃ (k : Nat) (v : Value) (L : List Nat), v = u ∧ k ≤ m ∧ c = .int .i64 (k : Int) ∧ L.length = k ∧ L = takeL n U k ∧ OwnV 3 wr w.heap.size v (zi .i64 L) ∧ NewL n U L ∧ RO wr B rf rl n vf vl (U ++ L) ∧ wr.heap[w.heap.size]? = some (.cells #[.pointer (some ⟨rf, 0, none⟩), .pointer (some ⟨rl, 0, none⟩)] 92) ∧ Below B w wr ∧ TF 4 w wr) (fun _ c _ => m - (intOf c).toNat)
  case atStart => exact ⟨0, _, [], rfl, by omega, rfl, rfl, rfl, OwnV.nil _ _ _, NewL.nil _ _, by rw [List.append_nil]; exact HX.out, HK.out, HBX.out.mono HB.out, TF.of_below HBX.out⟩
  case round =>
    obtain ⟨k, v, L, rfl, hk, rfl, hL, hLk, hown, hnew, hro, hbk, hbw, htf⟩ := hrel
    by_cases hlt : k < m
    · have C := Go.Lib.hid (takeone_c hro)
      have hkI : (k : Int) < (m : Int) := by omega
      obtain ⟨z0, z1⟩ := cell_of2 hbk
      have HN := Go.Lib.hid hnew
      have HRO := Go.Lib.hid hro
      have HBK := Go.Lib.hid hbk
      have HBW := Go.Lib.hid hbw
      have HTF := Go.Lib.hid htf
      have HO := Go.Lib.hid hown
      have HL := Go.Lib.hid hL
      have HLK := Go.Lib.hid hLk
      have HLT := Go.Lib.hid hlt
      clear hnew hro hbk hbw htf hown hL hlt hk hLk
      go_wp2_with fail
      refine C.out.mono ?_
      rintro e w1 ⟨hb1, ht1, ⟨i, hnx, rfl, i1, i2, i3, hr1⟩ | ⟨hnx, rfl, hfull, hr1⟩⟩
      · have hown1 := ht1.row HO.out (by decide)
        have hbw1 := HBW.out.trans hb1
        have htf1 := HTF.out.trans ht1
        have hbk1 := ht1.cells HBK.out (by decide)
        have hnew1 := HN.out.snoc i1 i2 i3
        have hal := newB w1 (.cells #[.int .i64 (i : Int)] 3)
        have hln : (zi .i64 L).length ≤ 100000 := by have := HL.out; have := HLT.out; rw [zi_length]; omega
        have hsw : w.heap.size ≤ w1.heap.size := htf1.size
        have hown3 := Go.Lib.hid (show OwnV 3 (w1.alloc (.cells #[.int .i64 (i : Int)] 3)) w.heap.size v (zi .i64 L) from World.ownsRow.alloc hown1 _)
        have hrv := Go.Lib.hid (RV.one w1 3 (.int .i64 (i : Int)))
        have hln1 := Go.Lib.hid (show ((zi .i64 L).length + [Value.int .i64 (i : Int)].length) * 8 ≤ 140737488355328 from by simp only [List.length_cons, List.length_nil]; omega)
        have hln2 := Go.Lib.hid (show (zi .i64 L).length + [Value.int .i64 (i : Int)].length ≤ 140737488355328 from by have := hln1.out; omega)
        have HSW := Go.Lib.hid (Nat.le_trans hsw hal.size)
        have HR3 := Go.Lib.hid (by have := hr1.below hal; rw [List.append_assoc] at this; exact this)
        have HB3 := Go.Lib.hid (hbw1.trans (hal.mono (Nat.le_trans HB.out hsw)))
        have HT3 := Go.Lib.hid (htf1.trans (TF.of_below hal))
        have HK3 := Go.Lib.hid ((hal.block _ (Array.getElem?_eq_some_iff.1 hbk1).1).trans hbk1)
        have HN3 := Go.Lib.hid hnew1
        have hsn := Go.Lib.hid (zi_snoc L i)
        have HNXT := Go.Lib.hid (show L ++ [i] = takeL n U (k + 1) from by have h := HLK.out; rw [h] at hnx ⊢; exact (takeL_more hnx).symm)
        clear hb1 ht1 hr1 hown1 hbw1 htf1 hbk1 hnew1 hal hln hsw i1 i2 i3 z0 z1 hnx
        go_wp2_with (first
          | (with_reducible show wpList _ _ _ (⟨some 22, _, _, _, _, _⟩ :: _) _ _; go_must (refine wpList_append_RV rfl (.tmp 19) (.tmp 21) 42 rfl w.heap.size 3 Tryz.underlying42 (.int .i64 0) 8 rfl infoInt v (.slice (some ⟨w1.heap.size, 0, none⟩) 1 1) (zi .i64 L) [.int .i64 (i : Int)] rfl rfl hown3.out hrv.out (one_int _) hln1.out hln2.out HSW.out ?_); intro v4 w4 hown4 hg4; have HG4 := Go.Lib.hid hg4; have HO4 := Go.Lib.hid hown4; clear hown4 hg4)
          | fail)
        have hro4 : RO w4 B rf rl n vf vl (U ++ (L ++ [i])) := ⟨HR3.out.f.keptRow hown3.out (by decide) (by decide) HG4.out, HR3.out.l.keptRow hown3.out (by decide) (by decide) HG4.out, HR3.out.ap, HR3.out.n0, HR3.out.n1⟩
        have hbk4 := (HG4.out.block _ (Array.getElem?_eq_some_iff.1 HK3.out).1 (own_ne hown3.out HK3.out (by decide))).trans HK3.out
        have hbel4 : Below w.heap.size (w1.alloc (.cells #[.int .i64 (i : Int)] 3)) w4 := grown_below HG4.out HSW.out hown3.out.row
        have hbw4 := HB3.out.trans (hbel4.mono HB.out)
        have htf4 : TF 4 w w4 := ⟨HG4.out.os.trans HT3.out.os, HG4.out.tape.trans HT3.out.tape, HG4.out.output.trans HT3.out.output, Nat.le_trans HT3.out.size HG4.out.size, fun k o hk hn => (hbel4.block k (Array.getElem?_eq_some_iff.1 hk).1).trans (HT3.out.block k o hk hn)⟩
        have HF := Go.Lib.hid (And.intro hro4 (And.intro hbk4 (And.intro hbw4 htf4)))
        clear hro4 hbk4 hbel4 hbw4 htf4
        go_roundw
        case rel => exact ⟨k + 1, _, L ++ [i], rfl, by have := HLT.out; omega, by go_num, by rw [List.length_append]; have := HL.out; simp; omega, HNXT.out, by rw [hsn.out]; exact HO4.out, HN3.out, HF.out.1, HF.out.2.1, HF.out.2.2.1, HF.out.2.2.2⟩
        case measure => simp only [intOf]; have := HLT.out; omega
      · have HF := Go.Lib.hid hfull
        have HR1 := Go.Lib.hid hr1
        have HB1 := Go.Lib.hid (HBW.out.trans hb1)
        have HT1 := Go.Lib.hid (HTF.out.trans ht1)
        have HST := Go.Lib.hid (show takeL n U m = L from by have h := HLK.out; have h2 := HLT.out; rw [h] at hnx ⊢; have := takeL_stop hnx (m - k); rwa [show k + (m - k) = m from by omega] at this)
        clear hfull hr1 hb1 ht1 z0 z1 hnx
        go_wp2_with fail
        go_ret2
        have hne : ¬ L.length = m := by have := HL.out; have := HLT.out; omega
        rw [HST.out, wholeL_no hne, decide_eq_false hne]
        exact ⟨HB1.out, HT1.out, HN.out, HR1.out, _, rfl, OwnV.nil _ _ _, .inr ⟨by have := HL.out; have := HLT.out; omega, HF.out⟩⟩
    · obtain rfl : k = m := by omega
      have HO := Go.Lib.hid hown
      have HF := Go.Lib.hid (And.intro hnew (And.intro hro (And.intro hbw htf)))
      have HL := Go.Lib.hid hL
      have HLK := Go.Lib.hid hLk
      clear hnew hro hbk hbw htf hown hL hLk
      go_wp2_with fail
      go_ret2
      rw [← HLK.out, wholeL_yes HL.out, decide_eq_true HL.out]
      exact ⟨HF.out.2.2.1, HF.out.2.2.2, HF.out.1, HF.out.2.1, _, rfl, HO.out, .inl HL.out⟩
end

end Go.Proofs.YtnalokjnbccjnaaGreatDoor

namespace Go.Proofs.YtnalokjnbccjnaaGreatDoor
open Go.RowKit

def stripF (x : FreshT) : ByteArray × Int × (Option Addr × Nat × Nat) := (x.1.1, x.1.2.1, x.2)
def spanFr (x : FreshT) : List Nat := spanE x.1
def setSpan (x : FreshT) (a m : Int) : FreshT := ((x.1.1, x.1.2.1, a, m), x.2)
theorem strip_set (x : FreshT) (a m : Int) : stripF (setSpan x a m) = stripF x := rfl
theorem flat_set2 : ∀ (l : List FreshT) (k : Nat) (hk : k < l.length) (a m : Int), ((l.flatMap efr).set (k * 5 + 2) (.int .i64 a)).set (k * 5 + 3) (.int .i64 m) = (l.set k (setSpan l[k] a m)).flatMap efr
  | [], k, hk, _, _ => absurd hk (by simp)
  | x :: l, 0, _, a, m => rfl
  | x :: l, k + 1, hk, a, m => by
    have ih := flat_set2 l k (by simpa using hk) a m
    rw [List.flatMap_cons, List.set_append_right _ _ (by rw [efr_len]; omega), List.set_append_right _ _ (by rw [efr_len]; omega), efr_len, show (k + 1) * 5 + 2 - 5 = k * 5 + 2 from by omega, show (k + 1) * 5 + 3 - 5 = k * 5 + 3 from by omega, ih]
    rfl
/-- All of l stand somewhere. -/
structure Pl (n : Nat) (U : List Nat) (l : List FreshT) : Prop where
  each : ∀ x ∈ l, (x.1.2.1 = 0 ∧ x.1.2.2 = (0, 0)) ∨ (0 < x.1.2.1 ∧ ∃ a : Nat, x.1.2.2 = ((a : Int), (secs x.1.2.1.toNat : Int)) ∧ 2 ≤ a ∧ a + secs x.1.2.1.toNat ≤ n - 12)
  nodup : (l.flatMap spanFr).Nodup
  apart : ∀ k ∈ l.flatMap spanFr, k ∉ U
theorem Pl.nil (n : Nat) (U : List Nat) : Pl n U [] := ⟨fun x hx => absurd hx (by simp), List.nodup_nil, fun k hk => absurd hk (by simp)⟩
theorem Pl.zero {n : Nat} {U : List Nat} {l : List FreshT} {x : FreshT} (h : Pl n U l) (h1 : x.1.2.1 = 0) (h2 : x.1.2.2 = (0, 0)) : Pl n U (l ++ [x]) ∧ (l ++ [x]).flatMap spanFr = l.flatMap spanFr := by
  have e : (l ++ [x]).flatMap spanFr = l.flatMap spanFr := by
    rw [List.flatMap_append]
    have : spanFr x = [] := spanE_nil (by rw [h2]; exact Int.le_refl _)
    simp [this]
  refine ⟨⟨fun y hy => ?_, by rw [e]; exact h.nodup, by rw [e]; exact h.apart⟩, e⟩
  rcases List.mem_append.1 hy with hy | hy
  · exact h.each y hy
  · obtain rfl := List.mem_singleton.1 hy
    exact .inl ⟨h1, h2⟩
theorem Pl.snoc {n a : Nat} {U : List Nat} {l : List FreshT} {x : FreshT} (h : Pl n U l) (h0 : 0 < x.1.2.1) (h2 : x.1.2.2 = ((a : Int), (secs x.1.2.1.toNat : Int))) (hf : fitsF n (U ++ l.flatMap spanFr) a (secs x.1.2.1.toNat)) : Pl n U (l ++ [x]) ∧ (l ++ [x]).flatMap spanFr = l.flatMap spanFr ++ rowL a (secs x.1.2.1.toNat) := by
  have hx : spanFr x = rowL a (secs x.1.2.1.toNat) := by unfold spanFr spanE; rw [h2]; rfl
  have e : (l ++ [x]).flatMap spanFr = l.flatMap spanFr ++ rowL a (secs x.1.2.1.toNat) := by
    rw [List.flatMap_append, List.flatMap_cons, List.flatMap_nil, List.append_nil, hx]
  obtain ⟨f1, f2, f3⟩ := hf
  refine ⟨⟨fun y hy => ?_, ?_, ?_⟩, e⟩
  · rcases List.mem_append.1 hy with hy | hy
    · exact h.each y hy
    · obtain rfl := List.mem_singleton.1 hy
      exact .inr ⟨h0, a, h2, f1, f2⟩
  · rw [e, List.nodup_append]
    refine ⟨h.nodup, rowL_nodup _ _, fun i hi j hj hij => ?_⟩
    subst hij
    exact f3 i hj (List.mem_append_right _ hi)
  · rw [e]
    intro k hk hU
    rcases List.mem_append.1 hk with hk | hk
    · exact h.apart k hk hU
    · exact f3 k hk (List.mem_append_left _ hU)

/-- Of the blocks that there were only those of types t and u may be turned. -/
structure TF2 (t u : TypeId) (w w' : World) : Prop where
  os : w'.os = w.os
  tape : w'.tape = w.tape
  output : w'.output = w.output
  size : w.heap.size ≤ w'.heap.size
  block : ∀ (k : Nat) (o : Obj), w.heap[k]? = some o → (∀ cs fr, o ≠ Obj.cells cs t fr) → (∀ cs fr, o ≠ Obj.cells cs u fr) → w'.heap[k]? = some o
theorem TF2.trans {t u : TypeId} {w w' w'' : World} (h : TF2 t u w w') (k : TF2 t u w' w'') : TF2 t u w w'' := ⟨k.os.trans h.os, k.tape.trans h.tape, k.output.trans h.output, Nat.le_trans h.size k.size, fun i o hi h1 h2 => k.block i o (h.block i o hi h1 h2) h1 h2⟩
theorem TF.left {t u : TypeId} {w w' : World} (h : TF t w w') : TF2 t u w w' := ⟨h.os, h.tape, h.output, h.size, fun i o hi h1 _ => h.block i o hi h1⟩
theorem TF.right {t u : TypeId} {w w' : World} (h : TF u w w') : TF2 t u w w' := ⟨h.os, h.tape, h.output, h.size, fun i o hi _ h2 => h.block i o hi h2⟩
theorem TF2.cells {t u e : TypeId} {w w' : World} {k : Nat} {cs : Array Value} {fr : Nat × Nat} (h : TF2 t u w w') (hk : w.heap[k]? = some (.cells cs e fr)) (h1 : e ≠ t) (h2 : e ≠ u) : w'.heap[k]? = some (.cells cs e fr) := h.block k _ hk (fun _ _ e2 => h1 (by cases e2; rfl)) (fun _ _ e2 => h2 (by cases e2; rfl))
theorem TF2.row {t u e : TypeId} {w w' : World} {B s m : Nat} {v : Value} {xs : List Value} (h : TF2 t u w w') (hr : w.ownsRow B e s v m xs) (h1 : e ≠ t) (h2 : e ≠ u) : w'.ownsRow B e s v m xs := row_keep hr fun _ _ _ _ hk => (h.cells hk h1 h2).trans hk.symm

/-- What stands while a file is given its sectors. -/
structure TP (w0 wP : World) (Bv rf rl n : Nat) (vf vl : Value) (U V : List Nat) (v : Value) (cur : List FreshT) (k : Nat) (P M : Int) (bx : Nat) (d8 d15 : Bool) (w : World) : Prop where
  ro : RO w w0.heap.size rf rl n vf vl (if d8 = true then U ++ V else U)
  gr : w0.grownBy w v.ownBlock
  bx : w.heap[bx]? = some (.cells #[.pointer (some ⟨rf, 0, none⟩), .pointer (some ⟨rl, 0, none⟩)] 92)
  row : w.ownsRow Bv 111 5 v cur.length (if d15 = true then ((cur.flatMap efr).set (k * 5 + 2) (.int .i64 P)).set (k * 5 + 3) (.int .i64 M) else cur.flatMap efr)
  tf : TF2 4 111 wP w
section
variable {w0 wP W W' : World} {Bv rf rl n : Nat} {vf vl v : Value} {U V : List Nat} {cur : List FreshT} {k bx : Nat} {P M : Int} {d8 d15 : Bool} {done : Nat → Bool}
theorem TP.drew (h : TP w0 wP Bv rf rl n vf vl U V v cur k P M bx d8 d15 W) : TP w0 wP Bv rf rl n vf vl U V v cur k P M bx d8 d15 W.drew := ⟨h.ro.below ⟨rfl, rfl, rfl, Nat.le_refl _, fun _ _ => rfl⟩, ⟨h.gr.os, h.gr.tape, h.gr.output, h.gr.size, h.gr.block⟩, h.bx, World.ownsRow.drew h.row, ⟨h.tf.os, h.tf.tape, h.tf.output, h.tf.size, h.tf.block⟩⟩
theorem TP.keep (h : TP w0 wP Bv rf rl n vf vl U V v cur k P M bx (done 8) (done 15) W) (i : Nat) (h8 : 8 ≠ i) (h15 : 15 ≠ i) : TP w0 wP Bv rf rl n vf vl U V v cur k P M bx (doneToo done i 8) (doneToo done i 15) W := by
  rw [doneToo_other h8, doneToo_other h15]
  exact h
theorem TP.used (h : TP w0 wP Bv rf rl n vf vl U V v cur k P M bx (done 8) (done 15) W) (hr : RO W' w0.heap.size rf rl n vf vl (U ++ V)) (hg : W.grownBy W' vf.ownBlock) (ht : TF 4 W W') (hvf : ∀ k, vf.ownBlock = some k → w0.heap.size ≤ k) : TP w0 wP Bv rf rl n vf vl U V v cur k P M bx (doneToo done 8 8) (doneToo done 8 15) W' := by
  rw [doneToo_self, doneToo_other (by decide)]
  exact ⟨hr, ⟨hg.os.trans h.gr.os, hg.tape.trans h.gr.tape, hg.output.trans h.gr.output, Nat.le_trans h.gr.size hg.size, fun j hj hne => (hg.block j (Nat.lt_of_lt_of_le hj h.gr.size) (fun e => by have := hvf j e.symm; omega)).trans (h.gr.block j hj hne)⟩, ht.cells h.bx (by decide), ht.row h.row (by decide), h.tf.trans ht.left⟩
theorem RO.keptRow {e : TypeId} {B B' s m n' : Nat} {u : Value} {xs : List Value} (h : RO W B rf rl n' vf vl U) (hu : W.ownsRow B' e s u m xs) (h1 : e ≠ 4) (h2 : e ≠ 133) (hg : W.grownBy W' u.ownBlock) : RO W' B rf rl n' vf vl U :=
  ⟨h.f.keptRow hu h1 h2 hg, h.l.keptRow hu h1 h2 hg, h.ap, h.n0, h.n1⟩
theorem TP.stored {g c nn : Nat} (h : TP w0 wP Bv rf rl n vf vl U V (.slice (some ⟨g, 0, none⟩) nn c) cur k P M bx (done 8) (done 15) W) (hnn : cur.length = nn) (hn : done 15 = false) : TP w0 wP Bv rf rl n vf vl U V (.slice (some ⟨g, 0, none⟩) nn c) cur k P M bx (doneToo done 15 8) (doneToo done 15 15) (W.setCells g (k * 5 + 2) [.int .i64 P, .int .i64 M]) := by
  subst hnn
  rw [doneToo_self, doneToo_other (by decide)]
  have hr := h.row
  rw [hn, if_neg (by decide)] at hr
  obtain ⟨r1, g1⟩ := World.ownsRow.stored hr (k * 5 + 2) (.int .i64 P)
  obtain ⟨r2, g2⟩ := World.ownsRow.stored r1 (k * 5 + 3) (.int .i64 M)
  have hg := grow_trans g1 g2
  have hbx := (hg.block bx (Array.getElem?_eq_some_iff.1 h.bx).1 (own_ne hr h.bx (by decide))).trans h.bx
  exact ⟨h.ro.keptRow hr (by decide) (by decide) hg, grow_set (grow_set h.gr _ _) _ _, hbx, r2, h.tf.trans (TF.of_grown hr hg).right⟩
end
def VP (g _bx k rf rl : Nat) (P M En S : Int) (r : Bool) : Nat → World → Value → Prop
  | 25, _, v => v = .pointer (some ⟨g, k * 5, none⟩)
  | 26, _, v => v = .agg #[.pointer (some ⟨rf, 0, none⟩), .pointer (some ⟨rl, 0, none⟩)]
  | 27, _, v => v = .pointer (some ⟨g, k * 5, none⟩)
  | 28, _, v => v = .pointer (some ⟨g, k * 5, none⟩)
  | 29, _, v => v = .pointer (some ⟨g, k * 5, none⟩)
  | 30, _, v => v = .pointer (some ⟨g, k * 5 + 1, none⟩)
  | 31, _, v => v = .int .i64 En
  | 32, _, v => v = .int .i64 S
  | 33, _, v => v = .tuple #[spanV P M, .bool r]
  | 24, _, v => v = .tuple #[spanV P M, .bool r]
  | 34, _, v => v = spanV P M
  | 35, _, v => v = .bool r
  | 36, _, v => v = .pointer (some ⟨g, k * 5, none⟩)
  | 37, _, v => v = .pointer (some ⟨g, k * 5, none⟩)
  | 38, _, v => v = .pointer (some ⟨g, k * 5 + 2, none⟩)
  | 7, _, v => v = .bool r
  | _, _, _ => True
theorem VP_any (g bx k rf rl : Nat) (P M En S : Int) (r : Bool) : ∀ (i : Nat) (w w' : World) (v : Value), VP g bx k rf rl P M En S r i w v → VP g bx k rf rl P M En S r i w' v := by
  intro i w w' v h
  unfold VP at h ⊢
  split at h <;> first | exact h | trivial

/-- What holds when k files have their sectors. -/
structure PK (w0 wP : World) (Bv rf rl n : Nat) (vf vl : Value) (U : List Nat) (v : Value) (lp : List FreshT) (bx : Nat) (k : Nat) (cur : List FreshT) (w : World) : Prop where
  len : cur.length = lp.length
  pl : Pl n U (cur.take k)
  drop : cur.drop k = lp.drop k
  same : (cur.take k).map stripF = (lp.take k).map stripF
  ro : RO w w0.heap.size rf rl n vf vl (U ++ (cur.take k).flatMap spanFr)
  row : OwnFr w Bv v cur
  bx : w.heap[bx]? = some (.cells #[.pointer (some ⟨rf, 0, none⟩), .pointer (some ⟨rl, 0, none⟩)] 92)
  gr : w0.grownBy w v.ownBlock
  tf : TF2 4 111 wP w

/-- A file that found no room. -/
def NoFit (n : Nat) (U : List Nat) (l : List FreshT) : Prop := ∃ (P : List FreshT) (x : FreshT), P.length < l.length ∧ (∀ y ∈ P, ∃ z ∈ l, stripF y = stripF z) ∧ Pl n U P ∧ x ∈ l ∧ 0 < x.1.2.1 ∧ ∀ a, ¬ fitsF n (U ++ P.flatMap spanFr) a (secs x.1.2.1.toNat)

section
variable {w w0 : World} {Bv rf rl n : Nat} {vf vl : Value} {U : List Nat}
theorem fresh_at {w : World} {B g c k : Nat} {l : List FreshT} (h : OwnFr w B (.slice (some ⟨g, 0, none⟩) l.length c) l) (hk : k < l.length) (j : Nat) (hj : j < 5) : w.cell? ⟨g, k * 5 + j, none⟩ = (efr l[k])[j]? ∧ w.frozen? ⟨g, k * 5 + j, none⟩ = false := by
  have h1 := flatk_at efr_len l k j hk hj
  rw [show (efr l[k])[j]? = some ((efr l[k])[j]'(by rw [efr_len]; exact hj)) from List.getElem?_eq_getElem _] at h1 ⊢
  have h2 := World.ownsRow.cells h (g := g) rfl (k * 5 + j) _ h1
  rw [Addr.add_mid, Nat.zero_add] at h2
  obtain ⟨cur, -, h3, -⟩ := row_open h
  exact ⟨h2, frozen_of_row w g _ _ _ h3⟩

set_option maxHeartbeats 4000000 in
set_option maxRecDepth 100000 in
theorem place_c (h : RO w w0.heap.size rf rl n vf vl U) (hg0 : Below w0.heap.size w0 w) (v : Value) (l : List FreshT) (hown : OwnFr w Bv v l) (hl : SrtF l) (hz : ∀ x ∈ l, 0 ≤ x.1.2.1 ∧ x.1.2.1 ≤ 65536 ∧ x.1.2.2 = (0, 0)) :
    Calls Tryz.prog 54 #[.agg #[.pointer (some ⟨rf, 0, none⟩), .pointer (some ⟨rl, 0, none⟩)], v] w fun e w' => w0.grownBy w' v.ownBlock ∧ TF2 4 111 w w' ∧
      ((e = .returned (.bool true) ∧ ∃ l', (l'.map stripF).Perm (l.map stripF) ∧ Pl n U l' ∧ OwnFr w' Bv v l' ∧ RO w' w0.heap.size rf rl n vf vl (U ++ l'.flatMap spanFr)) ∨
       (e = .returned (.bool false) ∧ NoFit n U l)) := by
  have hn0 := h.n0
  have hbx := newB w (.cells #[.pointer (some ⟨rf, 0, none⟩), .pointer (some ⟨rl, 0, none⟩)] 92)
  have hk := heap_alloc_new w (.cells #[.pointer (some ⟨rf, 0, none⟩), .pointer (some ⟨rl, 0, none⟩)] 92)
  have HX := Go.Lib.hid (h.below hbx)
  have HBX := Go.Lib.hid hbx
  have HK := Go.Lib.hid hk
  have HG := Go.Lib.hid (grow_trans (grow_below (hg0)) (grow_below hbx) : w0.grownBy _ v.ownBlock)
  have HOWN := Go.Lib.hid (show OwnFr (w.alloc (.cells #[.pointer (some ⟨rf, 0, none⟩), .pointer (some ⟨rl, 0, none⟩)] 92)) Bv v l from World.ownsRow.alloc hown _)
  have C := Go.Lib.hid (sortany_c _ Bv v l HOWN.out hl)
  replace hl := hl.len
  have HZ := Go.Lib.hid hz
  obtain ⟨p, c, rfl⟩ : ∃ p c, v = .slice p l.length c := by
    rcases fresh_form hown with ⟨rfl, p, c, rfl⟩ | ⟨g, c, rfl, -⟩
    · exact ⟨p, c, rfl⟩
    · exact ⟨_, c, rfl⟩
  clear h hbx hk hg0 hown hz
  go_enter Tryz.func54, Tryz.ntmps54
  go_wp2_with fail
  refine C.out.mono ?_
  rintro e w1 ⟨rfl, lp, hp, hrow, hg1⟩
  have hlen := hp.length_eq
  have HP := Go.Lib.hid hp
  have hPK0 : PK w0 w Bv rf rl n vf vl U (.slice p l.length c) lp w.heap.size 0 lp w1 := by
    refine ⟨rfl, Pl.nil _ _, rfl, rfl, ?_, hrow, ?_, grow_trans HG.out hg1, (TF.of_below HBX.out).left.trans (TF.of_grown HOWN.out hg1).right⟩
    · rw [List.take_zero, List.flatMap_nil, List.append_nil]
      exact HX.out.keptRow HOWN.out (by decide) (by decide) hg1
    · exact (hg1.block _ (Array.getElem?_eq_some_iff.1 HK.out).1 (own_ne HOWN.out HK.out (by decide))).trans HK.out
  have HPK0 := Go.Lib.hid hPK0
  clear hPK0 hrow hg1 hp
  go_wp2_with fail
  go_loopw [12] (fun i wr => ∃ (k : Nat) (cur : List FreshT), k ≤ l.length ∧ i = .int .i64 (k : Int) ∧ PK w0 w Bv rf rl n vf vl U (.slice p l.length c) lp w.heap.size k cur wr) (fun i _ => l.length - (intOf i).toNat)
  case atStart => exact ⟨0, lp, by omega, rfl, HPK0.out⟩
  case round =>
    obtain ⟨k, cur, hk, rfl, hpk⟩ := hrel
    have hcl : cur.length = l.length := hpk.len.trans hlen
    by_cases hlt : k < l.length
    · have hkc : k < cur.length := by omega
      have hkp : k < lp.length := by omega
      have hck : cur[k] = lp[k] := by
        have h1 := hpk.drop
        rw [List.drop_eq_getElem_cons hkc, List.drop_eq_getElem_cons hkp] at h1
        exact (List.cons.inj h1).1
      have hdr : cur.drop (k + 1) = lp.drop (k + 1) := by
        have h1 := hpk.drop
        rw [List.drop_eq_getElem_cons hkc, List.drop_eq_getElem_cons hkp] at h1
        exact (List.cons.inj h1).2
      have hzx := HZ.out lp[k] (HP.out.mem_iff.1 (List.getElem_mem hkp))
      obtain ⟨g, c', hv, hgl⟩ : ∃ g c', Value.slice p l.length c = .slice (some ⟨g, 0, none⟩) cur.length c' ∧ g < wr.heap.size := by
        rcases fresh_form hpk.row with ⟨h0, -⟩ | ⟨g, c', hv, hgl⟩
        · rw [h0] at hkc; simp at hkc
        · exact ⟨g, c', hv, hgl⟩
      simp only [Value.slice.injEq] at hv
      obtain ⟨rfl, -, rfl⟩ := hv
      have hrow := hpk.row
      rw [← hcl] at hrow
      have x1 := (fresh_at hrow hkc 1 (by omega)).1
      rw [hck] at x1
      have htk : cur.take (k + 1) = cur.take k ++ [lp[k]] := by rw [List.take_succ_eq_append_getElem hkc, hck]
      have htp : lp.take (k + 1) = lp.take k ++ [lp[k]] := List.take_succ_eq_append_getElem hkp
      have hmem : lp[k] ∈ l := HP.out.mem_iff.1 (List.getElem_mem hkp)
      have HPK := Go.Lib.hid hpk
      have HCK := Go.Lib.hid hck
      have HDR := Go.Lib.hid hdr
      have HTK := Go.Lib.hid htk
      have HTP := Go.Lib.hid htp
      have HM := Go.Lib.hid hmem
      have HROW := Go.Lib.hid hrow
      clear hpk hck hdr htk htp hmem hrow
      generalize lp[k] = x at *
      obtain ⟨⟨nm, en, ea, es⟩, sl⟩ := x
      simp only [efr, List.getElem?_cons_succ, List.getElem?_cons_zero] at x1 hzx
      obtain ⟨z0, z1, z2⟩ := hzx
      simp only [Prod.mk.injEq] at z2
      obtain ⟨rfl, rfl⟩ := z2
      by_cases h0 : en = 0
      · subst h0
        have hpz := HPK.out.pl.zero (x := ((nm, 0, 0, 0), sl)) rfl rfl
        have HPZ := Go.Lib.hid hpz
        clear hpz
        have hF : PK w0 w Bv rf rl n vf vl U (.slice (some ⟨g, 0, none⟩) l.length c) lp w.heap.size (k + 1) cur wr := by
          refine ⟨HPK.out.len, ?_, HDR.out, ?_, ?_, HPK.out.row, HPK.out.bx, HPK.out.gr, HPK.out.tf⟩
          · rw [HTK.out]; exact HPZ.out.1
          · rw [HTK.out, HTP.out, List.map_append, List.map_append, HPK.out.same]
          · rw [HTK.out, HPZ.out.2]; exact HPK.out.ro
        have HF := Go.Lib.hid hF
        clear hF
        go_wp2_with fail
        go_roundw
        case rel => exact ⟨k + 1, cur, by omega, by go_num, HF.out⟩
        case measure => simp only [intOf]; omega
      · obtain ⟨S, hS⟩ : ∃ S : Int, S = (secs en.toNat : Int) := ⟨_, rfl⟩
        have hS0 : 0 < secs en.toNat := by unfold secs; omega
        have hS1 : secs en.toNat ≤ 100000 := by unfold secs; omega
        obtain ⟨Uc, hUc⟩ : ∃ Uc, Uc = U ++ (cur.take k).flatMap spanFr := ⟨_, rfl⟩
        obtain ⟨P, hP⟩ : ∃ P : Int, P = ((tfA n Uc (secs en.toNat)).1 : Int) := ⟨_, rfl⟩
        obtain ⟨M, hM⟩ : ∃ M : Int, M = min ((tfA n Uc (secs en.toNat)).2 : Int) (secs en.toNat : Int) := ⟨_, rfl⟩
        obtain ⟨r, hr⟩ : ∃ r : Bool, r = decide ((tfA n Uc (secs en.toNat)).2 ≠ 0) := ⟨_, rfl⟩
        obtain ⟨V, hV⟩ : ∃ V, V = tfV n Uc (secs en.toNat) := ⟨_, rfl⟩
        have CS := Go.Lib.hid fun W => osectors_c en.toNat en W (by omega) (by omega)
        rw [← hS] at CS
        have CT := Go.Lib.hid fun (W : World) (hW : RO W w0.heap.size rf rl n vf vl Uc) => takefile_c hW (secs en.toNat) hS0 hS1
        rw [← hP, ← hM, ← hr, ← hV, ← hS] at CT
        have hro := HPK.out.ro
        rw [← hUc] at hro
        have HT0 := Go.Lib.hid (show TP w0 w Bv rf rl n vf vl Uc V (.slice (some ⟨g, 0, none⟩) l.length c) cur k P M w.heap.size false false wr from ⟨hro, HPK.out.gr, HPK.out.bx, HPK.out.row, HPK.out.tf⟩)
        have HEN := Go.Lib.hid (show 0 < en by omega)
        have HFACT := Go.Lib.hid (And.intro hS0 (And.intro hUc (And.intro hP (And.intro hM (And.intro hr (And.intro hV hS))))))
        have HCELL := Go.Lib.hid (show ∀ (W : World) (b : Bool), W.ownsRow Bv 111 5 (.slice (some ⟨g, 0, none⟩) l.length c) cur.length (if b = true then ((cur.flatMap efr).set (k * 5 + 2) (.int .i64 P)).set (k * 5 + 3) (.int .i64 M) else cur.flatMap efr) → W.cell? ⟨g, k * 5 + 1, none⟩ = some (.int .i64 en) from by
          intro W b hrow
          have h1 := flatk_at efr_len cur k 1 hkc (by omega)
          rw [HCK.out] at h1
          have h2 : (if b = true then ((cur.flatMap efr).set (k * 5 + 2) (.int .i64 P)).set (k * 5 + 3) (.int .i64 M) else cur.flatMap efr)[k * 5 + 1]? = some (.int .i64 en) := by
            cases b with
            | false => rw [if_neg (by decide), h1]; rfl
            | true => rw [if_pos rfl, List.getElem?_set_ne (by omega), List.getElem?_set_ne (by omega), h1]; rfl
          have h3 := World.ownsRow.cells hrow (g := g) rfl (k * 5 + 1) _ h2
          rw [Addr.add_mid, Nat.zero_add] at h3
          exact h3)
        have HTHERE := Go.Lib.hid (show ∀ (W : World) (b : Bool), W.ownsRow Bv 111 5 (.slice (some ⟨g, 0, none⟩) l.length c) cur.length (if b = true then ((cur.flatMap efr).set (k * 5 + 2) (.int .i64 P)).set (k * 5 + 3) (.int .i64 M) else cur.flatMap efr) → W.there g (k * 5 + 2) 2 from by
          intro W b hrow j hj
          obtain ⟨cu, -, h1, h2, -, h4, -, -⟩ := row_open hrow
          refine ⟨?_, frozen_of_row W g _ _ _ h1⟩
          rw [cell_of_row W g _ _ _ _ h1, Array.getElem?_eq_getElem (by rw [h4]; have := Nat.mul_le_mul_right 5 (Nat.le_trans (show k + 1 ≤ cur.length from hkc) h2); omega)]
          rfl)
        go_upto_region 8 with (fail)
        clear x1 hS0 hS1 hro hUc hP hM hr hV hS z0 z1 h0
        refine wp_region_inv (by kernel_rfl) (VP g w.heap.size k rf rl P M en S r) (fun done W => TP w0 w Bv rf rl n vf vl Uc V (.slice (some ⟨g, 0, none⟩) l.length c) cur k P M w.heap.size (done 8) (done 15) W) (by decide +kernel) (by decide +kernel) (by rfl) [25, 26, 27, 28, 29, 30, 31, 32, 33, 24, 34, 35, 36, 37, 38, 7] (by rfl) HT0.out.drew ?_ ?_
        · intro i o ho a w6 done hI hnot hr hlen hg
          match i, ho with
          | 0, ho =>
            obtain rfl := Option.some.inj ho
            have h6 := given_old hg 6 (by decide +kernel)
            clear hg
            exact st_yield ho (wanted_none rfl) (.pointer (some ⟨g, k * 5, none⟩)) w6 (by simp [execOp, Act.eval, h6, go_sem]) ⟨_, rfl, hI.keep 0 (by decide) (by decide), fun t u h => VP_any _ _ _ _ _ _ _ _ _ _ t _ _ u h, by rintro t' ⟨⟩; rfl⟩
          | 1, ho =>
            obtain rfl := Option.some.inj ho
            have h2 := given_old hg 2 (by decide +kernel)
            clear hg
            exact st_list ho (wanted_none rfl) fun Q' hQ => wpList_load_row rfl 92 (.tmp 2) rfl w.heap.size (by simp [Act.eval, h2]) 92 _ (0, 0) _ hI.bx Tryz.underlying92 rfl (by kernel_rfl) (wpList_nil (hQ _ _ ⟨_, rfl, hI.keep 1 (by decide) (by decide), fun t u h => VP_any _ _ _ _ _ _ _ _ _ _ t _ _ u h, by rintro t' ⟨⟩; rfl⟩))
          | 2, ho =>
            obtain rfl := Option.some.inj ho
            have h6 := given_old hg 6 (by decide +kernel)
            clear hg
            exact st_yield ho (wanted_none rfl) (.pointer (some ⟨g, k * 5, none⟩)) w6 (by simp [execOp, Act.eval, h6, go_sem]) ⟨_, rfl, hI.keep 2 (by decide) (by decide), fun t u h => VP_any _ _ _ _ _ _ _ _ _ _ t _ _ u h, by rintro t' ⟨⟩; rfl⟩
          | 3, ho =>
            obtain rfl := Option.some.inj ho
            obtain ⟨_, h27, rfl⟩ := given_fed hg 27 (by decide +kernel)
            clear hg
            exact st_yield ho (wanted_none rfl) (.pointer (some ⟨g, k * 5, none⟩)) w6 (by simp [execOp, Act.eval, h27, go_sem]) ⟨_, rfl, hI.keep 3 (by decide) (by decide), fun t u h => VP_any _ _ _ _ _ _ _ _ _ _ t _ _ u h, by rintro t' ⟨⟩; rfl⟩
          | 4, ho =>
            obtain rfl := Option.some.inj ho
            obtain ⟨_, h28, rfl⟩ := given_fed hg 28 (by decide +kernel)
            clear hg
            exact st_yield ho (wanted_none rfl) (.pointer (some ⟨g, k * 5, none⟩)) w6 (by simp [execOp, Act.eval, h28, go_sem]) ⟨_, rfl, hI.keep 4 (by decide) (by decide), fun t u h => VP_any _ _ _ _ _ _ _ _ _ _ t _ _ u h, by rintro t' ⟨⟩; rfl⟩
          | 5, ho =>
            obtain rfl := Option.some.inj ho
            obtain ⟨_, h29, rfl⟩ := given_fed hg 29 (by decide +kernel)
            clear hg
            exact st_yield ho (wanted_none rfl) (.pointer (some ⟨g, k * 5 + 1, none⟩)) w6 (by simp [execOp, Act.eval, h29, go_sem]) ⟨_, rfl, hI.keep 5 (by decide) (by decide), fun t u h => VP_any _ _ _ _ _ _ _ _ _ _ t _ _ u h, by rintro t' ⟨⟩; rfl⟩
          | 6, ho =>
            obtain rfl := Option.some.inj ho
            obtain ⟨_, h30, rfl⟩ := given_fed hg 30 (by decide +kernel)
            clear hg
            have hc : w6.cell? ⟨g, k * 5 + 1, none⟩ = some (.int .i64 en) := HCELL.out w6 _ hI.row
            exact st_yield ho (wanted_none rfl) (.int .i64 en) w6 (by simp [execOp, Act.eval, h30, hc, go_sem]) ⟨_, rfl, hI.keep 6 (by decide) (by decide), fun t u h => VP_any _ _ _ _ _ _ _ _ _ _ t _ _ u h, by rintro t' ⟨⟩; rfl⟩
          | 7, ho =>
            obtain rfl := Option.some.inj ho
            obtain ⟨_, h31, rfl⟩ := given_fed hg 31 (by decide +kernel)
            clear hg
            exact st_enter (w1 := w6) ho (wanted_none rfl) 60 #[.int .i64 en] (by simp [execOp, Act.eval, h31, resolve, go_sem]) ((CS.out w6).mono (by rintro e w7 ⟨rfl, rfl⟩; exact ⟨_, rfl, _, rfl, hI.keep 7 (by decide) (by decide), fun t u h => VP_any _ _ _ _ _ _ _ _ _ _ t _ _ u h, by rintro t' ⟨⟩; rfl⟩))
          | 8, ho =>
            obtain rfl := Option.some.inj ho
            obtain ⟨_, h26, rfl⟩ := given_fed hg 26 (by decide +kernel)
            obtain ⟨_, h32, rfl⟩ := given_fed hg 32 (by decide +kernel)
            clear hg
            have hro := hI.ro
            rw [hnot] at hro
            exact st_enter (w1 := w6) ho (wanted_none rfl) 83 #[.agg #[.pointer (some ⟨rf, 0, none⟩), .pointer (some ⟨rl, 0, none⟩)], .int .i64 S] (by simp [execOp, Act.eval, h26, h32, resolve, go_sem]) ((CT.out w6 hro).mono (by rintro e w7 ⟨hg7, ht7, rfl, hr7⟩; exact ⟨_, rfl, _, rfl, hI.used hr7 hg7 ht7 hro.f.row.row, fun t u h => VP_any _ _ _ _ _ _ _ _ _ _ t _ _ u h, by rintro t' ⟨⟩; rfl⟩))
          | 9, ho =>
            obtain rfl := Option.some.inj ho
            obtain ⟨_, h33, rfl⟩ := given_fed hg 33 (by decide +kernel)
            clear hg
            exact st_yield ho (wanted_none rfl) (.tuple #[spanV P M, .bool r]) w6 (by simp [execOp, Act.eval, h33, go_sem]) ⟨_, rfl, hI.keep 9 (by decide) (by decide), fun t u h => VP_any _ _ _ _ _ _ _ _ _ _ t _ _ u h, by rintro t' ⟨⟩; rfl⟩
          | 10, ho =>
            obtain rfl := Option.some.inj ho
            obtain ⟨_, h24, rfl⟩ := given_fed hg 24 (by decide +kernel)
            clear hg
            exact st_yield ho (wanted_none rfl) (spanV P M) w6 (by simp [execOp, Act.eval, h24, spanV, go_sem]) ⟨_, rfl, hI.keep 10 (by decide) (by decide), fun t u h => VP_any _ _ _ _ _ _ _ _ _ _ t _ _ u h, by rintro t' ⟨⟩; rfl⟩
          | 11, ho =>
            obtain rfl := Option.some.inj ho
            obtain ⟨_, h24, rfl⟩ := given_fed hg 24 (by decide +kernel)
            clear hg
            exact st_yield ho (wanted_none rfl) (.bool r) w6 (by simp [execOp, Act.eval, h24, spanV, go_sem]) ⟨_, rfl, hI.keep 11 (by decide) (by decide), fun t u h => VP_any _ _ _ _ _ _ _ _ _ _ t _ _ u h, by rintro t' ⟨⟩; rfl⟩
          | 12, ho =>
            obtain rfl := Option.some.inj ho
            obtain ⟨_, h25, rfl⟩ := given_fed hg 25 (by decide +kernel)
            clear hg
            exact st_yield ho (wanted_none rfl) (.pointer (some ⟨g, k * 5, none⟩)) w6 (by simp [execOp, Act.eval, h25, go_sem]) ⟨_, rfl, hI.keep 12 (by decide) (by decide), fun t u h => VP_any _ _ _ _ _ _ _ _ _ _ t _ _ u h, by rintro t' ⟨⟩; rfl⟩
          | 13, ho =>
            obtain rfl := Option.some.inj ho
            obtain ⟨_, h36, rfl⟩ := given_fed hg 36 (by decide +kernel)
            clear hg
            exact st_yield ho (wanted_none rfl) (.pointer (some ⟨g, k * 5, none⟩)) w6 (by simp [execOp, Act.eval, h36, go_sem]) ⟨_, rfl, hI.keep 13 (by decide) (by decide), fun t u h => VP_any _ _ _ _ _ _ _ _ _ _ t _ _ u h, by rintro t' ⟨⟩; rfl⟩
          | 14, ho =>
            obtain rfl := Option.some.inj ho
            obtain ⟨_, h37, rfl⟩ := given_fed hg 37 (by decide +kernel)
            clear hg
            exact st_yield ho (wanted_none rfl) (.pointer (some ⟨g, k * 5 + 2, none⟩)) w6 (by simp [execOp, Act.eval, h37, go_sem]) ⟨_, rfl, hI.keep 14 (by decide) (by decide), fun t u h => VP_any _ _ _ _ _ _ _ _ _ _ t _ _ u h, by rintro t' ⟨⟩; rfl⟩
          | 15, ho =>
            obtain rfl := Option.some.inj ho
            obtain ⟨_, h38, rfl⟩ := given_fed hg 38 (by decide +kernel)
            obtain ⟨_, h34, rfl⟩ := given_fed hg 34 (by decide +kernel)
            clear hg
            have hth : w6.there g (k * 5 + 2) 2 := HTHERE.out w6 _ hI.row
            exact st_list ho (wanted_none rfl) fun Q' hQ => wpList_store_mid rfl 96 (.tmp 38) (.tmp 34) rfl g (k * 5 + 2) #[.int .i64 P, .int .i64 M] (by simp [Act.eval, h38]) (by simp [Act.eval, h34, spanV]) hth (by kernel_rfl) (all2 ..) (wpList_nil (hQ _ _ ⟨_, rfl, hI.stored hcl hnot, fun t u h => VP_any _ _ _ _ _ _ _ _ _ _ t _ _ u h, by rintro t' ⟨⟩⟩))
          | 16, ho =>
            obtain rfl := Option.some.inj ho
            obtain ⟨_, h35, rfl⟩ := given_fed hg 35 (by decide +kernel)
            clear hg
            exact st_yield ho (wanted_none rfl) (.bool r) w6 (by simp [execOp, Act.eval, h35, go_sem]) ⟨_, rfl, hI.keep 16 (by decide) (by decide), fun t u h => VP_any _ _ _ _ _ _ _ _ _ _ t _ _ u h, by rintro t' ⟨⟩; rfl⟩
          | n + 17, ho => simp at ho
        · intro f w6 done hall hI hv
          have h8 := hall 8 (by decide)
          have h15 := hall 15 (by decide)
          have hv7 := hv 7 (by decide)
          simp only [VP] at hv7
          simp only [h8, h15] at hI
          have HI := Go.Lib.hid hI
          clear hI hv hall h8 h15 CS CT HCELL HTHERE HT0
          unfold putAll
          simp only [List.foldl]
          simp only [hv7]
          go_simp
          obtain ⟨f0, f1, f2, f3, f4, f5, f6⟩ := HFACT.out
          cases r with
          | true =>
            have hne : (tfA n Uc (secs en.toNat)).2 ≠ 0 := of_decide_eq_true f4.symm
            obtain ⟨hfit, hmin⟩ := tfA_yes (by omega) f0 hne
            have hVr : V = rowL (tfA n Uc (secs en.toNat)).1 (secs en.toNat) := by rw [f5]; unfold tfV; rw [if_neg hne]
            rw [hmin] at f3
            have hro := HI.out.ro
            rw [if_pos rfl, hVr] at hro
            have hrow := HI.out.row
            rw [if_pos rfl, flat_set2 cur k hkc P M, HCK.out] at hrow
            have hps := HPK.out.pl.snoc (n := n) (U := U) (x := setSpan ((nm, en, 0, 0), sl) P M) (a := (tfA n Uc (secs en.toNat)).1) HEN.out (by show (P, M) = _; rw [f2, f3]; rfl) (by rw [← f1]; exact hfit)
            have hset : (cur.set k (setSpan ((nm, en, 0, 0), sl) P M)).take (k + 1) = cur.take k ++ [setSpan ((nm, en, 0, 0), sl) P M] := by
              rw [List.take_succ_eq_append_getElem (by rw [List.length_set]; exact hkc), List.take_set_of_le (Nat.le_refl _), List.getElem_set_self]
            have hF : PK w0 w Bv rf rl n vf vl U (.slice (some ⟨g, 0, none⟩) l.length c) lp w.heap.size (k + 1) (cur.set k (setSpan ((nm, en, 0, 0), sl) P M)) w6 := by
              refine ⟨by rw [List.length_set]; exact HPK.out.len, ?_, ?_, ?_, ?_, ?_, HI.out.bx, HI.out.gr, HI.out.tf⟩
              · rw [hset]; exact hps.1
              · rw [List.drop_set_of_lt (by omega)]; exact HDR.out
              · rw [hset, HTP.out, List.map_append, List.map_append, HPK.out.same]; rfl
              · rw [hset, hps.2, ← List.append_assoc, ← f1]; exact hro
              · unfold OwnFr; rw [List.length_set]; exact hrow
            have HF := Go.Lib.hid hF
            clear hF hset hps hrow hro hVr hmin hfit hne f0 f1 f2 f3 f4 f5 f6 HI HFACT
            go_wp2_with fail
            go_roundw
            case rel => exact ⟨k + 1, _, by omega, by go_num, HF.out⟩
            case measure => simp only [intOf]; omega
          | false =>
            have hno := tfA_no (U := Uc) (n := n) (by omega) f0 (by have := of_decide_eq_false f4.symm; simpa using this)
            have HNO := Go.Lib.hid (show NoFit n U l from ⟨cur.take k, ((nm, en, 0, 0), sl), by rw [List.length_take]; omega, fun y hy => by
              obtain ⟨z, hz, he⟩ := List.mem_map.1 (show stripF y ∈ (lp.take k).map stripF from HPK.out.same ▸ List.mem_map_of_mem hy)
              exact ⟨z, HP.out.mem_iff.1 (List.mem_of_mem_take hz), he.symm⟩, HPK.out.pl, HM.out, HEN.out, by rw [← f1]; exact hno⟩)
            have HGR := Go.Lib.hid (And.intro HI.out.gr HI.out.tf)
            clear hno f0 f1 f2 f3 f4 f5 f6 HI HFACT
            go_wp2_with fail
            go_ret
            exact ⟨HGR.out.1, HGR.out.2, .inr ⟨rfl, HNO.out⟩⟩
    · obtain rfl : k = l.length := by omega
      have htc : cur.take l.length = cur := List.take_of_length_le (by omega)
      have htl : lp.take l.length = lp := List.take_of_length_le (by omega)
      have hF : w0.grownBy wr (Value.slice p l.length c).ownBlock ∧ TF2 4 111 w wr ∧ ∃ l', (l'.map stripF).Perm (l.map stripF) ∧ Pl n U l' ∧ OwnFr wr Bv (.slice p l.length c) l' ∧ RO wr w0.heap.size rf rl n vf vl (U ++ l'.flatMap spanFr) := by
        have h1 := hpk.pl
        have h2 := hpk.same
        have h3 := hpk.ro
        rw [htc] at h1 h2 h3
        rw [htl] at h2
        exact ⟨hpk.gr, hpk.tf, cur, by rw [h2]; exact HP.out.map _, h1, hpk.row, h3⟩
      have HF := Go.Lib.hid hF
      clear hF hpk
      go_wp2_with fail
      go_ret
      exact ⟨HF.out.1, HF.out.2.1, .inl ⟨rfl, HF.out.2.2⟩⟩
end

end Go.Proofs.YtnalokjnbccjnaaGreatDoor

namespace Go.Proofs.YtnalokjnbccjnaaGreatDoor
open Go.RowKit Go.Maps

/-- A put: its name, whether it is gone, its bytes' slice, its bytes. -/
abbrev PutT := ByteArray × Bool × (Option Addr × Nat × Nat) × List UInt8
def slV (x : Option Addr × Nat × Nat) : Value := .slice x.1 x.2.1 x.2.2
/-- v reads as l. -/
def RPt (w : World) (v : Value) (l : List PutT) : Prop :=
  ((l = [] ∧ ∃ p c, v = .slice p 0 c) ∨ ∃ g c cs fr, v = .slice (some ⟨g, 0, none⟩) l.length c ∧ w.heap[g]? = some (.cells cs 47 fr) ∧
    ∀ i (hi : i < l.length), w.cell? ⟨g, i * 3, none⟩ = some (.string l[i].1) ∧ w.cell? ⟨g, i * 3 + 1, none⟩ = some (.bool l[i].2.1) ∧ w.cell? ⟨g, i * 3 + 2, none⟩ = some (slV l[i].2.2.1)) ∧
  ∀ x ∈ l, TX w (slV x.2.2.1) x.2.2.2
section
variable {w w' : World} {v : Value} {l : List PutT}
theorem RPt.form (h : RPt w v l) : ∃ p c, v = .slice p l.length c := by
  rcases h.1 with ⟨rfl, p, c, hv⟩ | ⟨g, c, cs, fr, hv, -⟩
  · exact ⟨p, c, hv⟩
  · exact ⟨_, c, hv⟩
theorem RPt.below (h : RPt w v l) (hb : Below w.heap.size w w') : RPt w' v l := by
  refine ⟨?_, fun x hx => (h.2 x hx).below hb⟩
  rcases h.1 with h0 | ⟨g, c, cs, fr, hv, hg, hc⟩
  · exact .inl h0
  · have hk := hb.block g (Array.getElem?_eq_some_iff.1 hg).1
    exact .inr ⟨g, c, cs, fr, hv, hk.trans hg, fun i hi => ⟨(World.cell?_of_block (w := w) hk).trans (hc i hi).1, (World.cell?_of_block (w := w) hk).trans (hc i hi).2.1, (World.cell?_of_block (w := w) hk).trans (hc i hi).2.2⟩⟩
theorem RPt.at {a : Option Addr} {n c : Nat} (h : RPt w (.slice a n c) l) (i : Nat) (hi : i < l.length) : ∃ g, a = some ⟨g, 0, none⟩ ∧ n = l.length ∧ w.cell? ⟨g, i * 3, none⟩ = some (.string l[i].1) ∧ w.cell? ⟨g, i * 3 + 1, none⟩ = some (.bool l[i].2.1) ∧ w.cell? ⟨g, i * 3 + 2, none⟩ = some (slV l[i].2.2.1) := by
  rcases h.1 with ⟨h0, -⟩ | ⟨g, c', cs, fr, hv, hg, hc⟩
  · subst h0; simp at hi
  · simp only [Value.slice.injEq] at hv
    obtain ⟨rfl, rfl, rfl⟩ := hv
    exact ⟨g, rfl, rfl, hc i hi⟩
end

/-- The map behind n names: where each stood last. -/
def mapN (H : Type) (l : List ByteArray) : Nat → DataW H
  | 0 => .map []
  | n + 1 => (mapN H l n).put (.string (l.getD n default).data.toList) (.lit (.int .i64 (n : Int)))
section
variable {H : Type} {l : List ByteArray}
theorem mapN_isMap : ∀ n, IsMap (mapN H l n)
  | 0 => isMap_empty
  | n + 1 => (mapN_isMap n).put _ _
theorem mapN_succ (n : Nat) (h : n < l.length) : mapN H l (n + 1) = (mapN H l n).put (.string l[n].data.toList) (.lit (.int .i64 (n : Int))) := by
  rw [mapN, List.getD, List.getElem?_eq_getElem h]
  rfl
theorem mapN_has (k : List UInt8) : ∀ n, n ≤ l.length → (has (mapN H l n) (.string k) = true ↔ ∃ x ∈ l.take n, x.data.toList = k)
  | 0, _ => by
    constructor
    · intro h; cases h
    · rintro ⟨x, hx, -⟩; simp at hx
  | n + 1, h => by
    have hlt : n < l.length := h
    have ih := mapN_has k n (by omega)
    rw [mapN_succ n hlt, List.take_succ_eq_append_getElem hlt]
    by_cases e : k = l[n].data.toList
    · subst e
      rw [has_put_same (mapN_isMap n) (show WideAt.IsKeyLit (.string _) from trivial)]
      exact ⟨fun _ => ⟨l[n], List.mem_append_right _ (List.mem_singleton.2 rfl), rfl⟩, fun _ => rfl⟩
    · rw [has_put_other (fun h => e (by simpa using h)), ih]
      constructor
      · rintro ⟨x, hx, hk⟩; exact ⟨x, List.mem_append_left _ hx, hk⟩
      · rintro ⟨x, hx, hk⟩
        rcases List.mem_append.1 hx with hx | hx
        · exact ⟨x, hx, hk⟩
        · simp at hx
          subst hx
          exact absurd hk.symm e
/-- The place at which k stands last among the first n. -/
theorem mapN_at (k : List UInt8) : ∀ n, n ≤ l.length → has (mapN H l n) (.string k) = true →
    ∃ i, ∃ hi : i < l.length, i < n ∧ (∀ z, (mapN H l n).atKey (.string k) z = .lit (.int .i64 (i : Int))) ∧ l[i].data.toList = k ∧ ∀ j (hj : j < l.length), i < j → j < n → l[j].data.toList ≠ k
  | 0, _, h => by cases h
  | n + 1, h, hh => by
    have hlt : n < l.length := h
    rw [mapN_succ n hlt] at hh ⊢
    by_cases e : k = l[n].data.toList
    · refine ⟨n, hlt, by omega, fun z => ?_, e.symm, fun j hj h1 h2 => by omega⟩
      rw [← e, atKey_put_same (mapN_isMap n) (show WideAt.IsKeyLit (.string _) from trivial)]
    · rw [has_put_other (fun h => e (by simpa using h))] at hh
      obtain ⟨i, hi, h0, h1, h2, h3⟩ := mapN_at k n (by omega) hh
      refine ⟨i, hi, by omega, fun z => ?_, h2, fun j hj h4 h5 => ?_⟩
      · rw [atKey_put_other (fun h => e (by simpa using h))]
        exact h1 z
      · by_cases hjn : j = n
        · subst hjn
          exact fun h6 => e h6.symm
        · exact h3 j hj h4 (by omega)
end

/-- Is the name of the put at i that of no later one? -/
def lastP (l : List PutT) (i : Nat) : Bool := (l.drop (i + 1)).all fun x => !decide (x.1 = (l.getD i default).1)
/-- The files of which the puts say nothing. -/
def keptE (es : List EntT) (l : List PutT) : List EntT := es.filter fun x => !l.any fun y => decide (y.1 = x.1)
/-- A file to be written, without a place. -/
def freshP (x : PutT) : FreshT := ((x.1, (x.2.2.2.length : Int), 0, 0), x.2.2.1)
/-- The files that the first k puts want to be there. -/
def wantK (l : List PutT) : Nat → List PutT
  | 0 => []
  | k + 1 => wantK l k ++ (if lastP l k = true ∧ (l.getD k default).2.1 = false then [l.getD k default] else [])
def wantF (l : List PutT) : List PutT := wantK l l.length

theorem infoFr : (Tryz.prog.info? 111).map (fun i => (i.zero, i.size, i.bytes)) = some (some (.agg #[.string ⟨#[]⟩, .int .i64 0, .int .i64 0, .int .i64 0, .slice none 0 0]), 5, 64) := by kernel_rfl
/-- 'append(s, x)', s the call's own, x in a new block. -/
theorem wpList_append_fresh {ops : Array Oper} {rest : List Oper} {o : Oper} {a : Act} {w : World} {Q : Exit → Act → World → Prop} (hgd : o.guard = none) (s x : Operand)
    (ho : o.op = .call { callee := .builtin .append, args := #[s, x], argTypes := #[76, 76] })
    (B : Nat) (v : Value) (l : List FreshT) (y : FreshT) (g : Nat) (fr : Nat × Nat) (hs : a.eval s = v) (hx : a.eval x = .slice (some ⟨g, 0, none⟩) 1 1) (hown : OwnFr w B v l) (hg : w.heap[g]? = some (.cells (efr y).toArray 111 fr)) (hl : l.length ≤ 1000) (hbase : B ≤ w.heap.size)
    (h : ∀ v' w', OwnFr w' B v' (l ++ [y]) → w.grownBy w' v.ownBlock → wpList Tryz.prog ops Q rest (a.put o.dst v') w') : wpList Tryz.prog ops Q (o :: rest) a w := by
  obtain ⟨i, hi, hz, hsize, hby⟩ := info_parts infoFr
  refine wpList_append_own w hgd s x _ ho B 111 i _ 5 64 Tryz.underlying76 hi hz hsize hby rfl (by decide) v l.length (l.flatMap efr) hs hown ⟨g, 0, none⟩ 1 1 (efr y) hx (by rw [efr_len]) ?_ (efr_one y) (by unfold maxLen; omega) (by omega) hbase ?_
  · intro j u hj
    have hadd : (⟨g, 0, none⟩ : Addr).add j = ⟨g, j, none⟩ := by unfold Addr.add; split <;> simp_all
    rw [hadd, cell_of_row w g j _ _ _ hg, List.getElem?_toArray]
    exact hj
  · intro v' w' hown' hg' _
    refine h v' w' ?_ hg'
    unfold OwnFr
    rw [List.length_append, List.flatMap_append]
    simpa using hown'

end Go.Proofs.YtnalokjnbccjnaaGreatDoor

namespace Go.Proofs.YtnalokjnbccjnaaGreatDoor
open Go.RowKit

set_option maxRecDepth 100000 in
theorem lclone_c (s : ByteArray) (w : World) (hm : s.size ≤ 140737488355328) :
    Calls Tryz.prog 70 #[.string s] w fun e w' => e = .returned (.string s) ∧ Below w.heap.size w w' := by
  by_cases h0 : s.size = 0
  · have hs : s = ⟨#[]⟩ := ByteArray.ext (Array.eq_empty_of_size_eq_zero h0)
    subst hs
    go_enter Tryz.func70, Tryz.ntmps70
    go_wp2
    go_ret
    exact ⟨rfl, Below.refl _ _⟩
  · have hq : s.size = s.data.toList.length := Go.Lib.size_eq s
    have hco : Tryz.prog.cellsOf 5 = 1 := by kernel_rfl
    have hi1 : (Tryz.prog.info? 5).map (·.size) = some 1 := by kernel_rfl
    obtain ⟨i, hi, hz, hsize, hby⟩ := info_parts info8
    obtain ⟨row0, hrow0⟩ : ∃ r, r = madeCells (Value.int .u8 0).cells s.size := ⟨_, rfl⟩
    have hlen0 : row0.size = s.size := by rw [hrow0, size_madeCells]
    have mk : ∀ W : World, (Instr.makeSlice 45 (.int .i64 (s.size : Int)) (.int .i64 (s.size : Int))).run Tryz.prog W = .ok (.slice (some ⟨W.heap.size, 0, none⟩) s.size s.size) (W.alloc (.cells row0 5)) := by
      intro W
      have hr := run_make (P := Tryz.prog) W 45 5 i (.int .u8 0) Tryz.underlying45 hi hz .i64 .i64 (s.size : Int) (s.size : Int) (by omega) (by omega) (by rw [hby]; omega) (by omega)
      rw [hsize] at hr
      simpa [hrow0] using hr
    have new1 := heap_alloc_new w (.cells row0 5)
    have cp := Go.Lib.run_copy_row_string (P := Tryz.prog) (w.alloc (.cells row0 5)) 45 9 3 5 w.heap.size 0 s.size s.size s row0 5 Tryz.underlying45 hi1 new1 (Nat.le_refl _) (by omega)
    obtain ⟨row1, hrow1⟩ : ∃ r, r = (row0.toList.take 0 ++ Go.Lib.byteCells s.data.toList ++ row0.toList.drop (0 + s.size)).toArray := ⟨_, rfl⟩
    rw [← hrow1] at cp
    have hlist1 : row1.toList = Go.Lib.byteCells s.data.toList := by
      rw [hrow1]
      simp [hlen0]
    have hlen1 : row1.size = s.size := by rw [← Array.length_toList, hlist1, Go.Lib.byteCells_length, hq]
    have new2 := setRow_heap (w.alloc (.cells row0 5)) w.heap.size row0 row1 5 (0, 0) new1
    have us := Go.Lib.run_unsafeString_row (P := Tryz.prog) ((w.alloc (.cells row0 5)).setRow w.heap.size row1) 164 3 9 5 Tryz.underlying164 hco w.heap.size row1.size (by unfold World.shape?; rw [new2]) s.data.toList
      (by intro e; rw [e] at hq; exact h0 hq) (by omega) (by omega)
      (fun j x hx => Go.Lib.cells_of_row new2 row1.size j _ (by rw [List.take_of_length_le (by simp), hlist1]; simp [Go.Lib.byteCells, hx]))
    rw [← hq] at us
    clear hrow1 hrow0 hlen0 new1 new2 hlist1 hlen1 hq hco hi1 hi hz hsize hby
    go_enter Tryz.func70, Tryz.ntmps70
    go_wp2
    go_ret
    have b1 : Below w.heap.size w (w.alloc (.cells row0 5)) := (Below.refl _ w).alloc (Nat.le_refl _) _
    have b2 : Below w.heap.size (w.alloc (.cells row0 5)) ((w.alloc (.cells row0 5)).setRow w.heap.size row1) := ⟨rfl, rfl, rfl, by simp, fun k hk => setRow_other _ _ _ _ (by omega)⟩
    exact ⟨rfl, Go.Lib.below_freeze (b1.trans b2) (p := ⟨w.heap.size, 0, none⟩) (Nat.le_refl _) _⟩

theorem clone_c (s : ByteArray) (w : World) (hm : s.size ≤ 140737488355328) :
    Calls Tryz.prog 45 #[.string s] w fun e w' => e = .returned (.string s) ∧ Below w.heap.size w w' := by
  have C := Go.Lib.hid (lclone_c s w hm)
  go_enter Tryz.func45, Tryz.ntmps45
  go_wp2_with (refine C.out.mono ?_; rintro e w1 ⟨rfl, h1⟩)
  go_ret
  exact ⟨rfl, h1⟩

end Go.Proofs.YtnalokjnbccjnaaGreatDoor

namespace Go.Proofs.YtnalokjnbccjnaaGreatDoor
open Go.RowKit

section
variable {P : Program} {ops : Array Oper} {Q : Exit → Act → World → Prop}

structure HeldT (ops : Array Oper) (V : Nat → World → Value → Prop) (I : (Nat → Bool) → Act → World → Prop) (a0 : Act) (listed : Array Bool) (a : Act) (w : World) : Prop where
  size : listed.size = ops.size
  inv : I (fun j => listed.getD j false) a w
  defers : a.defers = a0.defers
  len : a.tmps.size = a0.tmps.size
  old : ∀ t : Nat, (∀ (i : Nat) (o : Oper), ops[i]? = some o → o.dst = some t → listed.getD i false = false) → a.tmps[t]? = a0.tmps[t]?
  new : ∀ (i : Nat) (o : Oper) (t : Nat), ops[i]? = some o → o.dst = some t → listed.getD i false = true → ∃ v, a.tmps[t]? = some v ∧ V t w v
  shut : ∀ (i : Nat) (o : Oper), ops[i]? = some o → listed.getD i false = true → ∀ e ∈ o.after, Region.binds .any e = true → listed.getD e.on false = true

theorem wp_region_inv3 {id : Nat} {a0 : Act} {w0 : World} (hm : P.follows .mixedOrders = true) (V : Nat → World → Value → Prop) (I : (Nat → Bool) → Act → World → Prop)
    (htidy : tidyB ops = true) (hlow : lowB ops = true) (hdst : (ops.toList.all fun o => match o.dst with | some t => decide (t < a0.tmps.size) | none => true) = true)
    (l : List Nat) (hl : dsts ops = l) (h0 : I (fun _ => false) a0 w0.drew)
    (hstep : ∀ (i : Nat) (o : Oper), ops[i]? = some o → ∀ (a : Act) (w : World) (done : Nat → Bool), I done a w → done i = false → (∀ j, aheadB ops i j = true → done j = true) → (∀ i' j, done i' = true → aheadB ops i' j = true → done j = true) → a.tmps.size = a0.tmps.size → Given ops V a0 o a w →
      wpOp P ops Q i (fun a' w' => ∃ v, a' = a.put o.dst v ∧ I (doneToo done i) a' w' ∧ (∀ t u, Wrote ops done t → V t w u → V t w' u) ∧ ∀ t, o.dst = some t → V t w' v) a w)
    (hend : ∀ (f : Nat → Value) (w : World) (done : Nat → Bool), (∀ i, i < ops.size → done i = true) → I done (putAll a0 f l) w → (∀ t, t ∈ l → V t w (f t)) → Q .normal (putAll a0 f l) w) :
    (Code.region id ops true).wp P Q a0 w0 := by
  have hdd : ∀ (i : Nat) (o : Oper) (t : Nat), ops[i]? = some o → o.dst = some t → t < a0.tmps.size := by
    intro i o t ho hod
    rw [List.all_eq_true] at hdst
    have h1 := hdst o (by obtain ⟨h, rfl⟩ := Array.getElem?_eq_some_iff.1 ho; simp)
    rw [hod] at h1
    exact of_decide_eq_true h1
  have hmem : ∀ t, t ∈ l ↔ ∃ (i : Nat) (o : Oper), ops[i]? = some o ∧ o.dst = some t := by
    intro t
    rw [← hl, dsts, List.mem_filterMap]
    constructor
    · rintro ⟨o, ho, hot⟩
      obtain ⟨i, hi, rfl⟩ := List.mem_iff_getElem.1 ho
      have hi' : i < ops.size := by simpa using hi
      exact ⟨i, ops[i], by simp [hi'], by simpa using hot⟩
    · rintro ⟨i, o, ho, hot⟩
      obtain ⟨h, rfl⟩ := Array.getElem?_eq_some_iff.1 ho
      exact ⟨ops[i], by simp, hot⟩
  refine wp_region_any hm ?_
  have hfin : ∀ (listed : Array Bool) (a : Act) (w : World), HeldT ops V I a0 listed a w → Region.ready .any ops listed = [] → Q .normal a w := by
    intro listed a w h hr
    have hall := listed_all hlow h.size hr
    have hf : ∀ t, t ∈ l → ∃ v, a.tmps[t]? = some v ∧ V t w v := fun t ht => by
      obtain ⟨i, o, ho, hot⟩ := (hmem t).1 ht
      exact h.new i o t ho hot (hall i o ho)
    have ha : a = putAll a0 (fun t => a.tmps.getD t undef) l := by
      have hdef := h.defers
      have hlen := h.len
      have hold := h.old
      obtain ⟨tm, df⟩ := a
      obtain ⟨h1, h2⟩ := putAll_size (fun t => tm.getD t undef) l a0
      have h3 : tm = (putAll a0 (fun t => tm.getD t undef) l).tmps := by
        apply Array.ext_getElem?
        intro t
        rw [putAll_tmps]
        by_cases ht : t ∈ l
        · obtain ⟨v, hv, -⟩ := hf t ht
          simp only [] at hv
          have hts : t < a0.tmps.size := by rw [← hlen]; exact (Array.getElem?_eq_some_iff.1 hv).1
          rw [if_pos ⟨ht, hts⟩, Array.getD_eq_getD_getElem?, hv]
          rfl
        · rw [if_neg (fun h => ht h.1)]
          exact hold t fun i o ho hot => absurd ((hmem t).2 ⟨i, o, ho, hot⟩) ht
      have h4 : df = (putAll a0 (fun t => tm.getD t undef) l).defers := by rw [h2]; exact hdef
      calc (⟨tm, df⟩ : Act) = ⟨(putAll a0 (fun t => tm.getD t undef) l).tmps, (putAll a0 (fun t => tm.getD t undef) l).defers⟩ := by rw [← h3, ← h4]
        _ = _ := rfl
    have hinv := h.inv
    rw [ha] at hinv ⊢
    refine hend _ w _ (fun i hi => hall i ops[i] (by simp [hi])) hinv fun t ht => ?_
    obtain ⟨v, hv, hVv⟩ := hf t ht
    rw [Array.getD_eq_getD_getElem?, hv]
    exact hVv
  have key : ∀ (fuel : Nat) (listed : Array Bool) (a : Act) (w : World), HeldT ops V I a0 listed a w →
      (List.range ops.size).countP (fun j => !listed.getD j true) ≤ fuel → wpAny P .any ops Q fuel listed a w := by
    intro fuel
    induction fuel with
    | zero =>
      intro listed a w h hcount
      have hr : Region.ready .any ops listed = [] := by
        cases hrr : Region.ready .any ops listed with
        | nil => rfl
        | cons x xs =>
          have hx : x ∈ Region.ready .any ops listed := by rw [hrr]; simp
          obtain ⟨hun, o, ho, -⟩ := mem_ready.1 hx
          have : 0 < (List.range ops.size).countP (fun j => !listed.getD j true) := List.countP_pos_iff.2 ⟨x, by rw [List.mem_range]; exact (Array.getElem?_eq_some_iff.1 ho).1, by rw [hun]; rfl⟩
          omega
      exact ⟨hr, hfin _ _ _ h hr⟩
    | succ fuel ih =>
      intro listed a w h hcount
      refine ⟨fun hr => hfin _ _ _ h hr, fun i hi => ?_⟩
      obtain ⟨hun, o, ho, hall⟩ := mem_ready.1 hi
      have hil : i < listed.size := by
        rw [h.size]
        exact (Array.getElem?_eq_some_iff.1 ho).1
      have hunf := getD_false_of hil hun
      have hgiven : Given ops V a0 o a w := by
        intro t ht
        refine ⟨fun hf => ?_, fun hf => ?_⟩
        · unfold fedB at hf
          rw [Array.any_eq_true] at hf
          obtain ⟨k, hk, hke⟩ := hf
          simp only [Bool.and_eq_true] at hke
          obtain ⟨hb, hw⟩ := hke
          have hl := hall o.after[k] (Array.getElem_mem hk) hb
          cases hp : ops[(o.after[k]).on]? with
          | none => rw [hp] at hw; cases hw
          | some p =>
            rw [hp] at hw
            exact h.new _ p t hp (by simpa using hw) hl
        · refine h.old t fun j p hj hd => ?_
          have hti := htidy
          unfold tidyB at hti
          rw [List.all_eq_true] at hti
          have h1 := hti i (by rw [List.mem_range]; exact (Array.getElem?_eq_some_iff.1 ho).1)
          rw [ho] at h1
          simp only [List.all_eq_true] at h1
          have h2 := h1 t ht
          rw [hf, Bool.false_or] at h2
          unfold lateB at h2
          rw [List.all_eq_true] at h2
          have h3 := h2 j (by rw [List.mem_range]; exact (Array.getElem?_eq_some_iff.1 hj).1)
          rw [hj] at h3
          simp only [hd, bne_self_eq_false, Bool.false_or, Array.any_eq_true, Bool.and_eq_true] at h3
          obtain ⟨k, hk, hb, hon⟩ := h3
          cases hlj : listed.getD j false with
          | false => rfl
          | true =>
            have := h.shut j p hj hlj p.after[k] (Array.getElem_mem hk) hb
            rw [show (p.after[k]).on = i from by simpa using hon, hunf] at this
            cases this
      have hreach : ∀ j, aheadB ops i j = true → listed.getD j false = true := fun j hj => by
        unfold aheadB at hj
        rw [List.contains_iff_mem] at hj
        refine reach_listed h.shut ops.size (edges ops i) (fun x hx => ?_) j hj
        obtain ⟨e, he, hb, rfl⟩ := edges_mem ho hx
        exact hall e he hb
      have hsh : ∀ i' j, listed.getD i' false = true → aheadB ops i' j = true → listed.getD j false = true := fun i' j hi' hj => by
        unfold aheadB at hj
        rw [List.contains_iff_mem] at hj
        have hlt : i' < ops.size := by
          rw [← h.size]
          rcases Nat.lt_or_ge i' listed.size with h1 | h1
          · exact h1
          · rw [Array.getD_eq_getD_getElem?, Array.getElem?_eq_none h1] at hi'
            cases hi'
        have ho' : ops[i']? = some ops[i'] := by simp [hlt]
        refine reach_listed h.shut ops.size (edges ops i') (fun x hx => ?_) j hj
        obtain ⟨e, he, hb, rfl⟩ := edges_mem ho' hx
        exact h.shut i' ops[i'] ho' hi' e he hb
      refine wpOp_mono ?_ (hstep i o ho a w _ h.inv hunf hreach hsh h.len hgiven)
      rintro a' w' ⟨v, rfl, hI, hst, hv⟩
      have hpd : (a.put o.dst v).defers = a.defers := by unfold Act.put; split <;> rfl
      have hps : (a.put o.dst v).tmps.size = a.tmps.size := by unfold Act.put; split <;> simp
      have hpo : ∀ t : Nat, o.dst ≠ some t → (a.put o.dst v).tmps[t]? = a.tmps[t]? := by
        intro t ht
        unfold Act.put
        split
        · rename_i d hd
          exact Array.getElem?_setIfInBounds_ne (fun e => ht (by rw [hd, e]))
        · rfl
      have hpn : ∀ t : Nat, o.dst = some t → (a.put o.dst v).tmps[t]? = some v := by
        intro t ht
        have hts : t < a.tmps.size := by rw [h.len]; exact hdd i o t ho ht
        unfold Act.put
        rw [ht]
        simp [hts]
      have hset : ∀ j, (listed.setIfInBounds i true).getD j false = if j = i then true else listed.getD j false := by
        intro j
        by_cases hji : j = i
        · subst hji; simp [hil]
        · simp [hji, Array.getElem?_setIfInBounds_ne (Ne.symm hji), Array.getD_eq_getD_getElem?]
      have hdone : (fun j => (listed.setIfInBounds i true).getD j false) = doneToo (fun j => listed.getD j false) i := by
        funext j
        rw [hset]
        rfl
      refine ih _ _ _ ⟨by simpa using h.size, by rw [hdone]; exact hI, ?_, ?_, ?_, ?_, ?_⟩ ?_
      · rw [hpd]; exact h.defers
      · rw [hps]; exact h.len
      · intro t ht
        have hdt : o.dst ≠ some t := by
          intro e
          have := ht i o ho e
          rw [hset, if_pos rfl] at this
          cases this
        rw [hpo t hdt]
        refine h.old t fun j p hj hdj => ?_
        have := ht j p hj hdj
        rw [hset] at this
        split at this
        · cases this
        · exact this
      · intro j p t hj hdj hlj
        by_cases hdt : o.dst = some t
        · exact ⟨v, hpn t hdt, hv t hdt⟩
        · rw [hpo t hdt]
          rw [hset] at hlj
          split at hlj
          · rename_i hji
            subst hji
            rw [ho] at hj
            cases hj
            exact absurd hdj hdt
          · obtain ⟨u, hu, hVu⟩ := h.new j p t hj hdj hlj
            exact ⟨u, hu, hst _ _ ⟨j, p, hj, hdj, hlj⟩ hVu⟩
      · intro j p hj hlj e he hbe
        rw [hset] at hlj ⊢
        split
        · rfl
        · split at hlj
          · rename_i hji
            subst hji
            rw [ho] at hj
            cases hj
            exact hall e he hbe
          · exact h.shut j p hj hlj e he hbe
      · have : (List.range ops.size).countP (fun j => !(listed.setIfInBounds i true).getD j true) < (List.range ops.size).countP (fun j => !listed.getD j true) := by
          refine countP_lt (i := i) (fun j hj hq => ?_) (by rw [List.mem_range, ← h.size]; exact hil) (by rw [hun]; rfl) (by simp [hil])
          by_cases hji : j = i
          · subst hji; rw [hun]; rfl
          · simp only [Array.getD_eq_getD_getElem?] at hq ⊢
            rwa [Array.getElem?_setIfInBounds_ne (Ne.symm hji)] at hq
        omega
  refine key ops.size _ _ _ ⟨by simp, ?_, rfl, rfl, fun _ _ => rfl, fun i o t hi _ hl => ?_, fun i o hi hl => ?_⟩ ?_
  · have : (fun j => (Array.replicate ops.size false).getD j false) = fun _ => false := by
      funext j
      rw [Array.getD_eq_getD_getElem?, Array.getElem?_replicate]
      split <;> rfl
    rw [this]
    exact h0
  · rw [Array.getD_eq_getD_getElem?, Array.getElem?_replicate] at hl
    split at hl <;> cases hl
  · rw [Array.getD_eq_getD_getElem?, Array.getElem?_replicate] at hl
    split at hl <;> cases hl
  · exact Nat.le_trans List.countP_le_length (by simp)

end

end Go.Proofs.YtnalokjnbccjnaaGreatDoor

namespace Go.Proofs.YtnalokjnbccjnaaGreatDoor
open Go.RowKit

/-- The steps wait for one another; each is an operation, and alone writes its slot. -/
def chainB (ops : Array Oper) (steps : List Nat) : Bool :=
  (List.range steps.length).all fun j => match steps[j]? with
    | some i => (match ops[i]? with | some o => (match o.dst with | some t => soleB ops i t | none => true) | none => false) &&
      (List.range j).all fun k => match steps[k]? with | some i' => aheadB ops i i' && i' != i | none => true
    | none => true

section
variable {P : Program} {ops : Array Oper} {Q : Exit → Act → World → Prop}

/-- What the steps have yielded so far. -/
def SlotsC (ops : Array Oper) (steps : List Nat) (vs : List Value) (a : Act) : Prop :=
  ∀ (k i : Nat) (o : Oper) (t : Nat), k < vs.length → steps[k]? = some i → ops[i]? = some o → o.dst = some t → a.tmps[t]? = vs[k]?
structure InvC (ops : Array Oper) (steps : List Nat) (C : List Value → World → Prop) (done : Nat → Bool) (a : Act) (w : World) (vs : List Value) : Prop where
  so : ∀ k i, steps[k]? = some i → (done i = true ↔ k < vs.length)
  le : vs.length ≤ steps.length
  c : C vs w
  slots : SlotsC ops steps vs a

theorem chain_at {steps : List Nat} (h : chainB ops steps = true) {j i : Nat} (hj : steps[j]? = some i) :
    (∃ o, ops[i]? = some o ∧ ∀ t, o.dst = some t → soleB ops i t = true) ∧ ∀ k i', k < j → steps[k]? = some i' → aheadB ops i i' = true ∧ i' ≠ i := by
  unfold chainB at h
  rw [List.all_eq_true] at h
  have h1 := h j (by rw [List.mem_range]; exact (List.getElem?_eq_some_iff.1 hj).1)
  rw [hj] at h1
  simp only [Bool.and_eq_true, List.all_eq_true, List.mem_range] at h1
  obtain ⟨h1, h2⟩ := h1
  refine ⟨?_, fun k i' hk hi' => ?_⟩
  · cases ho : ops[i]? with
    | none => rw [ho] at h1; cases h1
    | some o =>
      rw [ho] at h1
      refine ⟨o, rfl, fun t ht => ?_⟩
      simp only [ht] at h1
      exact h1
  · have h3 := h2 k hk
    rw [hi'] at h3
    simp only [Bool.and_eq_true, bne_iff_ne, ne_eq] at h3
    exact h3

theorem put_tmps_other {a : Act} {t : Option Nat} {s : Nat} {v : Value} (h : t ≠ some s) : (a.put t v).tmps[s]? = a.tmps[s]? := by
  cases t with
  | none => rfl
  | some t => exact Array.getElem?_setIfInBounds_ne (fun e => h (by rw [e]))

theorem wp_region_chain {id : Nat} {a0 : Act} {w0 : World} (hm : P.follows .mixedOrders = true) (V : Nat → Value → Prop) (steps : List Nat) (C : List Value → World → Prop)
    (htidy : tidyB ops = true) (hlow : lowB ops = true) (hdst : (ops.toList.all fun o => match o.dst with | some t => decide (t < a0.tmps.size) | none => true) = true)
    (hchain : chainB ops steps = true) (l : List Nat) (hl : dsts ops = l) (h0 : C [] w0.drew)
    (hquiet : ∀ (i : Nat) (o : Oper), ops[i]? = some o → steps.contains i = false → ∀ (a : Act) (w : World) (vs : List Value), C vs w → a.tmps.size = a0.tmps.size → Given ops (fun t _ v => V t v) a0 o a w →
      wpOp P ops Q i (fun a' w' => ∃ v, a' = a.put o.dst v ∧ C vs w' ∧ ∀ t, o.dst = some t → V t v) a w)
    (hstep : ∀ (j i : Nat) (o : Oper), steps[j]? = some i → ops[i]? = some o → ∀ (a : Act) (w : World) (vs : List Value), vs.length = j → C vs w → SlotsC ops steps vs a → a.tmps.size = a0.tmps.size → Given ops (fun t _ v => V t v) a0 o a w →
      wpOp P ops Q i (fun a' w' => ∃ v, a' = a.put o.dst v ∧ C (vs ++ [v]) w' ∧ ∀ t, o.dst = some t → V t v) a w)
    (hend : ∀ (f : Nat → Value) (w : World) (vs : List Value), vs.length = steps.length → C vs w → (∀ (k i : Nat) (o : Oper) (t : Nat), k < vs.length → steps[k]? = some i → ops[i]? = some o → o.dst = some t → vs[k]? = some (f t)) → (∀ t, t ∈ l → V t (f t)) → Q .normal (putAll a0 f l) w) :
    (Code.region id ops true).wp P Q a0 w0 := by
  refine wp_region_inv3 hm (fun t _ v => V t v) (fun done a w => ∃ vs, InvC ops steps C done a w vs) htidy hlow hdst l hl ?_ ?_ ?_
  · exact ⟨[], fun k i _ => by simp, Nat.zero_le _, h0, fun k i o t hk => absurd hk (by simp)⟩
  · rintro i o ho a w done ⟨vs, hI⟩ hnot hr hsh hlen hg
    cases hc : steps.contains i with
    | false =>
      refine wpOp_mono ?_ (hquiet i o ho hc a w vs hI.c hlen hg)
      rintro a' w' ⟨v, rfl, hC, hV⟩
      refine ⟨v, rfl, ⟨vs, fun k i' hi' => ?_, hI.le, hC, fun k i' o' t hk hi' ho' ht => ?_⟩, fun _ _ _ h => h, hV⟩
      · have hne : i' ≠ i := by
          rintro rfl
          have : i' ∈ steps := List.mem_of_getElem? hi'
          rw [← List.contains_iff_mem, hc] at this
          cases this
        rw [doneToo_other hne]
        exact hI.so k i' hi'
      · rw [put_tmps_other]
        · exact hI.slots k i' o' t hk hi' ho' ht
        · intro e
          obtain ⟨⟨o2, h2, hs⟩, -⟩ := chain_at hchain hi'
          rw [ho'] at h2
          cases h2
          have h3 := hs t ht
          refine not_wrote (done := fun j => decide (j = i)) h3 ?_ ⟨i, o, ho, e, by simp⟩
          simp only [decide_eq_false_iff_not]
          rintro rfl
          have : i' ∈ steps := List.mem_of_getElem? hi'
          rw [← List.contains_iff_mem, hc] at this
          cases this
    | true =>
      obtain ⟨j, hj⟩ := List.getElem?_of_mem (List.contains_iff_mem.1 hc)
      obtain ⟨⟨o2, h2, hs⟩, hah⟩ := chain_at hchain hj
      rw [ho] at h2
      cases h2
      have hjl : vs.length = j := by
        rcases Nat.lt_trichotomy vs.length j with h | h | h
        · have hjs := (List.getElem?_eq_some_iff.1 hj).1
          obtain ⟨i', hi'⟩ : ∃ i', steps[vs.length]? = some i' := ⟨_, List.getElem?_eq_getElem (by omega)⟩
          have := (hI.so _ _ hi').1 (hr i' (hah _ _ h hi').1)
          omega
        · exact h
        · have := (hI.so j i hj).2 h
          rw [hnot] at this
          cases this
      refine wpOp_mono ?_ (hstep j i o hj ho a w vs hjl hI.c hI.slots hlen hg)
      rintro a' w' ⟨v, rfl, hC, hV⟩
      refine ⟨v, rfl, ⟨vs ++ [v], fun k i' hi' => ?_, ?_, hC, fun k i' o' t hk hi' ho' ht => ?_⟩, fun _ _ _ h => h, hV⟩
      · rw [List.length_append, List.length_singleton]
        rcases Nat.lt_trichotomy k j with h | h | h
        · have hne := (hah k i' h hi').2
          rw [doneToo_other hne, hI.so k i' hi']
          omega
        · subst h
          rw [hj] at hi'
          cases hi'
          rw [doneToo_self]
          simp; omega
        · have hne := ((chain_at hchain hi').2 j i h hj).2
          rw [doneToo_other (Ne.symm hne), hI.so k i' hi']
          omega
      · rw [List.length_append, List.length_singleton]
        have := (List.getElem?_eq_some_iff.1 hj).1
        omega
      · rw [List.length_append, List.length_singleton] at hk
        rcases Nat.lt_or_ge k j with h | h
        · have hne := (hah k i' h hi').2
          rw [put_tmps_other, List.getElem?_append_left (by omega)]
          · exact hI.slots k i' o' t (by omega) hi' ho' ht
          · intro e
            have h3 := hs t e
            refine not_wrote (done := fun j => decide (j = i')) h3 ?_ ⟨i', o', ho', ht, by simp⟩
            simp only [decide_eq_false_iff_not]
            exact fun e => hne e.symm
        · obtain rfl : k = j := by omega
          rw [hj] at hi'
          cases hi'
          rw [ho] at ho'
          cases ho'
          rw [List.getElem?_append_right (by omega), hjl, Nat.sub_self, ht]
          have hlt : t < a.tmps.size := by
            rw [hlen]
            rw [List.all_eq_true] at hdst
            have h1 := hdst o (by obtain ⟨h, rfl⟩ := Array.getElem?_eq_some_iff.1 ho; simp)
            rw [ht] at h1
            exact of_decide_eq_true h1
          simp [Act.put, hlt]
  · rintro f w done hall ⟨vs, hI⟩ hV
    have hlen : vs.length = steps.length := by
      rcases Nat.lt_or_ge vs.length steps.length with h | h
      · obtain ⟨i', hi'⟩ : ∃ i', steps[vs.length]? = some i' := ⟨_, List.getElem?_eq_getElem h⟩
        obtain ⟨⟨o2, h2, -⟩, -⟩ := chain_at hchain hi'
        have := (hI.so _ _ hi').1 (hall i' (Array.getElem?_eq_some_iff.1 h2).1)
        omega
      · have := hI.le; omega
    refine hend f w vs hlen hI.c (fun k i o t hk hi ho ht => ?_) hV
    rw [← hI.slots k i o t hk hi ho ht, putAll_tmps, if_pos]
    refine ⟨?_, ?_⟩
    · rw [← hl, dsts, List.mem_filterMap]
      exact ⟨o, by obtain ⟨h, rfl⟩ := Array.getElem?_eq_some_iff.1 ho; simp, ht⟩
    · rw [List.all_eq_true] at hdst
      have h1 := hdst o (by obtain ⟨h, rfl⟩ := Array.getElem?_eq_some_iff.1 ho; simp)
      rw [ht] at h1
      exact of_decide_eq_true h1
end

/-- An operation whose guard is met is as one that has none. -/
theorem wpList_met {P : Program} {ops : Array Oper} {Q : Exit → Act → World → Prop} {a : Act} {w : World} {rest : List Oper} {d : Option Tmp} {op : Op} {t : TypeId} {p : String} {af : Array Edge} {g : Option (Nat × Bool)}
    (hw : Region.wanted ⟨d, op, t, p, af, g⟩ (yielded ops a.tmps) = true) (h : wpList P ops Q (⟨d, op, t, p, af, none⟩ :: rest) a w) : wpList P ops Q (⟨d, op, t, p, af, g⟩ :: rest) a w := by
  unfold wpList at h ⊢
  rw [if_pos hw]
  rw [if_pos (by simp [Region.wanted])] at h
  exact h

end Go.Proofs.YtnalokjnbccjnaaGreatDoor
