/-
  Stage 17: slices of places; places.
  Stage 17: Set; what lies where, told by its places.
  slices.Sort of ints: the library's contract laid at this program (made by gen/SortI.py).
-/
import Derived.Test.YtkddleonmkhaiaaM14
import Derived.Deep.DeepCutAuto
import Derived.Shelf.SlGeneric
import Derived.Shelf.SortM.Plain
import Derived.Shelf.SortM.SortNone
import Derived.Ground.SlgmProg
import Derived.Test.YtkddleonmkhaiaaProg
namespace Go.Proofs.Ytkddleonmkhaiaa
open Go.RowKit

def KP : Lay (Nat × Nat) := ⟨fun e => [.int .i64 (e.1 : Int), .int .i64 (e.2 : Int)], 2, 81, 75, .agg #[.int .i64 0, .int .i64 0], 16⟩
theorem KP_ok : KP.Ok Try.prog := ⟨by decide, fun _ => rfl, fun x u hu => by
  rcases List.mem_cons.1 hu with rfl | hu
  · rfl
  · rw [List.mem_singleton.1 hu]; rfl, Try.underlying75, by kernel_rfl, rfl, by decide⟩
theorem KP.one' (w : World) (b s : Nat) : KP.R (w.alloc (.cells #[.int .i64 (b : Int), .int .i64 (s : Int)] 81)) (.slice (some ⟨w.heap.size, 0, none⟩) 1 1) [(b, s)] := Lay.R.one w KP_ok (b, s) 81 (0, 0)
theorem KP.at' {w : World} {a : Option Addr} {n cap : Nat} {l : List (Nat × Nat)} (h : KP.R w (.slice a n cap) l) (i : Nat) (hi : i < l.length) : ∃ b o, a = some ⟨b, o, none⟩ ∧ n = l.length ∧ b < w.heap.size ∧ w.cell? ⟨b, o + i * 2, none⟩ = some (.int .i64 (l[i].1 : Int)) ∧ w.cell? ⟨b, o + i * 2 + 1, none⟩ = some (.int .i64 (l[i].2 : Int)) := by
  obtain ⟨b, o, h1, h2, h3, h4⟩ := h.at KP_ok i hi
  exact ⟨b, o, h1, h2, h3, h4 0 _ rfl, h4 1 _ rfl⟩
theorem idxP (b o n cap j : Nat) (h : j < n) (W : World) : (Instr.indexAt 75 (.slice (some ⟨b, o, none⟩) n cap) (.int .i64 (j : Int))).run Try.prog W = .ok (.pointer (some ⟨b, o + j * 2, none⟩)) W := KP_ok.run_idx b o n cap j h W

/-! ### Where entries of a tag lie. -/
def hitO (t : Nat) : Option (Nat × Int) → Bool
  | some x => x.1 == t
  | none => false
theorem hitO_eq (t : Nat) (x : Option (Nat × Int)) : hitO t x = (hasO x && tagO x == t) := by
  cases x <;> rfl
def hitsT (T : SlT) (t b k : Nat) : List (Nat × Nat) := ((List.range k).filter fun s => hitO t (T (4 * b + s))).map fun s => (b, s)
theorem hitsT_succ (T : SlT) (t b k : Nat) : hitsT T t b (k + 1) = hitsT T t b k ++ (if hitO t (T (4 * b + k)) = true then [(b, k)] else []) := by
  unfold hitsT
  rw [List.range_succ, List.filter_append, List.map_append]
  congr 1
  rw [List.filter_cons, List.filter_nil]
  split <;> rfl
theorem hitsT_len (T : SlT) (t b k : Nat) : (hitsT T t b k).length ≤ k := by
  unfold hitsT
  rw [List.length_map]
  have := List.length_filter_le (fun s => hitO t (T (4 * b + s))) (List.range k)
  rw [List.length_range] at this
  exact this
def bkX (x i : Nat) : Nat := if i = 0 then firstN x else othN (firstN x) (tagN x)
theorem bkX_lt (x i : Nat) : bkX x i < 8 := by
  unfold bkX
  split
  · exact first_lt x
  · exact oth_lt _ (first_lt x)
def foundT (T : SlT) (x : Nat) : Nat → List (Nat × Nat)
  | 0 => []
  | i + 1 => foundT T x i ++ hitsT T (tagN x) (bkX x i) 4
theorem foundT_len (T : SlT) (x : Nat) : ∀ i, (foundT T x i).length ≤ 4 * i
  | 0 => by simp [foundT]
  | i + 1 => by have := foundT_len T x i; have := hitsT_len T (tagN x) (bkX x i) 4; rw [foundT, List.length_append]; omega
def placesT (T : SlT) (x : Nat) : List (Nat × Nat) := foundT T x 2

theorem idx2 (f o i : Nat) (hi : i < 2) (W : World) : (Instr.index 106 (.agg #[.int .i64 (f : Int), .int .i64 (o : Int)]) (.int .i64 (i : Int))).run Try.prog W = .ok (.int .i64 ((if i = 0 then f else o : Nat) : Int)) W := by
  rcases (by omega : i = 0 ∨ i = 1) with rfl | rfl <;> kernel_rfl

set_option maxHeartbeats 1000000 in
set_option maxRecDepth 100000 in
theorem cplaces_c {w : World} {d : Nat} {T : SlT} (h : CK w d T) {x : Nat} (hx : x < 18446744073709551616) :
    Calls Try.prog 40 #[.pointer (some ⟨d, 0, none⟩), .int .u64 (x : Int)] w fun e w' => ∃ v, e = .returned v ∧ KP.O w' w.heap.size v (placesT T x) ∧ Below w.heap.size w w' := by
  have HD := Go.Lib.hid fun W (hW : Below w.heap.size w W) => h.below hW
  have PA := Go.Lib.hid fun W => cpair_c x W hx
  have TA := Go.Lib.hid fun W => htag_c x W hx
  have HR := Go.Lib.hid (idxRow T)
  have HI2 := Go.Lib.hid (show ∀ i : Nat, i < 2 → ∀ W, (Instr.index 106 (.agg #[.int .i64 (firstN x : Int), .int .i64 (othN (firstN x) (tagN x) : Int)]) (.int .i64 (i : Int))).run Try.prog W = .ok (.int .i64 (bkX x i : Int)) W from fun i hi W => idx2 _ _ i hi W)
  have HBK := Go.Lib.hid (bkX_lt x)
  have HLEN := Go.Lib.hid (fun b => show (Try.prog.info? 70).map (·.size) = some (rowO T b).length by kernel_rfl)
  clear h hx
  generalize hfx : firstN x = fx at *
  generalize hox : othN fx (tagN x) = ox at *
  go_enter Try.func40, Try.ntmps40
  go_wp2_with fail
  refine (PA.out _).mono ?_
  rintro e w1 ⟨rfl, rfl⟩
  go_wp2_with fail
  go_loopw [5, 22] (fun lv iv wr => ∃ (i : Nat) (u : Value), u = lv ∧ i ≤ 2 ∧ iv = .int .i64 (i : Int) ∧ KP.O wr w.heap.size u (foundT T x i) ∧ Below w.heap.size w wr) (fun _ iv _ => 2 - (intOf iv).toNat)
  case atStart => exact ⟨0, _, rfl, by omega, rfl, Lay.O.nil _ _, Below.refl _ _⟩
  case round =>
    obtain ⟨i, u, rfl, hi, rfl, hO, hbc⟩ := hrel
    by_cases hi2 : i < 2
    · have hiI : (i : Int) < 2 := by omega
      have h2 := HI2.out i hi2
      have hbk := HBK.out i
      have HLB := Go.Lib.hid (foundT_len T x i)
      have HF1 := Go.Lib.hid (show foundT T x (i + 1) = foundT T x i ++ hitsT T (tagN x) (bkX x i) 4 from rfl)
      generalize hbb : bkX x i = bk at *
      have h1 := fun W => idxB d bk hbk W
      have HRG := Go.Lib.hid ((HD.out wr hbc).range bk hbk)
      have HO := Go.Lib.hid hO
      have HB := Go.Lib.hid hbc
      have hir := HR.out bk
      have HL2 := Go.Lib.hid (HLEN.out bk)
      have HS0 := Go.Lib.hid (hitsT_succ T (tagN x) bk)
      have HSL := Go.Lib.hid (hitsT_len T (tagN x) bk)
      have HIT := Go.Lib.hid (fun s => hitO_eq (tagN x) (T (4 * bk + s)))
      generalize foundT T x i = F at *
      generalize rowO T bk = R at *
      clear hO hbc hbb
      go_wp2_with (first
        | ((with_reducible show wpList _ _ _ (⟨some 30, _, _, _, _, _⟩ :: _) _ _); go_loud (refine wpList_load_mid rfl 70 (.tmp 29) rfl d (12 * bk) rfl R _ HRG.out Try.underlying70 rfl HL2.out ?_))
        | fail)
      clear h1 h2
      go_loopw [5, 31] (fun lv sv w2 => ∃ (s : Nat) (u : Value), u = lv ∧ s ≤ 4 ∧ sv = .int .i64 (s : Int) ∧ KP.O w2 w.heap.size u (F ++ hitsT T (tagN x) bk s) ∧ Below w.heap.size w w2) (fun _ sv _ => 4 - (intOf sv).toNat)
      case atStart => exact ⟨0, _, rfl, by omega, rfl, by rw [show hitsT T (tagN x) bk 0 = [] from rfl, List.append_nil]; exact HO.out, HB.out⟩
      case round =>
        obtain ⟨s, u2, rfl, hs, rfl, hO, hbc⟩ := hrel
        by_cases hs4 : s < 4
        · have hsI : (s : Int) < 4 := by omega
          have hie := hir s hs4
          have H1 := Go.Lib.hid (HS0.out s)
          have HT1 := Go.Lib.hid (HIT.out s)
          have HLX := Go.Lib.hid (show (F ++ hitsT T (tagN x) bk s).length ≤ 100 by have := HSL.out s; have := HLB.out; rw [List.length_append]; omega)
          have HO2 := Go.Lib.hid hO
          have HB2 := Go.Lib.hid hbc
          clear hO hbc hir
          have hZ0 : ∃ Z, Z = hitsT T (tagN x) bk (s + 1) := ⟨_, rfl⟩
          obtain ⟨Z, hZ0⟩ := hZ0
          rw [← hZ0] at H1
          have HZ0 := Go.Lib.hid hZ0
          clear hZ0
          generalize hitsT T (tagN x) bk s = Y at *
          generalize hitO (tagN x) (T (4 * bk + s)) = hit at *
          generalize tagO (T (4 * bk + s)) = tt at *
          generalize idO (T (4 * bk + s)) = ii at *
          generalize tagN x = tx at *
          have hb1 := (Below.refl wr.heap.size wr).alloc (Nat.le_refl _) (.cells #[.bool (hasO (T (4 * bk + s))), .int .i64 (tt : Int), .int .i64 ii] 69)
          have HO3 := Go.Lib.hid (HO2.out.below hb1)
          have HB3 := Go.Lib.hid (HB2.out.trans (hb1.mono HB2.out.size))
          clear hb1
          generalize hasO (T (4 * bk + s)) = hh at *
          cases hh with
          | false =>
            have HZ := Go.Lib.hid (show F ++ Z = F ++ Y by rw [H1.out, HT1.out]; simp)
            clear H1 HT1
            go_upto_region 11 with (fail)
            go_quiet (fail)
            go_wp2_with fail
            go_roundw
            case rel => exact ⟨s + 1, _, rfl, by omega, by go_num, by rw [← HZ0.out, HZ.out]; exact HO3.out.below (below_drewN (Below.refl _ _) _), below_drewN HB3.out _⟩
            case measure => simp only [intOf]; omega
          | true =>
            by_cases ht : tt = tx
            · have b1 : ((tt : Int) == (tx : Int)) = true := by simp [ht]
              have HZ := Go.Lib.hid (show F ++ Z = (F ++ Y) ++ [(bk, s)] by rw [H1.out, HT1.out]; simp [ht])
              clear H1 HT1 ht
              generalize F ++ Y = FY at *
              go_upto_region 11 with (fail)
              go_quiet ((go_at_call 38; exact Calls.quiet_of_same ((TA.out _).mono fun _ _ ⟨h, hw⟩ => ⟨h, hw.symm⟩)))
              have HOQ := Go.Lib.hid (HO3.out.below (below_drewN (Below.refl _ _) nq))
              have HBQ := Go.Lib.hid (below_drewN HB3.out nq)
              generalize ((wr.alloc (.cells #[.bool true, .int .i64 (tt : Int), .int .i64 ii] 69)).drewN nq) = w3 at *
              have hb4 := (Below.refl w3.heap.size w3).alloc (Nat.le_refl _) (.cells #[.int .i64 (bk : Int), .int .i64 (s : Int)] 81)
              have HO4 := Go.Lib.hid (HOQ.out.below hb4)
              have HB4 := Go.Lib.hid (HBQ.out.trans (hb4.mono HBQ.out.size))
              have HONE := Go.Lib.hid (KP.one' w3 bk s)
              clear hb4 HO3 HB3 HO2 HB2
              go_wp2_with (first
                | ((with_reducible show wpList _ _ _ (⟨some 49, _, _, _, _, _⟩ :: _) _ _); go_loud (refine KP_ok.append rfl (.tmp 44) (.tmp 48) rfl w.heap.size u2 (.slice (some ⟨w3.heap.size, 0, none⟩) 1 1) FY [(bk, s)] rfl rfl HO4.out HONE.out (by have := HLX.out; simp; omega) HB4.out.size ?_); intro v5 w5 hown5 hg5; have HB5 := Go.Lib.hid (HB4.out.grown hg5 HB4.out.size HO4.out.row); have HO5 := Go.Lib.hid hown5; clear hown5 hg5)
                | fail)
              go_roundw
              case rel => exact ⟨s + 1, _, rfl, by omega, by go_num, by rw [← HZ0.out, HZ.out]; exact HO5.out, HB5.out⟩
              case measure => simp only [intOf]; omega
            · have b1 : ((tt : Int) == (tx : Int)) = false := by simp only [beq_eq_false_iff_ne, ne_eq]; omega
              have HZ := Go.Lib.hid (show F ++ Z = F ++ Y by rw [H1.out, HT1.out]; simp [ht])
              clear H1 HT1 ht
              go_upto_region 11 with (fail)
              go_quiet ((go_at_call 38; exact Calls.quiet_of_same ((TA.out _).mono fun _ _ ⟨h, hw⟩ => ⟨h, hw.symm⟩)))
              go_wp2_with fail
              go_roundw
              case rel => exact ⟨s + 1, _, rfl, by omega, by go_num, by rw [← HZ0.out, HZ.out]; exact HO3.out.below (below_drewN (Below.refl _ _) _), below_drewN HB3.out _⟩
              case measure => simp only [intOf]; omega
        · obtain rfl : s = 4 := by omega
          have HO3 := Go.Lib.hid hO
          have HB3 := Go.Lib.hid hbc
          clear hO hbc hir hs4
          go_wp2_with fail
          go_roundw
          case rel => exact ⟨i + 1, _, rfl, by omega, by go_num, by rw [HF1.out]; exact HO3.out, HB3.out⟩
          case measure => simp only [intOf]; omega
    · obtain rfl : i = 2 := by omega
      have HO3 := Go.Lib.hid hO
      have HB3 := Go.Lib.hid hbc
      clear hO hbc hi2
      go_wp2_with fail
      go_ret
      exact ⟨_, rfl, HO3.out, HB3.out⟩

theorem cplaces_nil (x : Nat) (w : World) : Calls Try.prog 40 #[.pointer none, .int .u64 (x : Int)] w fun e w' => e = .returned (.slice none 0 0) ∧ w = w' := by
  go_enter Try.func40, Try.ntmps40
  go_wp2_with fail
  go_ret
  exact ⟨rfl, rfl⟩

end Go.Proofs.Ytkddleonmkhaiaa

namespace Go.Proofs.Ytkddleonmkhaiaa
open Go.RowKit

/-! ### Mathematics: places and entries. -/
theorem hits_mem {T : SlT} {t b k : Nat} {p : Nat × Nat} : p ∈ hitsT T t b k ↔ p.1 = b ∧ p.2 < k ∧ hitO t (T (4 * b + p.2)) = true := by
  unfold hitsT
  rw [List.mem_map]
  constructor
  · rintro ⟨s, hs, rfl⟩
    rw [List.mem_filter, List.mem_range] at hs
    exact ⟨rfl, hs.1, hs.2⟩
  · rintro ⟨h1, h2, h3⟩
    exact ⟨p.2, by rw [List.mem_filter, List.mem_range]; exact ⟨h2, h3⟩, by rw [← h1]⟩
theorem hitO_some {t : Nat} {x : Option (Nat × Int)} (h : hitO t x = true) : x = some (t, idO x) := by
  cases x with
  | none => cases h
  | some y =>
    have h1 : y.1 = t := by simpa [hitO] using h
    rw [← h1]
    rfl
theorem places_mem {T : SlT} {x : Nat} {p : Nat × Nat} : p ∈ placesT T x ↔ (p.1 = firstN x ∨ p.1 = othN (firstN x) (tagN x)) ∧ p.2 < 4 ∧ hitO (tagN x) (T (4 * p.1 + p.2)) = true := by
  show p ∈ ([] ++ hitsT T (tagN x) (bkX x 0) 4) ++ hitsT T (tagN x) (bkX x 1) 4 ↔ _
  rw [List.nil_append, List.mem_append, hits_mem, hits_mem]
  have e0 : bkX x 0 = firstN x := rfl
  have e1 : bkX x 1 = othN (firstN x) (tagN x) := rfl
  rw [e0, e1]
  constructor
  · rintro (⟨h1, h2, h3⟩ | ⟨h1, h2, h3⟩)
    · exact ⟨.inl h1, h2, by rw [h1]; exact h3⟩
    · exact ⟨.inr h1, h2, by rw [h1]; exact h3⟩
  · rintro ⟨h1 | h1, h2, h3⟩
    · exact .inl ⟨h1, h2, by rw [h1] at h3; exact h3⟩
    · exact .inr ⟨h1, h2, by rw [h1] at h3; exact h3⟩
theorem places_lt {T : SlT} {x : Nat} {p : Nat × Nat} (h : p ∈ placesT T x) : p.1 < 8 ∧ p.2 < 4 ∧ T (4 * p.1 + p.2) = some (tagN x, idO (T (4 * p.1 + p.2))) ∧ keyN p.1 (tagN x) = keyH x := by
  obtain ⟨h1, h2, h3⟩ := places_mem.1 h
  have hf := first_lt x
  have ho := oth_lt (tagN x) hf
  refine ⟨by omega, h2, hitO_some h3, ?_⟩
  unfold keyH
  rcases h1 with h1 | h1
  · rw [h1]
  · rw [h1, keyN_oth _ hf]
theorem places_of {T : SlT} {x q : Nat} {i : Int} (hT : T q = some (tagN x, i)) (hq : q < 32) (hk : keyN (q / 4) (tagN x) = keyH x) : (q / 4, q % 4) ∈ placesT T x := by
  rw [places_mem]
  refine ⟨?_, Nat.mod_lt _ (by omega), ?_⟩
  · unfold keyH at hk
    exact ((keyN_iff (by omega) (first_lt x)).1 hk).2
  · rw [show 4 * (q / 4) + q % 4 = q by omega, hT]
    simp [hitO]
/-- An entry that is there lies in a slot. -/
theorem Fits.slot {T : SlT} {es : List EnT} (h : Fits T es) {k : Nat} (hk : k < es.length) : ∃ q, q < 32 ∧ T q = some (tagN es[k].1, es[k].2) ∧ keyN (q / 4) (tagN es[k].1) = keyH es[k].1 := by
  have h1 : keyE es[k] ∈ (slL T).map keyS := (List.Perm.mem_iff h).2 (List.mem_map.2 ⟨es[k], List.getElem_mem hk, rfl⟩)
  obtain ⟨y, hy, hye⟩ := List.mem_map.1 h1
  obtain ⟨q, hq, hqe⟩ := List.mem_filterMap.1 hy
  rw [Option.map_eq_some_iff] at hqe
  obtain ⟨z, hz, rfl⟩ := hqe
  have hq' := List.mem_range.1 hq
  unfold keyS keyE at hye
  rw [Prod.mk.injEq] at hye
  obtain ⟨h2, h3⟩ := hye
  simp only [] at h2 h3
  have h4 : z.1 = tagN es[k].1 := by
    have := congrArg Prod.snd h2
    simpa [keyN, keyH] using this
  refine ⟨q, hq', ?_, ?_⟩
  · rw [hz, ← h4, ← h3]
  · rw [← h4]; exact h2
/-- What lies in a slot is there. -/
theorem Fits.entry {T : SlT} {es : List EnT} (h : Fits T es) {q t : Nat} {i : Int} (hq : q < 32) (hT : T q = some (t, i)) : ∃ k, ∃ hk : k < es.length, keyE es[k] = (keyN (q / 4) t, i) := by
  have h1 : (keyN (q / 4) t, i) ∈ es.map keyE := (List.Perm.mem_iff h).1 (List.mem_map.2 ⟨(q / 4, t, i), List.mem_filterMap.2 ⟨q, List.mem_range.2 hq, by rw [hT]; rfl⟩, rfl⟩)
  obtain ⟨e, he, hee⟩ := List.mem_map.1 h1
  obtain ⟨k, hk, rfl⟩ := List.mem_iff_getElem.1 he
  exact ⟨k, hk, hee⟩

/-! ### A slot is written. -/
section
variable {w w' : World} {d : Nat} {T : SlT}
theorem CK.setSlot (h : CK w d T) {q : Nat} (hq : q < 32) (x : Option (Nat × Int)) (hx : ∀ y, x = some y → y.1 < 32768) : CK (w.setCells d (3 * q) (encO x)) d (layT T q x) := by
  obtain ⟨cs, fr, hr⟩ := h.row
  have hin : ∀ j, j < 3 → (w.setCells d (3 * q) (encO x)).cell? ⟨d, 3 * q + j, none⟩ = (encO x)[j]? := fun j hj => by
    rw [World.cell?_setCells_in d (encO x) (3 * q) w (fun i hi => by rw [h.cell q i hq hi, List.getElem?_eq_getElem (show i < (encO (T q)).length from hi)]; rfl) j hj]
    exact (List.getElem?_eq_getElem hj).symm
  have hout : ∀ p j, p < 32 → j < 3 → p ≠ q → (w.setCells d (3 * q) (encO x)).cell? ⟨d, 3 * p + j, none⟩ = w.cell? ⟨d, 3 * p + j, none⟩ := fun p j hp hj hne =>
    World.cell?_setCells_out d (encO x) (3 * q) w ⟨d, 3 * p + j, none⟩ (fun _ _ => by show 3 * p + j < 3 * q ∨ 3 * q + 3 ≤ 3 * p + j; omega)
  have hall : ∀ p j, p < 32 → j < 3 → (w.setCells d (3 * q) (encO x)).cell? ⟨d, 3 * p + j, none⟩ = (encO (layT T q x p))[j]? := fun p j hp hj => by
    unfold layT
    by_cases hpq : p = q
    · rw [if_pos hpq, hpq]; exact hin j hj
    · rw [if_neg hpq, hout p j hp hj hpq]; exact h.cell p j hp hj
  refine ⟨?_, ?_, fun o => by rw [World.frozen?_setCells]; exact h.fr o, fun p hp => hall p 0 hp (by omega), fun p hp => hall p 1 hp (by omega), fun p hp => hall p 2 hp (by omega)⟩
  · have key : ∀ (vs : List Value) (w : World) (o : Nat) (cs : Array Value), w.heap[d]? = some (.cells cs 73 fr) → ∃ cs', (w.setCells d o vs).heap[d]? = some (.cells cs' 73 fr) := by
      intro vs
      induction vs with
      | nil => intro w o cs hr; exact ⟨cs, hr⟩
      | cons v r ih =>
        intro w o cs hr
        rw [World.setCells]
        exact ih (w.setCell ⟨d, o, none⟩ v) (o + 1) (cs.setIfInBounds o v) (by simp [World.setCell, Array.getElem?_modify, hr])
    obtain ⟨cs', hc⟩ := key (encO x) w (3 * q) cs hr
    exact ⟨cs', fr, hc⟩
  · intro p y hy
    unfold layT at hy
    split at hy
    · rename_i e
      exact ⟨by omega, hx y hy⟩
    · exact h.tok p y hy
theorem CK.setId (h : CK w d T) {q t : Nat} {j : Int} (hq : q < 32) (hT : T q = some (t, j)) (i : Int) : CK (w.setCell ⟨d, 3 * q + 2, none⟩ (.int .i64 i)) d (layT T q (some (t, i))) := by
  obtain ⟨cs, fr, hr⟩ := h.row
  have hs : (w.setCell ⟨d, 3 * q + 2, none⟩ (.int .i64 i)).cell? ⟨d, 3 * q + 2, none⟩ = some (.int .i64 i) := World.cell?_setCell_same _ _ _ (h.id q hq)
  have ho : ∀ p j, (p ≠ q ∨ j ≠ 2) → j < 3 → (w.setCell ⟨d, 3 * q + 2, none⟩ (.int .i64 i)).cell? ⟨d, 3 * p + j, none⟩ = w.cell? ⟨d, 3 * p + j, none⟩ := fun p j hp hj =>
    World.cell?_setCell_other _ _ _ _ (fun e => by simp only [Addr.mk.injEq] at e; omega)
  have hne : ∀ p, p ≠ q → layT T q (some (t, i)) p = T p := fun p hp => by unfold layT; rw [if_neg hp]
  have heq : layT T q (some (t, i)) q = some (t, i) := by unfold layT; rw [if_pos rfl]
  refine ⟨⟨cs.setIfInBounds (3 * q + 2) (.int .i64 i), fr, by simp [World.setCell, Array.getElem?_modify, hr]⟩, ?_, fun o => by rw [World.frozen?_setCell]; exact h.fr o, fun p hp => ?_, fun p hp => ?_, fun p hp => ?_⟩
  · intro p y hy
    unfold layT at hy
    split at hy
    · rename_i e
      cases hy
      exact ⟨by omega, (h.tok q _ hT).2⟩
    · exact h.tok p y hy
  · rw [show 3 * p = 3 * p + 0 from rfl, ho p 0 (.inr (by omega)) (by omega)]
    by_cases e : p = q
    · rw [e, heq]; have := h.has q hq; rw [hT] at this; exact this
    · rw [hne p e]; exact h.has p hp
  · rw [ho p 1 (.inr (by omega)) (by omega)]
    by_cases e : p = q
    · rw [e, heq]; have := h.tag q hq; rw [hT] at this; exact this
    · rw [hne p e]; exact h.tag p hp
  · by_cases e : p = q
    · rw [e, heq]; exact hs
    · rw [ho p 2 (.inl e) (by omega), hne p e]; exact h.id p hp
end

/-! ### Set. -/
/-- The first place whose number is old, if there is one. -/
def idP (T : SlT) (p : Nat × Nat) : Int := idO (T (4 * p.1 + p.2))
end Go.Proofs.Ytkddleonmkhaiaa

namespace Go.Proofs.Ytkddleonmkhaiaa
open Go.RowKit Go.Sort Go.Shelf
def sortIL_ren : Go.Shelf.Ren := ⟨fun | 5 => 41 | 8 => 55 | 7 => 54 | 19 => 70 | 20 => 71 | 10 => 61 | 11 => 62 | 12 => 63 | 13 => 64 | 14 => 65 | 15 => 66 | 16 => 67 | 17 => 68 | 18 => 69 | 30 => 75 | 31 => 76 | 32 => 77 | 33 => 78 | 34 => 79 | 35 => 80 | 40 => 91 | n => n, fun | 23 => 41 | 25 => 3 | 3 => 3 | 32 => 85 | 22 => 41 | 0 => 0 | 44 => 125 | 46 => 58 | 4 => 4 | 36 => 117 | 35 => 116 | 41 => 122 | 5 => 5 | 9 => 9 | 53 => 128 | 57 => 132 | 63 => 140 | 64 => 77 | n => n, fun | n => n⟩
theorem sortIL : Go.Proofs.SlLaysM.n5 Try.prog sortIL_ren := {
  mixed := by kernel_rfl
  f5 := ⟨Try.f41.name, by decide, Try.func41.trans (congrArg some (by kernel_rfl))⟩
  f7 := ⟨Try.f54.name, by decide, Try.func54.trans (congrArg some (by kernel_rfl))⟩
  f8 := Try.func55.trans (congrArg some (by kernel_rfl))
  f10 := ⟨Try.f61.name, by decide, Try.func61.trans (congrArg some (by kernel_rfl))⟩
  f11 := ⟨Try.f62.name, by decide, Try.func62.trans (congrArg some (by kernel_rfl))⟩
  f12 := ⟨Try.f63.name, by decide, Try.func63.trans (congrArg some (by kernel_rfl))⟩
  f13 := ⟨Try.f64.name, by decide, Try.func64.trans (congrArg some (by kernel_rfl))⟩
  f14 := ⟨Try.f65.name, by decide, Try.func65.trans (congrArg some (by kernel_rfl))⟩
  f15 := ⟨Try.f66.name, by decide, Try.func66.trans (congrArg some (by kernel_rfl))⟩
  f16 := ⟨Try.f67.name, by decide, Try.func67.trans (congrArg some (by kernel_rfl))⟩
  f17 := ⟨Try.f68.name, by decide, Try.func68.trans (congrArg some (by kernel_rfl))⟩
  f18 := ⟨Try.f69.name, by decide, Try.func69.trans (congrArg some (by kernel_rfl))⟩
  f19 := Try.func70.trans (congrArg some (by kernel_rfl))
  f20 := Try.func71.trans (congrArg some (by kernel_rfl))
  f30 := ⟨Try.f75.name, by decide, Try.func75.trans (congrArg some (by kernel_rfl))⟩
  f31 := Try.func76.trans (congrArg some (by kernel_rfl))
  f32 := Try.func77.trans (congrArg some (by kernel_rfl))
  f33 := ⟨Try.f78.name, by decide, Try.func78.trans (congrArg some (by kernel_rfl))⟩
  f34 := ⟨Try.f79.name, by decide, Try.func79.trans (congrArg some (by kernel_rfl))⟩
  f35 := ⟨Try.f80.name, by decide, Try.func80.trans (congrArg some (by kernel_rfl))⟩
  f40 := ⟨Try.f91.name, by decide, Try.func91.trans (congrArg some (by kernel_rfl))⟩
  t0 := Try.underlying0
  a0 := Try.isAgg0
  z0 := Try.sizeOf0
  v0 := Try.zeroValue0
  t3 := Try.underlying3
  a3 := Try.isAgg3
  z3 := Try.sizeOf3
  v3 := Try.zeroValue3
  t4 := Try.underlying4
  a4 := Try.isAgg4
  z4 := Try.sizeOf4
  v4 := Try.zeroValue4
  t5 := Try.underlying5
  a5 := Try.isAgg5
  z5 := Try.sizeOf5
  v5 := Try.zeroValue5
  t9 := Try.underlying9
  a9 := Try.isAgg9
  z9 := Try.sizeOf9
  v9 := Try.zeroValue9
  t22 := Try.underlying41
  a22 := Try.isAgg41
  z22 := Try.sizeOf41
  v22 := Try.zeroValue41
  t23 := Try.underlying41
  a23 := Try.isAgg41
  z23 := Try.sizeOf41
  v23 := Try.zeroValue41
  t25 := Try.underlying3
  a25 := Try.isAgg3
  z25 := Try.sizeOf3
  v25 := Try.zeroValue3
  t32 := Try.underlying85
  a32 := Try.isAgg85
  z32 := Try.sizeOf85
  v32 := Try.zeroValue85
  t35 := Try.underlying116
  a35 := Try.isAgg116
  z35 := Try.sizeOf116
  v35 := Try.zeroValue116
  t36 := Try.underlying117
  a36 := Try.isAgg117
  z36 := Try.sizeOf117
  v36 := Try.zeroValue117
  t41 := Try.underlying122
  a41 := Try.isAgg122
  z41 := Try.sizeOf122
  v41 := Try.zeroValue122
  t44 := Try.underlying125
  a44 := Try.isAgg125
  z44 := Try.sizeOf125
  v44 := Try.zeroValue125
  t46 := Try.underlying58
  a46 := Try.isAgg58
  z46 := Try.sizeOf58
  v46 := Try.zeroValue58
  t53 := Try.underlying128
  a53 := Try.isAgg128
  z53 := Try.sizeOf128
  v53 := Try.zeroValue128
  t57 := Try.underlying132
  a57 := Try.isAgg132
  z57 := Try.sizeOf132
  v57 := Try.zeroValue132
  t63 := Try.underlying140
  a63 := Try.isAgg140
  z63 := Try.sizeOf140
  v63 := Try.zeroValue140
  t64 := Try.underlying77
  a64 := Try.isAgg77
  z64 := Try.sizeOf77
  v64 := Try.zeroValue77 }

end Go.Proofs.Ytkddleonmkhaiaa
