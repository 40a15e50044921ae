/- StoreNames: names are any bytes, told in order; a name that goes is gone: for every input the law returns true. -/
import Derived.Test.YtnalokjnbccjnaaGreatDoorCards
import Derived.Test.YtnalokjnbccjnaaGreatDoorTie
import Derived.WalkKit
import Derived.ProofKit
import Derived.OpenShut
import Derived.ShutString
import Derived.ChangeOld
import Derived.Below
import Derived.Test.YtnalokjnbccjnaaGreatDoorM14
import Derived.Deep.DeepHandedRow
import Derived.SevenTiedAt
import Derived.LaidMore
import Derived.Stop.Joined
namespace Go.Proofs.YtnalokjnbccjnaaGreatDoor.storeNames
open Go.ChangeShapes Go.WideShapes Go.ChangeAt Go.RowKit
open Go.ChangeMaps (open_string shut_string)
set_option linter.unusedVariables false

theorem own : ownKnob Tryz.prog.godebug = none := by kernel_rfl
theorem laidOut : laidOutB Tryz.prog = true := by kernel_rfl

theorem tab_of {w : World} (L : laidMetH Tryz.prog Rows.storeNamesRow.laid w) : Tab w := Tab.of (Lib.tabIs_of_head (rest := []) gNib (by kernel_rfl) Tryz.underlying199 Tryz.underlying155 (by kernel_rfl) (by kernel_rfl) L)
theorem done_one (X : FL) (nm : ByteArray) (gn : Bool) (sl : Option Addr × Nat × Nat) (b : List UInt8) : doneL X [(nm, gn, sl, b)] = setL X nm b gn := rfl
theorem byte_row (k : Nat) (hk : k < 256) : (#[Value.int .u8 (k : Int)] : Array Value) = (cells [UInt8.ofNat k]).toArray := by
  unfold cells
  rw [byte_of k hk]
  rfl
theorem one_len (X : FL) (nm : ByteArray) (k : Nat) (g : Bool) (h : ∀ x ∈ X, x.2.length = 1) : ∀ x ∈ setL X nm [UInt8.ofNat k] g, x.2.length = 1 := by
  intro x hx
  rcases set_mem hx with rfl | hx
  · rfl
  · exact h x hx

set_option maxHeartbeats 8000000 in
set_option maxRecDepth 100000 in
theorem walk (w : World) (L : laidMetH Tryz.prog Rows.storeNamesRow.laid w) (a0 : Option Addr) (len0 cap0 : Nat) (l0 : List ByteArray) (w0 : RStr w (.slice a0 len0 cap0) l0) (a1 : Option Addr) (len1 cap1 : Nat) (l1 : List Bool) (w1 : RV w (.slice a1 len1 cap1) (zb l1)) :
    Calls Tryz.prog 9 #[.slice a0 len0 cap0, .slice a1 len1 cap1] w fun e w' => e = .returned (.bool true) ∧ Below w.heap.size w w' := by
  have hT := tab_of L
  clear L
  have C0 := Go.Lib.hid (begun_c w hT)
  have HT := Go.Lib.hid hT; clear hT
  obtain ⟨ad, cp, hv, hm63⟩ := w0.1.form
  simp only [Value.slice.injEq] at hv
  obtain ⟨rfl, hl0, rfl⟩ := hv
  rw [zs_len] at hl0 hm63
  rw [← hl0] at hm63
  obtain ⟨ad, cp, hv, hm64, -⟩ := w1.zbForm
  simp only [Value.slice.injEq] at hv
  obtain ⟨rfl, hl1, rfl⟩ := hv
  rw [← hl1] at hm64
  have HW0 := Go.Lib.hid w0
  have HW1 := Go.Lib.hid w1
  have HL0 := Go.Lib.hid (And.intro hl0 hl1)
  clear w0 w1 hl0 hl1
  go_enter Tryz.func9, Tryz.ntmps9
  go_wp2_with fail
  refine C0.out.mono ?_
  rintro e w1 ⟨rfl, hb1⟩
  have HB1 := Go.Lib.hid hb1
  have C1 := Go.Lib.hid (snew_c 200 w1)
  clear hb1 C0
  go_wp2_with fail
  refine C1.out.mono ?_
  rintro e w2 ⟨d, g, rfl, hd2, hb2⟩
  rw [show lenD 200 = 200 from rfl] at hd2
  have HB2 := Go.Lib.hid (HB1.out.trans (hb2.mono HB1.out.size))
  have C2 := Go.Lib.hid (make_ok (hd2.mono HB1.out.size) (HT.out.below HB2.out) (by omega) HT.out.low HB2.out.size)
  clear hd2 hb2 C1 HB1
  go_wp2_with fail
  refine C2.out.mono ?_
  rintro e w3 ⟨s, p, rfl, hw3, ht3, hb3, -⟩
  have HB3 := Go.Lib.hid (HB2.out.trans hb3)
  have HW3 := Go.Lib.hid hw3
  clear hw3 ht3 hb3 C2 HB2
  go_wp2_with fail
  go_loopw [8, 9] (fun nv i wr => ∃ (k K : Nat) (u : Value) (X : FL), u = nv ∧ k ≤ 20 ∧ k ≤ len0 ∧ i = .int .i64 (k : Int) ∧ K ≤ 4 + 1400 * k ∧ LW wr w.heap.size s d g p 200 (lifeN K) (1 + k) X ∧ OwnF wr w.heap.size u X ∧ X.length ≤ k ∧ (∀ x ∈ X, x.2.length = 1) ∧ Below w.heap.size w wr) (fun _ i _ => 20 - (intOf i).toNat)
  case atStart => exact ⟨0, 4, _, [], rfl, by omega, by omega, rfl, by omega, HW3.out, OwnF.nil _ _, by simp, fun x hx => absurd hx (by simp), HB3.out⟩
  case round =>
    obtain ⟨k, K, u, X, rfl, hk, hk0, rfl, hK, hlw, hof, hxl, hx1, hbw⟩ := hrel
    have HK := Go.Lib.hid hK
    have HLW := Go.Lib.hid hlw
    have HOF := Go.Lib.hid hof
    have HXL := Go.Lib.hid (And.intro hxl hx1)
    have HBW := Go.Lib.hid hbw
    clear hK hlw hof hxl hx1 hbw
    by_cases hlt : k < len0
    · by_cases hlt2 : k < 20
      · have hkI : (k : Int) < (len0 : Int) := by omega
        have hkI2 : (k : Int) < 20 := by omega
        obtain ⟨b0, o0, rfl, z0, -⟩ := (HW0.out.1.below HBW.out).at k (by rw [zs_len]; have := HL0.out.1; omega)
        have hkl : k < l0.length := by have := HL0.out.1; omega
        have hz : (zs l0)[k]'(by rw [zs_len]; exact hkl) = .string l0[k] := by unfold zs; rw [List.getElem_map]
        rw [hz] at z0
        have hsz := HW0.out.2 l0[k] (List.getElem_mem hkl)
        have HLT := Go.Lib.hid (And.intro hlt hlt2)
        generalize l0[k] = nm at *
        unfold maxLen at hsz
        clear hlt hlt2 hk hk0 hkl hz
        by_cases hn1 : nm.size < 1
        · have hnI : (nm.size : Int) < 1 := by omega
          clear hn1
          go_wp2_with fail
          go_roundw
          case rel => exact ⟨k + 1, K, u, X, rfl, by have := HLT.out; omega, by have := HLT.out; omega, by go_num, by have := HK.out; omega, HLW.out.turn (by omega), HOF.out, by have := HXL.out.1; omega, HXL.out.2, HBW.out⟩
          case measure => simp only [intOf]; have := HLT.out; omega
        · by_cases hn2 : 20 < nm.size
          · have hnI : ¬ (nm.size : Int) < 1 := by omega
            have hnI2 : (20 : Int) < (nm.size : Int) := by omega
            clear hn1 hn2
            go_wp2_with fail
            go_roundw
            case rel => exact ⟨k + 1, K, u, X, rfl, by have := HLT.out; omega, by have := HLT.out; omega, by go_num, by have := HK.out; omega, HLW.out.turn (by omega), HOF.out, by have := HXL.out.1; omega, HXL.out.2, HBW.out⟩
            case measure => simp only [intOf]; have := HLT.out; omega
          · have hnI : ¬ (nm.size : Int) < 1 := by omega
            have hnI2 : ¬ (20 : Int) < (nm.size : Int) := by omega
            have HNS := Go.Lib.hid (show 1 ≤ nm.size ∧ nm.size ≤ 20 by omega)
            clear hn1 hn2
            have ew : IntKind.u8.wrap (k : Int) = (k : Int) := by rw [IntKind.wrap_u8']; have := HLT.out; omega
            -- is it to go?
            obtain ⟨gn, hgn⟩ : ∃ gn : Bool, gn = (decide (k < len1) && l1.getD k false) := ⟨_, rfl⟩
            -- the Apply
            have hbA := newB wr (.cells #[.int .u8 (k : Int)] 5)
            have hr1 := TX.lits wr [UInt8.ofNat k] #[.int .u8 (k : Int)] 1 (byte_row k (by have := HLT.out; omega)) rfl (by simp) (0, 0)
            have hrp := RPt.one (wr.alloc (.cells #[.int .u8 (k : Int)] 5)) (wr.heap.size + 1) (by simp) (nm, gn, (some ⟨wr.heap.size, 0, none⟩, 1, 1), [UInt8.ofNat k]) hr1 (0, 0)
            have hbB := below_to hbA (Nat.le_refl _) (newB (wr.alloc (.cells #[.int .u8 (k : Int)] 5)) (.cells #[.string nm, .bool gn, slV (some ⟨wr.heap.size, 0, none⟩, 1, 1)] 47))
            have hXl := HXL.out.1
            have hsl := set_len nm [UInt8.ofNat k] gn X
            have hsl2 : (setL X nm [UInt8.ofNat k] gn).length ≤ X.length + 1 := by
              unfold setL
              split at hsl <;> omega
            have CA := Go.Lib.hid (apply_ok (HLW.out.below hbB) ((HT.out.below HBW.out).below hbB) HT.out.low hrp (by simp) (fun x hx => by rw [List.mem_singleton.1 hx]; exact ⟨HNS.out.1, HNS.out.2, by simp⟩) (by simp) (by rw [done_one]; have := HLT.out; omega) (by have := HK.out; have := HLT.out; omega) (by have := HLT.out; omega) 1 186 (by omega) (by omega) (fun x hx => by rw [HXL.out.2 x hx]; decide) (fun x hx _ _ => by rw [List.mem_singleton.1 hx]; show secs 1 = 1; decide) (by omega) (by simp only [List.length_cons, List.length_nil]; unfold secs; have := HLT.out; omega) (by simp only [List.length_cons, List.length_nil]; have := HLT.out; omega))
            rw [done_one] at CA
            have HLB := Go.Lib.hid (HLW.out.below hbB)
            have HOB := Go.Lib.hid (HOF.out.below hbB)
            have HBB := Go.Lib.hid (below_to HBW.out (Nat.le_refl _) hbB)
            have HSL := Go.Lib.hid hsl2
            clear hbA hr1 hrp hbB hXl hsl hsl2
            by_cases hg1 : k < len1
            · obtain ⟨b1, o1, rfl, y1, -⟩ := (HW1.out.below HBW.out).at k (by unfold zb; rw [List.length_map]; have := HL0.out.2; omega)
              have hkl1 : k < l1.length := by have := HL0.out.2; omega
              have hz1 : (zb l1)[k]'(by unfold zb; rw [List.length_map]; exact hkl1) = .bool gn := by
                unfold zb
                rw [List.getElem_map, hgn, decide_eq_true hg1, Bool.true_and, List.getD, List.getElem?_eq_getElem hkl1]
                rfl
              rw [hz1] at y1
              have hg1I : (k : Int) < (len1 : Int) := by omega
              clear hg1 hkl1 hz1 hgn
              go_wp2_with fail
              refine CA.out.mono ?_
              rintro e w6 ⟨rfl, ⟨K', hK', hlw6⟩, ht6, hb6, ho6⟩
              have hof6 : OwnF w6 w.heap.size u X := HLB.out.rowKept HOB.out ho6 (by decide) (by decide) (by decide) (by decide)
              have hbz := newB w6 (.cells #[.int .u8 (k : Int)] 5)
              have hr6 := TX.lits w6 [UInt8.ofNat k] #[.int .u8 (k : Int)] 1 (byte_row k (by have := HLT.out; omega)) rfl (by simp) (0, 0)
              have hcv := run_string_RB (w6.alloc (.cells #[.int .u8 (k : Int)] 5)) 45 5 9 Tryz.underlying45 Tryz.underlying5 Tryz.underlying9 (.slice (some ⟨w6.heap.size, 0, none⟩) 1 1) [UInt8.ofNat k] hr6.1
              have CS := Go.Lib.hid (lset_c u X (hof6.below hbz) (by have := HXL.out.1; have := HLT.out; omega) nm [UInt8.ofNat k] gn)
              have HB6 := Go.Lib.hid (below_to (HBB.out.trans hb6) (Nat.le_refl _) hbz)
              have HLW6 := Go.Lib.hid (hlw6.below hbz)
              have HK6 := Go.Lib.hid hK'
              clear hof6 hbz hr6 hb6 hlw6 hK' ht6 ho6 CA
              go_wp2_with fail
              clear hcv
              refine CS.out.mono ?_
              rintro e w7 ⟨v7, rfl, hof7, hb7⟩
              have CH := Go.Lib.hid (has_c (HLW6.out.below hb7) v7 (setL X nm [UInt8.ofNat k] gn) hof7 (by have := HSL.out; have := HXL.out.1; have := HLT.out; omega))
              have HB7 := Go.Lib.hid (below_to HB6.out (Nat.le_refl _) hb7)
              have HLW7 := Go.Lib.hid (HLW6.out.below hb7)
              have HOF7 := Go.Lib.hid (show OwnF w7 w.heap.size v7 (setL X nm [UInt8.ofNat k] gn) from row_mono hof7 HB6.out.size)
              clear hof7 hb7 CS
              go_wp2_with fail
              refine CH.out.mono ?_
              rintro e w8 ⟨r, rfl, hr, hb8⟩
              obtain rfl : r = true := by first | exact hr.2 rfl | exact hr.2 trivial
              have HB8 := Go.Lib.hid (below_to HB7.out (Nat.le_refl _) hb8)
              have HLW8 := Go.Lib.hid (HLW7.out.below hb8)
              have HOF8 := Go.Lib.hid (HOF7.out.below hb8)
              clear hr hb8 CH
              go_wp2_with fail
              go_roundw
              case rel => exact ⟨k + 1, K', v7, _, rfl, by have := HLT.out; omega, by have := HLT.out; omega, by go_num, by have := HK6.out; have := HK.out; omega, HLW8.out, HOF8.out, by have := HSL.out; have := HXL.out.1; omega, one_len X nm k gn HXL.out.2, HB8.out⟩
              case measure => simp only [intOf]; have := HLT.out; omega
            · have hg1I : ¬ (k : Int) < (len1 : Int) := by omega
              obtain rfl : gn = false := by rw [hgn, decide_eq_false hg1, Bool.false_and]
              clear hg1 hgn
              go_wp2_with fail
              refine CA.out.mono ?_
              rintro e w6 ⟨rfl, ⟨K', hK', hlw6⟩, ht6, hb6, ho6⟩
              have hof6 : OwnF w6 w.heap.size u X := HLB.out.rowKept HOB.out ho6 (by decide) (by decide) (by decide) (by decide)
              have hbz := newB w6 (.cells #[.int .u8 (k : Int)] 5)
              have hr6 := TX.lits w6 [UInt8.ofNat k] #[.int .u8 (k : Int)] 1 (byte_row k (by have := HLT.out; omega)) rfl (by simp) (0, 0)
              have hcv := run_string_RB (w6.alloc (.cells #[.int .u8 (k : Int)] 5)) 45 5 9 Tryz.underlying45 Tryz.underlying5 Tryz.underlying9 (.slice (some ⟨w6.heap.size, 0, none⟩) 1 1) [UInt8.ofNat k] hr6.1
              have CS := Go.Lib.hid (lset_c u X (hof6.below hbz) (by have := HXL.out.1; have := HLT.out; omega) nm [UInt8.ofNat k] false)
              have HB6 := Go.Lib.hid (below_to (HBB.out.trans hb6) (Nat.le_refl _) hbz)
              have HLW6 := Go.Lib.hid (hlw6.below hbz)
              have HK6 := Go.Lib.hid hK'
              clear hof6 hbz hr6 hb6 hlw6 hK' ht6 ho6 CA
              go_wp2_with fail
              clear hcv
              refine CS.out.mono ?_
              rintro e w7 ⟨v7, rfl, hof7, hb7⟩
              have CH := Go.Lib.hid (has_c (HLW6.out.below hb7) v7 (setL X nm [UInt8.ofNat k] false) hof7 (by have := HSL.out; have := HXL.out.1; have := HLT.out; omega))
              have HB7 := Go.Lib.hid (below_to HB6.out (Nat.le_refl _) hb7)
              have HLW7 := Go.Lib.hid (HLW6.out.below hb7)
              have HOF7 := Go.Lib.hid (show OwnF w7 w.heap.size v7 (setL X nm [UInt8.ofNat k] false) from row_mono hof7 HB6.out.size)
              clear hof7 hb7 CS
              go_wp2_with fail
              refine CH.out.mono ?_
              rintro e w8 ⟨r, rfl, hr, hb8⟩
              obtain rfl : r = true := by first | exact hr.2 rfl | exact hr.2 trivial
              have HB8 := Go.Lib.hid (below_to HB7.out (Nat.le_refl _) hb8)
              have HLW8 := Go.Lib.hid (HLW7.out.below hb8)
              have HOF8 := Go.Lib.hid (HOF7.out.below hb8)
              clear hr hb8 CH
              go_wp2_with fail
              go_roundw
              case rel => exact ⟨k + 1, K', v7, _, rfl, by have := HLT.out; omega, by have := HLT.out; omega, by go_num, by have := HK6.out; have := HK.out; omega, HLW8.out, HOF8.out, by have := HSL.out; have := HXL.out.1; omega, one_len X nm k false HXL.out.2, HB8.out⟩
              case measure => simp only [intOf]; have := HLT.out; omega
      · have hkI : (k : Int) < (len0 : Int) := by omega
        have hkI2 : ¬ (k : Int) < 20 := by omega
        clear hlt hlt2 hk hk0
        go_wp2_with fail
        go_ret
        exact ⟨rfl, HBW.out⟩
    · have hkI : ¬ (k : Int) < (len0 : Int) := by omega
      clear hlt hk hk0
      go_wp2_with fail
      go_ret
      exact ⟨rfl, HBW.out⟩

/-! ### THE ROW -/
noncomputable def laidWorld (os : Os) : World := World.doorLaid Tryz.prog 400 os
theorem laid_met (os : Os) : laidMetH Tryz.prog Rows.storeNamesRow.laid ((laidWorld os).forCall (fun _ _ => 0) ⟨#[], #[.slice none 0 0, .slice none 0 0], []⟩).memory :=
  laidMetH_of_parts3 (fuel := 8) (laidMet_of_run' 8 (by kernel_rfl) (by kernel_rfl)) (by kernel_rfl) (by kernel_rfl)
theorem reads (os : Os) {H : Type} (enc : TypeId × Value → H) : ∃ places, DataW.whole enc Tryz.prog ((laidWorld os).forCall (fun _ _ => 0) ⟨#[], #[.slice none 0 0, .slice none 0 0], []⟩).memory Tryz.f9.params.toList Rows.storeNamesSpec.vars false (Array.toList #[.slice none 0 0, .slice none 0 0]) 8 = some ([.nil, .nil], [], places) :=
  ⟨[], by kernel_rfl⟩

set_option maxRecDepth 100000 in
theorem lifted (os : Os) (started : os.Started) (H : Type) (enc : TypeId × Value → H) (F : Stop.Interp) :
    ReturnsInHanded {} Tryz.checked os 9 .any ((OpenSpec.ofChange Rows.storeNamesSpec).preRow enc Tryz.prog Tryz.f9 Rows.storeNamesRow.domain false Rows.storeNamesRow.laid) (((OpenSpec.ofChange Rows.storeNamesSpec).at F).post enc Tryz.prog Tryz.f9 false true false false) := by
  obtain ⟨places, hx⟩ := reads os enc
  refine returnsInHanded_of_row (C := Tryz.checked) (s := OpenSpec.ofChange Rows.storeNamesSpec) own started (by kernel_rfl) Tryz.func9
    (witness_row_at (enc := enc) (C := Tryz.checked) false (laidWorld os) #[.slice none 0 0, .slice none 0 0] rfl (by kernel_rfl) (by kernel_rfl) (by kernel_rfl)
      (OpenSpec.preRow_of_cond 8 hx (by kernel_rfl) (fun k hk => by cases hk) (by kernel_rfl) (laid_met os))) ?_
  intro W base args ds gs before hval0 hW _ _ _ hL _ _
  have hval : ∀ (j : Nat) t v, Tryz.f9.params[j]? = some t → args[j]? = some v → Value.okWide Tryz.prog W .any base t v := hval0
  have hW' := hW
  obtain ⟨p, q, hA0, hV, rfl, hfz, hnd⟩ := hW
  have hA : DataW.TrodAll enc Tryz.prog W 0 (fun _ => true) true Tryz.f9.params.toList args.toList ds p := hA0
  rw [Tryz.params9] at hA hval
  obtain ⟨v0, vs0, d0, ds0, p0, q0, hargs, rfl, rfl, h0, r0⟩ := trodAll_cons hA
  obtain ⟨v1, vs1, d1, ds1, p1, q1, rfl, rfl, rfl, h1, r1⟩ := trodAll_cons r0
  obtain ⟨rfl, rfl, rfl⟩ := trodAll_nil r1
  obtain rfl : args = #[v0, v1] := by cases args; simp_all
  obtain ⟨rfl, rfl⟩ := trodVars_none hV
  have kk0 := h0
  have lt0 : ∀ x ∈ p0, x.block < W.heap.size := by obtain ⟨m, hm⟩ := kk0; exact DataW.trod_lt m _ _ _ hm
  have kk1 := h1
  have lt1 : ∀ x ∈ p1, x.block < W.heap.size := by obtain ⟨m, hm⟩ := kk1; exact DataW.trod_lt m _ _ _ hm
  obtain ⟨a0, len0, cap0, rfl⟩ := okWide_slice Tryz.underlying49 (hval 0 49 v0 rfl rfl)
  obtain ⟨l0, w0⟩ := open_texts h0
  obtain ⟨a1, len1, cap1, rfl⟩ := okWide_slice Tryz.underlying32 (hval 1 32 v1 rfl rfl)
  obtain ⟨l1, w1⟩ := open_zb Tryz.underlying32 Tryz.underlying4 (by kernel_rfl) h1
  clear hA0 hval0
  refine (walk W hL a0 len0 cap0 l0 w0 a1 len1 cap1 l1 w1).mono fun e W' ⟨he, bel⟩ => ?_
  subst he
  exact ⟨_, rfl, _, _, _, [], _, [], hW', trodAll_mk1 (shut_bool Tryz.underlying4 _), (trodAll_cons_mk (Below.trod laidOut (by kernel_rfl) (of_decide_eq_true (by kernel_rfl)) kk0 bel lt0) (trodAll_cons_mk (Below.trod laidOut (by kernel_rfl) (of_decide_eq_true (by kernel_rfl)) kk1 bel lt1) trodAll_mk0)), rfl, bel.frame _, fun h => by cases h⟩

theorem said : Rows.StoreNamesSaid :=
  OpenClaim.holds_of_cond 9 Tryz.f9 rfl rfl rfl rfl rfl rfl rfl ⟨rfl, rfl, rfl, rfl, rfl⟩ rfl rfl rfl rfl rfl (by kernel_rfl) Tryz.func9 (by kernel_rfl)
    (of_decide_eq_true (by kernel_rfl)) (by unfold Func.isWrapper; first | (rw [if_pos (by decide +kernel)]; kernel_rfl) | (rw [if_neg (by decide +kernel)]; exact ⟨rfl, rfl⟩))
    (fun os started H enc _ F => by rw [OpenClaim.pre_eq_preRow]; exact lifted os started H enc F)

/-- No parameter wants a stand-in; the program's own looks are off: what the card asks. -/
theorem plain (f : FuncId) (fn : Func) (hf : Tryz.pinned.checked.prog.funcNamed "loess/loesslaw15.StoreNames" = some f) (hfn : Tryz.pinned.checked.prog.funcs[f]? = some fn) :
    false = Tryz.pinned.checked.prog.looks [] ∧ ∀ (j : Nat) t, fn.params[j]? = some t → Tryz.pinned.checked.prog.wantsStandIn t = false := by
  obtain rfl : f = 9 := Option.some.inj ((show Tryz.prog.funcNamed "loess/loesslaw15.StoreNames" = some 9 by kernel_rfl).symm.trans hf) |>.symm
  obtain rfl : fn = Tryz.f9 := (Option.some.inj (Tryz.func9.symm.trans hfn)).symm
  refine ⟨by kernel_rfl, fun j t ht => ?_⟩
  rw [Tryz.params9] at ht
  have hm : t ∈ [49, 32] := by simpa using Array.mem_of_getElem? ht
  have hall : ([49, 32].all fun u => !Tryz.prog.wantsStandIn u) = true := by kernel_rfl
  exact (show Tryz.prog.wantsStandIn t = false by simpa using List.all_eq_true.1 hall t hm)

/-- THE CARD. -/
theorem proved : Rows.StoreNamesCardSaid :=
  Claim7.holds_tied_plain_at .later [] _ _ _ _ said (fun _ h => by cases h) (by kernel_rfl) (fun _ h => by cases h) storeNames_row_tie rfl ⟨rfl, rfl⟩ (by kernel_rfl) rfl plain (by kernel_rfl)
end Go.Proofs.YtnalokjnbccjnaaGreatDoor.storeNames
