/-
  Stage 20: table, List, Bytes, Open.
  Stage 20: hashstore.Open.
  Stage 20: bucket, alike, Get, Reads.
  The reference's Bytes.
  Stage 19: the reference's TableBytes.
  Slices of records: contract of the reference's EqRecs.
  The reference's Find.
  Records by the generic laws of slices (XGenS): their layout.
  Stage 18: the reference's Reads of a log's records.
-/
import Derived.Test.YthbnecdeebmlhaaGreatM10
import Derived.Test.YthbnecdeebmlhaaGreatM09
import Derived.Test.YthbnecdeebmlhaaGreatM04
import Derived.Test.YthbnecdeebmlhaaGreatM06
import Derived.Test.YthbnecdeebmlhaaGreatM03
import Derived.LoopTactic
import Derived.BigQuiet
import Derived.Test.YthbnecdeebmlhaaGreatM01
import Derived.Deep.DeepMust
import Derived.Test.YthbnecdeebmlhaaGreatM08
import Derived.Test.YthbnecdeebmlhaaGreatM05
import Derived.Deep.DeepCutAuto
import Derived.Test.YthbnecdeebmlhaaGreatM07
import Derived.Lib.SliceRun
import Derived.Maps.OwnSet
import Derived.Maps.OwnOps
import Derived.Sort.KeysCollected
import Derived.Shelf.SlGeneric
import Derived.Shelf.SlIter.Nil
import Derived.Shelf.SortM.Plain
import Derived.Shelf.SortM.SortNone
import Derived.Ground.GgzProg
import Derived.Ground.SlgmProg
import Derived.Test.YthbnecdeebmlhaaGreatProg
import Derived.Carry
namespace Go.Proofs.YthbnecdeebmlhaaGreat
open Go.RowKit

def VHt (g i D R : Nat) (kx : ByteArray) (gx : Bool) (ax nx : Int) (sx : ByteArray) : Nat → World → Value → Prop
  | 23, _, v => v = .int .i64 (i : Int)
  | 24, _, v => v = .int .i64 (D : Int)
  | 25, _, v => v = .int .i64 (i : Int)
  | 26, _, v => v = .int .i64 (R : Int)
  | 27, _, v => v = .agg #[.string kx, .bool gx, .int .i64 ax, .int .i64 nx, .string sx]
  | 28, _, v => v = .agg #[.bool true, .string kx, .bool gx, .int .i64 ax, .int .i64 nx, .string sx]
  | 29, _, v => v = .pointer (some ⟨g, 24 * D, none⟩)
  | 30, _, v => v = .pointer (some ⟨g, 24 * D + 6 * R, none⟩)
  | _, _, _ => True
theorem VHt_below (g i D R : Nat) (kx : ByteArray) (gx : Bool) (ax nx : Int) (sx : ByteArray) : ∀ (i' : Nat) (w w' : World) (v : Value), VHt g i D R kx gx ax nx sx i' w v → Below w.heap.size w w' → VHt g i D R kx gx ax nx sx i' w' v := by
  intro i' w w' v h hb
  unfold VHt at h ⊢
  split at h <;> first | exact h | trivial | exact h

theorem ret_htab_at {w w0 : World} {tmps : Array Value} {TL : List Value} {g : Nat} {fr : Nat × Nat}
    (hp : tmps.getD 2 undef = .pointer (some ⟨g, 0, none⟩)) (hg : w.heap[g]? = some (.cells TL.toArray 43 fr)) (hs : (Tryz.prog.info? 43).map (·.size) = some TL.length) (hb : Below w0.heap.size w0 w) :
    bodyPost Tryz.prog Tryz.f49 (fun e w' => e = .returned (.agg TL.toArray) ∧ Below w0.heap.size w0 w') Exit.ret { tmps := tmps, defers := [] } w :=
  bodyPost_ret (results_cell_row (P := Tryz.prog) (fn := Tryz.f49) (p := 2) (ty := 43) rfl tmps w g 43 TL.toArray fr _ hp hg Tryz.underlying43 rfl (by rw [hs, List.size_toArray])) rfl ⟨rfl, hb⟩

/-- What table has in hand: the result's block g, t's block g + 1. -/
structure HtI (TT : TabT) (ZA : Array Value) (g i : Nat) (w0 w : World) : Prop where
  tab : TO w (g + 1) (maskT TT i)
  zero : w.heap[g]? = some (.cells ZA 43 (0, 0))
  bel : Below g w0 w
theorem HtI.below {TT : TabT} {ZA : Array Value} {g i : Nat} {w0 w w' : World} (h : HtI TT ZA g i w0 w) (hb : Below w.heap.size w w') : HtI TT ZA g i w0 w' :=
  ⟨h.tab.below hb, row_kept h.zero hb, h.bel.trans (hb.mono (Nat.le_of_lt (row_lt h.zero)))⟩
theorem tab_slot_congr {w : World} {g : Nat} {TT UU : TabT} (h : TO w g TT) (he : ∀ q, q < 32 → TT q = UU q) : TO w g UU :=
  ⟨h.row, h.fr, fun q j hq hj => by rw [← he q hq]; exact h.cell q j hq hj⟩

set_option maxHeartbeats 8000000 in
set_option maxRecDepth 100000 in
theorem htable_c {w : World} {B p : Nat} {u : Value} {r : Option Addr} {TT : TabT} (h : HW w B p u r TT) :
    Calls Tryz.prog 49 #[.pointer (some ⟨p, 0, none⟩)] w fun e w' => e = .returned (.agg (tabL TT 32).toArray) ∧ Below w.heap.size w w' := by
  have hz := zero_tabZ
  have HSZ := Go.Lib.hid (sizeTabO zeroT)
  have HST := Go.Lib.hid (sizeTabO TT)
  have HTO := Go.Lib.hid (tabL_one TT)
  have HLE := Go.Lib.hid (show (tabL zeroT 32).length = (tabL TT 32).length from by rw [tabL_len, tabL_len])
  have HT0 := Go.Lib.hid (fun W => TO.new W zeroT)
  have HCT := Go.Lib.hid (show tabL (maskT TT (recsT TT 32).length) 32 = tabL TT 32 from tabL_congr 32 (fun q hq => tmask_all h.lay.ok hq))
  have HRG := Go.Lib.hid (fun (W : World) g (h : TO W g (maskT TT (recsT TT 32).length)) => h.range)
  rw [HCT.out] at HRG
  generalize tabL zeroT 32 = ZL at *
  generalize tabL TT 32 = TL at *
  obtain ⟨g, hg⟩ : ∃ g, g = w.heap.size := ⟨_, rfl⟩
  have HG := Go.Lib.hid hg
  have hb1 := below_one w (.cells ZL.toArray 43)
  have hs1 : (w.alloc (.cells ZL.toArray 43)).heap.size = w.heap.size + 1 := Array.size_push _
  have hb2 := below_one (w.alloc (.cells ZL.toArray 43)) (.cells ZL.toArray 43)
  have hT2 := HT0.out (w.alloc (.cells ZL.toArray 43))
  rw [hs1, ← hg] at hT2
  have HI := Go.Lib.hid (show HtI TT ZL.toArray g 0 w ((w.alloc (.cells ZL.toArray 43)).alloc (.cells ZL.toArray 43)) from
    ⟨by rw [mask_zero]; exact hT2, row_kept (by rw [hg]; exact heap_alloc_new w _) hb2, by rw [hg]; exact hb1.trans (hb2.mono hb1.size)⟩)
  have HH := Go.Lib.hid (show ∀ W, Below g w W → HW W B p u r TT from fun W hb => h.below (by rw [← hg]; exact hb))
  have HLN := Go.Lib.hid (recsT_len TT 32)
  obtain ⟨a, cap, rfl, hm⟩ := h.own.rs.form
  clear hb1 hb2 hT2 HT0 HCT h
  go_enter Tryz.func49, Tryz.ntmps49
  go_upto_region 2 with (fail)
  rw [← HG.out]
  clear hg hs1
  generalize (w.alloc (.cells ZL.toArray 43)).alloc (.cells ZL.toArray 43) = w2 at *
  obtain ⟨x0, x1⟩ := (HH.out _ HI.out.bel).cells
  go_wp2_with fail
  clear x0 x1
  go_loopw [12] (fun iv wr => ∃ i : Nat, i ≤ (recsT TT 32).length ∧ iv = .int .i64 (i : Int) ∧ Hid (HtI TT ZL.toArray g i w wr)) (fun iv _ => (recsT TT 32).length - (intOf iv).toNat)
  case atStart => exact ⟨0, by omega, rfl, HI⟩
  case round =>
    clear HI
    obtain ⟨i, hi, rfl, HI⟩ := hrel
    by_cases hlt : i < (recsT TT 32).length
    · have hltI : (i : Int) < ((recsT TT 32).length : Int) := by omega
      have H := Go.Lib.hid (HH.out _ HI.out.bel)
      obtain ⟨x0, x1⟩ := H.out.cells
      obtain ⟨b, o, rfl, -, -, c0, c1, c2, c3, c4⟩ := H.out.own.rs.at i hlt
      have hix := run_idx5 b o (recsT TT 32).length cap i hlt
      obtain ⟨q, hq, hpl⟩ := place_has hlt
      obtain ⟨hq1, hrec, hset⟩ := mask_step hq hpl hlt
      have CP := Go.Lib.hid (fun (W : World) (hb : Below wr.heap.size wr W) => by
        have := rplace_c (i : Int) W B r (hasL TT 32) (H.out.rk.below hb) (by omega) (by have := recsT_len TT 32; omega)
        rw [placeI_some hpl] at this
        exact this)
      have HSET := Go.Lib.hid hset
      clear hpl hq1 hrec hset
      generalize (recsT TT 32)[i] = x at *
      obtain ⟨kx, gx, ax, nx, sx⟩ := x
      simp only [] at c0 c1 c2 c3 c4
      generalize (recsT TT 32).length = len at *
      have hbA := below_one wr (.cells #[.string kx, .bool gx, .int .i64 ax, .int .i64 nx, .string sx] 28)
      have HX := Go.Lib.hid (heap_alloc_new wr (.cells #[.string kx, .bool gx, .int .i64 ax, .int .i64 nx, .string sx] 28))
      have HI2 := Go.Lib.hid (HI.out.below hbA)
      have CP := Go.Lib.hid (CP.out _ hbA)
      obtain ⟨x0, x1⟩ := (H.out.below hbA).cells
      clear hbA HI H
      go_upto_region 5 with (fail)
      obtain ⟨g3, hg3⟩ : ∃ g, g = wr.heap.size := ⟨_, rfl⟩
      rw [← hg3] at HX ⊢
      clear hg3 c0 c1 c2 c3 c4 hix
      generalize wr.alloc (.cells #[.string kx, .bool gx, .int .i64 ax, .int .i64 nx, .string sx] 28) = w4 at *
      go_upto_region 6 with (fail)
      refine CP.out.mono ?_
      rintro e w5 ⟨rfl, hc⟩
      have HX5 := Go.Lib.hid (row_kept HX.out hc)
      have HI5 := Go.Lib.hid (HI2.out.below hc)
      clear hc CP HX HI2 x0 x1
      go_upto_region 6 with (fail)
      obtain ⟨D, hD⟩ : ∃ D, D = q / 4 := ⟨_, rfl⟩
      obtain ⟨R, hR⟩ : ∃ R, R = q % 4 := ⟨_, rfl⟩
      have d1 : (q : Int).tdiv 4 = (D : Int) := by rw [Int.tdiv_eq_ediv_of_nonneg (by omega)]; omega
      have r1 : (q : Int).tmod 4 = (R : Int) := by rw [Int.tmod_eq_emod_of_nonneg (by omega)]; omega
      have hD8 : D < 8 := by omega
      have hR4 : R < 4 := by omega
      have HIE := Go.Lib.hid (show 4 * D + R = q by omega)
      have hwD : IntKind.i64.wrap (D : Int) = (D : Int) := by rw [IntKind.wrap_i64]; omega
      have hix1 := idxO (g + 1) D hD8
      have hix2 := idxO2 (g + 1) (24 * D) R hR4
      clear hD hR
      refine wp_region_head 8 (by decide) (by kernel_rfl) (VHt (g + 1) q D R kx gx ax nx sx) (VHt_below (g + 1) q D R kx gx ax nx sx) (by decide +kernel) (by rfl) [23, 24, 25, 26, 27, 28, 29, 30] (by rfl) ?_ ?_
      · intro i' o hin ho a w8 hb8 hlen hg
        obtain ⟨y0, y1, y2, y3, y4⟩ := row5 (row_kept HX5.out hb8)
        match i', hin, ho with
        | 0, hin, ho =>
          obtain rfl := Option.some.inj ho
          have h8 := given_old hg 6 (by decide +kernel)
          clear hg
          exact st_yield ho (wanted_none rfl) (.int .i64 (q : Int)) w8 (by simp [execOp, Act.eval, h8, go_sem]) ⟨_, rfl, Below.refl _ _, by rintro t' ⟨⟩; rfl⟩
        | 1, hin, ho =>
          obtain rfl := Option.some.inj ho
          obtain ⟨_, h42, rfl⟩ := given_fed hg 23 (by decide +kernel)
          clear hg
          exact st_yield ho (wanted_none rfl) (.int .i64 (D : Int)) w8 (by simp [execOp, Act.eval, h42, go_sem, d1, hwD]) ⟨_, rfl, Below.refl _ _, by rintro t' ⟨⟩; rfl⟩
        | 2, hin, ho =>
          obtain rfl := Option.some.inj ho
          have h8 := given_old hg 6 (by decide +kernel)
          clear hg
          exact st_yield ho (wanted_none rfl) (.int .i64 (q : Int)) w8 (by simp [execOp, Act.eval, h8, go_sem]) ⟨_, rfl, Below.refl _ _, by rintro t' ⟨⟩; rfl⟩
        | 3, hin, ho =>
          obtain rfl := Option.some.inj ho
          obtain ⟨_, h44, rfl⟩ := given_fed hg 25 (by decide +kernel)
          clear hg
          exact st_yield ho (wanted_none rfl) (.int .i64 (R : Int)) w8 (by simp [execOp, Act.eval, h44, go_sem, r1]) ⟨_, rfl, Below.refl _ _, by rintro t' ⟨⟩; rfl⟩
        | 4, hin, ho =>
          obtain rfl := Option.some.inj ho
          have h9 := given_old hg 5 (by decide +kernel)
          clear hg
          exact st_yield ho (wanted_none rfl) (.agg #[.string kx, .bool gx, .int .i64 ax, .int .i64 nx, .string sx]) w8 (by simp [execOp, Act.eval, h9, go_sem, y0, y1, y2, y3, y4]) ⟨_, rfl, Below.refl _ _, by rintro t' ⟨⟩; rfl⟩
        | 5, hin, ho =>
          obtain rfl := Option.some.inj ho
          obtain ⟨_, h46, rfl⟩ := given_fed hg 27 (by decide +kernel)
          clear hg
          exact st_yield ho (wanted_none rfl) (.agg #[.bool true, .string kx, .bool gx, .int .i64 ax, .int .i64 nx, .string sx]) w8 (by simp [execOp, Act.eval, h46, build_oslot true kx gx ax nx sx w8]) ⟨_, rfl, Below.refl _ _, by rintro t' ⟨⟩; rfl⟩
        | 6, hin, ho =>
          obtain rfl := Option.some.inj ho
          have h6 := given_old hg 3 (by decide +kernel)
          obtain ⟨_, h43, rfl⟩ := given_fed hg 24 (by decide +kernel)
          clear hg
          exact st_yield ho (wanted_none rfl) (.pointer (some ⟨g + 1, 24 * D, none⟩)) w8 (by simp [execOp, Act.eval, h6, h43, go_sem, hix1]) ⟨_, rfl, Below.refl _ _, by rintro t' ⟨⟩; rfl⟩
        | 7, hin, ho =>
          obtain rfl := Option.some.inj ho
          obtain ⟨_, h48, rfl⟩ := given_fed hg 29 (by decide +kernel)
          obtain ⟨_, h45, rfl⟩ := given_fed hg 26 (by decide +kernel)
          clear hg
          exact st_yield ho (wanted_none rfl) (.pointer (some ⟨g + 1, 24 * D + 6 * R, none⟩)) w8 (by simp [execOp, Act.eval, h48, h45, go_sem, hix2]) ⟨_, rfl, Below.refl _ _, by rintro t' ⟨⟩; rfl⟩
        | n + 8, hin, ho => omega
      · intro f w8 hb8 hv
        have h47 := hv 28 (by decide)
        have h49 := hv 30 (by decide)
        simp only [VHt] at h47 h49
        have HI8 := Go.Lib.hid (HI5.out.below hb8)
        have HTH := Go.Lib.hid (show w8.there (g + 1) (24 * D + 6 * R) (#[.bool true, .string kx, .bool gx, .int .i64 ax, .int .i64 nx, .string sx] : Array Value).size from by rw [show 24 * D + 6 * R = 6 * q by have := HIE.out; omega]; exact HI8.out.tab.there hq)
        have hgr := setCells_gr (enc6 (true, kx, gx, ax, nx, sx)) w8 (g + 1) (24 * D + 6 * R)
        have HI9 := Go.Lib.hid (show HtI TT ZL.toArray g (i + 1) w (w8.setCells (g + 1) (24 * D + 6 * R) (enc6 (true, kx, gx, ax, nx, sx))) from by
          refine ⟨?_, ?_, ?_⟩
          · have := HI8.out.tab.set hq (true, kx, gx, ax, nx, sx)
            rw [show 6 * q = 24 * D + 6 * R by have := HIE.out; omega] at this
            exact tab_slot_congr this HSET.out
          · exact (hgr.block g (row_lt HI8.out.zero) (fun e => by have := Option.some.inj e; omega)).trans HI8.out.zero
          · exact HI8.out.bel.grown hgr (Nat.le_of_lt (row_lt HI8.out.zero)) (fun j e => by have := Option.some.inj e; omega))
        clear hv hb8 hix1 hix2 HI5 HI8 hgr d1 r1 hwD HX5
        unfold putAll
        simp only [List.foldl, List.drop]
        simp only [h47, h49]
        clear h47 h49
        go_simp
        go_wp2_with (first
          | (with_reducible show wpList _ _ _ (⟨none, _, _, _, _, _⟩ :: _) _ _; go_loud (refine wpList_store_mid rfl 40 (.tmp 30) (.tmp 28) rfl (g + 1) (24 * D + 6 * R) #[.bool true, .string kx, .bool gx, .int .i64 ax, .int .i64 nx, .string sx] rfl rfl HTH.out (by kernel_rfl) (six1 true kx gx ax nx sx) ?_))
          | fail)
        go_roundw
        case rel => exact ⟨i + 1, by omega, by go_num, HI9⟩
        case measure => simp only [intOf]; omega
    · obtain rfl : i = (recsT TT 32).length := by omega
      have HR9 := Go.Lib.hid (HRG.out _ _ HI.out.tab)
      have HZ := Go.Lib.hid HI.out.zero
      have HB := Go.Lib.hid (show Below w.heap.size w wr by rw [← HG.out]; exact HI.out.bel)
      clear HI HRG
      go_wp2_with (first
        | (with_reducible show wpList _ _ _ (⟨some 32, _, _, _, _, _⟩ :: _) _ _; go_loud (refine wpList_load_mid rfl 43 (.tmp 3) rfl (g + 1) 0 rfl TL _ HR9.out Tryz.underlying43 rfl HST.out ?_))
        | (with_reducible show wpList _ _ _ (⟨none, Op.store 43 (.tmp 2) (.tmp 32), _, _, _, _⟩ :: _) _ _; go_loud (refine wpList_store_row rfl 43 (.tmp 2) (.tmp 32) rfl g TL.toArray rfl rfl 43 _ HZ.out (by rw [HST.out, List.size_toArray]) (by rw [List.size_toArray, List.size_toArray]; exact HLE.out) HTO.out ?_))
        | fail)
      exact ret_htab_at rfl (setRow_heap _ _ _ _ _ (0, 0) HZ.out) HST.out (setRow_below _ HB.out (by have := HG.out; omega))

set_option maxRecDepth 100000 in
theorem hlist_c {w : World} {B p : Nat} {u : Value} {r : Option Addr} {TT : TabT} (h : HW w B p u r TT) :
    Calls Tryz.prog 21 #[.pointer (some ⟨p, 0, none⟩)] w fun e w' => ∃ v', e = .returned v' ∧ OwnRec w' w.heap.size v' (newestR (recsT TT 32)) ∧ Below w.heap.size w w' := by
  have C := Go.Lib.hid (htable_c h)
  have CL := Go.Lib.hid fun W => olist_c TT W h.lay.sizes
  have HN := Go.Lib.hid fun l (hp : l.Perm (recsT TT 32)) (hr : RiseL l) => rise_newest hr hp (ok_keys h.lay.ok)
  clear h
  generalize tabL TT 32 = TL at *
  go_enter Tryz.func21, Tryz.ntmps21
  go_wp2_with fail
  refine C.out.mono ?_
  rintro e w1 ⟨rfl, hb⟩
  have HB := Go.Lib.hid hb
  clear hb C
  go_wp2_with fail
  refine (CL.out _).mono ?_
  rintro e w2 ⟨v, l, rfl, hp, hr, ho, hb⟩
  obtain rfl := HN.out l hp hr
  have HB2 := Go.Lib.hid (HB.out.trans (hb.mono HB.out.size))
  have HO := Go.Lib.hid (ho.mono HB.out.size)
  clear hb CL ho hp hr HB
  go_wp2_with fail
  go_ret
  exact ⟨_, rfl, HO.out, HB2.out⟩

set_option maxRecDepth 100000 in
theorem hbytes_c {w : World} {B p : Nat} {u : Value} {r : Option Addr} {TT : TabT} (h : HW w B p u r TT) :
    Calls Tryz.prog 15 #[.pointer (some ⟨p, 0, none⟩)] w fun e w' => ∃ v', e = .returned v' ∧ Own 5 w' w.heap.size v' (tabB TT) ∧ Below w.heap.size w w' := by
  have C := Go.Lib.hid (htable_c h)
  have CL := fun W => oencode_c TT W h.lay.sizes h.lay.recs
  rw [if_pos h.lay.ok] at CL
  have CL := Go.Lib.hid CL
  clear h
  generalize tabL TT 32 = TL at *
  go_enter Tryz.func15, Tryz.ntmps15
  go_wp2_with fail
  refine C.out.mono ?_
  rintro e w1 ⟨rfl, hb⟩
  have HB := Go.Lib.hid hb
  clear hb C
  go_wp2_with fail
  refine (CL.out _).mono ?_
  rintro e w2 ⟨v, rfl, ho, hb⟩
  have HB2 := Go.Lib.hid (HB.out.trans (hb.mono HB.out.size))
  have HO := Go.Lib.hid (ho.mono HB.out.size)
  clear hb CL ho HB
  go_wp2_with fail
  go_ret
  exact ⟨_, rfl, HO.out, HB2.out⟩
end Go.Proofs.YthbnecdeebmlhaaGreat

namespace Go.Proofs.YthbnecdeebmlhaaGreat
open Go.RowKit

/-- What Open comes to. -/
def OpenTo (l : List UInt8) (w0 : World) (e : Ending) (w' : World) : Prop :=
  Below w0.heap.size w0 w' ∧ ((∃ TT, decT l = some TT ∧ ∃ p u r, e = .returned (.tuple #[.pointer (some ⟨p, 0, none⟩), .int .i64 0]) ∧ HW w' w0.heap.size p u r TT) ∨ (decT l = none ∧ e = .returned (.tuple #[.pointer none, .int .i64 8])))

set_option maxHeartbeats 2000000 in
set_option maxRecDepth 100000 in
theorem hopen_c (v : Value) (l : List UInt8) (w : World) (hv : RB w v l) :
    Calls Tryz.prog 14 #[v] w fun e w' => OpenTo l w e w' := by
  have hz := zero_tabZ
  have CD := Go.Lib.hid (odecode_c v l w hv)
  have HTO := Go.Lib.hid tabL_one
  have HST := Go.Lib.hid sizeTabO
  have HLE := Go.Lib.hid (fun TT => show (tabL zeroT 32).length = (tabL TT 32).length from by rw [tabL_len, tabL_len])
  clear hv
  cases hd : decT l with
  | none =>
    have HE := Go.Lib.hid (fun (W : World) (hb : Below w.heap.size w W) => show OpenTo l w (.returned (.tuple #[.pointer none, .int .i64 8])) W from ⟨hb, .inr ⟨hd, rfl⟩⟩)
    rw [hd] at CD
    clear hd
    unfold outD at CD
    simp only [] at CD
    have HST := Go.Lib.hid (HST.out zeroT)
    have HTO := Go.Lib.hid (HTO.out zeroT)
    generalize tabL zeroT 32 = ZL at *
    go_enter Tryz.func14, Tryz.ntmps14
    go_wp2_with fail
    refine CD.out.mono ?_
    rintro e w1 ⟨rfl, hc⟩
    have hb2 := below_one w1 (.cells ZL.toArray 43)
    have HZ := Go.Lib.hid (heap_alloc_new w1 (.cells ZL.toArray 43))
    have hb3 := setRow_below ZL.toArray hb2 (Nat.le_refl _)
    have HB := Go.Lib.hid (hc.trans (hb3.mono hc.size))
    clear hb2 hb3 hc CD
    go_wp2_with (first
      | (with_reducible show wpList _ _ _ (⟨none, Op.store 43 (.tmp 4) (.tmp 9), _, _, _, _⟩ :: _) _ _; go_loud (refine wpList_store_row rfl 43 (.tmp 4) (.tmp 9) rfl w1.heap.size ZL.toArray rfl rfl 43 ZL.toArray HZ.out (by rw [HST.out, List.size_toArray]) rfl HTO.out ?_))
      | fail)
    go_ret2
    exact HE.out _ HB.out
  | some TT =>
    obtain ⟨hok, -, htab, hsz⟩ := decT_some hd
    have HE := Go.Lib.hid (fun (w1 W : World) e (hb : Below w.heap.size w w1) (h : NewTo TT w1 e W) => show OpenTo l w e W from by
      obtain ⟨h1, h2⟩ := h
      refine ⟨hb.trans (h1.mono hb.size), .inl ⟨TT, hd, ?_⟩⟩
      rcases h2 with ⟨-, p, u, r, h3, h4⟩ | ⟨h3, -⟩
      · exact ⟨p, u, r, h3, h4.mono hb.size⟩
      · rw [hok] at h3; cases h3)
    have CN := Go.Lib.hid fun W => hnew_c TT W (fun q _ => hsz q) htab
    have HF := Go.Lib.hid (fun (w1 W : World) e (h : NewTo TT w1 e W) => show ∃ p, e = .returned (.tuple #[.pointer (some ⟨p, 0, none⟩), .int .i64 0]) from by
      obtain ⟨h1, h2⟩ := h
      rcases h2 with ⟨-, p, u, r, h3, h4⟩ | ⟨h3, -⟩
      · exact ⟨p, h3⟩
      · rw [hok] at h3; cases h3)
    rw [hd] at CD
    clear hd hok htab hsz
    unfold outD at CD
    simp only [] at CD
    have HST := Go.Lib.hid (HST.out TT)
    have HTO := Go.Lib.hid (HTO.out TT)
    have HLE := Go.Lib.hid (HLE.out TT)
    generalize tabL zeroT 32 = ZL at *
    generalize tabL TT 32 = TL at *
    go_enter Tryz.func14, Tryz.ntmps14
    go_wp2_with fail
    refine CD.out.mono ?_
    rintro e w1 ⟨rfl, hc⟩
    have hb2 := below_one w1 (.cells ZL.toArray 43)
    have HZ := Go.Lib.hid (heap_alloc_new w1 (.cells ZL.toArray 43))
    have HX := Go.Lib.hid (setRow_heap _ w1.heap.size _ TL.toArray 43 (0, 0) HZ.out)
    have hb3 := setRow_below TL.toArray hb2 (Nat.le_refl _)
    have HB := Go.Lib.hid (hc.trans (hb3.mono hc.size))
    clear hb2 hb3 hc CD
    go_upto_region 2 with (first
      | (with_reducible show wpList _ _ _ (⟨none, Op.store 43 (.tmp 4) (.tmp 9), _, _, _, _⟩ :: _) _ _; go_loud (refine wpList_store_row rfl 43 (.tmp 4) (.tmp 9) rfl w1.heap.size TL.toArray rfl rfl 43 ZL.toArray HZ.out (by rw [HST.out, List.size_toArray]) (by rw [List.size_toArray, List.size_toArray]; exact HLE.out) HTO.out ?_))
      | fail)
    obtain ⟨g2, hg2⟩ : ∃ g2, g2 = w1.heap.size := ⟨_, rfl⟩
    rw [← hg2] at HX HB ⊢
    clear hg2 HZ
    generalize (w1.alloc (.cells ZL.toArray 43)).setRow g2 TL.toArray = w2 at *
    go_wp2_with (first
      | (with_reducible show wpList _ _ _ (⟨some 13, _, _, _, _, _⟩ :: _) _ _; go_loud (refine wpList_load_row rfl 43 (.tmp 4) rfl g2 rfl 43 TL.toArray (0, 0) _ HX.out Tryz.underlying43 rfl (by rw [HST.out, List.size_toArray]) ?_))
      | fail)
    refine (CN.out _).mono ?_
    rintro e w3 hn
    have HN := Go.Lib.hid (HE.out _ _ _ HB.out hn)
    obtain ⟨p, rfl⟩ := HF.out _ _ _ hn
    clear hn CN HE HF HX HB
    go_wp2_with fail
    go_ret2
    exact HN.out
end Go.Proofs.YthbnecdeebmlhaaGreat

namespace Go.Proofs.YthbnecdeebmlhaaGreat
open Go.RowKit

/-- 'l[i:j]', in whatever world. -/
theorem RS.run_lh {w : World} {a : Option Addr} {len cap : Nat} {l : List RecT} (h : RS w (.slice a len cap) l) (i j : Nat) (hij : i ≤ j) (hj : j ≤ l.length) (k1 k2 : IntKind) :
    ∃ v, (∀ W, RS W (.slice a len cap) l → RS W v ((l.take j).drop i)) ∧ ∀ W, (Instr.slice 22 (.slice a len cap) (some (.int k1 (i : Int))) (some (.int k2 (j : Int))) none).run Tryz.prog W = .ok v W := by
  obtain ⟨h1, h2, h3⟩ := h.len
  refine ⟨sliced a i j cap 5, fun W hW => hW.cut i j hij hj, fun W => ?_⟩
  have hr := run_slice_lh (P := Tryz.prog) W 22 a len cap elemR k1 k2 (i : Int) (j : Int) (by omega) (by omega) (by omega)
  rw [sizeR] at hr
  simpa [Result.andThen] using hr

set_option maxHeartbeats 1000000 in
set_option maxRecDepth 100000 in
theorem hbucket_c {w : World} {B p : Nat} {u : Value} {r : Option Addr} {TT : TabT} (h : HW w B p u r TT) {b : Nat} (hb : b < 8) :
    Calls Tryz.prog 89 #[.pointer (some ⟨p, 0, none⟩), .int .i64 (b : Int)] w fun e w' => ∃ v, e = .returned v ∧ (∀ W, HW W B p u r TT → RS W v (bktT TT b)) ∧ Below w.heap.size w w' := by
  obtain ⟨x0, x1⟩ := h.cells
  have h1 := ones_has TT 32 (4 * b) (by omega)
  have h2 := ones_has TT 32 (4 * b + 4) (by omega)
  obtain ⟨a, cap, rfl, hm⟩ := h.own.rs.form
  obtain ⟨v, hv, hrun⟩ := h.own.rs.run_lh (recsT TT (4 * b)).length (recsT TT (4 * b + 4)).length (by rw [recsT_bkt, List.length_append]; omega) (by
    obtain ⟨t, ht⟩ := recsT_more TT (4 * b + 4) (28 - 4 * b)
    rw [show 4 * b + 4 + (28 - 4 * b) = 32 by omega] at ht
    rw [ht, List.length_append]; omega) .i64 .i64
  rw [bkt_cut TT hb] at hv
  have HV := Go.Lib.hid (show ∀ W, HW W B p (.slice a (recsT TT 32).length cap) r TT → RS W v (bktT TT b) from fun W hW => hv W hW.own.rs)
  have HL := Go.Lib.hid fun m => Calls.quiet_of (rones_d ((4 * b : Nat) : Int) (w.drewN m) B r _ (h.rk.below (below_drewN (Below.refl _ _) m)) (by omega) (by omega))
  have HU := Go.Lib.hid fun m => Calls.quiet_of (rones_d ((4 * b + 4 : Nat) : Int) (w.drewN m) B r _ (h.rk.below (below_drewN (Below.refl _ _) m)) (by omega) (by omega))
  simp only [onesI_nat] at HL HU
  rw [h1] at HL
  rw [h2] at HU
  obtain ⟨n, hn⟩ : ∃ n, n = 4 * b := ⟨_, rfl⟩
  have hnI : (b : Int) * 4 = (n : Int) := by omega
  have hn4 : n ≤ 28 := by omega
  obtain ⟨M, hM⟩ : ∃ M, M = 4 * b + 4 := ⟨_, rfl⟩
  have hMI : (n : Int) + 4 = (M : Int) := by omega
  have hM4 : M ≤ 32 := by omega
  generalize (recsT TT 32).length = len at *
  generalize (recsT TT (4 * b)).length = k1 at *
  generalize (recsT TT (4 * b + 4)).length = k2 at *
  rw [← hM] at HU
  rw [← hn] at HL
  generalize bktT TT b = BK at *
  clear h hv h1 h2 hn hm hM
  go_enter Tryz.func89, Tryz.ntmps89
  go_upto_region 2 with (fail)
  go_quiet (first
    | (go_at_call 112; first | with_reducible exact HL.out _ | with_reducible exact HU.out _))
  go_wp2_with fail
  go_ret
  exact ⟨_, rfl, HV.out, below_drewN (Below.refl _ _) _⟩

/-! ### Those alike. -/
def bkN (h i : Nat) : Nat := if i = 0 then firstN h else othN (firstN h) (tagN h)
theorem bkN_lt (h i : Nat) : bkN h i < 8 := by
  unfold bkN
  split
  · exact first_lt h
  · exact oth_lt _ (first_lt h)
def alikeG (TT : TabT) (h i j : Nat) : List RecT := ((List.range i).flatMap fun n => bktT TT (bkN h n)).filter (fun x => decide (tagN (hR x) = tagN h)) ++ ((bktT TT (bkN h i)).take j).filter fun x => decide (tagN (hR x) = tagN h)
theorem alikeG_next {TT : TabT} {h i j : Nat} (hj : j < (bktT TT (bkN h i)).length) : alikeG TT h i (j + 1) = alikeG TT h i j ++ if tagN (hR (bktT TT (bkN h i))[j]) = tagN h then [(bktT TT (bkN h i))[j]] else [] := by
  unfold alikeG
  rw [List.take_succ_eq_append_getElem hj, List.filter_append, ← List.append_assoc]
  congr 1
  split
  · rename_i e
    simp [e]
  · rename_i e
    simp [e]
theorem alikeG_row (TT : TabT) (h i : Nat) : alikeG TT h i (bktT TT (bkN h i)).length = alikeG TT h (i + 1) 0 := by
  unfold alikeG
  rw [List.take_length, List.range_succ, List.flatMap_append, List.filter_append]
  simp
theorem alikeG_all (TT : TabT) (k : ByteArray) : alikeG TT (hashS k) 2 0 = alikeT TT k := by
  unfold alikeG alikeT
  rw [show List.range 2 = [0, 1] from rfl]
  simp [bkN]
theorem alikeG_len (TT : TabT) (h i j : Nat) : (alikeG TT h i j).length ≤ 4 * i + 4 := by
  unfold alikeG
  rw [List.length_append]
  have h1 : ∀ i, ((List.range i).flatMap fun n => bktT TT (bkN h n)).length ≤ 4 * i := by
    intro i
    induction i with
    | zero => simp
    | succ i ih =>
      rw [List.range_succ, List.flatMap_append, List.length_append]
      have := bkt_len TT (bkN h i)
      simp only [List.flatMap_cons, List.flatMap_nil, List.append_nil]
      omega
  have h2 := h1 i
  have h3 := bkt_len TT (bkN h i)
  have h4 := List.length_filter_le (fun x => decide (tagN (hR x) = tagN h)) ((List.range i).flatMap fun n => bktT TT (bkN h n))
  have h5 := List.length_filter_le (fun x => decide (tagN (hR x) = tagN h)) ((bktT TT (bkN h i)).take j)
  have h6 : ((bktT TT (bkN h i)).take j).length ≤ 4 := by rw [List.length_take]; omega
  omega
theorem idxH2 (a b i : Nat) (hi : i < 2) (W : World) : (Instr.index 133 (.agg #[.int .i64 (a : Int), .int .i64 (b : Int)]) (.int .i64 (i : Int))).run Tryz.prog W = .ok (.int .i64 ((if i = 0 then a else b : Nat) : Int)) W := by
  obtain rfl | rfl : i = 0 ∨ i = 1 := by omega
  · kernel_rfl
  · kernel_rfl

set_option maxHeartbeats 4000000 in
set_option maxRecDepth 100000 in
theorem halike_c {w : World} {B p : Nat} {u : Value} {r : Option Addr} {TT : TabT} (h : HW w B p u r TT) (key : ByteArray) (hk : key.size ≤ 1000000) :
    Calls Tryz.prog 53 #[.pointer (some ⟨p, 0, none⟩), .string key] w fun e w' => ∃ v, e = .returned v ∧ OwnRec w' w.heap.size v (alikeT TT key) ∧ Below w.heap.size w w' := by
  have CH := Go.Lib.hid fun W => hof_k key (hashS key) rfl W hk
  have HALL := Go.Lib.hid (alikeG_all TT key)
  have CF := Go.Lib.hid fun W => hfirst_c (hashS key) W (hashS_lt key)
  have CT := Go.Lib.hid fun W => htag_c (hashS key) W (hashS_lt key)
  have CO := Go.Lib.hid fun W => by
    have h1 := first_lt (hashS key)
    have h2 := tag_lt (hashS key)
    have := hother_c (firstN (hashS key) : Int) (tagN (hashS key) : Int) W (by omega) (by omega) (by omega) (by omega)
    rw [otherI_nat h1 h2] at this
    exact this
  have HBK := Go.Lib.hid (fun (i : Nat) => show bkN (hashS key) i = if i = 0 then firstN (hashS key) else othN (firstN (hashS key)) (tagN (hashS key)) from rfl)
  have HBL := Go.Lib.hid (fun (i : Nat) => bkN_lt (hashS key) i)
  have HAN := Go.Lib.hid (fun (i j : Nat) (hj : j < (bktT TT (bkN (hashS key) i)).length) => alikeG_next (TT := TT) (h := hashS key) hj)
  have HAR := Go.Lib.hid (fun (i : Nat) => alikeG_row TT (hashS key) i)
  have HAL := Go.Lib.hid (fun (i j : Nat) => alikeG_len TT (hashS key) i j)
  have HTL := Go.Lib.hid (tag_lt (hashS key))
  have H := Go.Lib.hid (show ∀ W, Below w.heap.size w W → HW W B p u r TT from fun W hb => h.below hb)
  have HSZ := Go.Lib.hid (fun b (hb : b < 8) x (hx : x ∈ bktT TT b) => (mayT_short (bkt_lie h.lay.ok hb hx).1))
  have HG0 := Go.Lib.hid (show alikeG TT (hashS key) 0 0 = [] from rfl)
  have HBKL := Go.Lib.hid (fun b => bkt_len TT b)
  have hix := fun i hi W => idxH2 (firstN (hashS key)) (othN (firstN (hashS key)) (tagN (hashS key))) i hi W
  simp only [← HBK.out] at hix
  clear h hk HBK
  generalize alikeT TT key = OUT at *
  generalize alikeG TT (hashS key) = G at *
  generalize bkN (hashS key) = bk at *
  generalize othN (firstN (hashS key)) (tagN (hashS key)) = b2 at *
  generalize tagN (hashS key) = tg at *
  generalize firstN (hashS key) = b1 at *
  generalize hashS key = hx at *
  obtain ⟨g, hg⟩ : ∃ g, g = w.heap.size := ⟨_, rfl⟩
  have HG := Go.Lib.hid hg
  rw [← hg] at H ⊢
  clear hg
  go_enter Tryz.func53, Tryz.ntmps53
  go_wp2_with fail
  refine (CH.out _).mono ?_
  rintro e w1 ⟨rfl, hc⟩
  have HB1 := Go.Lib.hid (show Below g w w1 by rw [HG.out]; exact hc)
  clear hc CH
  go_wp2_with fail
  refine (CF.out _).mono ?_
  rintro e w2 ⟨rfl, rfl⟩
  clear CF
  go_wp2_with fail
  refine (CT.out _).mono ?_
  rintro e w2 ⟨rfl, rfl⟩
  clear CT
  go_wp2_with fail
  refine (CO.out _).mono ?_
  rintro e w2 ⟨rfl, rfl⟩
  clear CO
  go_wp2_with fail
  go_loopw [8, 26] (fun lv iv wr => ∃ (i : Nat) (v : Value), v = lv ∧ i ≤ 2 ∧ iv = .int .i64 (i : Int) ∧ Hid (OwnRec wr g v (G i 0)) ∧ Hid (Below g w wr)) (fun _ iv _ => 2 - (intOf iv).toNat)
  case atStart => exact ⟨0, _, rfl, by omega, rfl, Go.Lib.hid (by rw [HG0.out]; exact OwnRec.nil _ _), HB1⟩
  case round =>
    clear HB1
    obtain ⟨i, v, rfl, hi2, rfl, HO, HB⟩ := hrel
    by_cases hlt : i < 2
    · have hltI : (i : Int) < 2 := by omega
      have hixi := hix i hlt
      clear hix
      have HBKI := Go.Lib.hid (HBL.out i)
      have HAN := Go.Lib.hid (HAN.out i)
      have HAR := Go.Lib.hid (HAR.out i)
      have HAL := Go.Lib.hid (HAL.out i)
      have CB := Go.Lib.hid (hbucket_c (H.out _ HB.out) HBKI.out)
      have HSZ := Go.Lib.hid (HSZ.out _ HBKI.out)
      have hL4 := HBKL.out (bk i)
      clear HBL
      generalize bktT TT (bk i) = L at *
      generalize bk i = bki at *
      go_wp2_with fail
      refine CB.out.mono ?_
      rintro e w3 ⟨v3, rfl, hrs, hc⟩
      have hgw : g ≤ wr.heap.size := by have := HB.out.size; have := HG.out; omega
      have HR3 := Go.Lib.hid (show ∀ W, Below g w W → RS W v3 L from fun W hb => hrs W (H.out W hb))
      have HO3 := Go.Lib.hid (HO.out.below hc)
      have HB3 := Go.Lib.hid (HB.out.trans (hc.mono hgw))
      obtain ⟨a3, cap3, rfl, -⟩ := (HR3.out _ HB3.out).form
      clear hrs hc CB HO HB hgw hixi
      go_wp2_with fail
      go_loopw [8, 33] (fun lv jv wr => ∃ (j : Nat) (v : Value), v = lv ∧ j ≤ L.length ∧ jv = .int .i64 (j : Int) ∧ Hid (OwnRec wr g v (G i j)) ∧ Hid (Below g w wr)) (fun _ jv _ => L.length - (intOf jv).toNat)
      case atStart => exact ⟨0, _, rfl, by omega, rfl, HO3, HB3⟩
      case round =>
        clear HO3 HB3
        obtain ⟨j, v, rfl, hj, rfl, HO, HB⟩ := hrel
        by_cases hjl : j < L.length
        · have hjI : (j : Int) < (L.length : Int) := by omega
          obtain ⟨b, o, rfl, -, -, c0, c1, c2, c3, c4⟩ := (HR3.out _ HB.out).at j hjl
          have hix5 := run_idx5 b o L.length cap3 j hjl
          have HY := Go.Lib.hid (fun (e : tagN (hR L[j]) = tg) => show G i (j + 1) = G i j ++ [L[j]] from by rw [HAN.out j hjl, if_pos e])
          have HNX := Go.Lib.hid (fun (e : tagN (hR L[j]) ≠ tg) => show G i (j + 1) = G i j from by rw [HAN.out j hjl, if_neg e, List.append_nil])
          have hsz := HSZ.out _ (List.getElem_mem hjl)
          have HLE := Go.Lib.hid (HAL.out j)
          generalize L[j] = y at *
          obtain ⟨kx, gx, ax, nx, sx⟩ := y
          simp only [] at c0 c1 c2 c3 c4 hsz
          obtain ⟨hkx, hhk⟩ : ∃ h, h = hashS kx := ⟨_, rfl⟩
          have CH := Go.Lib.hid fun W => hof_k kx hkx hhk.symm W (by omega)
          have CT := Go.Lib.hid fun W => htag_c hkx W (by rw [hhk]; exact hashS_lt kx)
          have HTX := Go.Lib.hid (tag_lt hkx)
          have HY := Go.Lib.hid (fun (e : tagN hkx = tg) => HY.out (by rw [hhk] at e; exact e))
          have HNX := Go.Lib.hid (fun (e : tagN hkx ≠ tg) => HNX.out (by rw [hhk] at e; exact e))
          obtain ⟨tx, htx⟩ : ∃ t, t = tagN hkx := ⟨_, rfl⟩
          rw [← htx] at HY HNX CT HTX
          clear htx hhk
          have hgw : g ≤ wr.heap.size := by have := HB.out.size; have := HG.out; omega
          have hbA := below_one wr (.cells #[.string kx, .bool gx, .int .i64 ax, .int .i64 nx, .string sx] 28)
          have HX := Go.Lib.hid (heap_alloc_new wr (.cells #[.string kx, .bool gx, .int .i64 ax, .int .i64 nx, .string sx] 28))
          have HO2 := Go.Lib.hid (HO.out.below hbA)
          have HB2 := Go.Lib.hid (HB.out.trans (hbA.mono hgw))
          clear hbA hsz HO HB hgw
          go_upto_region 12 with (fail)
          obtain ⟨g3, hg3⟩ : ∃ g, g = wr.heap.size := ⟨_, rfl⟩
          rw [← hg3] at HX ⊢
          clear hg3 c0 c1 c2 c3 c4 hix5
          generalize wr.alloc (.cells #[.string kx, .bool gx, .int .i64 ax, .int .i64 nx, .string sx] 28) = w4 at *
          obtain ⟨x0, x1, x2, x3, x4⟩ := row5 HX.out
          go_wp2_with fail
          refine (CH.out _).mono ?_
          rintro e w5 ⟨rfl, hc⟩
          have hgw : g ≤ w4.heap.size := by have := HB2.out.size; have := HG.out; omega
          have HX5 := Go.Lib.hid (row_kept HX.out hc)
          have HO5 := Go.Lib.hid (HO2.out.below hc)
          have HB5 := Go.Lib.hid (HB2.out.trans (hc.mono hgw))
          clear hc CH HX HO2 HB2 hgw x0 x1 x2 x3 x4
          obtain ⟨x0, x1, x2, x3, x4⟩ := row5 HX5.out
          go_wp2_with fail
          refine (CT.out _).mono ?_
          rintro e w6 ⟨rfl, rfl⟩
          clear CT
          by_cases he : tx = tg
          · have HY := Go.Lib.hid (HY.out he)
            have heI : ((tx : Int) == (tg : Int)) = true := by rw [he]; exact beq_self_eq_true _
            clear he
            have hb6 := below_one w5 (.cells #[.string kx, .bool gx, .int .i64 ax, .int .i64 nx, .string sx] 28)
            have HON := Go.Lib.hid (RS.one w5 (kx, gx, ax, nx, sx))
            simp only [] at HON
            have hgw : g ≤ w5.heap.size := by have := HB5.out.size; have := HG.out; omega
            have HO6 := Go.Lib.hid (HO5.out.below hb6)
            have HB6 := Go.Lib.hid (HB5.out.trans (hb6.mono hgw))
            clear hb6 HO5 HB5 hgw
            go_wp2_with (first
              | (with_reducible show wpList _ _ _ (⟨some 46, _, _, _, _, _⟩ :: _) _ _; go_loud (refine wpList_append_recs rfl (.tmp 43) (.tmp 45) rfl g v (.slice (some ⟨w5.heap.size, 0, none⟩) 1 1) (G i j) [(kx, gx, ax, nx, sx)] rfl rfl HO6.out HON.out (by have := HLE.out; simp; omega) (by have := HB6.out.size; have := HG.out; omega) ?_); intro v8 w8 ho8 hg8)
              | fail)
            have HO8 := Go.Lib.hid (show OwnRec w8 g v8 (G i (j + 1)) by rw [HY.out]; exact ho8)
            have HB8 := Go.Lib.hid (HB6.out.grown hg8 (by have := HB6.out.size; have := HG.out; omega) (fun j hj => HO6.out.row j hj))
            clear ho8 hg8
            go_wp2_with fail
            exact ⟨⟨j + 1, _, rfl, by omega, by go_num, HO8, HB8⟩, by simp only [intOf]; omega⟩
          · have HNX := Go.Lib.hid (HNX.out he)
            have heI : ((tx : Int) == (tg : Int)) = false := by rw [beq_eq_false_iff_ne]; omega
            clear he
            go_wp2_with fail
            exact ⟨⟨j + 1, _, rfl, by omega, by go_num, by rw [HNX.out]; exact HO5, HB5⟩, by simp only [intOf]; omega⟩
        · obtain rfl : j = L.length := by omega
          go_wp2_with fail
          exact ⟨⟨i + 1, _, rfl, by omega, by go_num, by rw [← HAR.out]; exact HO, HB⟩, by simp only [intOf]; omega⟩
    · obtain rfl : i = 2 := by omega
      rw [HALL.out] at HO
      go_wp2_with fail
      go_ret
      exact ⟨_, rfl, HO.out, HB.out⟩

set_option maxRecDepth 100000 in
theorem hreads_c {w : World} {B p : Nat} {u : Value} {r : Option Addr} {TT : TabT} (h : HW w B p u r TT) (key : ByteArray) (hk : key.size ≤ 1000000) :
    Calls Tryz.prog 20 #[.pointer (some ⟨p, 0, none⟩), .string key] w fun e w' => e = .returned (.int .i64 (readsR (recsT TT 32) key : Int)) ∧ Below w.heap.size w w' := by
  have C := Go.Lib.hid (halike_c h key hk)
  have HE := Go.Lib.hid (alike_len h.lay.ok key)
  clear h
  go_enter Tryz.func20, Tryz.ntmps20
  go_wp2_with fail
  refine C.out.mono ?_
  rintro e w1 ⟨v, rfl, ho, hb⟩
  have HB := Go.Lib.hid hb
  obtain ⟨a, cap, rfl, -⟩ := ho.rs.form
  clear hb C ho
  go_wp2_with fail
  go_ret
  exact ⟨by rw [HE.out]; rfl, HB.out⟩

theorem ret_hget_at {w w0 : World} {tmps : Array Value} {key : ByteArray} {gone : Bool} {k n : Int} {s : ByteArray} {g : Nat} {fr : Nat × Nat} {b : Bool} {v : Value}
    (hp : tmps.getD 4 undef = .pointer (some ⟨g, 0, none⟩)) (hg : w.heap[g]? = some (.cells #[.string key, .bool gone, .int .i64 k, .int .i64 n, .string s] 28 fr)) (h3 : tmps.getD 5 undef = .bool b)
    (hr : v = .tuple #[.agg #[.string key, .bool gone, .int .i64 k, .int .i64 n, .string s], .bool b]) (hb : Below w0.heap.size w0 w) : bodyPost Tryz.prog Tryz.f19 (fun e w' => e = .returned v ∧ Below w0.heap.size w0 w') Exit.ret { tmps := tmps, defers := [] } w := by
  subst hr
  have h := results_row_one (P := Tryz.prog) (fn := Tryz.f19) (p := 4) (u := 5) (ty := 28) rfl tmps w g 28 #[.string key, .bool gone, .int .i64 k, .int .i64 n, .string s] fr _ hp hg Tryz.underlying28 rfl (by kernel_rfl)
  rw [h3] at h
  exact bodyPost_ret h rfl ⟨rfl, hb⟩

/-- Get of what is alike: l, in which each key stands once. -/
structure GetI (w : World) (g : Nat) (v : Value) (l : List RecT) (key : ByteArray) (k : Nat) (w' : World) : Prop where
  rs : RS w' v l
  no : ∀ x ∈ l.take k, keyR x ≠ key.toList
  bel : Below g w w'
  box : w'.heap[g]? = some (.cells #[.string ⟨#[]⟩, .bool false, .int .i64 0, .int .i64 0, .string ⟨#[]⟩] 28 (0, 0))
theorem GetI.below {w w' w'' : World} {g : Nat} {v : Value} {l : List RecT} {key : ByteArray} {k : Nat} (h : GetI w g v l key k w') (hb : Below w'.heap.size w' w'') (hg : g ≤ w'.heap.size) : GetI w g v l key k w'' :=
  ⟨h.rs.below hb, h.no, h.bel.trans (hb.mono hg), (hb.block g (Array.getElem?_eq_some_iff.1 h.box).1).trans h.box⟩

set_option maxHeartbeats 2000000 in
set_option maxRecDepth 100000 in
theorem hget_c {w : World} {B p : Nat} {u : Value} {r : Option Addr} {TT : TabT} (h : HW w B p u r TT) (key : ByteArray) (hk : key.size ≤ 1000000) :
    Calls Tryz.prog 19 #[.pointer (some ⟨p, 0, none⟩), .string key] w fun e w' => e = .returned (outR (findK keyR (recsT TT 32) key.toList)) ∧ Below w.heap.size w w' := by
  have hb1 := below_one w (.cells #[.string ⟨#[]⟩, .bool false, .int .i64 0, .int .i64 0, .string ⟨#[]⟩] 28)
  have HB1 := Go.Lib.hid hb1
  have HA := Go.Lib.hid (heap_alloc_new w (.cells #[.string ⟨#[]⟩, .bool false, .int .i64 0, .int .i64 0, .string ⟨#[]⟩] 28))
  have C := Go.Lib.hid (halike_c (h.below hb1) key hk)
  have HF := Go.Lib.hid (alike_find h.lay.ok key)
  have HSZ := Go.Lib.hid (fun x (hx : x ∈ alikeT TT key) => mayT_short (alike_may h.lay.ok hx))
  clear h hb1
  rw [← HF.out]
  clear HF
  generalize alikeT TT key = l at *
  obtain ⟨g, hg⟩ : ∃ g, g = w.heap.size := ⟨_, rfl⟩
  have HG := Go.Lib.hid hg
  rw [← hg] at HA HB1
  clear hg
  go_enter Tryz.func19, Tryz.ntmps19
  go_wp2_with fail
  refine C.out.mono ?_
  rintro e w1 ⟨v, rfl, ho, hc⟩
  rw [← HG.out]
  have hgs : g ≤ (w.alloc (.cells #[.string ⟨#[]⟩, .bool false, .int .i64 0, .int .i64 0, .string ⟨#[]⟩] 28)).heap.size := by rw [HG.out]; exact HB1.out.size
  have HI := Go.Lib.hid (show GetI w g v l key 0 w1 from ⟨ho.rs, by simp, HB1.out.trans (hc.mono hgs), (hc.block g (Array.getElem?_eq_some_iff.1 HA.out).1).trans HA.out⟩)
  obtain ⟨a, cap, rfl, hm⟩ := ho.rs.form
  clear ho hc C HA HB1 hgs
  go_wp2_with fail
  go_loopw [12] (fun ki wr => ∃ k : Nat, k ≤ l.length ∧ ki = .int .i64 (k : Int) ∧ Hid (GetI w g (.slice a l.length cap) l key k wr)) (fun ki _ => l.length - (intOf ki).toNat)
  case atStart => exact ⟨0, by omega, rfl, HI⟩
  case round =>
    clear HI
    obtain ⟨k, hk, rfl, HI⟩ := hrel
    have hgw : g ≤ wr.heap.size := Nat.le_of_lt (Array.getElem?_eq_some_iff.1 HI.out.box).1
    by_cases hlt : k < l.length
    · obtain ⟨b, o, rfl, -, -, c0, c1, c2, c3, c4⟩ := HI.out.rs.at k hlt
      have hix := run_idx5 b o l.length cap k hlt
      have HYES := Go.Lib.hid (fun (he : keyR l[k] = key.toList) => show findK keyR l key.toList = some l[k] from by
        unfold findK
        rw [List.find?_eq_some_iff_getElem]
        refine ⟨by simpa using he, k, hlt, rfl, fun j hj => ?_⟩
        simp only [Bool.not_eq_true', decide_eq_false_iff_not]
        exact HI.out.no _ (List.mem_take_iff_getElem.2 ⟨j, by omega, rfl⟩))
      have HNEX := Go.Lib.hid (fun (he : keyR l[k] ≠ key.toList) => show ∀ x ∈ l.take (k + 1), keyR x ≠ key.toList from fun x hx => by
        rw [List.take_succ_eq_append_getElem hlt] at hx
        rcases List.mem_append.1 hx with h | h
        · exact HI.out.no x h
        · rw [List.mem_singleton.1 h]; exact he)
      have hsz := HSZ.out _ (List.getElem_mem hlt)
      generalize l[k] = x at *
      obtain ⟨kx, gx, ax, nx, sx⟩ := x
      simp only [] at c0 c1 c2 c3 c4 hsz
      have CR := Go.Lib.hid fun W => frec_c kx gx ax nx sx W (by omega) (by omega)
      unfold recV at CR
      have hbA := below_one wr (.cells #[.string kx, .bool gx, .int .i64 ax, .int .i64 nx, .string sx] 28)
      have HX := Go.Lib.hid (heap_alloc_new wr (.cells #[.string kx, .bool gx, .int .i64 ax, .int .i64 nx, .string sx] 28))
      have HI2 := Go.Lib.hid (HI.out.below hbA hgw)
      clear hbA hsz HI hgw
      go_upto_region 4 with (fail)
      obtain ⟨g3, hg3⟩ : ∃ g, g = wr.heap.size := ⟨_, rfl⟩
      rw [← hg3] at HX ⊢
      clear hg3 c0 c1 c2 c3 c4 hix
      generalize wr.alloc (.cells #[.string kx, .bool gx, .int .i64 ax, .int .i64 nx, .string sx] 28) = w4 at *
      obtain ⟨x0, x1, x2, x3, x4⟩ := row5 HX.out
      by_cases hq : kx.toList = key.toList
      · have HE := Go.Lib.hid (HYES.out hq)
        have hqb : (kx.toList == key.toList) = true := beq_iff_eq.2 hq
        clear HYES HNEX
        go_wp2_with fail
        refine (CR.out _).mono ?_
        rintro e w5 ⟨rfl, hc⟩
        have HI5 := Go.Lib.hid (HI2.out.below hc (Nat.le_of_lt (Array.getElem?_eq_some_iff.1 HI2.out.box).1))
        clear hc CR HI2 x0 x1 x2 x3 x4 HX
        go_wp2_with (first
          | (with_reducible show wpList _ _ _ (⟨none, Op.store 28 (.tmp 4) (.tmp 21), _, _, _, _⟩ :: _) _ _; go_loud (refine wpList_store_row rfl 28 (.tmp 4) (.tmp 21) rfl g #[.string kx, .bool gx, .int .i64 ax, .int .i64 nx, .string sx] rfl rfl 28 _ HI5.out.box (by kernel_rfl) rfl (rec_cells_one ..) ?_))
          | fail)
        refine ret_hget_at rfl (setRow_heap _ _ _ _ _ (0, 0) HI5.out.box) rfl ?_ (setRow_below _ (by rw [← HG.out]; exact HI5.out.bel) (by rw [HG.out]; exact Nat.le_refl _))
        rw [HE.out]
        rfl
      · have HS := Go.Lib.hid (HNEX.out hq)
        have hqb : (kx.toList == key.toList) = false := beq_eq_false_iff_ne.2 hq
        clear HYES HNEX
        go_wp2_with fail
        exact ⟨⟨k + 1, by omega, by go_num, Go.Lib.hid ⟨HI2.out.rs, HS.out, HI2.out.bel, HI2.out.box⟩⟩, by simp only [intOf]; omega⟩
    · obtain rfl : k = l.length := by omega
      have HE := Go.Lib.hid (show findK keyR l key.toList = none from (find_none _).2 (by have := HI.out.no; rwa [List.take_length] at this))
      go_wp2_with (first
        | (with_reducible show wpList _ _ _ (⟨none, Op.store 28 (.tmp 4) (.tmp 23), _, _, _, _⟩ :: _) _ _; go_loud (refine wpList_store_row rfl 28 (.tmp 4) (.tmp 23) rfl g #[.string ⟨#[]⟩, .bool false, .int .i64 0, .int .i64 0, .string ⟨#[]⟩] rfl rfl 28 _ HI.out.box (by kernel_rfl) rfl (rec_cells_one ..) ?_))
        | fail)
      refine ret_hget_at rfl (setRow_heap _ _ _ _ _ (0, 0) HI.out.box) rfl ?_ (setRow_below _ (by rw [← HG.out]; exact HI.out.bel) (by rw [HG.out]; exact Nat.le_refl _))
      rw [HE.out]
      rfl

set_option maxRecDepth 100000 in
theorem hnil_get (key : ByteArray) (w : World) : Calls Tryz.prog 19 #[.pointer none, .string key] w fun e w' => e = .returned (outR none) ∧ Below w.heap.size w w' := by
  have hb1 := below_one w (.cells #[.string ⟨#[]⟩, .bool false, .int .i64 0, .int .i64 0, .string ⟨#[]⟩] 28)
  have HB1 := Go.Lib.hid hb1
  have HA := Go.Lib.hid (heap_alloc_new w (.cells #[.string ⟨#[]⟩, .bool false, .int .i64 0, .int .i64 0, .string ⟨#[]⟩] 28))
  have C := Go.Lib.hid (hnil_alike key (w.alloc (.cells #[.string ⟨#[]⟩, .bool false, .int .i64 0, .int .i64 0, .string ⟨#[]⟩] 28)))
  clear hb1
  go_enter Tryz.func19, Tryz.ntmps19
  go_wp2_with fail
  refine C.out.mono ?_
  rintro e w1 ⟨rfl, hc⟩
  have HA2 := Go.Lib.hid ((hc.block w.heap.size (Array.getElem?_eq_some_iff.1 HA.out).1).trans HA.out)
  have HB2 := Go.Lib.hid (HB1.out.trans (hc.mono HB1.out.size))
  clear hc C HA HB1
  go_wp2_with fail
  go_loopw [12] (fun ki wr => ki = .int .i64 0 ∧ wr = w1) (fun _ _ => 0)
  case atStart => exact ⟨rfl, rfl⟩
  case round =>
    obtain ⟨rfl, rfl⟩ := hrel
    go_wp2_with (first
      | (with_reducible show wpList _ _ _ (⟨none, Op.store 28 (.tmp 4) (.tmp 23), _, _, _, _⟩ :: _) _ _; go_loud (refine wpList_store_row rfl 28 (.tmp 4) (.tmp 23) rfl w.heap.size #[.string ⟨#[]⟩, .bool false, .int .i64 0, .int .i64 0, .string ⟨#[]⟩] rfl rfl 28 _ HA2.out (by kernel_rfl) rfl (rec_cells_one ..) ?_))
      | fail)
    exact ret_hget_at rfl (setRow_heap _ _ _ _ _ (0, 0) HA2.out) rfl rfl (setRow_below _ HB2.out (Nat.le_refl _))
end Go.Proofs.YthbnecdeebmlhaaGreat

namespace Go.Proofs.YthbnecdeebmlhaaGreat
open Go.RowKit

/-- The first i bits, noughts behind. -/
def upto (l : List Bool) (i : Nat) : List Bool := l.take i ++ List.replicate (l.length - i) false
theorem upto_length (l : List Bool) (i : Nat) (h : i ≤ l.length) : (upto l i).length = l.length := by unfold upto; simp; omega
theorem upto_zero (l : List Bool) : pack (upto l 0) = List.replicate ((l.length + 7) / 8) 0 := by
  refine bytes_ext (by rw [pack_length, upto_length l 0 (by omega), List.length_replicate]) fun i hi => ?_
  rw [bitAt_pack]
  have h1 : (upto l 0).getD i false = false := by
    unfold upto
    rw [List.take_zero, List.nil_append, List.getD_eq_getElem?_getD]
    rw [List.getElem?_replicate]
    split <;> rfl
  rw [h1]
  unfold bitAt
  rw [List.getD_eq_getElem?_getD, List.getElem?_replicate]
  split
  · show false = bit 0 _
    simp [bit]
  · show false = bit 0 _
    simp [bit]
theorem upto_all (l : List Bool) : upto l l.length = l := by unfold upto; simp
theorem upto_getD (l : List Bool) (i j : Nat) : (upto l i).getD j false = if j < i then l.getD j false else false := by
  unfold upto
  rw [List.getD_eq_getElem?_getD, List.getElem?_append, List.length_take]
  by_cases h1 : j < i
  · rw [if_pos h1]
    by_cases h2 : j < l.length
    · rw [if_pos (by omega), List.getElem?_take, if_pos h1, List.getD_eq_getElem?_getD]
    · rw [if_neg (by omega), List.getElem?_replicate, if_neg (by omega), List.getD_eq_getElem?_getD, List.getElem?_eq_none (by omega)]
  · rw [if_neg h1]
    split
    · omega
    · rw [List.getElem?_replicate]
      split <;> rfl
theorem getD_set_self (p : List UInt8) (k : Nat) (c : UInt8) (h : k < p.length) : (p.set k c).getD k 0 = c := by
  rw [List.getD_eq_getElem?_getD, List.getElem?_set_self h, Option.getD_some]
theorem getD_set_ne (p : List UInt8) (k j : Nat) (c : UInt8) (h : k ≠ j) : (p.set k c).getD j 0 = p.getD j 0 := by
  rw [List.getD_eq_getElem?_getD, List.getElem?_set_ne h, ← List.getD_eq_getElem?_getD]
/-- One bit more. -/
theorem upto_succ (l : List Bool) (i : Nat) (h : i < l.length) : pack (upto l (i + 1)) = if l[i] then (pack (upto l i)).set (i / 8) (UInt8.ofNat (((pack (upto l i)).getD (i / 8) 0).toNat ||| 128 / 2 ^ (i % 8))) else pack (upto l i) := by
  have h128 : ∀ o : UInt8, o.toNat ||| 128 / 2 ^ (i % 8) < 256 := fun o => by
    have h1 := Nat.div_le_self 128 (2 ^ (i % 8))
    exact Nat.or_lt_two_pow (n := 8) (UInt8.toNat_lt o) (by omega)
  have hbit : ∀ j, j < 8 → (128 / 2 ^ (i % 8)).testBit (7 - j) = decide (j = i % 8) := by
    intro j hj
    rw [Nat.testBit_div_two_pow, show 128 = 2 ^ 7 from rfl, Nat.testBit_two_pow]
    congr 1
    apply propext
    omega
  cases hb : l[i] with
  | false =>
    rw [if_neg (by simp)]
    refine bytes_ext (by rw [pack_length, pack_length, upto_length _ _ (by omega), upto_length _ _ (by omega)]) fun j hj => ?_
    rw [bitAt_pack, bitAt_pack, upto_getD, upto_getD]
    by_cases h1 : j < i
    · rw [if_pos h1, if_pos (by omega)]
    · rw [if_neg h1]
      split
      · obtain rfl : j = i := by omega
        rw [List.getD_eq_getElem?_getD, List.getElem?_eq_getElem h]
        exact hb
      · rfl
  | true =>
    rw [if_pos rfl]
    have hk : i / 8 < (pack (upto l i)).length := by rw [pack_length, upto_length _ _ (by omega)]; omega
    refine bytes_ext (by rw [List.length_set, pack_length, pack_length, upto_length _ _ (by omega), upto_length _ _ (by omega)]) fun j hj => ?_
    rw [bitAt_pack, upto_getD]
    have hold := bitAt_pack (upto l i) j
    rw [upto_getD] at hold
    unfold bitAt at hold ⊢
    by_cases hjk : j / 8 = i / 8
    · rw [hjk, getD_set_self _ _ _ hk, ofNat_val _ (h128 _), bit_test, Nat.testBit_or, hbit _ (by omega), ← bit_test]
      rw [hjk] at hold
      rw [hold]
      by_cases h1 : j < i
      · rw [if_pos h1, if_pos (by omega)]
        have h2 : ¬ j % 8 = i % 8 := by omega
        rw [decide_eq_false h2, Bool.or_false]
      · rw [if_neg h1, Bool.false_or]
        by_cases h2 : j = i
        · subst h2
          rw [if_pos (by omega), decide_eq_true rfl, List.getD_eq_getElem?_getD, List.getElem?_eq_getElem h]
          exact hb
        · rw [if_neg (by omega), decide_eq_false (by omega)]
    · rw [getD_set_ne _ _ _ _ (by omega), hold]
      by_cases h1 : j < i
      · rw [if_pos h1, if_pos (by omega)]
      · rw [if_neg h1, if_neg (by omega)]

set_option maxHeartbeats 400000 in
set_option maxRecDepth 100000 in
theorem rbitbytes_c (v : Value) (l : List Bool) (w : World) (h : RV w v (zb l)) (hl : l.length ≤ 1000000) :
    Calls Tryz.prog 78 #[v] w fun e w' => ∃ v', e = .returned v' ∧ Own 5 w' w.heap.size v' (pack l) ∧ Below w.heap.size w w' := by
  obtain ⟨ad, cap, rfl, -, -⟩ := h.zbForm
  have H := Go.Lib.hid h
  have hq : ((l.length : Int) + 7) / 8 = (((l.length + 7) / 8 : Nat) : Int) := by omega
  have Hq := Go.Lib.hid hq
  have hm : (l.length + 7) / 8 ≤ 140737488355328 := by omega
  clear h hq
  go_enter Tryz.func78, Tryz.ntmps78
  go_wp2_with (first
    | (with_reducible show wpList _ _ _ (⟨some 9, _, _, _, _, _⟩ :: _) _ _; go_must (refine wpList_make_len rfl (.tmp 8) (.tmp 8) 47 rfl 5 Tryz.underlying47 info8 .i64 .i64 _ _ ((l.length + 7) / 8) ((l.length + 7) / 8) rfl rfl Hq.out Hq.out (Nat.le_refl _) hm ?_); go_must (intro v2 w2 ho2 hg2; have hb2 := grown_below hg2 (Nat.le_refl _) (by simp); rw [← upto_zero] at ho2; clear hg2))
    | fail)
  go_loopw [4] (fun i wr => ∃ k : Nat, k ≤ l.length ∧ i = .int .i64 (k : Int) ∧ Own 5 wr w.heap.size v2 (pack (upto l k)) ∧ Below w.heap.size w wr) (fun i _ => l.length - (intOf i).toNat)
  case atStart => exact ⟨0, by omega, rfl, ho2, hb2⟩
  case round =>
    obtain ⟨k, hk, rfl, hown, hb⟩ := hrel
    clear ho2 hb2
    by_cases hlt : k < l.length
    · obtain ⟨b, o, rfl, hc, hbl⟩ := H.out.zbAt k hlt
      have hd := (hb.cell (p := ⟨b, o + k, none⟩) hbl).trans hc
      have hs := upto_succ l k hlt
      cases hb1 : l[k] with
      | false =>
        rw [hb1] at hd hs
        rw [if_neg (by simp)] at hs
        rw [← hs] at hown
        clear hc hs hb1
        go_wp2_with fail
        go_roundw
        case rel => exact ⟨k + 1, by omega, by go_num, hown, hb⟩
        case measure => simp only [intOf]; omega
      | true =>
        rw [hb1] at hd hs
        rw [if_pos rfl] at hs
        have hpk : k / 8 < (pack (upto l k)).length := by rw [pack_length, upto_length _ _ (by omega)]; omega
        obtain ⟨g, cap2, rfl, hg1, hg2, hg3, hg4, -⟩ := hown.form (by omega)
        have hcell := hown.cell (k / 8) hpk
        have hfr := hown.frozenAt (k / 8)
        have e1 : (pack (upto l k))[k / 8] = (pack (upto l k)).getD (k / 8) 0 := by rw [List.getD_eq_getElem?_getD, List.getElem?_eq_getElem hpk]; rfl
        rw [e1] at hcell
        have h128 : 128 / 2 ^ (k % 8) < 256 := by have := Nat.div_le_self 128 (2 ^ (k % 8)); omega
        have hor := u8_or_nat ((pack (upto l k)).getD (k / 8) 0).toNat (128 / 2 ^ (k % 8)) (UInt8.toNat_lt _) h128
        have hst := hown.store (k / 8) (UInt8.ofNat (((pack (upto l k)).getD (k / 8) 0).toNat ||| 128 / 2 ^ (k % 8))) _ rfl
        rw [← hs, ofNat_val _ (Nat.or_lt_two_pow (n := 8) (UInt8.toNat_lt _) (by omega))] at hst
        have Hst := Go.Lib.hid hst
        clear hst hs hc hb1 e1 hown
        generalize ((pack (upto l k)).getD (k / 8) 0).toNat = q at *
        rw [show ((128 / 2 ^ (k % 8) : Nat) : Int) = (128 : Int) / 2 ^ (k % 8) from by simp] at hor
        obtain ⟨r, hr⟩ : ∃ r, r = q ||| 128 / 2 ^ (k % 8) := ⟨_, rfl⟩
        rw [← hr] at hor Hst
        have hlen : (pack (upto l k)).length = (l.length + 7) / 8 := by rw [pack_length, upto_length _ _ (by omega)]
        rw [hlen] at hpk hg3 Hst ⊢
        clear hr hlen
        go_wp2_with fail
        go_roundw
        case rel => exact ⟨k + 1, by omega, by go_num, Hst.out, hb.setCell (p := ⟨g, k / 8, none⟩) hg1 _⟩
        case measure => simp only [intOf]; omega
    · obtain rfl : k = l.length := by omega
      rw [upto_all] at hown
      obtain ⟨a2, c2, rfl, -⟩ := id hown.rb
      go_wp2_with fail
      go_ret
      exact ⟨_, rfl, hown, hb⟩

end Go.Proofs.YthbnecdeebmlhaaGreat

namespace Go.Proofs.YthbnecdeebmlhaaGreat
open Go.RowKit

section
variable {α : Type} {l : List α}
theorem tlen0 (h : l.length = 0) : l = [] := List.eq_nil_of_length_eq_zero h
theorem tlen1 (h : l.length = 1) : ∃ a, l = [a] := by match l, h with | [a], _ => exact ⟨a, rfl⟩
theorem tlen2 (h : l.length = 2) : ∃ a b, l = [a, b] := by match l, h with | [a, b], _ => exact ⟨a, b, rfl⟩
theorem tlen3 (h : l.length = 3) : ∃ a b c, l = [a, b, c] := by match l, h with | [a, b, c], _ => exact ⟨a, b, c, rfl⟩
theorem tlen4 (h : l.length = 4) : ∃ a b c d, l = [a, b, c, d] := by match l, h with | [a, b, c, d], _ => exact ⟨a, b, c, d, rfl⟩
theorem tlen5 (h : l.length = 5) : ∃ a b c d e, l = [a, b, c, d, e] := by match l, h with | [a, b, c, d, e], _ => exact ⟨a, b, c, d, e, rfl⟩
end

def VTb (g3 tg : Nat) (u : Value) (kx : ByteArray) (gx : Bool) (ax nx : Int) (sx : ByteArray) : Nat → Value → Prop
  | 34, v => v = u
  | 35, v => v = .int .i64 (tg : Int)
  | 36, v => v = .int .i64 ((tg : Int) / 256)
  | 37, v => v = .int .u8 ((tg : Int) / 256)
  | 38, v => v = .int .i64 (tg : Int)
  | 39, v => v = .int .i64 ((tg : Int) % 256)
  | 40, v => v = .int .u8 ((tg : Int) % 256)
  | 43, v => v = .pointer (some ⟨g3, 1, none⟩)
  | 44, v => v = .agg #[.string kx, .bool gx, .int .i64 ax, .int .i64 nx, .string sx]
  | _, _ => True

/-- The row is the one it was, or came later. -/
def OldR (w5 : World) (u r : Value) : Prop := r.ownBlock = u.ownBlock ∨ ∀ k, r.ownBlock = some k → w5.heap.size ≤ k
theorem OldR.step {w5 w6 : World} {u r r' : Value} (h : OldR w5 u r) (hs : w5.heap.size ≤ w6.heap.size) (hn : r'.ownBlock = r.ownBlock ∨ ∀ k, r'.ownBlock = some k → w6.heap.size ≤ k) : OldR w5 u r' := by
  rcases hn with e | e
  · unfold OldR; rw [e]; exact h
  · exact .inr fun k hk => by have := e k hk; omega
theorem OldR.grown {w5 w6 w7 : World} {u r : Value} (h : OldR w5 u r) (hg : w5.grownBy w6 u.ownBlock) (hg2 : w6.grownBy w7 r.ownBlock) : w5.grownBy w7 u.ownBlock := by
  refine ⟨hg2.os.trans hg.os, hg2.tape.trans hg.tape, hg2.output.trans hg.output, Nat.le_trans hg.size hg2.size, fun k hk hne => ?_⟩
  refine (hg2.block k (Nat.lt_of_lt_of_le hk hg.size) (fun e => ?_)).trans (hg.block k hk hne)
  rcases h with h | h
  · exact hne (e.trans h)
  · have := h k e.symm
    omega
theorem grown_bel {w5 w6 w7 : World} {r : Option Nat} (hg : w5.grownBy w6 r) (hb : Below w6.heap.size w6 w7) : w5.grownBy w7 r :=
  ⟨hb.os.trans hg.os, hb.tape.trans hg.tape, hb.output.trans hg.output, Nat.le_trans hg.size hb.size, fun k hk hne => (hb.block k (Nat.lt_of_lt_of_le hk hg.size)).trans (hg.block k hk hne)⟩
/-- How far it has come. -/
def CTb (w5 : World) (g : Nat) (u : Value) (P A1 A2 : List UInt8) : List Value → World → Prop
  | [], w => Own 5 w g u P ∧ w5.grownBy w u.ownBlock
  | [x], w => Own 5 w g u P ∧ RB w x A1 ∧ w5.grownBy w u.ownBlock
  | [_, r], w => Own 5 w g r (P ++ A1) ∧ OldR w5 u r ∧ w5.grownBy w u.ownBlock
  | [_, r, x], w => Own 5 w g r (P ++ A1) ∧ RB w x A2 ∧ OldR w5 u r ∧ w5.grownBy w u.ownBlock
  | [_, _, _, r], w => Own 5 w g r (P ++ A1 ++ A2) ∧ OldR w5 u r ∧ w5.grownBy w u.ownBlock
  | [_, _, _, r, y], w => y = r ∧ Own 5 w g r (P ++ A1 ++ A2) ∧ OldR w5 u r ∧ w5.grownBy w u.ownBlock
  | _, w => w5.grownBy w u.ownBlock
theorem CTb.gr {w5 w : World} {g : Nat} {u : Value} {P A1 A2 : List UInt8} : ∀ {vs : List Value}, CTb w5 g u P A1 A2 vs w → w5.grownBy w u.ownBlock
  | [], h => h.2
  | [_], h => h.2.2
  | [_, _], h => h.2.2
  | [_, _, _], h => h.2.2.2
  | [_, _, _, _], h => h.2.2
  | [_, _, _, _, _], h => h.2.2.2
  | _ :: _ :: _ :: _ :: _ :: _ :: _, h => h
theorem tab_not_row {w : World} {g B s n : Nat} {e : TypeId} {TT : TabT} {v : Value} {xs : List Value} (h : TK w g TT) (hk : w.ownsRow B e s v n xs) (hne : 33 ≠ e) : v.ownBlock ≠ some g := by
  intro he
  obtain ⟨cs, fr, hr⟩ := h.row
  rcases hk.2 with ⟨rfl, -⟩ | ⟨q, cap, cur, rfl, -, h2, -⟩
  · cases he
  · cases he
    rw [hr] at h2
    simp only [Option.some.injEq, Obj.cells.injEq] at h2
    exact hne h2.2.1

set_option maxHeartbeats 8000000 in
set_option maxRecDepth 100000 in
theorem rtabbytes_c (TT : TabT) (w : World) (hs : ∀ q, q < 32 → (TT q).2.1.size ≤ 1000 ∧ (TT q).2.2.2.2.2.size ≤ 1000) (hok : TabOk TT) :
    Calls Tryz.prog 46 #[.agg (tabL TT 32).toArray] w fun e w' => ∃ v', e = .returned v' ∧ Own 5 w' w.heap.size v' (if okTo TT 32 then tabB TT else []) ∧ Below w.heap.size w w' := by
  have HT := Go.Lib.hid (TK.new w TT)
  have HB := Go.Lib.hid (below_one w (.cells (tabL TT 32).toArray 33))
  have HRA := Go.Lib.hid (fun (W : World) g (h : TK W g TT) => h.range)
  have HSZ := Go.Lib.hid (sizeTab TT)
  have CM := Go.Lib.hid fun W => rmaytab_c TT W hs
  have HREC := Go.Lib.hid (fun (h : okTo TT 32 = true) q (hq : q < 32) (h1 : (TT q).1 = true) => And.intro ((okTo_slot h hq).1 h1) (hok q hq))
  have HLEN := Go.Lib.hid (fun (h : okTo TT 32 = true) => bodyB_len h hok)
  generalize tabL TT 32 = TL at *
  clear hs hok
  obtain ⟨OUT, hOUT⟩ : ∃ OUT, OUT = if okTo TT 32 then tabB TT else [] := ⟨_, rfl⟩
  rw [← hOUT]
  have HOUT := Go.Lib.hid hOUT
  clear hOUT
  obtain ⟨g, hg⟩ : ∃ g, g = w.heap.size := ⟨_, rfl⟩
  have HG := Go.Lib.hid hg
  rw [← hg] at HT HB ⊢
  clear hg
  go_enter Tryz.func46, Tryz.ntmps46
  go_upto_region 1 with (fail)
  rw [← HG.out]
  generalize w.alloc (.cells TL.toArray 33) = w1 at *
  have HRX := Go.Lib.hid (HRA.out _ _ HT.out)
  go_wp2_with (first
    | (with_reducible show wpList _ _ _ (⟨some 8, _, _, _, _, _⟩ :: _) _ _; go_loud (refine wpList_load_mid rfl 33 (.tmp 1) rfl g 0 rfl TL _ HRX.out Tryz.underlying33 rfl HSZ.out ?_))
    | fail)
  refine (CM.out _).mono ?_
  rintro e w2 ⟨rfl, hc⟩
  have HT2 := Go.Lib.hid (HT.out.below hc)
  have HB2 := Go.Lib.hid (HB.out.trans (hc.mono (by have := HB.out.size; have := HG.out; omega)))
  clear hc CM HT HB HRX HRA HSZ
  by_cases hok : okTo TT 32 = true
  · have HOUT := Go.Lib.hid (show OUT = tabB TT by rw [HOUT.out, if_pos hok])
    rw [hok]
    have HREC2 := Go.Lib.hid (HREC.out hok)
    have HLEN2 := Go.Lib.hid (HLEN.out hok)
    clear hok HREC HLEN
    go_wp2_with fail
    go_loopw [3, 4, 5] (fun hv lv iv wr => ∃ (i : Nat) (q u : Value), q = hv ∧ u = lv ∧ i ≤ 32 ∧ iv = .int .i64 (i : Int) ∧ Hid (OwnV 4 wr g q (zb (hasL TT i))) ∧ Hid (Own 5 wr g u (bodyB TT i)) ∧ Hid (TK wr g TT) ∧ Hid (Below g w wr)) (fun _ _ iv _ => 32 - (intOf iv).toNat)
    case atStart => exact ⟨0, _, _, rfl, rfl, by omega, rfl, Go.Lib.hid (OwnV.nil _ _ _), Go.Lib.hid (Own.nil _ _ _), HT2, HB2⟩
    case round =>
      clear HT2 HB2
      obtain ⟨i, q, u, rfl, rfl, hi, rfl, HQ, HO, HT, HB⟩ := hrel
      by_cases hlt : i < 32
      · have hltI : (i : Int) < 32 := by omega
        obtain ⟨D, hD⟩ : ∃ D, D = i / 4 := ⟨_, rfl⟩
        obtain ⟨R, hR⟩ : ∃ R, R = i % 4 := ⟨_, rfl⟩
        have d1 : (i : Int).tdiv 4 = (D : Int) := by rw [Int.tdiv_eq_ediv_of_nonneg (by omega)]; omega
        have r1 : (i : Int).tmod 4 = (R : Int) := by rw [Int.tmod_eq_emod_of_nonneg (by omega)]; omega
        have hD8 : D < 8 := by omega
        have hR4 : R < 4 := by omega
        obtain ⟨c0, c1, c2, c3, c4, c5⟩ := HT.out.at hD8 hR4
        rw [show 4 * D + R = i by omega] at c0 c1 c2 c3 c4 c5
        have hix1 := idxT g D hD8
        have hix2 := idxT2 g (24 * D) R hR4
        have HRC := Go.Lib.hid (HREC2.out i hlt)
        have HBL := Go.Lib.hid (HLEN2.out i hi)
        have HHN := Go.Lib.hid (hasL_succ TT i)
        have HBN := Go.Lib.hid (bodyB_succ TT i)
        have HHL := Go.Lib.hid (hasL_len TT i)
        clear hD hR
        generalize hasL TT i = HL at *
        generalize bodyB TT i = BL at *
        generalize TT i = y at *
        obtain ⟨hq, kx, gx, ax, nx, sx⟩ := y
        simp only [] at c0 c1 c2 c3 c4 c5 HRC HHN HBN
        have hgw : g ≤ wr.heap.size := by have := HB.out.size; have := HG.out; omega
        have hbA := below_one wr (.cells #[.bool hq, .string kx, .bool gx, .int .i64 ax, .int .i64 nx, .string sx] 30)
        have HX := Go.Lib.hid (heap_alloc_new wr (.cells #[.bool hq, .string kx, .bool gx, .int .i64 ax, .int .i64 nx, .string sx] 30))
        have HQ2 := Go.Lib.hid (HQ.out.below hbA)
        have HO2 := Go.Lib.hid (HO.out.below hbA)
        have HT2 := Go.Lib.hid (HT.out.below hbA)
        have HB2 := Go.Lib.hid (HB.out.trans (hbA.mono hgw))
        clear hbA HQ HO HT HB hgw
        go_upto_region 9 with (fail)
        obtain ⟨g3, hg3⟩ : ∃ g3, g3 = wr.heap.size := ⟨_, rfl⟩
        rw [← hg3] at HX ⊢
        clear hg3 c0 c1 c2 c3 c4 c5 hix1 hix2 d1 r1
        generalize wr.alloc (.cells #[.bool hq, .string kx, .bool gx, .int .i64 ax, .int .i64 nx, .string sx] 30) = w3 at *
        obtain ⟨x0, x1, x2, x3, x4, x5⟩ := row6 HX.out
        have hb4 := below_one w3 (.cells #[.bool hq] 4)
        have HX4 := Go.Lib.hid (row_kept HX.out hb4)
        have HQ4 := Go.Lib.hid (HQ2.out.below hb4)
        have HO4 := Go.Lib.hid (HO2.out.below hb4)
        have HT4 := Go.Lib.hid (HT2.out.below hb4)
        have HB4 := Go.Lib.hid (HB2.out.trans (hb4.mono (by have := HB2.out.size; have := HG.out; omega)))
        have HON := Go.Lib.hid (RV.zbOne w3 4 hq)
        clear hb4 HX HQ2 HO2 HT2 HB2
        go_upto_region 10 with (first
          | (with_reducible show wpList _ _ _ (⟨some 26, _, _, _, _, _⟩ :: _) _ _; go_loud (refine wpList_append_zb rfl (.tmp 22) (.tmp 25) 126 rfl g 4 Tryz.underlying126 infoB q (.slice (some ⟨w3.heap.size, 0, none⟩) 1 1) HL [hq] rfl rfl HQ4.out HON.out (by have := HHL.out; simp; omega) (by have := HB4.out.size; have := HG.out; omega) ?_); intro q5 w5 hq5 hg5)
          | fail)
        clear x0 x1 x2 x3 x4 x5
        have HX5 := Go.Lib.hid ((hg5.block g3 (row_lt HX4.out) (fun e => row_not HQ4.out HX4.out (by decide) e.symm)).trans HX4.out)
        have HQ5 := Go.Lib.hid (show OwnV 4 w5 g q5 (zb (hasL TT (i + 1))) by rw [HHN.out]; exact hq5)
        have HO5 := Go.Lib.hid (HO4.out.kept hg5 (rows_ne HO4.out HQ4.out (by decide)))
        have HT5 := Go.Lib.hid (HT4.out.same (hg5.block g HT4.out.lt (fun e => tab_not_row HT4.out HQ4.out (by decide) e.symm)))
        have HB5 := Go.Lib.hid (HB4.out.grown hg5 (by have := HB4.out.size; have := HG.out; omega) (fun j hj => HQ4.out.row j hj))
        clear hq5 hg5 HX4 HQ4 HO4 HT4 HB4 HON HHN
        obtain ⟨x0, x1, x2, x3, x4, x5⟩ := row6 HX5.out
        cases hq with
        | false =>
          simp only [Bool.false_eq_true, if_false, List.append_nil] at HBN
          have HO6 := Go.Lib.hid (show Own 5 w5 g u (bodyB TT (i + 1)) by rw [HBN.out]; exact HO5.out)
          go_wp2_with fail
          exact ⟨⟨i + 1, _, _, rfl, rfl, by omega, by go_num, HQ5, HO6, HT5, HB5⟩, by simp only [intOf]; omega⟩
        | true =>
          simp only [if_true] at HBN
          have hm := (HRC.out rfl).1
          have hrok := (HRC.out rfl).2
          have hsz := mayT_short hm
          simp only [] at hsz
          have CH := Go.Lib.hid fun W => rhash_k kx (hashS kx) rfl W (by omega)
          have CT := Go.Lib.hid fun W => rtag_c (hashS kx) W (hashS_lt kx)
          have HTL := Go.Lib.hid (tag_lt (hashS kx))
          have hl1 : (bl kx).length = kx.size := by have := str_size (bl kx); rw [str_bl] at this; exact this.symm
          have hl2 : (bl sx).length = sx.size := by have := str_size (bl sx); rw [str_bl] at this; exact this.symm
          have CB := Go.Lib.hid (show ∀ W, Calls Tryz.prog 77 #[.agg #[.string kx, .bool gx, .int .i64 ax, .int .i64 nx, .string sx]] W fun e w' => ∃ v, e = .returned v ∧ Own 5 w' W.heap.size v (recT (kx, gx, ax, nx, sx)) ∧ Below W.heap.size W w' from fun W => by
            have h1 := recOk_k hrok
            have h2 := recOk_n hrok
            have := rbytes_c (bl kx) gx ax nx (bl sx) W (by omega) h1.1 h1.2 h2.1 h2.2 (by omega)
            rw [str_bl, str_bl] at this
            unfold recV at this
            exact this)
          have HEB := Go.Lib.hid (show entB (kx, gx, ax, nx, sx) = [UInt8.ofNat (tagN (hashS kx) / 256), UInt8.ofNat (tagN (hashS kx) % 256)] ++ recT (kx, gx, ax, nx, sx) from rfl)
          have HEL := Go.Lib.hid (show (recT (kx, gx, ax, nx, sx)).length ≤ 200 ∧ recT (kx, gx, ax, nx, sx) ≠ [] from by
            have h := recT_len hm hrok
            exact ⟨h.2, fun e => by rw [e] at h; simp at h⟩)
          rw [HEB.out] at HBN
          clear hm hrok hsz hl1 hl2 HRC HEB
          generalize recT (kx, gx, ax, nx, sx) = RT at *
          generalize tagN (hashS kx) = tg at *
          generalize hashS kx = hx at *
          go_wp2_with fail
          refine (CH.out _).mono ?_
          rintro e w6 ⟨rfl, hc⟩
          have HX6 := Go.Lib.hid (row_kept HX5.out hc)
          have HQ6 := Go.Lib.hid (HQ5.out.below hc)
          have HO6 := Go.Lib.hid (HO5.out.below hc)
          have HT6 := Go.Lib.hid (HT5.out.below hc)
          have HB6 := Go.Lib.hid (HB5.out.trans (hc.mono (by have := HB5.out.size; have := HG.out; omega)))
          clear hc CH HX5 HQ5 HO5 HT5 HB5 x0 x1 x2 x3 x4 x5
          go_wp2_with fail
          refine (CT.out _).mono ?_
          rintro e w7 ⟨rfl, rfl⟩
          clear CT
          go_upto_region 12 with (fail)
          have hgw : g ≤ w6.heap.size := by have := HB6.out.size; have := HG.out; omega
          have HW := Go.Lib.hid hgw
          have HC := Go.Lib.hid (fun W (h : w6.grownBy W u.ownBlock) => row6 ((h.block g3 (row_lt HX6.out) (fun e => row_not HO6.out HX6.out (by decide) e.symm)).trans HX6.out))
          have HFQ := Go.Lib.hid (fun W (h : w6.grownBy W u.ownBlock) => HQ6.out.kept h (rows_ne HQ6.out HO6.out (by decide)))
          have HFT := Go.Lib.hid (fun W (h : w6.grownBy W u.ownBlock) => HT6.out.same (h.block g HT6.out.lt (fun e => tab_not_row HT6.out HO6.out (by decide) e.symm)))
          have HFB := Go.Lib.hid (fun W (h : w6.grownBy W u.ownBlock) => HB6.out.grown h hgw (fun j hj => HO6.out.row j hj))
          have H0 := Go.Lib.hid (show CTb w6 g u BL [UInt8.ofNat (tg / 256), UInt8.ofNat (tg % 256)] RT [] w6.drew from ⟨HO6.out.drew, ⟨rfl, rfl, rfl, Nat.le_refl _, fun _ _ _ => rfl⟩⟩)
          have HLT := Go.Lib.hid (show ∀ W : World, RB (W.alloc (.cells #[.int .u8 ((tg : Int) / 256), .int .u8 ((tg : Int) % 256)] 5)) (.slice (some ⟨W.heap.size, 0, none⟩) 2 2) [UInt8.ofNat (tg / 256), UInt8.ofNat (tg % 256)] from fun W => by
            have htl := HTL.out
            refine RB.lits W 5 _ _ _ 2 ?_ rfl (by simp)
            have e1 : (UInt8.ofNat (tg / 256)).toNat = tg / 256 := by simp only [UInt8.toNat_ofNat']; omega
            have e2 : (UInt8.ofNat (tg % 256)).toNat = tg % 256 := by simp only [UInt8.toNat_ofNat']; omega
            simp [cells, e1, e2])
          have htd : (tg : Int).tdiv 256 = (tg : Int) / 256 := by rw [Int.tdiv_eq_ediv_of_nonneg (by omega)]
          have htm : (tg : Int).tmod 256 = (tg : Int) % 256 := by rw [Int.tmod_eq_emod_of_nonneg (by omega)]
          have hw0 : IntKind.i64.wrap ((tg : Int) / 256) = (tg : Int) / 256 := by rw [IntKind.wrap_i64]; have := HTL.out; omega
          have hw3 : IntKind.i64.wrap ((tg : Int) % 256) = (tg : Int) % 256 := by rw [IntKind.wrap_i64]; have := HTL.out; omega
          have hw1 : IntKind.u8.wrap ((tg : Int) / 256) = (tg : Int) / 256 := by rw [IntKind.wrap_u8]; have := HTL.out; omega
          have hw2 : IntKind.u8.wrap ((tg : Int) % 256) = (tg : Int) % 256 := by rw [IntKind.wrap_u8]; have := HTL.out; omega
          clear HX6 HQ6 HO6 HT6 HB6 hgw
          refine wp_region_chain (by kernel_rfl) (VTb g3 tg u kx gx ax nx sx) [7, 8, 11, 12, 13] (CTb w6 g u BL [UInt8.ofNat (tg / 256), UInt8.ofNat (tg % 256)] RT) (by decide +kernel) (by decide +kernel) (by rfl) (by decide +kernel) [34, 35, 36, 37, 38, 39, 40, 41, 42, 43, 44, 45, 46, 4] (by rfl) (H0.out) ?_ ?_ ?_
          · intro i o ho hnc a w6 vs hC hlen hg
            obtain ⟨x0, x1, x2, x3, x4, x5⟩ := HC.out w6 (CTb.gr hC)
            match i, ho with
            | 0, ho =>
              obtain rfl := Option.some.inj ho
              have h4 := given_old hg 4 (by decide +kernel)
              clear hg
              exact st_yield ho (wanted_none rfl) (u) w6 (by simp [execOp, Act.eval, h4, go_sem]) ⟨_, rfl, hC, by rintro t' ⟨⟩; rfl⟩
            | 1, ho =>
              obtain rfl := Option.some.inj ho
              have h7 := given_old hg 7 (by decide +kernel)
              clear hg
              exact st_yield ho (wanted_none rfl) (.int .i64 (tg : Int)) w6 (by simp [execOp, Act.eval, h7, go_sem]) ⟨_, rfl, hC, by rintro t' ⟨⟩; rfl⟩
            | 2, ho =>
              obtain rfl := Option.some.inj ho
              obtain ⟨_, h35, rfl⟩ := given_fed hg 35 (by decide +kernel)
              clear hg
              exact st_yield ho (wanted_none rfl) (.int .i64 ((tg : Int) / 256)) w6 (by simp [execOp, Act.eval, h35, go_sem, htd, hw0]) ⟨_, rfl, hC, by rintro t' ⟨⟩; rfl⟩
            | 3, ho =>
              obtain rfl := Option.some.inj ho
              obtain ⟨_, h36, rfl⟩ := given_fed hg 36 (by decide +kernel)
              clear hg
              exact st_yield ho (wanted_none rfl) (.int .u8 ((tg : Int) / 256)) w6 (by simp [execOp, Act.eval, h36, go_sem, hw1]) ⟨_, rfl, hC, by rintro t' ⟨⟩; rfl⟩
            | 4, ho =>
              obtain rfl := Option.some.inj ho
              have h7 := given_old hg 7 (by decide +kernel)
              clear hg
              exact st_yield ho (wanted_none rfl) (.int .i64 (tg : Int)) w6 (by simp [execOp, Act.eval, h7, go_sem]) ⟨_, rfl, hC, by rintro t' ⟨⟩; rfl⟩
            | 5, ho =>
              obtain rfl := Option.some.inj ho
              obtain ⟨_, h38, rfl⟩ := given_fed hg 38 (by decide +kernel)
              clear hg
              exact st_yield ho (wanted_none rfl) (.int .i64 ((tg : Int) % 256)) w6 (by simp [execOp, Act.eval, h38, go_sem, htm]) ⟨_, rfl, hC, by rintro t' ⟨⟩; rfl⟩
            | 6, ho =>
              obtain rfl := Option.some.inj ho
              obtain ⟨_, h39, rfl⟩ := given_fed hg 39 (by decide +kernel)
              clear hg
              exact st_yield ho (wanted_none rfl) (.int .u8 ((tg : Int) % 256)) w6 (by simp [execOp, Act.eval, h39, go_sem, hw2]) ⟨_, rfl, hC, by rintro t' ⟨⟩; rfl⟩
            | 7, ho =>
              exact absurd hnc (by decide)
            | 8, ho =>
              exact absurd hnc (by decide)
            | 9, ho =>
              obtain rfl := Option.some.inj ho
              have h6 := given_old hg 6 (by decide +kernel)
              clear hg
              exact st_yield ho (wanted_none rfl) (.pointer (some ⟨g3, 1, none⟩)) w6 (by simp [execOp, Act.eval, h6, go_sem]) ⟨_, rfl, hC, by rintro t' ⟨⟩; rfl⟩
            | 10, ho =>
              obtain rfl := Option.some.inj ho
              obtain ⟨_, h43, rfl⟩ := given_fed hg 43 (by decide +kernel)
              clear hg
              exact st_yield ho (wanted_none rfl) (.agg #[.string kx, .bool gx, .int .i64 ax, .int .i64 nx, .string sx]) w6 (by simp [execOp, Act.eval, h43, go_sem, x1, x2, x3, x4, x5]) ⟨_, rfl, hC, by rintro t' ⟨⟩; rfl⟩
            | 11, ho =>
              exact absurd hnc (by decide)
            | 12, ho =>
              exact absurd hnc (by decide)
            | 13, ho =>
              exact absurd hnc (by decide)
            | n + 14, ho => simp at ho
          · intro j i o hj ho a w6 vs hvl hC hsl hlen hg
            match j, hj with
            | 0, hj =>
              obtain rfl : 7 = i := Option.some.inj hj
              obtain rfl := Option.some.inj ho
              obtain ⟨_, h37, rfl⟩ := given_fed hg 37 (by decide +kernel)
              obtain ⟨_, h40, rfl⟩ := given_fed hg 40 (by decide +kernel)
              clear hg
              obtain rfl := tlen0 hvl
              exact st_yield ho (wanted_none rfl) (.slice (some ⟨w6.heap.size, 0, none⟩) 2 2) (w6.alloc (.cells #[.int .u8 ((tg : Int) / 256), .int .u8 ((tg : Int) % 256)] 5)) (by simp [execOp, Act.eval, h37, h40, go_sem]) ⟨_, rfl, ⟨hC.1.below (below_one _ _), HLT.out w6, grown_bel hC.2 (below_one _ _)⟩, by rintro t' ⟨⟩; trivial⟩
            | 1, hj =>
              obtain rfl : 8 = i := Option.some.inj hj
              obtain rfl := Option.some.inj ho
              obtain ⟨v34', h34, p34⟩ := given_fed hg 34 (by decide +kernel)
              have p34 : v34' = u := p34
              rw [p34] at h34
              clear hg
              obtain ⟨z0, rfl⟩ := tlen1 hvl
              have h41 : a.tmps[41]? = some z0 := hsl 0 7 _ 41 (by simp) rfl rfl rfl
              exact st_list ho (wanted_none rfl) fun Q' hQ => wpList_append_bytes rfl (.tmp 34) (.tmp 41) 47 rfl g 5 Tryz.underlying47 info8 u z0 (BL) ([UInt8.ofNat (tg / 256), UInt8.ofNat (tg % 256)]) (by simp [Act.eval, h34]) (by simp [Act.eval, h41]) hC.1 hC.2.1 (by simp) (by
                have := HBL.out
                have := HEL.out.1
                simp only [List.length_cons, List.length_nil]; omega) (Nat.le_trans HW.out (CTb.gr hC).size) (fun v' w' hown hg2 hn => wpList_nil (hQ _ _ ⟨v', rfl, ⟨hown, OldR.step (.inl rfl) (CTb.gr hC).size hn, OldR.grown (.inl rfl) (CTb.gr hC) hg2⟩, by rintro t' ⟨⟩; trivial⟩))
            | 2, hj =>
              obtain rfl : 11 = i := Option.some.inj hj
              obtain rfl := Option.some.inj ho
              obtain ⟨_, h44, rfl⟩ := given_fed hg 44 (by decide +kernel)
              clear hg
              obtain ⟨z0, z1, rfl⟩ := tlen2 hvl
              exact st_enter (w1 := w6) ho (wanted_none rfl) 77 #[.agg #[.string kx, .bool gx, .int .i64 ax, .int .i64 nx, .string sx]] (by simp [execOp, Act.eval, h44, resolve, go_sem]) ((CB.out w6).mono (by
                rintro e w7 ⟨v, rfl, hown, hb⟩
                exact ⟨v, rfl, v, rfl, ⟨hC.1.below hb, hown.rb, hC.2.1, grown_bel hC.2.2 hb⟩, by rintro t' ⟨⟩; trivial⟩))
            | 3, hj =>
              obtain rfl : 12 = i := Option.some.inj hj
              obtain rfl := Option.some.inj ho
              clear hg
              obtain ⟨z0, z1, z2, rfl⟩ := tlen3 hvl
              have h42 : a.tmps[42]? = some z1 := hsl 1 8 _ 42 (by simp) rfl rfl rfl
              have h45 : a.tmps[45]? = some z2 := hsl 2 11 _ 45 (by simp) rfl rfl rfl
              exact st_list ho (wanted_none rfl) fun Q' hQ => wpList_append_bytes rfl (.tmp 42) (.tmp 45) 47 rfl g 5 Tryz.underlying47 info8 z1 z2 (BL ++ [UInt8.ofNat (tg / 256), UInt8.ofNat (tg % 256)]) (RT) (by simp [Act.eval, h42]) (by simp [Act.eval, h45]) hC.1 hC.2.1 (HEL.out.2) (by
                have := HBL.out
                have := HEL.out.1
                simp only [List.length_append, List.length_cons, List.length_nil]; omega) (Nat.le_trans HW.out (CTb.gr hC).size) (fun v' w' hown hg2 hn => wpList_nil (hQ _ _ ⟨v', rfl, ⟨hown, OldR.step (hC.2.2.1) (CTb.gr hC).size hn, OldR.grown (hC.2.2.1) (CTb.gr hC) hg2⟩, by rintro t' ⟨⟩; trivial⟩))
            | 4, hj =>
              obtain rfl : 13 = i := Option.some.inj hj
              obtain rfl := Option.some.inj ho
              clear hg
              obtain ⟨z0, z1, z2, z3, rfl⟩ := tlen4 hvl
              have h46 : a.tmps[46]? = some z3 := hsl 3 12 _ 46 (by simp) rfl rfl rfl
              exact st_yield ho (wanted_none rfl) z3 w6 (by simp [execOp, Act.eval, h46, go_sem]) ⟨_, rfl, ⟨rfl, hC⟩, by rintro t' ⟨⟩; trivial⟩
            | n + 5, hj => simp at hj
          · intro f w8 vs hvl hC hsl hV
            obtain ⟨x0, x1, x2, x3, x4, rfl⟩ := tlen5 hvl
            obtain ⟨hx4, hown, hold, hgr⟩ := hC
            have h4 := hsl 4 13 _ 4 (by simp) rfl rfl rfl
            have h4 : f 4 = x3 := (Option.some.inj h4).symm.trans hx4
            have HO8 := Go.Lib.hid (show Own 5 w8 g x3 (bodyB TT (i + 1)) by rw [HBN.out, ← List.append_assoc]; exact hown)
            have HQ8 := Go.Lib.hid (HFQ.out _ hgr)
            have HT8 := Go.Lib.hid (HFT.out _ hgr)
            have HB8 := Go.Lib.hid (HFB.out _ hgr)
            clear hsl hV hown hold hgr H0 HC HFQ HFT HFB htd htm hw0 hw1 hw2 hw3
            unfold putAll
            simp only [List.foldl]
            simp only [h4]
            go_simp
            go_wp2_with fail
            go_roundw
            case rel => exact ⟨i + 1, _, _, rfl, rfl, by omega, by go_num, HQ8, HO8, HT8, HB8⟩
            case measure => simp only [intOf]; omega
      · obtain rfl : i = 32 := by omega
        have CB := Go.Lib.hid (rbitbytes_c q _ wr HQ.out.rv (by rw [hasL_len]; decide))
        have HLB := Go.Lib.hid (HLEN2.out 32 (by omega))
        clear HREC2 HLEN2
        go_wp2_with fail
        refine CB.out.mono ?_
        rintro e w4 ⟨v4, rfl, ho, hc⟩
        have hgw : g ≤ wr.heap.size := by have := HB.out.size; have := HG.out; omega
        have HO4 := Go.Lib.hid (ho.mono hgw)
        have HR4 := Go.Lib.hid (HO.out.below hc).rb
        have HB4 := Go.Lib.hid (HB.out.trans (hc.mono hgw))
        clear ho hc CB HO HQ HT HB hgw
        go_wp2_with (first
          | (with_reducible show wpList _ _ _ (⟨some 50, _, _, _, _, _⟩ :: _) _ _; go_loud (refine wpList_append_RB rfl (.tmp 48) (.tmp 49) 47 rfl g 5 Tryz.underlying47 info8 v4 u _ _ rfl rfl HO4.out HR4.out (by have := HLB.out; rw [headB_len]; omega) (by have := HB4.out.size; have := HG.out; omega) ?_); intro v5 w5 ho5 hg5)
          | fail)
        have HF := Go.Lib.hid (And.intro (show Own 5 w5 g v5 OUT by rw [HOUT.out]; exact ho5) (HB4.out.grown hg5 (by have := HB4.out.size; have := HG.out; omega) (fun j hj => HO4.out.row j hj)))
        clear ho5 hg5
        go_wp2_with fail
        go_ret
        exact ⟨_, rfl, HF.out.1, HF.out.2⟩
  · have hok : okTo TT 32 = false := by simpa using hok
    have HOUT := Go.Lib.hid (show OUT = [] by rw [HOUT.out, hok]; rfl)
    rw [hok]
    clear HREC HLEN
    go_wp2_with fail
    go_ret
    exact ⟨_, rfl, by rw [HOUT.out]; exact Own.nil _ _ _, HB2.out⟩
end Go.Proofs.YthbnecdeebmlhaaGreat

namespace Go.Proofs.YthbnecdeebmlhaaGreat
open Go.RowKit

def VE (b1 o1 b2 o2 n m cap1 cap2 k : Nat) (kx : ByteArray) (gx : Bool) (ax nx : Int) (sx ky : ByteArray) (gy : Bool) (ay ny : Int) (sy : ByteArray) (q : Bool) : Nat → World → Value → Prop
  | 17, _, v => v = .slice (some ⟨b1, o1, none⟩) n cap1
  | 18, _, v => v = .int .i64 (k : Int)
  | 19, _, v => v = .pointer (some ⟨b1, o1 + k * 5, none⟩)
  | 20, _, v => v = .agg #[.string kx, .bool gx, .int .i64 ax, .int .i64 nx, .string sx]
  | 21, _, v => v = .slice (some ⟨b2, o2, none⟩) m cap2
  | 22, _, v => v = .int .i64 (k : Int)
  | 23, _, v => v = .pointer (some ⟨b2, o2 + k * 5, none⟩)
  | 24, _, v => v = .agg #[.string ky, .bool gy, .int .i64 ay, .int .i64 ny, .string sy]
  | 25, _, v => v = .bool q
  | 26, _, v => v = .bool (!q)
  | _, _, _ => True

theorem VE_below (b1 o1 b2 o2 n m cap1 cap2 k : Nat) (kx : ByteArray) (gx : Bool) (ax nx : Int) (sx ky : ByteArray) (gy : Bool) (ay ny : Int) (sy : ByteArray) (q : Bool) : ∀ (i : Nat) (w w' : World) (v : Value), VE b1 o1 b2 o2 n m cap1 cap2 k kx gx ax nx sx ky gy ay ny sy q i w v → Below w.heap.size w w' → VE b1 o1 b2 o2 n m cap1 cap2 k kx gx ax nx sx ky gy ay ny sy q i w' v := by
  intro i w w' v h hb
  unfold VE at h ⊢
  split at h <;> first | exact h | trivial | exact RB.below h hb | exact Own.below h hb

theorem eqGo {l m : List RecT} {k : Nat} (h1 : k < l.length) (h2 : k < m.length) (he : l.take k = m.take k) (h : l[k] = m[k]) : l.take (k + 1) = m.take (k + 1) := by
  rw [List.take_succ_eq_append_getElem h1, List.take_succ_eq_append_getElem h2, he, h]

set_option maxHeartbeats 2000000 in
set_option maxRecDepth 100000 in
theorem reqrecs_c (u v : Value) (l m : List RecT) (w : World) (hu : RS w u l) (hv : RS w v m) :
    Calls Tryz.prog 27 #[u, v] w fun e w' => e = .returned (.bool (decide (l = m))) ∧ Below w.heap.size w w' := by
  obtain ⟨a1, cap1, rfl, hm1⟩ := hu.form
  obtain ⟨a2, cap2, rfl, hm2⟩ := hv.form
  have HU := Go.Lib.hid hu; clear hu
  have HV := Go.Lib.hid hv; clear hv
  by_cases hl : l.length = m.length
  · have Hl := Go.Lib.hid hl
    have hlb : ((l.length : Int) == (m.length : Int)) = true := by simp [hl]
    have hln : ((l.length : Int) = (m.length : Int)) := by omega
    go_enter Tryz.func27, Tryz.ntmps27
    go_wp2_with fail
    clear hln hlb
    have hl2 := Hl.out
    have Hl2 := Go.Lib.hid hl2; clear hl2 hl
    go_loopw [5] (fun i w2 => ∃ k : Nat, k ≤ l.length ∧ i = .int .i64 (k : Int) ∧ l.take k = m.take k ∧ Below w.heap.size w w2) (fun i _ => l.length - (intOf i).toNat)
    case atStart => exact ⟨0, by omega, rfl, by simp, Below.refl _ _⟩
    case round =>
      obtain ⟨k, hk, rfl, htk, hbc⟩ := hrel
      have Htk := Go.Lib.hid htk; clear htk
      by_cases hlt : k < l.length
      · have hlt2 : k < m.length := by have := Hl.out; omega
        obtain ⟨b1, o1, rfl, -, -, c0, c1, c2, c3, c4⟩ := (HU.out.below hbc).at k hlt
        obtain ⟨b2, o2, rfl, -, -, d0, d1, d2, d3, d4⟩ := (HV.out.below hbc).at k hlt2
        have hix1 := run_idx5 b1 o1 l.length cap1 k hlt
        have hix2 := run_idx5 b2 o2 m.length cap2 k hlt2
        have Hgo := Go.Lib.hid (fun h => eqGo hlt hlt2 Htk.out h)
        have hne := Go.Lib.hid (fun (h : l[k] ≠ m[k]) => show l ≠ m from fun e => h (by subst e; rfl))
        have CE := reqrec_c l[k].1 l[k].2.1 l[k].2.2.1 l[k].2.2.2.1 l[k].2.2.2.2 m[k].1 m[k].2.1 m[k].2.2.1 m[k].2.2.2.1 m[k].2.2.2.2
        rw [eqRec_iff] at CE
        generalize hx : l[k] = x at *
        generalize hy : m[k] = y at *
        obtain ⟨kx, gx, ax, nx, sx⟩ := x
        obtain ⟨ky, gy, ay, ny, sy⟩ := y
        simp only [] at c0 c1 c2 c3 c4 d0 d1 d2 d3 d4 CE
        generalize hq : decide (((kx, gx, ax, nx, sx) : RecT) = (ky, gy, ay, ny, sy)) = q at *
        unfold recV at CE
        have CE := Go.Lib.hid CE
        have Hix1 := Go.Lib.hid hix1; clear hix1
        have Hix2 := Go.Lib.hid hix2; clear hix2
        have Hq := Go.Lib.hid hq; clear hq hx hy
        go_upto_region 6 with (fail)
        refine wp_region_each (by kernel_rfl) (VE b1 o1 b2 o2 l.length m.length cap1 cap2 k kx gx ax nx sx ky gy ay ny sy q) (VE_below b1 o1 b2 o2 l.length m.length cap1 cap2 k kx gx ax nx sx ky gy ay ny sy q) (by decide +kernel) (by decide +kernel) (by rfl) [17, 18, 19, 20, 21, 22, 23, 24, 25, 26] (by rfl) ?_ ?_
        · intro i o ho a w6 hb6 hlen hg
          have c0 := cell_kept c0 hb6
          have c1 := cell_kept c1 hb6
          have c2 := cell_kept c2 hb6
          have c3 := cell_kept c3 hb6
          have c4 := cell_kept c4 hb6
          have d0 := cell_kept d0 hb6
          have d1 := cell_kept d1 hb6
          have d2 := cell_kept d2 hb6
          have d3 := cell_kept d3 hb6
          have d4 := cell_kept d4 hb6
          have hix1 := Hix1.out w6
          have hix2 := Hix2.out w6
          match i, ho with
          | 0, ho =>
            obtain rfl := Option.some.inj ho
            have h0 := given_old hg 0 (by decide +kernel)
            clear hg
            exact st_yield ho (wanted_none rfl) (.slice (some ⟨b1, o1, none⟩) l.length cap1) w6 (by simp [execOp, Act.eval, h0, go_sem]) ⟨_, rfl, Below.refl _ _, by rintro t' ⟨⟩; rfl⟩
          | 1, ho =>
            obtain rfl := Option.some.inj ho
            have h5 := given_old hg 5 (by decide +kernel)
            clear hg
            exact st_yield ho (wanted_none rfl) (.int .i64 (k : Int)) w6 (by simp [execOp, Act.eval, h5, go_sem]) ⟨_, rfl, Below.refl _ _, by rintro t' ⟨⟩; rfl⟩
          | 2, ho =>
            obtain rfl := Option.some.inj ho
            obtain ⟨_, h17, rfl⟩ := given_fed hg 17 (by decide +kernel)
            obtain ⟨_, h18, rfl⟩ := given_fed hg 18 (by decide +kernel)
            clear hg
            exact st_yield ho (wanted_none rfl) (.pointer (some ⟨b1, o1 + k * 5, none⟩)) w6 (by simp [execOp, Act.eval, h17, h18, go_sem, hix1]) ⟨_, rfl, Below.refl _ _, by rintro t' ⟨⟩; rfl⟩
          | 3, ho =>
            obtain rfl := Option.some.inj ho
            obtain ⟨_, h19, rfl⟩ := given_fed hg 19 (by decide +kernel)
            clear hg
            exact st_yield ho (wanted_none rfl) (.agg #[.string kx, .bool gx, .int .i64 ax, .int .i64 nx, .string sx]) w6 (by simp [execOp, Act.eval, h19, go_sem, c0, c1, c2, c3, c4]) ⟨_, rfl, Below.refl _ _, by rintro t' ⟨⟩; rfl⟩
          | 4, ho =>
            obtain rfl := Option.some.inj ho
            have h1 := given_old hg 1 (by decide +kernel)
            clear hg
            exact st_yield ho (wanted_none rfl) (.slice (some ⟨b2, o2, none⟩) m.length cap2) w6 (by simp [execOp, Act.eval, h1, go_sem]) ⟨_, rfl, Below.refl _ _, by rintro t' ⟨⟩; rfl⟩
          | 5, ho =>
            obtain rfl := Option.some.inj ho
            have h5 := given_old hg 5 (by decide +kernel)
            clear hg
            exact st_yield ho (wanted_none rfl) (.int .i64 (k : Int)) w6 (by simp [execOp, Act.eval, h5, go_sem]) ⟨_, rfl, Below.refl _ _, by rintro t' ⟨⟩; rfl⟩
          | 6, ho =>
            obtain rfl := Option.some.inj ho
            obtain ⟨_, h21, rfl⟩ := given_fed hg 21 (by decide +kernel)
            obtain ⟨_, h22, rfl⟩ := given_fed hg 22 (by decide +kernel)
            clear hg
            exact st_yield ho (wanted_none rfl) (.pointer (some ⟨b2, o2 + k * 5, none⟩)) w6 (by simp [execOp, Act.eval, h21, h22, go_sem, hix2]) ⟨_, rfl, Below.refl _ _, by rintro t' ⟨⟩; rfl⟩
          | 7, ho =>
            obtain rfl := Option.some.inj ho
            obtain ⟨_, h23, rfl⟩ := given_fed hg 23 (by decide +kernel)
            clear hg
            exact st_yield ho (wanted_none rfl) (.agg #[.string ky, .bool gy, .int .i64 ay, .int .i64 ny, .string sy]) w6 (by simp [execOp, Act.eval, h23, go_sem, d0, d1, d2, d3, d4]) ⟨_, rfl, Below.refl _ _, by rintro t' ⟨⟩; rfl⟩
          | 8, ho =>
            obtain rfl := Option.some.inj ho
            obtain ⟨_, h20, rfl⟩ := given_fed hg 20 (by decide +kernel)
            obtain ⟨_, h24, rfl⟩ := given_fed hg 24 (by decide +kernel)
            clear hg
            exact st_enter (w1 := w6) ho (wanted_none rfl) 30 #[.agg #[.string kx, .bool gx, .int .i64 ax, .int .i64 nx, .string sx], .agg #[.string ky, .bool gy, .int .i64 ay, .int .i64 ny, .string sy]] (by simp [execOp, Act.eval, h20, h24, resolve, go_sem]) ((CE.out _).mono (by rintro e w7 ⟨rfl, hb7⟩; exact ⟨_, rfl, _, rfl, hb7, by rintro t' ⟨⟩; rfl⟩))
          | 9, ho =>
            obtain rfl := Option.some.inj ho
            obtain ⟨_, h25, rfl⟩ := given_fed hg 25 (by decide +kernel)
            clear hg
            exact st_yield ho (wanted_none rfl) (.bool (!q)) w6 (by simp [execOp, Act.eval, h25, go_sem]) ⟨_, rfl, Below.refl _ _, by rintro t' ⟨⟩; rfl⟩
          | n + 10, ho => simp at ho
        · intro f w6 hb6 hv
          have h26 := hv 26 (by decide)
          simp only [VE] at h26
          have hbc6 := hbc.trans (hb6.mono hbc.size)
          clear c0 c1 c2 c3 c4 d0 d1 d2 d3 d4 Hix1 Hix2 CE hv hbc hb6
          unfold putAll
          simp only [List.foldl]
          simp only [h26]
          cases q with
          | true =>
            have hgo := Go.Lib.hid (Hgo.out (of_decide_eq_true Hq.out))
            go_simp
            go_wp2_with fail
            go_roundw
            case rel => exact ⟨k + 1, by omega, by go_num, hgo.out, hbc6⟩
            case measure => simp only [intOf]; omega
          | false =>
            have hgo := Go.Lib.hid (decide_eq_false (hne.out (of_decide_eq_false Hq.out)))
            go_simp
            go_wp2_with fail
            go_ret
            exact ⟨ret_of (congrArg Value.bool hgo.out.symm), hbc6⟩
      · obtain rfl : k = l.length := by omega
        have hgo : l = m := by
          have := Htk.out
          rwa [List.take_of_length_le (Nat.le_refl _), List.take_of_length_le (by have := Hl.out; omega)] at this
        have Hgo := Go.Lib.hid (decide_eq_true hgo)
        clear hgo
        go_wp2_with fail
        go_ret
        exact ⟨ret_of (congrArg Value.bool Hgo.out.symm), hbc⟩
  · have hgo := Go.Lib.hid (decide_eq_false (show ¬ l = m from fun e => hl (by rw [e])))
    have hlb : ((l.length : Int) == (m.length : Int)) = false := by simp; omega
    have hln : ¬ ((l.length : Int) = (m.length : Int)) := by omega
    go_enter Tryz.func27, Tryz.ntmps27
    go_wp2_with fail
    go_ret
    exact ⟨ret_of (congrArg Value.bool hgo.out.symm), Below.refl _ _⟩

end Go.Proofs.YthbnecdeebmlhaaGreat

namespace Go.Proofs.YthbnecdeebmlhaaGreat
open Go.RowKit

theorem ret_rfind_at {w w0 : World} {tmps : Array Value} {key : ByteArray} {gone : Bool} {k n : Int} {s : ByteArray} {g : Nat} {fr : Nat × Nat} {b : Bool} {v : Value}
    (hp : tmps.getD 4 undef = .pointer (some ⟨g, 0, none⟩)) (hg : w.heap[g]? = some (.cells #[.string key, .bool gone, .int .i64 k, .int .i64 n, .string s] 28 fr)) (h3 : tmps.getD 5 undef = .bool b)
    (hr : v = .tuple #[.agg #[.string key, .bool gone, .int .i64 k, .int .i64 n, .string s], .bool b]) (hb : Below w0.heap.size w0 w) : bodyPost Tryz.prog Tryz.f35 (fun e w' => e = .returned v ∧ Below w0.heap.size w0 w') Exit.ret { tmps := tmps, defers := [] } w := by
  subst hr
  have h := results_row_one (P := Tryz.prog) (fn := Tryz.f35) (p := 4) (u := 5) (ty := 28) rfl tmps w g 28 #[.string key, .bool gone, .int .i64 k, .int .i64 n, .string s] fr _ hp hg Tryz.underlying28 rfl (by kernel_rfl)
  rw [h3] at h
  exact bodyPost_ret h rfl ⟨rfl, hb⟩

set_option maxHeartbeats 1000000 in
set_option maxRecDepth 100000 in
theorem rfind_c (v : Value) (l : List RecT) (key : ByteArray) (w : World) (hv : RS w v l) :
    Calls Tryz.prog 35 #[v, .string key] w fun e w' => e = .returned (outR (findK keyR l key.toList)) ∧ Below w.heap.size w w' := by
  obtain ⟨a, cap, rfl, hm⟩ := hv.form
  have hb1 := below_one w (.cells #[.string ⟨#[]⟩, .bool false, .int .i64 0, .int .i64 0, .string ⟨#[]⟩] 28)
  have HB1 := Go.Lib.hid hb1
  have HA := Go.Lib.hid (heap_alloc_new w (.cells #[.string ⟨#[]⟩, .bool false, .int .i64 0, .int .i64 0, .string ⟨#[]⟩] 28))
  have HR := Go.Lib.hid (hv.below hb1)
  clear hv hb1
  go_enter Tryz.func35, Tryz.ntmps35
  go_wp2_with fail
  generalize w.alloc (.cells #[.string ⟨#[]⟩, .bool false, .int .i64 0, .int .i64 0, .string ⟨#[]⟩] 28) = w1 at *
  go_loopw [6] (fun ki wr => ∃ k : Nat, k ≤ l.length ∧ ki = .int .i64 (k : Int) ∧ Hid (∀ x ∈ l.take k, keyR x ≠ key.toList) ∧ wr = w1) (fun ki _ => l.length - (intOf ki).toNat)
  case atStart => exact ⟨0, by omega, rfl, Go.Lib.hid (by simp), rfl⟩
  case round =>
    obtain ⟨k, hk, rfl, HNO, rfl⟩ := hrel
    by_cases hlt : k < l.length
    · obtain ⟨b, o, rfl, -, -, c0, c1, c2, c3, c4⟩ := HR.out.at k hlt
      have hix := run_idx5 b o l.length cap k hlt
      have HYES := Go.Lib.hid (fun (he : keyR l[k] = key.toList) => show findK keyR l key.toList = some l[k] from by
        unfold findK
        rw [List.find?_eq_some_iff_getElem]
        refine ⟨by simpa using he, k, hlt, rfl, fun j hj => ?_⟩
        simp only [Bool.not_eq_true', decide_eq_false_iff_not]
        exact HNO.out _ (List.mem_take_iff_getElem.2 ⟨j, by omega, rfl⟩))
      have HNEX := Go.Lib.hid (fun (he : keyR l[k] ≠ key.toList) => show ∀ x ∈ l.take (k + 1), keyR x ≠ key.toList from fun x hx => by
        rw [List.take_succ_eq_append_getElem hlt] at hx
        rcases List.mem_append.1 hx with h | h
        · exact HNO.out x h
        · rw [List.mem_singleton.1 h]; exact he)
      clear HNO
      generalize l[k] = x at *
      obtain ⟨kx, gx, ax, nx, sx⟩ := x
      simp only [] at c0 c1 c2 c3 c4
      by_cases hq : kx.toList = key.toList
      · have HE := Go.Lib.hid (HYES.out hq)
        have hqb : (kx.toList == key.toList) = true := beq_iff_eq.2 hq
        clear HYES HNEX
        go_wp2_with (first
          | (with_reducible show wpList _ _ _ (⟨none, Op.store 28 (.tmp 4) (.tmp 23), _, _, _, _⟩ :: _) _ _; go_loud (refine wpList_store_row rfl 28 (.tmp 4) (.tmp 23) rfl w.heap.size #[.string kx, .bool gx, .int .i64 ax, .int .i64 nx, .string sx] rfl rfl 28 _ HA.out (by kernel_rfl) rfl (rec_cells_one ..) ?_))
          | fail)
        refine ret_rfind_at rfl (setRow_heap _ _ _ _ _ (0, 0) HA.out) rfl ?_ (setRow_below _ HB1.out (Nat.le_refl _))
        rw [HE.out]
        rfl
      · have HS := Go.Lib.hid (HNEX.out hq)
        have hqb : (kx.toList == key.toList) = false := beq_eq_false_iff_ne.2 hq
        clear HYES HNEX
        go_wp2_with fail
        exact ⟨⟨k + 1, by omega, by go_num, HS, trivial⟩, by simp only [intOf]; omega⟩
    · obtain rfl : k = l.length := by omega
      have HE := Go.Lib.hid (show findK keyR l key.toList = none from (find_none _).2 (by have := HNO.out; rwa [List.take_length] at this))
      clear HNO
      go_wp2_with (first
        | (with_reducible show wpList _ _ _ (⟨none, Op.store 28 (.tmp 4) (.tmp 24), _, _, _, _⟩ :: _) _ _; go_loud (refine wpList_store_row rfl 28 (.tmp 4) (.tmp 24) rfl w.heap.size #[.string ⟨#[]⟩, .bool false, .int .i64 0, .int .i64 0, .string ⟨#[]⟩] rfl rfl 28 _ HA.out (by kernel_rfl) rfl (rec_cells_one ..) ?_))
        | fail)
      refine ret_rfind_at rfl (setRow_heap _ _ _ _ _ (0, 0) HA.out) rfl ?_ (setRow_below _ HB1.out (Nat.le_refl _))
      rw [HE.out]
      rfl

end Go.Proofs.YthbnecdeebmlhaaGreat

namespace Go.Proofs.YthbnecdeebmlhaaGreat
open Go.RowKit

def K5 : Lay RecT := ⟨rc5, 5, 28, 22, .agg #[.string ⟨#[]⟩, .bool false, .int .i64 0, .int .i64 0, .string ⟨#[]⟩], 56⟩
end Go.Proofs.YthbnecdeebmlhaaGreat

namespace Go.Proofs.YthbnecdeebmlhaaGreat
open Go.RowKit

theorem reads_step (l : List RecT) (key : ByteArray) {k : Nat} (hk : k < l.length) : readsR (l.take (k + 1)) key = readsR (l.take k) key + (if nearN (hashS key) (hashS l[k].1) then 1 else 0) := by
  unfold readsR
  rw [List.take_succ_eq_append_getElem hk, List.countP_append]
  simp [List.countP_cons, hR]
def VLn (b q len cap k hk hx : Nat) (key kx : ByteArray) : Nat → World → Value → Prop
  | 13, _, v => v = .string key
  | 14, _, v => v = .int .u64 (hk : Int)
  | 15, _, v => v = .slice (some ⟨b, q, none⟩) len cap
  | 16, _, v => v = .int .i64 (k : Int)
  | 17, _, v => v = .pointer (some ⟨b, q + k * 5, none⟩)
  | 18, _, v => v = .pointer (some ⟨b, q + k * 5, none⟩)
  | 19, _, v => v = .string kx
  | 20, _, v => v = .int .u64 (hx : Int)
  | 21, _, v => v = .bool (nearN hk hx)
  | _, _, _ => True

theorem VLn_below (b q len cap k hk hx : Nat) (key kx : ByteArray) : ∀ (i : Nat) (w w' : World) (v : Value), VLn b q len cap k hk hx key kx i w v → Below w.heap.size w w' → VLn b q len cap k hk hx key kx i w' v := by
  intro i w w' v h hb
  unfold VLn at h ⊢
  split at h <;> first | exact h | trivial | exact h

set_option maxHeartbeats 2000000 in
set_option maxRecDepth 100000 in
theorem rreads_c (v : Value) (l : List RecT) (key : ByteArray) (w : World) (hv : RS w v l) (hl : l.length ≤ 1000) (hs : ∀ x ∈ l, x.1.size ≤ 1000000) (hk : key.size ≤ 1000000) :
    Calls Tryz.prog 47 #[v, .string key] w fun e w' => e = .returned (.int .i64 (readsR l key : Int)) ∧ Below w.heap.size w w' := by
  obtain ⟨a, cap, rfl, hm⟩ := hv.form
  have HR := Go.Lib.hid hv
  have HS := Go.Lib.hid hs
  have CH := Go.Lib.hid fun W => rhash_k key (hashS key) rfl W hk
  have HKL := Go.Lib.hid (hashS_lt key)
  have HST := Go.Lib.hid fun k (h : k < l.length) => reads_step l key h
  clear hv hs hk
  generalize hashS key = hk at *
  go_enter Tryz.func47, Tryz.ntmps47
  go_wp2_with fail
  go_loopw [5, 6] (fun nv ki wr => ∃ (k n : Nat), k ≤ l.length ∧ n ≤ k ∧ ki = .int .i64 (k : Int) ∧ nv = .int .i64 (n : Int) ∧ Hid (n = readsR (l.take k) key) ∧ Hid (Below w.heap.size w wr)) (fun _ ki _ => l.length - (intOf ki).toNat)
  case atStart => exact ⟨0, 0, by omega, by omega, rfl, rfl, Go.Lib.hid (by simp [readsR]), Go.Lib.hid (Below.refl _ _)⟩
  case round =>
    obtain ⟨k, n, hk2, hn, rfl, rfl, HN, HB⟩ := hrel
    by_cases hlt : k < l.length
    · have hltI : (k : Int) < (l.length : Int) := by omega
      obtain ⟨b, q, rfl, -, -, c0, c1, c2, c3, c4⟩ := (HR.out.below HB.out).at k hlt
      have hix := run_idx5 b q l.length cap k hlt
      have hsz := HS.out _ (List.getElem_mem hlt)
      have HNX := Go.Lib.hid (HST.out k hlt)
      have CX := Go.Lib.hid fun W => rhash_k l[k].1 (hashS l[k].1) rfl W hsz
      have CN := Go.Lib.hid fun W => rnear_c hk (hashS l[k].1) W HKL.out (hashS_lt _)
      have C0 := Go.Lib.hid c0
      generalize hashS l[k].1 = hx at *
      generalize l[k].1 = kx at *
      clear c0 c1 c2 c3 c4 hsz
      go_upto_region 5 with (fail)
      refine wp_region_each (by kernel_rfl) (VLn b q l.length cap k hk hx key kx) (VLn_below b q l.length cap k hk hx key kx) (by decide +kernel) (by decide +kernel) (by rfl) [13, 14, 15, 16, 17, 18, 19, 20, 21] (by rfl) ?_ ?_
      · intro i o ho a w6 hb6 hlen hg
        have c0 := keepC C0.out hb6
        match i, ho with
        | 0, ho =>
          obtain rfl := Option.some.inj ho
          have h1 := given_old hg 1 (by decide +kernel)
          clear hg
          exact st_yield ho (wanted_none rfl) (.string key) w6 (by simp [execOp, Act.eval, h1, go_sem]) ⟨_, rfl, Below.refl _ _, by rintro t' ⟨⟩; rfl⟩
        | 1, ho =>
          obtain rfl := Option.some.inj ho
          obtain ⟨_, h13, rfl⟩ := given_fed hg 13 (by decide +kernel)
          clear hg
          exact st_enter (w1 := w6) ho (wanted_none rfl) 38 #[.string key] (by simp [execOp, Act.eval, h13, resolve, go_sem]) ((CH.out _).mono (by rintro e w7 ⟨rfl, hb7⟩; exact ⟨_, rfl, _, rfl, hb7, by rintro t' ⟨⟩; rfl⟩))
        | 2, ho =>
          obtain rfl := Option.some.inj ho
          have h0 := given_old hg 0 (by decide +kernel)
          clear hg
          exact st_yield ho (wanted_none rfl) (.slice (some ⟨b, q, none⟩) l.length cap) w6 (by simp [execOp, Act.eval, h0, go_sem]) ⟨_, rfl, Below.refl _ _, by rintro t' ⟨⟩; rfl⟩
        | 3, ho =>
          obtain rfl := Option.some.inj ho
          have h6 := given_old hg 6 (by decide +kernel)
          clear hg
          exact st_yield ho (wanted_none rfl) (.int .i64 (k : Int)) w6 (by simp [execOp, Act.eval, h6, go_sem]) ⟨_, rfl, Below.refl _ _, by rintro t' ⟨⟩; rfl⟩
        | 4, ho =>
          obtain rfl := Option.some.inj ho
          obtain ⟨_, h15, rfl⟩ := given_fed hg 15 (by decide +kernel)
          obtain ⟨_, h16, rfl⟩ := given_fed hg 16 (by decide +kernel)
          clear hg
          exact st_yield ho (wanted_none rfl) (.pointer (some ⟨b, q + k * 5, none⟩)) w6 (by simp [execOp, Act.eval, h15, h16, go_sem, hix]) ⟨_, rfl, Below.refl _ _, by rintro t' ⟨⟩; rfl⟩
        | 5, ho =>
          obtain rfl := Option.some.inj ho
          obtain ⟨_, h17, rfl⟩ := given_fed hg 17 (by decide +kernel)
          clear hg
          exact st_yield ho (wanted_none rfl) (.pointer (some ⟨b, q + k * 5, none⟩)) w6 (by simp [execOp, Act.eval, h17, go_sem]) ⟨_, rfl, Below.refl _ _, by rintro t' ⟨⟩; rfl⟩
        | 6, ho =>
          obtain rfl := Option.some.inj ho
          obtain ⟨_, h18, rfl⟩ := given_fed hg 18 (by decide +kernel)
          clear hg
          exact st_yield ho (wanted_none rfl) (.string kx) w6 (by simp [execOp, Act.eval, h18, go_sem, c0]) ⟨_, rfl, Below.refl _ _, by rintro t' ⟨⟩; rfl⟩
        | 7, ho =>
          obtain rfl := Option.some.inj ho
          obtain ⟨_, h19, rfl⟩ := given_fed hg 19 (by decide +kernel)
          clear hg
          exact st_enter (w1 := w6) ho (wanted_none rfl) 38 #[.string kx] (by simp [execOp, Act.eval, h19, resolve, go_sem]) ((CX.out _).mono (by rintro e w7 ⟨rfl, hb7⟩; exact ⟨_, rfl, _, rfl, hb7, by rintro t' ⟨⟩; rfl⟩))
        | 8, ho =>
          obtain rfl := Option.some.inj ho
          obtain ⟨_, h14, rfl⟩ := given_fed hg 14 (by decide +kernel)
          obtain ⟨_, h20, rfl⟩ := given_fed hg 20 (by decide +kernel)
          clear hg
          exact st_enter (w1 := w6) ho (wanted_none rfl) 79 #[.int .u64 (hk : Int), .int .u64 (hx : Int)] (by simp [execOp, Act.eval, h14, h20, resolve, go_sem]) ((CN.out w6).mono (by rintro e w7 ⟨rfl, rfl⟩; exact ⟨_, rfl, _, rfl, Below.refl _ _, by rintro t' ⟨⟩; rfl⟩))
        | n + 9, ho => simp at ho
      · intro f w6 hb6 hv
        have h21 := hv 21 (by decide)
        simp only [VLn] at h21
        have HB6 := Go.Lib.hid (HB.out.trans (hb6.mono HB.out.size))
        clear hv hb6 hix CX CN C0
        unfold putAll
        simp only [List.foldl]
        simp only [h21]
        clear h21
        generalize nearN hk hx = t at *
        cases t with
        | true =>
          go_simp
          go_wp2_with fail
          exact ⟨⟨k + 1, n + 1, by omega, by omega, by go_num, by go_num, Go.Lib.hid (by rw [HNX.out, HN.out]; rfl), HB6⟩, by simp only [intOf]; omega⟩
        | false =>
          go_simp
          go_wp2_with fail
          exact ⟨⟨k + 1, n, by omega, by omega, by go_num, rfl, Go.Lib.hid (by rw [HNX.out, HN.out]; rfl), HB6⟩, by simp only [intOf]; omega⟩
    · obtain rfl : k = l.length := by omega
      have HE := Go.Lib.hid (show n = readsR l key from by have := HN.out; rwa [List.take_length] at this)
      go_wp2_with fail
      go_ret
      exact ⟨by rw [HE.out]; rfl, HB.out⟩

end Go.Proofs.YthbnecdeebmlhaaGreat
