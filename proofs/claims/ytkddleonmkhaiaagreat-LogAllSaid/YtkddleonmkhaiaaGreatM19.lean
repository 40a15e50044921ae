/-
  Stage 17: way.
-/
import Derived.Test.YtkddleonmkhaiaaGreatM18
import Derived.Test.YtkddleonmkhaiaaGreatM17
namespace Go.Proofs.YtkddleonmkhaiaaGreat
open Go.RowKit

/-- A way to room, or none: all that can be reached is full. -/
def WayOk (T : SlT) (a b : Nat) (W : List (Nat × Nat)) : Prop := (W = [] ∧ ∃ L : List ReT, LineOk T a b L ∧ DoneT T L L.length 0) ∨
  ∃ c P e s, (c = a ∨ c = b) ∧ W = P ++ [(e, s)] ∧ e < 8 ∧ s < 4 ∧ T (4 * e + s) = none ∧ Chain T c P e ∧ (∀ p ∈ P, p.1 < 8) ∧ (P.map Prod.fst ++ [e]).Nodup
def WayTo (T : SlT) (a b : Nat) (B : Nat) (w : World) (v : Value) : Prop := ∃ W, KP.O w B v W ∧ WayOk T a b W
theorem bk_snoc (L : List LnT) (x : LnT) : bkL (L ++ [x]) = bkL L ++ [x.1] := by unfold bkL; rw [List.map_append]; rfl
theorem re_snoc (L : List LnT) (x : LnT) : reL (L ++ [x]) = reL L ++ [(x.1, x.2.2)] := by unfold reL; rw [List.map_append]; rfl
theorem re_len (L : List LnT) : (reL L).length = L.length := by unfold reL; rw [List.length_map]
theorem re_at {L : List LnT} {i : Nat} {x : LnT} (h : L[i]? = some x) : ∃ hi : i < (reL L).length, (reL L)[i] = (x.1, x.2.2) := by
  obtain ⟨hi, rfl⟩ := List.getElem?_eq_some_iff.1 h
  refine ⟨by rw [re_len]; exact hi, ?_⟩
  unfold reL
  rw [List.getElem_map]
/-- Within a round: the bucket c is looked at (p: the block of what was taken out of the line), its first s slots are done. -/
structure InW (T : SlT) (a b g p c i s : Nat) (y : SvT) (P : List (Nat × Nat)) (w : World) (u : Value) (L : List LnT) : Prop where
  bg : BG w g g u L (bkL L)
  ok : LineOk T a b (reL L)
  done : DoneT T (reL L) i s
  il : L[i]? = some (c, y, P)
  b0 : w.cell? ⟨p, 0, none⟩ = some (.int .i64 (c : Int))
  b1 : w.cell? ⟨p, 1, none⟩ = some (svE y)
  up : u.ownBlock ≠ some p
  pg : p ≠ g
section
variable {T : SlT} {a b g p c i s : Nat} {y : SvT} {P : List (Nat × Nat)} {w w' w1 w2 : World} {u v' : Value} {L : List LnT}
theorem InW.below (h : InW T a b g p c i s y P w u L) (hb : Below w.heap.size w w') : InW T a b g p c i s y P w' u L :=
  ⟨h.bg.below hb, h.ok, h.done, h.il, (hb.cell (World.block_lt_of_cell? w _ h.b0)).trans h.b0, (hb.cell (World.block_lt_of_cell? w _ h.b1)).trans h.b1, h.up, h.pg⟩
theorem InW.step (h : InW T a b g p c i s y P w u L) {x : Nat × Int} (hT : T (4 * c + s) = some x) (hin : othN c x.1 ∈ bkL L) : InW T a b g p c i (s + 1) y P w u L := by
  obtain ⟨hi, e⟩ := re_at h.il
  refine ⟨h.bg, h.ok, h.done.step hi (x := x) ?_ ?_, h.il, h.b0, h.b1, h.up, h.pg⟩
  · rw [e]; exact hT
  · rw [e, bks_re]; exact hin
theorem InW.mark (h : InW T a b g p c i s y P w u L) {t : Nat} (ht : t < 8) : BG (w.setCell ⟨g, t, none⟩ (.bool true)) g g u L (bkL L ++ [t]) ∧ (w.setCell ⟨g, t, none⟩ (.bool true)).cell? ⟨p, 0, none⟩ = some (.int .i64 (c : Int)) ∧ (w.setCell ⟨g, t, none⟩ (.bool true)).cell? ⟨p, 1, none⟩ = some (svE y) := by
  have hne : ∀ o o', (⟨g, o, none⟩ : Addr) ≠ ⟨p, o', none⟩ := fun o o' e => by
    simp only [Addr.mk.injEq] at e
    exact h.pg e.1.symm
  exact ⟨h.bg.mark ht, (World.cell?_setCell_other _ _ _ _ (hne _ _)).trans h.b0, (World.cell?_setCell_other _ _ _ _ (hne _ _)).trans h.b1⟩
theorem InW.more (h : InW T a b g p c i s y P w u L) (hs : s < 4) {x : Nat × Int} (hT : T (4 * c + s) = some x) (hnew : othN c x.1 ∉ bkL L) {y' : SvT}
    (hb : Below (w.setCell ⟨g, othN c x.1, none⟩ (.bool true)).heap.size (w.setCell ⟨g, othN c x.1, none⟩ (.bool true)) w1)
    (hown : KR.O w2 g v' ((L.map fun x => (x.1, x.2.1)) ++ [(othN c x.1, y')])) (hgr : w1.grownBy w2 u.ownBlock) (hwh : v'.ownBlock = u.ownBlock ∨ ∀ k, v'.ownBlock = some k → w1.heap.size ≤ k)
    (hy : KP.O w g (svE y') (P ++ [(c, s)])) : InW T a b g p c i (s + 1) y P w2 v' (L ++ [(othN c x.1, y', P ++ [(c, s)])]) := by
  obtain ⟨hi, e⟩ := re_at h.il
  have hil := (List.getElem?_eq_some_iff.1 h.il).1
  have h8 : c < 8 := by
    have := h.ok.lt _ (List.getElem_mem hi)
    rw [e] at this
    exact this
  have ht := oth_lt x.1 h8
  obtain ⟨m1, m2, m3⟩ := h.mark ht
  have hok := h.ok.more hi hs (x := x) (by rw [e]; exact hT) (by rw [e, bks_re]; exact hnew)
  rw [e] at hok
  have hdone := (h.done.grow hi (othN c x.1, P ++ [(c, s)])).step (x := x) (by rw [List.length_append]; omega) (by rw [List.getElem_append_left hi, e]; exact hT) (by
    rw [List.getElem_append_left hi, e]
    unfold bks
    rw [List.map_append]
    exact List.mem_append_right _ (List.mem_singleton.2 rfl))
  obtain ⟨cs, hc⟩ := h.bg.blk
  have hyk : KP.O (w.setCell ⟨g, othN c x.1, none⟩ (.bool true)) g (svE y') (P ++ [(c, s)]) := hy.same fun q qs hq _ _ => Below.heap_setCell _ _ _ _ (by rintro rfl; rw [hc] at hq; cases hq)
  have hbg := (m1.below hb).more (t := othN c x.1) (y := y') (P := P ++ [(c, s)]) hown hgr (hyk.below hb)
  have hp1 : p < (w.setCell ⟨g, othN c x.1, none⟩ (.bool true)).heap.size := World.block_lt_of_cell? _ _ m2
  have hp2 : p < w1.heap.size := Nat.lt_of_lt_of_le hp1 hb.size
  have hpb : w2.heap[p]? = w1.heap[p]? := hgr.block p hp2 (fun e => h.up e.symm)
  have k0 := (hb.cell hp1).trans m2
  have k1 := (hb.cell hp1).trans m3
  refine ⟨by rw [bk_snoc]; exact hbg, by rw [re_snoc]; exact hok, by rw [re_snoc]; exact hdone, by rw [List.getElem?_append_left hil]; exact h.il, (World.cell?_of_block (w := w1) (a := ⟨p, 0, none⟩) hpb).trans k0, (World.cell?_of_block (w := w1) (a := ⟨p, 1, none⟩) hpb).trans k1, ?_, h.pg⟩
  intro e2
  rcases hwh with hwh | hwh
  · exact h.up (hwh.symm.trans e2)
  · have := hwh p e2
    omega
end
def VWa (d p c : Nat) (R : List Value) : Nat → World → Value → Prop
  | 34, _, v => v = .pointer (some ⟨d, 0, none⟩)
  | 35, _, v => v = .pointer (some ⟨p, 0, none⟩)
  | 36, _, v => v = .int .i64 (c : Int)
  | 37, _, v => v = .pointer (some ⟨d, 0, none⟩)
  | 38, _, v => v = .pointer (some ⟨d, 0, none⟩)
  | 39, _, v => v = .pointer (some ⟨d, 12 * c, none⟩)
  | 40, _, v => v = .agg R.toArray
  | 41, _, v => v = .int .i64 0
  | _, _, _ => True

theorem VWa_below (d p c : Nat) (R : List Value) : ∀ (i : Nat) (w w' : World) (v : Value), VWa d p c R i w v → Below w.heap.size w w' → VWa d p c R i w' v := by
  intro i w w' v h hb
  unfold VWa at h ⊢
  split at h <;> first | exact h | trivial | exact Lay.R.below h hb | exact Lay.O.below h hb

def VWb (p c s B : Nat) (ya : Option Addr) (yn yk : Nat) (P : List (Nat × Nat)) : Nat → World → Value → Prop
  | 45, _, v => v = .pointer (some ⟨p, 1, none⟩)
  | 46, _, v => v = .slice ya yn yk
  | 47, w, v => KP.O w B v P
  | 48, _, v => v = .pointer (some ⟨p, 0, none⟩)
  | 49, _, v => v = .int .i64 (c : Int)
  | 50, _, v => v = .int .i64 (s : Int)
  | 51, _, v => v = .agg #[.int .i64 (c : Int), .int .i64 (s : Int)]
  | 52, w, v => KP.R w v [(c, s)]
  | _, _, _ => True

theorem VWb_below (p c s B : Nat) (ya : Option Addr) (yn yk : Nat) (P : List (Nat × Nat)) : ∀ (i : Nat) (w w' : World) (v : Value), VWb p c s B ya yn yk P i w v → Below w.heap.size w w' → VWb p c s B ya yn yk P i w' v := by
  intro i w w' v h hb
  unfold VWb at h ⊢
  split at h <;> first | exact h | trivial | exact Lay.R.below h hb | exact Lay.O.below h hb

set_option maxHeartbeats 4000000 in
set_option maxRecDepth 100000 in
theorem cway_c {w : World} {d : Nat} {T : SlT} (h : CK w d T) {a b : Nat} (ha : a < 8) (hb : b < 8) (hab : a ≠ b) :
    Calls Tryz.prog 53 #[.pointer (some ⟨d, 0, none⟩), .int .i64 (a : Int), .int .i64 (b : Int)] w fun e w' => ∃ v, e = .returned v ∧ Below w.heap.size w w' ∧ WayTo T a b w.heap.size w' v := by
  have HD := Go.Lib.hid fun W (hW : Below w.heap.size w W) => h.below hW
  have HTOK := Go.Lib.hid h.tok
  have HR := Go.Lib.hid (idxRow T)
  have HLEN := Go.Lib.hid (fun b => show (Tryz.prog.info? 79).map (·.size) = some (rowO T b).length by kernel_rfl)
  have HST := Go.Lib.hid (LineOk.start (T := T) ha hb hab)
  have ia := fun g W => idx8 g a ha W
  have ib := fun g W => idx8 g b hb W
  clear h
  go_enter Tryz.func53, Tryz.ntmps53
  go_upto_region 3 with (fail)
  obtain ⟨g, hg⟩ : ∃ g, g = w.heap.size := ⟨_, rfl⟩
  have hz8 : (([Value.bool false, .bool false, .bool false, .bool false, .bool false, .bool false, .bool false, .bool false].set a (.bool true)).set b (.bool true)).toArray = z8 a b := rfl
  rw [hz8]
  have HBG := Go.Lib.hid (BG.start w ha hb)
  have HB0 := Go.Lib.hid ((Below.refl w.heap.size w).alloc (Nat.le_refl _) (.cells (z8 a b) 115))
  have HS0 := Go.Lib.hid (show (w.alloc (.cells (z8 a b) 115)).heap.size = w.heap.size + 1 from Array.size_push ..)
  clear hz8 ia ib
  rw [← hg]
  rw [← hg] at HBG HB0 HS0 HD
  generalize w.alloc (.cells (z8 a b) 115) = w1 at *
  have HG0 := Go.Lib.hid hg
  clear hg
  have HB1 := Go.Lib.hid (HB0.out.alloc (by have := HS0.out; omega) (.cells #[.int .i64 (a : Int), .slice none 0 0, .int .i64 (b : Int), .slice none 0 0] 117))
  rw [← HS0.out] at HBG
  go_wp2_with fail
  go_loopw [8, 9] (fun lv iv wr => ∃ (i : Nat) (u : Value) (L : List LnT), u = lv ∧ i ≤ L.length ∧ iv = .int .i64 (i : Int) ∧ Hid (BG wr g g u L (bkL L)) ∧ Hid (LineOk T a b (reL L) ∧ DoneT T (reL L) i 0) ∧ Hid (Below g w wr)) (fun _ iv _ => 8 - (intOf iv).toNat)
  case atStart => exact ⟨0, _, line0 a b, rfl, by omega, rfl, HBG, Go.Lib.hid ⟨HST.out, DoneT.zero _ _⟩, HB1⟩
  case round =>
    obtain ⟨i, u, L, rfl, hi, rfl, HBG, HLO, HB⟩ := hrel
    have HGW := Go.Lib.hid (show g ≤ wr.heap.size by rw [HG0.out]; exact HB.out.size)
    have HL8 := Go.Lib.hid (show L.length ≤ 8 by have := HLO.out.1.len; rwa [re_len] at this)
    obtain ⟨au, cu, rfl, hum⟩ := HBG.out.row.r.form
    have hlen : (L.map fun x => (x.1, x.2.1)).length = L.length := List.length_map _
    rw [hlen] at HBG ⊢
    by_cases hil : i < L.length
    · obtain ⟨bq, o, rfl, -, hbs, c0, c1⟩ := KR.at' HBG.out.row.r i (by rw [hlen]; exact hil)
      have hix := idxR bq o L.length cu i hil wr
      obtain ⟨x, hx⟩ : ∃ x, L[i]? = some x := ⟨_, List.getElem?_eq_getElem hil⟩
      obtain ⟨c, ⟨ya, yn, yk⟩, P⟩ := x
      have hxi : L[i] = (c, (ya, yn, yk), P) := by
        have := List.getElem?_eq_getElem hil
        rw [hx] at this
        exact (Option.some.inj this).symm
      rw [List.getElem_map, hxi] at c0 c1
      simp only [svE] at c0 c1
      obtain ⟨hri, hre⟩ := re_at hx
      have hc8 : c < 8 := by
        have := HLO.out.1.lt _ (List.getElem_mem hri)
        rw [hre] at this
        exact this
      have HIL := Go.Lib.hid hx
      have hb2 := (Below.refl wr.heap.size wr).alloc (Nat.le_refl _) (.cells #[.int .i64 (c : Int), .slice ya yn yk] 117)
      have HBG3 := Go.Lib.hid (HBG.out.below hb2)
      have HB3 := Go.Lib.hid (HB.out.trans (hb2.mono HGW.out))
      have HGW3 := Go.Lib.hid (show g ≤ (wr.alloc (.cells #[.int .i64 (c : Int), .slice ya yn yk] 117)).heap.size from Nat.le_trans HGW.out hb2.size)
      have HG := Go.Lib.hid (heap_alloc_new wr (.cells #[.int .i64 (c : Int), .slice ya yn yk] 117))
      have HUP := Go.Lib.hid (show (Value.slice (some ⟨bq, o, none⟩) L.length cu).ownBlock ≠ some wr.heap.size from fun e => by have := HBG.out.row.lt _ e; omega)
      have HPG := Go.Lib.hid (show wr.heap.size ≠ g from fun e => by
        obtain ⟨cs, hcs⟩ := HBG.out.blk
        have := (Array.getElem?_eq_some_iff.1 hcs).1
        omega)
      have hir := HR.out c
      have HL2 := Go.Lib.hid (HLEN.out c)
      have h1 := fun W => idxB d c hc8 W
      clear hb2 hxi hri hre hx hlen
      go_upto_region 8 with (fail)
      obtain ⟨p, hp⟩ : ∃ p, p = wr.heap.size := ⟨_, rfl⟩
      rw [← hp] at HG HUP HPG ⊢
      clear hp c0 c1 hix hbs HBG HB HGW
      generalize wr.alloc (.cells #[.int .i64 (c : Int), .slice ya yn yk] 117) = w3 at *
      have x0 : w3.cell? ⟨p, 0, none⟩ = some (.int .i64 (c : Int)) := by rw [cell_of_row _ _ _ _ _ _ HG.out]; rfl
      have x1 : w3.cell? ⟨p, 1, none⟩ = some (.slice ya yn yk) := by rw [cell_of_row _ _ _ _ _ _ HG.out]; rfl
      have HRG := Go.Lib.hid (fun W (hW : Below w3.heap.size w3 W) => show W.rangeAt d (12 * c) (rowO T c) from (HD.out W (HB3.out.trans (hW.mono HGW3.out))).range c hc8)
      have HIN := Go.Lib.hid (show InW T a b g p c i 0 (ya, yn, yk) P w3 (.slice (some ⟨bq, o, none⟩) L.length cu) L from ⟨HBG3.out, HLO.out.1, HLO.out.2, HIL.out, x0, x1, HUP.out, HPG.out⟩)
      clear HBG3 HLO HIL HG HUP HPG
      generalize rowO T c = R at *
      refine wp_region_each (by kernel_rfl) (VWa d p c R) (VWa_below d p c R) (by decide +kernel) (by decide +kernel) (by rfl) [34, 35, 36, 37, 38, 39, 40, 41] (by rfl) ?_ ?_
      · intro i o ho a w6 hb6 hlen hg
        have x0 := keepC x0 hb6
        have hrg := HRG.out w6 hb6
        match i, ho with
        | 0, ho =>
          obtain rfl := Option.some.inj ho
          have h0 := given_old hg 0 (by decide +kernel)
          clear hg
          exact st_yield ho (wanted_none rfl) (.pointer (some ⟨d, 0, none⟩)) w6 (by simp [execOp, Act.eval, h0, go_sem]) ⟨_, rfl, Below.refl _ _, by rintro t' ⟨⟩; rfl⟩
        | 1, ho =>
          obtain rfl := Option.some.inj ho
          have h10 := given_old hg 10 (by decide +kernel)
          clear hg
          exact st_yield ho (wanted_none rfl) (.pointer (some ⟨p, 0, none⟩)) w6 (by simp [execOp, Act.eval, h10, go_sem]) ⟨_, rfl, Below.refl _ _, by rintro t' ⟨⟩; rfl⟩
        | 2, ho =>
          obtain rfl := Option.some.inj ho
          obtain ⟨_, h35, rfl⟩ := given_fed hg 35 (by decide +kernel)
          clear hg
          exact st_yield ho (wanted_none rfl) (.int .i64 (c : Int)) w6 (by simp [execOp, Act.eval, h35, go_sem, x0]) ⟨_, rfl, Below.refl _ _, by rintro t' ⟨⟩; rfl⟩
        | 3, ho =>
          obtain rfl := Option.some.inj ho
          obtain ⟨_, h34, rfl⟩ := given_fed hg 34 (by decide +kernel)
          clear hg
          exact st_yield ho (wanted_none rfl) (.pointer (some ⟨d, 0, none⟩)) w6 (by simp [execOp, Act.eval, h34, go_sem]) ⟨_, rfl, Below.refl _ _, by rintro t' ⟨⟩; rfl⟩
        | 4, ho =>
          obtain rfl := Option.some.inj ho
          obtain ⟨_, h37, rfl⟩ := given_fed hg 37 (by decide +kernel)
          clear hg
          exact st_yield ho (wanted_none rfl) (.pointer (some ⟨d, 0, none⟩)) w6 (by simp [execOp, Act.eval, h37, go_sem]) ⟨_, rfl, Below.refl _ _, by rintro t' ⟨⟩; rfl⟩
        | 5, ho =>
          obtain rfl := Option.some.inj ho
          obtain ⟨_, h38, rfl⟩ := given_fed hg 38 (by decide +kernel)
          obtain ⟨_, h36, rfl⟩ := given_fed hg 36 (by decide +kernel)
          clear hg
          exact st_yield ho (wanted_none rfl) (.pointer (some ⟨d, 12 * c, none⟩)) w6 (by simp [execOp, Act.eval, h38, h36, go_sem, h1]) ⟨_, rfl, Below.refl _ _, by rintro t' ⟨⟩; rfl⟩
        | 6, ho =>
          obtain rfl := Option.some.inj ho
          obtain ⟨_, h39, rfl⟩ := given_fed hg 39 (by decide +kernel)
          clear hg
          exact st_list ho (wanted_none rfl) fun Q' hQ => wpList_load_mid rfl 79 (.tmp 39) rfl d (12 * c) (by simp [Act.eval, h39]) R _ hrg Tryz.underlying79 rfl HL2.out (wpList_nil (hQ _ _ ⟨_, rfl, Below.refl _ _, by rintro t' ⟨⟩; rfl⟩))
        | 7, ho =>
          obtain rfl := Option.some.inj ho
          clear hg
          exact st_yield ho (wanted_none rfl) (.int .i64 0) w6 (by simp [execOp, Act.eval, go_sem]) ⟨_, rfl, Below.refl _ _, by rintro t' ⟨⟩; rfl⟩
        | n + 8, ho => simp at ho
      · intro f w6 hb6 hv
        have h40 := hv 40 (by decide)
        have h41 := hv 41 (by decide)
        simp only [VWa] at h40 h41
        have HIN6 := Go.Lib.hid (HIN.out.below hb6)
        have HB6 := Go.Lib.hid (HB3.out.trans (hb6.mono HGW3.out))
        clear hv hb6 HIN HB3 x0 x1
        unfold putAll
        simp only [List.foldl]
        simp only [h40, h41]
        go_simp
        clear HRG
        go_wp2_with fail
        go_loopw [8, 41] (fun lv sv wr => ∃ (s : Nat) (u : Value) (L : List LnT), u = lv ∧ s ≤ 4 ∧ sv = .int .i64 (s : Int) ∧ Hid (InW T a b g p c i s (ya, yn, yk) P wr u L) ∧ Hid (Below g w wr)) (fun _ sv _ => 4 - (intOf sv).toNat)
        case atStart => exact ⟨0, _, L, rfl, by omega, rfl, HIN6, HB6⟩
        case round =>
          obtain ⟨s, u, L, rfl, hs, rfl, HIN, HB⟩ := hrel
          by_cases hs4 : s < 4
          · have hsI : (s : Int) < 4 := by omega
            have hie := hir s hs4
            have HTQ := Go.Lib.hid (show (hasO (T (4 * c + s)) = false ∧ T (4 * c + s) = none) ∨ (hasO (T (4 * c + s)) = true ∧ ∃ x : Nat × Int, T (4 * c + s) = some x ∧ x.1 = tagO (T (4 * c + s)) ∧ x.1 < 32768) by
              cases hT : T (4 * c + s) with
              | none => exact .inl ⟨rfl, rfl⟩
              | some x => exact .inr ⟨rfl, x, rfl, rfl, (HTOK.out _ _ hT).2⟩)
            have HGW := Go.Lib.hid (show g ≤ wr.heap.size by rw [HG0.out]; exact HB.out.size)
            generalize hasO (T (4 * c + s)) = hh at *
            generalize tagO (T (4 * c + s)) = tt at *
            generalize idO (T (4 * c + s)) = ii at *
            have hb2 := (Below.refl wr.heap.size wr).alloc (Nat.le_refl _) (.cells #[.bool hh, .int .i64 (tt : Int), .int .i64 ii] 78)
            have HIN4 := Go.Lib.hid (HIN.out.below hb2)
            have HB4 := Go.Lib.hid (HB.out.trans (hb2.mono HGW.out))
            have HGW4 := Go.Lib.hid (Nat.le_trans HGW.out hb2.size)
            have HQ := Go.Lib.hid (heap_alloc_new wr (.cells #[.bool hh, .int .i64 (tt : Int), .int .i64 ii] 78))
            clear hb2 hir HIN HB HGW
            go_upto_region 11 with (fail)
            obtain ⟨q, hq⟩ : ∃ q, q = wr.heap.size := ⟨_, rfl⟩
            rw [← hq] at HQ ⊢
            clear hq hie
            generalize wr.alloc (.cells #[.bool hh, .int .i64 (tt : Int), .int .i64 ii] 78) = w4 at *
            have HQ0 := Go.Lib.hid (show w4.cell? ⟨q, 0, none⟩ = some (.bool hh) by rw [cell_of_row _ _ _ _ _ _ HQ.out]; rfl)
            have HQ1 := Go.Lib.hid (show w4.cell? ⟨q, 1, none⟩ = some (.int .i64 (tt : Int)) by rw [cell_of_row _ _ _ _ _ _ HQ.out]; rfl)
            have x0 := HIN4.out.b0
            have x1 : w4.cell? ⟨p, 1, none⟩ = some (.slice ya yn yk) := HIN4.out.b1
            have HPO := Go.Lib.hid (show KP.O w4 g (.slice ya yn yk) P from HIN4.out.bg.ways _ (List.mem_of_getElem? HIN4.out.il))
            have HPL := Go.Lib.hid (show P.length ≤ 8 by
              obtain ⟨hri, hre⟩ := re_at HIN4.out.il
              obtain ⟨c0, -, -, hnd, hin⟩ := HIN4.out.ok.way _ (List.getElem_mem hri)
              rw [hre] at hnd hin
              have h8 := nodup_le8 (List.nodup_append.1 hnd).1 (fun z hz => by
                obtain ⟨pp, hpp, rfl⟩ := List.mem_map.1 hz
                exact HIN4.out.ok.lt' (hin pp hpp))
              rwa [List.length_map] at h8)
            have CC := Go.Lib.hid (fun W (hW : Below w4.heap.size w4 W) => cclone_c W g (.slice ya yn yk) P (HPO.out.below hW) (by have := HPL.out; omega))
            clear HQ
            refine wp_region_head 8 (by decide) (by kernel_rfl) (VWb p c s w4.heap.size ya yn yk P) (VWb_below p c s w4.heap.size ya yn yk P) (by decide +kernel) (by rfl) [45, 46, 47, 48, 49, 50, 51, 52] (by rfl) ?_ ?_
            · intro i o hin ho a w6 hb6 hlen hg
              have x0 := keepC x0 hb6
              have x1 := keepC x1 hb6
              match i, hin, ho with
              | 0, hin, ho =>
                obtain rfl := Option.some.inj ho
                have h10 := given_old hg 10 (by decide +kernel)
                clear hg
                exact st_yield ho (wanted_none rfl) (.pointer (some ⟨p, 1, none⟩)) w6 (by simp [execOp, Act.eval, h10, go_sem]) ⟨_, rfl, Below.refl _ _, by rintro t' ⟨⟩; rfl⟩
              | 1, hin, ho =>
                obtain rfl := Option.some.inj ho
                obtain ⟨_, h45, rfl⟩ := given_fed hg 45 (by decide +kernel)
                clear hg
                exact st_yield ho (wanted_none rfl) (.slice ya yn yk) w6 (by simp [execOp, Act.eval, h45, go_sem, x1]) ⟨_, rfl, Below.refl _ _, by rintro t' ⟨⟩; rfl⟩
              | 2, hin, ho =>
                obtain rfl := Option.some.inj ho
                obtain ⟨_, h46, rfl⟩ := given_fed hg 46 (by decide +kernel)
                clear hg
                exact st_enter (w1 := w6) ho (wanted_none rfl) 65 #[.slice ya yn yk] (by simp [execOp, Act.eval, h46, resolve, go_sem]) ((CC.out w6 hb6).mono (by rintro e w7 ⟨v', rfl, hown, hb7⟩; exact ⟨v', rfl, _, rfl, hb7, by rintro t' ⟨⟩; exact hown.mono hb6.size⟩))
              | 3, hin, ho =>
                obtain rfl := Option.some.inj ho
                have h10 := given_old hg 10 (by decide +kernel)
                clear hg
                exact st_yield ho (wanted_none rfl) (.pointer (some ⟨p, 0, none⟩)) w6 (by simp [execOp, Act.eval, h10, go_sem]) ⟨_, rfl, Below.refl _ _, by rintro t' ⟨⟩; rfl⟩
              | 4, hin, ho =>
                obtain rfl := Option.some.inj ho
                obtain ⟨_, h48, rfl⟩ := given_fed hg 48 (by decide +kernel)
                clear hg
                exact st_yield ho (wanted_none rfl) (.int .i64 (c : Int)) w6 (by simp [execOp, Act.eval, h48, go_sem, x0]) ⟨_, rfl, Below.refl _ _, by rintro t' ⟨⟩; rfl⟩
              | 5, hin, ho =>
                obtain rfl := Option.some.inj ho
                have h11 := given_old hg 11 (by decide +kernel)
                clear hg
                exact st_yield ho (wanted_none rfl) (.int .i64 (s : Int)) w6 (by simp [execOp, Act.eval, h11, go_sem]) ⟨_, rfl, Below.refl _ _, by rintro t' ⟨⟩; rfl⟩
              | 6, hin, ho =>
                obtain rfl := Option.some.inj ho
                obtain ⟨_, h49, rfl⟩ := given_fed hg 49 (by decide +kernel)
                obtain ⟨_, h50, rfl⟩ := given_fed hg 50 (by decide +kernel)
                clear hg
                exact st_yield ho (wanted_none rfl) (.agg #[.int .i64 (c : Int), .int .i64 (s : Int)]) w6 (by simp [execOp, Act.eval, h49, h50, go_sem]) ⟨_, rfl, Below.refl _ _, by rintro t' ⟨⟩; rfl⟩
              | 7, hin, ho =>
                obtain rfl := Option.some.inj ho
                obtain ⟨_, h51, rfl⟩ := given_fed hg 51 (by decide +kernel)
                clear hg
                exact st_yield ho (wanted_none rfl) (.slice (some ⟨w6.heap.size, 0, none⟩) 1 1) (w6.alloc (.cells #[.int .i64 (c : Int), .int .i64 (s : Int)] 96)) (by simp [execOp, Act.eval, h51, go_sem]) ⟨_, rfl, (Below.refl _ _).alloc (Nat.le_refl _) _, by rintro t' ⟨⟩; exact KP.one' w6 c s⟩
              | n + 8, hin, ho => omega
            · intro f w6 hb6 hv
              have h47 := hv 47 (by decide)
              have h52 := hv 52 (by decide)
              simp only [VWb] at h47 h52
              have HO6 := Go.Lib.hid h47
              have HR6 := Go.Lib.hid h52
              have HB6 := Go.Lib.hid hb6
              clear hv hb6 h47 h52 x0 x1 CC
              unfold putAll
              simp only [List.foldl, List.drop]
              go_simp
              go_upto_region 12 with (first
                | ((with_reducible show wpList _ _ _ (⟨some 53, _, _, _, _, _⟩ :: _) _ _); go_loud (refine KP_ok.append rfl (.tmp 47) (.tmp 52) rfl w4.heap.size (f 47) (f 52) P [(c, s)] rfl rfl HO6.out HR6.out (by have := HPL.out; simp; omega) HB6.out.size ?_); intro v7 w7 hown7 hg7; have HB7 := Go.Lib.hid (HB6.out.grown hg7 HB6.out.size HO6.out.row); have HO7 := Go.Lib.hid hown7; clear hown7 hg7)
                | fail)
              have y0 := keepC HQ0.out HB7.out
              have y1 := keepC HQ1.out HB7.out
              have HIN7 := Go.Lib.hid (HIN4.out.below HB7.out)
              have HBW := Go.Lib.hid (HB4.out.trans (HB7.out.mono HGW4.out))
              have HP7 := Go.Lib.hid (HO7.out.mono HGW4.out)
              clear HIN4 HB4 HQ0 HQ1 HPO HO6 HR6 HB6
              obtain ⟨a7, k7, rfl, hm7⟩ := HP7.out.r.form
              rw [show (P ++ [(c, s)]).length = P.length + 1 by simp] at HP7 hm7 ⊢
              cases hh with
              | false =>
                have HRES := Go.Lib.hid (show ∃ c0 P0 e0 s0, (c0 = a ∨ c0 = b) ∧ P ++ [(c, s)] = P0 ++ [(e0, s0)] ∧ e0 < 8 ∧ s0 < 4 ∧ T (4 * e0 + s0) = none ∧ Chain T c0 P0 e0 ∧ (∀ p ∈ P0, p.1 < 8) ∧ (P0.map Prod.fst ++ [e0]).Nodup from by
                  have hTn : T (4 * c + s) = none := by
                    rcases HTQ.out with ⟨-, h⟩ | ⟨h, -⟩
                    · exact h
                    · cases h
                  obtain ⟨hri, hre⟩ := re_at HIN7.out.il
                  obtain ⟨c0, h0, hch, hnd, hin⟩ := HIN7.out.ok.way _ (List.getElem_mem hri)
                  rw [hre] at hch hnd hin
                  exact ⟨c0, P, c, s, h0, rfl, hc8, hs4, hTn, hch, fun pp hpp => HIN7.out.ok.lt' (hin pp hpp), hnd⟩)
                have HW := Go.Lib.hid (show Below w.heap.size w w7 by rw [← HG0.out]; exact HBW.out)
                have HPW := Go.Lib.hid (show KP.O w7 w.heap.size (.slice a7 (P.length + 1) k7) (P ++ [(c, s)]) by rw [← HG0.out]; exact HP7.out)
                clear hs4 hs hi hil hum hm7
                go_wp2_with fail
                go_ret
                exact ⟨_, rfl, HW.out, ⟨_, HPW.out, .inr HRES.out⟩⟩
              | true =>
                obtain ⟨x, hTx, hxt, hx8⟩ : ∃ x : Nat × Int, T (4 * c + s) = some x ∧ x.1 = tt ∧ x.1 < 32768 := by
                  rcases HTQ.out with ⟨h, -⟩ | ⟨-, h⟩
                  · cases h
                  · exact h
                have htl : tt < 32768 := by rw [← hxt]; exact hx8
                have OA := Go.Lib.hid fun W => hother_c (c : Int) (tt : Int) W (by omega) (by omega) (by omega) (by omega)
                rw [otherI_nat hc8 htl] at OA
                have ho8 : othN c tt < 8 := oth_lt tt hc8
                have z0 := HIN7.out.b0
                have hse := HIN7.out.bg.seen (othN c tt) ho8
                have h8 := fun W => idx8 g (othN c tt) ho8 W
                have HSTEP := Go.Lib.hid (fun (hin : othN c tt ∈ bkL L) => HIN7.out.step hTx (by rw [hxt]; exact hin))
                have HMORE := Go.Lib.hid (fun (hnew : othN c tt ∉ bkL L) (W1 W2 : World) (v' : Value) (y' : SvT) h1 h2 h3 h4 h5 => HIN7.out.more (w1 := W1) (w2 := W2) (v' := v') (y' := y') hs4 hTx (by rw [hxt]; exact hnew) (by rw [hxt]; exact h1) (by rw [hxt]; exact h2) h3 h4 h5)
                rw [hxt] at HMORE
                have hfz := HIN7.out.bg.frozen (othN c tt)
                have HMK := Go.Lib.hid (HIN7.out.mark ho8)
                have HUL := Go.Lib.hid (show L.length ≤ 8 by have := HIN7.out.ok.len; rwa [re_len] at this)
                clear hTx hxt hx8 HTQ
                generalize othN c tt = o8 at *
                by_cases hin : o8 ∈ bkL L
                · rw [decide_eq_true hin] at hse
                  have HN := Go.Lib.hid (HSTEP.out hin)
                  clear HSTEP HMORE hin HMK
                  go_wp2_with fail
                  refine (OA.out _).mono ?_
                  rintro e w8 ⟨rfl, rfl⟩
                  go_wp2_with fail
                  go_roundw
                  case rel => exact ⟨s + 1, _, L, rfl, by omega, by go_num, HN, HBW⟩
                  case measure => simp only [intOf]; omega
                · rw [decide_eq_false hin] at hse
                  have HN := Go.Lib.hid (HMORE.out hin)
                  clear HSTEP HMORE hin
                  go_wp2_with fail
                  refine (OA.out _).mono ?_
                  rintro e w8 ⟨rfl, rfl⟩
                  go_upto_region 17 with (fail)
                  have HFX := Go.Lib.hid (show Below g w (w7.setCell ⟨g, o8, none⟩ (.bool true)) from ⟨HBW.out.os, HBW.out.tape, HBW.out.output, by simpa [World.setCell] using HBW.out.size, fun k hk => (Below.heap_setCell _ _ _ _ (by simp only []; omega)).trans (HBW.out.block k hk)⟩)
                  have HM1 := Go.Lib.hid HMK.out.1
                  clear z0 hse h8 hfz y0 y1 HMK
                  generalize w7.setCell ⟨g, o8, none⟩ (.bool true) = w9 at *
                  have hb2 := (Below.refl w9.heap.size w9).alloc (Nat.le_refl _) (.cells #[.int .i64 (o8 : Int), .slice a7 (P.length + 1) k7] 117)
                  have HGW9 := Go.Lib.hid (show g ≤ w9.heap.size by rw [HG0.out]; exact HFX.out.size)
                  have HBX := Go.Lib.hid hb2
                  have HFY := Go.Lib.hid (HFX.out.trans (hb2.mono HGW9.out))
                  have HROW := Go.Lib.hid (HM1.out.row.below hb2)
                  have HONE := Go.Lib.hid (KR.one' w9 o8 a7 (P.length + 1) k7)
                  have HGY := Go.Lib.hid (Nat.le_trans HGW9.out hb2.size)
                  clear hb2 HM1
                  go_wp2_with (first
                    | ((with_reducible show wpList _ _ _ (⟨some 74, _, _, _, _, _⟩ :: _) _ _); go_loud (refine KR_ok.appendW rfl (.tmp 69) (.tmp 73) rfl g u (.slice (some ⟨w9.heap.size, 0, none⟩) 1 1) (L.map fun x => (x.1, x.2.1)) [(o8, a7, P.length + 1, k7)] rfl rfl HROW.out HONE.out (by simp) (by have := HUL.out; rw [List.length_map, List.length_singleton]; omega) HGY.out ?_); intro v10 w10 hown10 hg10 hwh10; have HFZ := Go.Lib.hid (HFY.out.grown hg10 (by rw [HG0.out]; exact HFY.out.size) HROW.out.row); have HN2 := Go.Lib.hid (HN.out _ w10 v10 (a7, P.length + 1, k7) HBX.out hown10 hg10 hwh10 HP7.out); clear hown10 hg10 hwh10)
                    | fail)
                  go_roundw
                  case rel => exact ⟨s + 1, _, _, rfl, by omega, by go_num, HN2, HFZ⟩
                  case measure => simp only [intOf]; omega
          · obtain rfl : s = 4 := by omega
            have HBE := Go.Lib.hid HIN.out.bg
            have HLE := Go.Lib.hid (show LineOk T a b (reL L) ∧ DoneT T (reL L) (i + 1) 0 from ⟨HIN.out.ok, HIN.out.done.next⟩)
            have HLI := Go.Lib.hid (show i + 1 ≤ L.length from (List.getElem?_eq_some_iff.1 HIN.out.il).1)
            have HLM := Go.Lib.hid (show L.length ≤ 8 by have := HIN.out.ok.len; rwa [re_len] at this)
            have hi8 : i ≤ 7 := by have := HLI.out; have := HLM.out; omega
            clear hir HIN hs4
            go_wp2_with fail
            go_roundw
            case rel => exact ⟨i + 1, _, L, rfl, HLI.out, by go_num, HBE, HLE, HB⟩
            case measure => simp only [intOf]; omega
    · obtain rfl : i = L.length := by omega
      have HW := Go.Lib.hid (show Below w.heap.size w wr by rw [← HG0.out]; exact HB.out)
      clear hil hum hlen
      go_wp2_with fail
      go_ret
      exact ⟨_, rfl, HW.out, [], Lay.O.nil _ _, .inl ⟨rfl, reL L, HLO.out.1, by rw [re_len]; exact HLO.out.2⟩⟩

end Go.Proofs.YtkddleonmkhaiaaGreat
