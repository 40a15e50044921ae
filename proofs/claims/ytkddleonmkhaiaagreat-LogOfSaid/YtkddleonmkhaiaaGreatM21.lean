/-
  Stage 17: Insert.
  Package cuckoo, as the laws meet it.
  Boxes of records: their cells, in whatever world came later.
-/
import Derived.Test.YtkddleonmkhaiaaGreatM19
import Derived.Test.YtkddleonmkhaiaaGreatM15
import Derived.Test.YtkddleonmkhaiaaGreatM20
import Derived.Test.YtkddleonmkhaiaaGreatM17
import Derived.Test.YtkddleonmkhaiaaGreatM08
namespace Go.Proofs.YtkddleonmkhaiaaGreat
open Go.RowKit

/-- Within Insert's loop: the first k slots of the way are done; what is held lies at block q. -/
structure InS (T : SlT) (x0 : Option (Nat × Int)) (d q : Nat) (W : List (Nat × Nat)) (k : Nat) (w2 wr : World) : Prop where
  ck : CK wr d (shiftT T x0 (W.take k)).1
  b0 : wr.cell? ⟨q, 0, none⟩ = some (.bool (hasO (shiftT T x0 (W.take k)).2))
  b1 : wr.cell? ⟨q, 1, none⟩ = some (.int .i64 (tagO (shiftT T x0 (W.take k)).2 : Int))
  b2 : wr.cell? ⟨q, 2, none⟩ = some (.int .i64 (idO (shiftT T x0 (W.take k)).2))
  bf : ∀ o, wr.frozen? ⟨q, o, none⟩ = false
  et : ∀ y, (shiftT T x0 (W.take k)).2 = some y → y.1 < 32768
  off : Off1 d w2 wr
  qd : q ≠ d
  qn : w2.heap.size ≤ q
section
variable {T : SlT} {x0 : Option (Nat × Int)} {d q : Nat} {W : List (Nat × Nat)} {k : Nat} {w2 wr wr' : World}
theorem frozen_block {w w' : World} {g : Nat} (h : w'.heap[g]? = w.heap[g]?) (o : Nat) : w'.frozen? ⟨g, o, none⟩ = w.frozen? ⟨g, o, none⟩ := by
  unfold World.frozen?
  simp only []
  rw [h]
theorem InS.qlt (h : InS T x0 d q W k w2 wr) : q < wr.heap.size := World.block_lt_of_cell? wr _ h.b0
theorem InS.below (h : InS T x0 d q W k w2 wr) (hb : Below wr.heap.size wr wr') : InS T x0 d q W k w2 wr' :=
  ⟨h.ck.below hb, (hb.cell (World.block_lt_of_cell? wr _ h.b0)).trans h.b0, (hb.cell (World.block_lt_of_cell? wr _ h.b1)).trans h.b1, (hb.cell (World.block_lt_of_cell? wr _ h.b2)).trans h.b2, fun o => (frozen_block (hb.block q h.qlt) o).trans (h.bf o), h.et, h.off.above hb, h.qd, h.qn⟩
/-- One slot further. -/
theorem InS.turn (h : InS T x0 d q W k w2 wr) (hk : k < W.length) (h1 : W[k].1 < 8) (h2 : W[k].2 < 4) :
    InS T x0 d q W (k + 1) w2 ((wr.setCells q 0 (encO ((shiftT T x0 (W.take k)).1 (4 * W[k].1 + W[k].2)))).setCells d (3 * (4 * W[k].1 + W[k].2)) (encO (shiftT T x0 (W.take k)).2)) := by
  have et : shiftT T x0 (W.take (k + 1)) = (layT (shiftT T x0 (W.take k)).1 (4 * W[k].1 + W[k].2) (shiftT T x0 (W.take k)).2, (shiftT T x0 (W.take k)).1 (4 * W[k].1 + W[k].2)) := by
    rw [List.take_succ_eq_append_getElem hk, shift_snoc]
  have hq : 4 * W[k].1 + W[k].2 < 32 := by omega
  generalize 4 * W[k].1 + W[k].2 = z at *
  have hck := h.ck
  have hb0 := h.b0
  have hb1 := h.b1
  have hb2 := h.b2
  have het := h.et
  generalize hS : shiftT T x0 (W.take k) = S at *
  obtain ⟨U, e⟩ := S
  simp only [] at hck hb0 hb1 hb2 het et ⊢
  have hsame : ∀ (vs : List Value) (w : World) (o k b : Nat), k ≠ b → (w.setCells b o vs).heap[k]? = w.heap[k]? := by
    intro vs
    induction vs with
    | nil => intro w o k b _; rfl
    | cons v r ih => intro w o k b hne; rw [World.setCells, ih _ _ _ _ hne]; exact Below.heap_setCell _ _ _ _ hne
  have hsz : ∀ (vs : List Value) (w : World) (o b : Nat), (w.setCells b o vs).heap.size = w.heap.size := by
    intro vs
    induction vs with
    | nil => intro w o b; rfl
    | cons v r ih => intro w o b; rw [World.setCells, ih]; simp [World.setCell]
  have hos : ∀ (vs : List Value) (w : World) (o b : Nat), (w.setCells b o vs).os = w.os ∧ (w.setCells b o vs).tape = w.tape ∧ (w.setCells b o vs).output = w.output := by
    intro vs
    induction vs with
    | nil => intro w o b; exact ⟨rfl, rfl, rfl⟩
    | cons v r ih => intro w o b; rw [World.setCells]; exact ih _ _ _
  have c1 : CK (wr.setCells q 0 (encO (U z))) d U := hck.same (hsame _ _ _ _ _ h.qd.symm)
  have c2 := c1.setSlot hq e het
  have hin : ∀ j (hj : j < 3), (wr.setCells q 0 (encO (U z))).cell? ⟨q, j, none⟩ = (encO (U z))[j]? := fun j hj => by
    have := World.cell?_setCells_in q (encO (U z)) 0 wr (fun i hi => by
      have hi3 : i < 3 := hi
      rcases (by omega : i = 0 ∨ i = 1 ∨ i = 2) with rfl | rfl | rfl
      · rw [Nat.zero_add, hb0]; rfl
      · rw [Nat.zero_add, hb1]; rfl
      · rw [Nat.zero_add, hb2]; rfl) j hj
    rw [Nat.zero_add] at this
    rw [this]
    exact (List.getElem?_eq_getElem hj).symm
  have hin2 : ∀ j (hj : j < 3), ((wr.setCells q 0 (encO (U z))).setCells d (3 * z) (encO e)).cell? ⟨q, j, none⟩ = (encO (U z))[j]? := fun j hj =>
    (World.cell?_setCells_out d (encO e) (3 * z) _ ⟨q, j, none⟩ (fun hb _ => absurd hb h.qd)).trans (hin j hj)
  refine ⟨by rw [et]; exact c2, by rw [et]; exact hin2 0 (by omega), by rw [et]; exact hin2 1 (by omega), by rw [et]; exact hin2 2 (by omega), fun o => by rw [World.frozen?_setCells, World.frozen?_setCells]; exact h.bf o, ?_, ?_, h.qd, h.qn⟩
  · rw [et]
    intro y hy
    exact (hck.tok z y hy).2
  · obtain ⟨a1, a2, a3⟩ := hos (encO (U z)) wr 0 q
    obtain ⟨e1, e2, e3⟩ := hos (encO e) (wr.setCells q 0 (encO (U z))) (3 * z) d
    exact ⟨(e1.trans a1).trans h.off.os, (e2.trans a2).trans h.off.tape, (e3.trans a3).trans h.off.output, by rw [hsz, hsz]; exact h.off.size, fun j hj hne => by
      rw [hsame _ _ _ _ _ hne, hsame _ _ _ _ _ (by have := h.qn; omega)]
      exact h.off.block j hj hne⟩
end

theorem encO_one (x : Option (Nat × Int)) : ∀ v ∈ encO x, v.oneCell' = true := by
  intro v hv
  simp only [encO, List.mem_cons, List.not_mem_nil, or_false] at hv
  rcases hv with rfl | rfl | rfl <;> rfl
/-- Within 'e, *at = *at, e'. -/
def I9 (wb : World) (q d z : Nat) (U E : List Value) (done : Nat → Bool) (_a : Act) (w : World) : Prop :=
  (done 5 = false → w = wb) ∧ (done 5 = true → done 7 = false → w = wb.setCells q 0 U) ∧ (done 7 = true → w = (wb.setCells q 0 U).setCells d z E)
theorem I9.start (wb : World) (q d z : Nat) (U E : List Value) (a : Act) : I9 wb q d z U E (fun _ => false) a wb := ⟨fun _ => rfl, fun h => absurd h (by simp), fun h => absurd h (by simp)⟩
theorem I9.one {wb : World} {q d z : Nat} {U E : List Value} {done : Nat → Bool} (a' : Act) (h7 : done 7 = false) : I9 wb q d z U E (doneToo done 5) a' (wb.setCells q 0 U) :=
  ⟨fun h => absurd ((doneToo_self done 5).symm.trans h) (by simp), fun _ _ => rfl, fun h => absurd ((doneToo_other (done := done) (i := 5) (j := 7) (by decide)).symm.trans h |>.symm.trans h7) (by simp)⟩
theorem I9.two {wb : World} {q d z : Nat} {U E : List Value} {done : Nat → Bool} (a' : Act) (h5 : done 5 = true) : I9 wb q d z U E (doneToo done 7) a' ((wb.setCells q 0 U).setCells d z E) :=
  ⟨fun h => absurd ((doneToo_other (done := done) (i := 7) (j := 5) (by decide)).symm.trans h |>.symm.trans h5) (by simp), fun _ h => absurd ((doneToo_self done 7).symm.trans h) (by simp), fun _ => rfl⟩
theorem I9.keep {wb : World} {q d z : Nat} {U E : List Value} {done : Nat → Bool} {a a' : Act} {w : World} (h : I9 wb q d z U E done a w) {i : Nat} (h5 : 5 ≠ i) (h7 : 7 ≠ i) : I9 wb q d z U E (doneToo done i) a' w := by
  unfold I9
  rw [doneToo_other h5, doneToo_other h7]
  exact h
def VIn (d z : Nat) (U E : List Value) : Nat → World → Value → Prop
  | 44, _, v => v = .pointer (some ⟨d, z, none⟩)
  | 45, _, v => v = .pointer (some ⟨d, z, none⟩)
  | 46, _, v => v = .pointer (some ⟨d, z, none⟩)
  | 47, _, v => v = .agg U.toArray
  | 48, _, v => v = .agg E.toArray
  | 49, _, v => v = .pointer (some ⟨d, z, none⟩)
  | _, _, _ => True

theorem VIn_any (d z : Nat) (U E : List Value) : ∀ (i : Nat) (w w' : World) (v : Value), VIn d z U E i w v → VIn d z U E i w' v := by
  intro i w w' v h
  unfold VIn at h ⊢
  split at h <;> first | exact h | trivial

set_option maxHeartbeats 4000000 in
set_option maxRecDepth 100000 in
theorem cinsert_w {w : World} {d : Nat} {T : SlT} (h : CK w d T) {x : Nat} {i : Int} (hx : x < 18446744073709551616) (hi : idOk i = true) :
    Calls Tryz.prog 32 #[.pointer (some ⟨d, 0, none⟩), .int .u64 (x : Int), .int .i64 i] w fun e w' => ∃ W, WayOk T (firstN x) (othN (firstN x) (tagN x)) W ∧ ((W = [] ∧ e = .returned (.bool false) ∧ Below w.heap.size w w') ∨ (W ≠ [] ∧ e = .returned (.bool true) ∧ CK w' d (shiftT T (some (tagN x, i)) W).1 ∧ Off1 d w w')) := by
  have HD := Go.Lib.hid fun W (hW : Below w.heap.size w W) => h.below hW
  have HDL := Go.Lib.hid h.lt
  have MC := Go.Lib.hid (fun W => cmay_c i W)
  rw [hi] at MC
  have PA := Go.Lib.hid fun W => cpair_c x W hx
  have TA := Go.Lib.hid fun W => htag_c x W hx
  have WC := Go.Lib.hid (cway_c h (a := firstN x) (b := othN (firstN x) (tagN x)) (first_lt x) (oth_lt _ (first_lt x)) (fun e => oth_ne (tagN x) (first_lt x) e.symm))
  have HTL := Go.Lib.hid (tag_lt x)
  clear h hx hi
  generalize othN (firstN x) (tagN x) = bo at *
  generalize firstN x = bf at *
  generalize tagN x = tx at *
  go_enter Tryz.func32, Tryz.ntmps32
  go_wp2_with fail
  refine (MC.out _).mono ?_
  rintro e w1 ⟨rfl, rfl⟩
  go_wp2_with fail
  refine (PA.out _).mono ?_
  rintro e w1 ⟨rfl, rfl⟩
  go_wp2_with fail
  refine WC.out.mono ?_
  rintro e w2 ⟨v, rfl, hb2, W, hO, hW⟩
  have HB2 := Go.Lib.hid hb2
  have HO := Go.Lib.hid hO
  have HW := Go.Lib.hid hW
  have HWL := Go.Lib.hid (fun (p : Nat × Nat) (hp : p ∈ W) => show p.1 < 8 ∧ p.2 < 4 from by
    rcases hW with ⟨rfl, -⟩ | ⟨c, P, e, s, -, rfl, h1, h2, -, h4, h5, -⟩
    · cases hp
    · rcases List.mem_append.1 hp with hp | hp
      · refine ⟨h5 p hp, ?_⟩
        exact chain_slot h4 p hp
      · rw [List.mem_singleton.1 hp]; exact ⟨h1, h2⟩)
  obtain ⟨a, cap, rfl, hlm⟩ := hO.r.form
  clear hb2 hO hW WC PA MC
  go_wp2_with fail
  refine (TA.out _).mono ?_
  rintro e w3 ⟨rfl, rfl⟩
  go_upto_region 5 with (fail)
  have hb3 := (Below.refl w2.heap.size w2).alloc (Nat.le_refl _) (.cells #[.bool true, .int .i64 (tx : Int), .int .i64 i] 78)
  have HIN0 := Go.Lib.hid (show InS T (some (tx, i)) d w2.heap.size W 0 w2 (w2.alloc (.cells #[.bool true, .int .i64 (tx : Int), .int .i64 i] 78)) from by
    have hg := heap_alloc_new w2 (.cells #[.bool true, .int .i64 (tx : Int), .int .i64 i] 78)
    have hc := fun o => cell_of_row _ _ o _ _ _ hg
    refine ⟨(HD.out w2 HB2.out).below hb3, by rw [hc]; rfl, by rw [hc]; rfl, by rw [hc]; rfl, fun o => frozen_of_row _ _ _ _ _ hg, fun y hy => by cases hy; exact HTL.out, Off1.of_below hb3, fun e => ?_, Nat.le_refl _⟩
    have := HDL.out
    have := HB2.out.size
    omega)
  have HOK := Go.Lib.hid (fun wr (hoff : Off1 d w2 wr) => show KP.R wr (.slice a W.length cap) W from
    (Lay.O.same HO.out (w' := wr) fun q qs hq hB _ => hoff.block q (Array.getElem?_eq_some_iff.1 hq).1 (by have := HDL.out; omega)).r)
  clear hb3
  obtain ⟨q, hq⟩ : ∃ q, q = w2.heap.size := ⟨_, rfl⟩
  rw [← hq] at HIN0 ⊢
  clear hq
  go_wp2_with fail
  go_loopw [31] (fun kv wr => ∃ k : Nat, k ≤ W.length ∧ kv = .int .i64 (k : Int) ∧ Hid (InS T (some (tx, i)) d q W k w2 wr) ∧ Hid (W = [] → Below w.heap.size w wr)) (fun kv _ => W.length - (intOf kv).toNat)
  case atStart => exact ⟨0, by omega, rfl, HIN0, Go.Lib.hid fun _ => HB2.out.alloc HB2.out.size _⟩
  case round =>
    obtain ⟨k, hk, rfl, HIN, HBE⟩ := hrel
    by_cases hkl : k < W.length
    · obtain ⟨b, o, rfl, -, hbs, c0, c1⟩ := KP.at' (HOK.out wr HIN.out.off) k hkl
      have hix := idxP b o W.length cap k hkl wr
      obtain ⟨hp1, hp2⟩ := HWL.out W[k] (List.getElem_mem hkl)
      have hb2 := (Below.refl wr.heap.size wr).alloc (Nat.le_refl _) (.cells #[.int .i64 (W[k].1 : Int), .int .i64 (W[k].2 : Int)] 96)
      have HIN2 := Go.Lib.hid (HIN.out.below hb2)
      have HTURN := Go.Lib.hid (fun w5 (h5 : InS T (some (tx, i)) d q W k w2 w5) => h5.turn hkl hp1 hp2)
      have HNE := Go.Lib.hid (show W ≠ [] by intro e; rw [e] at hkl; simp at hkl)
      have HG := Go.Lib.hid (heap_alloc_new wr (.cells #[.int .i64 (W[k].1 : Int), .int .i64 (W[k].2 : Int)] 96))
      clear hb2
      generalize W[k] = pj at *
      obtain ⟨pb, ps⟩ := pj
      simp only [] at c0 c1 hp1 hp2 HIN2 HTURN HG
      go_upto_region 8 with (fail)
      obtain ⟨p, hp⟩ : ∃ p, p = wr.heap.size := ⟨_, rfl⟩
      rw [← hp] at HG ⊢
      clear hp c0 c1 hix hbs HIN
      generalize wr.alloc (.cells #[.int .i64 (pb : Int), .int .i64 (ps : Int)] 96) = w3 at *
      have p0 : w3.cell? ⟨p, 0, none⟩ = some (.int .i64 (pb : Int)) := by rw [cell_of_row _ _ _ _ _ _ HG.out]; rfl
      have p1 : w3.cell? ⟨p, 1, none⟩ = some (.int .i64 (ps : Int)) := by rw [cell_of_row _ _ _ _ _ _ HG.out]; rfl
      have h1 := fun W => idxB d pb hp1 W
      have h2 := fun W => idxS d (12 * pb) ps hp2 W
      go_quiet (fail)
      have HIN5 := Go.Lib.hid (HIN2.out.below (below_drewN (Below.refl _ _) nq))
      clear HIN2 p0 p1 h1 h2 HG
      generalize w3.drewN nq = w5 at *
      have HIN6 := Go.Lib.hid (HIN5.out.below (wr' := w5.drew) (below_drewN (Below.refl _ _) 1))
      have HT6 := Go.Lib.hid (HTURN.out _ HIN6.out)
      have RU := Go.Lib.hid (HIN6.out.ck.rangeS (4 * pb + ps) (by omega))
      have RE := Go.Lib.hid (show w5.drew.rangeAt q 0 (encO (shiftT T (some (tx, i)) (W.take k)).2) from fun j v hv => by
        have hj : j < 3 := (List.getElem?_eq_some_iff.1 hv).1
        rw [Nat.zero_add]
        rcases (by omega : j = 0 ∨ j = 1 ∨ j = 2) with rfl | rfl | rfl
        · exact HIN6.out.b0.trans hv
        · exact HIN6.out.b1.trans hv
        · exact HIN6.out.b2.trans hv)
      have THQ := Go.Lib.hid (show w5.drew.there q 0 3 from fun j hj => by
        refine ⟨?_, HIN6.out.bf _⟩
        rw [Nat.zero_add]
        rcases (by omega : j = 0 ∨ j = 1 ∨ j = 2) with rfl | rfl | rfl
        · rw [HIN6.out.b0]; rfl
        · rw [HIN6.out.b1]; rfl
        · rw [HIN6.out.b2]; rfl)
      have THD := Go.Lib.hid (show (w5.drew.setCells q 0 (encO ((shiftT T (some (tx, i)) (W.take k)).1 (4 * pb + ps)))).there d (3 * (4 * pb + ps)) 3 from fun j hj => by
        rw [World.frozen?_setCells, World.cell?_setCells_out _ _ _ _ _ (fun hb _ => absurd hb HIN6.out.qd.symm), HIN6.out.ck.cell (4 * pb + ps) j (by omega) hj]
        refine ⟨?_, HIN6.out.ck.fr _⟩
        rw [List.getElem?_eq_getElem (show j < (encO ((shiftT T (some (tx, i)) (W.take k)).1 (4 * pb + ps))).length from hj)]
        rfl)
      have LU := Go.Lib.hid (show (Tryz.prog.info? 78).map (·.size) = some (encO ((shiftT T (some (tx, i)) (W.take k)).1 (4 * pb + ps))).length by kernel_rfl)
      have LE := Go.Lib.hid (show (Tryz.prog.info? 78).map (·.size) = some (encO (shiftT T (some (tx, i)) (W.take k)).2).length by kernel_rfl)
      have OU := Go.Lib.hid (show (encO ((shiftT T (some (tx, i)) (W.take k)).1 (4 * pb + ps))).toArray.all (·.oneCell') = true from all_oneCell_toArray (encO_one _))
      have OE := Go.Lib.hid (show (encO (shiftT T (some (tx, i)) (W.take k)).2).toArray.all (·.oneCell') = true from all_oneCell_toArray (encO_one _))
      have SU := Go.Lib.hid (show (encO ((shiftT T (some (tx, i)) (W.take k)).1 (4 * pb + ps))).toArray.size = 3 from rfl)
      have SE := Go.Lib.hid (show (encO (shiftT T (some (tx, i)) (W.take k)).2).toArray.size = 3 from rfl)
      rw [show 3 * (4 * pb + ps) = 12 * pb + 3 * ps by omega] at HT6 RU THD
      clear HIN5 HIN6 HTURN
      generalize encO ((shiftT T (some (tx, i)) (W.take k)).1 (4 * pb + ps)) = U at *
      generalize encO (shiftT T (some (tx, i)) (W.take k)).2 = E at *
      generalize 12 * pb + 3 * ps = z at *
      go_upto_region 9 with (fail)
      refine wp_region_inv3 (by kernel_rfl) (VIn d z U E) (I9 w5.drew q d z U E) (by decide +kernel) (by decide +kernel) (by rfl) [44, 45, 46, 47, 48, 49] (by rfl) (I9.start _ _ _ _ _ _ _) ?_ ?_
      · intro i o ho a w6 done hI hnot hr hsh hlen hg
        match i, ho with
        | 0, ho =>
          obtain rfl := Option.some.inj ho
          have h11 := given_old hg 11 (by decide +kernel)
          clear hg
          exact st_yield ho (wanted_none rfl) (.pointer (some ⟨d, z, none⟩)) w6 (by simp [execOp, Act.eval, h11, go_sem]) ⟨_, rfl, hI.keep (by decide) (by decide), fun t u _ h => VIn_any d z U E t _ _ u h, by rintro t' ⟨⟩; rfl⟩
        | 1, ho =>
          obtain rfl := Option.some.inj ho
          have h11 := given_old hg 11 (by decide +kernel)
          clear hg
          exact st_yield ho (wanted_none rfl) (.pointer (some ⟨d, z, none⟩)) w6 (by simp [execOp, Act.eval, h11, go_sem]) ⟨_, rfl, hI.keep (by decide) (by decide), fun t u _ h => VIn_any d z U E t _ _ u h, by rintro t' ⟨⟩; rfl⟩
        | 2, ho =>
          obtain rfl := Option.some.inj ho
          obtain ⟨_, h45, rfl⟩ := given_fed hg 45 (by decide +kernel)
          clear hg
          exact st_yield ho (wanted_none rfl) (.pointer (some ⟨d, z, none⟩)) w6 (by simp [execOp, Act.eval, h45, go_sem]) ⟨_, rfl, hI.keep (by decide) (by decide), fun t u _ h => VIn_any d z U E t _ _ u h, by rintro t' ⟨⟩; rfl⟩
        | 3, ho =>
          obtain rfl := Option.some.inj ho
          obtain ⟨_, h46, rfl⟩ := given_fed hg 46 (by decide +kernel)
          clear hg
          have n5 : done 5 = false := by cases h : done 5 with | false => rfl | true => have := hsh 5 3 h (by decide +kernel); rw [hnot] at this; cases this
          obtain rfl := hI.1 n5
          exact st_list ho (wanted_none rfl) fun Q' hQ => wpList_load_mid rfl 78 (.tmp 46) rfl d z (by simp [Act.eval, h46]) U _ RU.out Tryz.underlying78 rfl LU.out (wpList_nil (hQ _ _ ⟨_, rfl, hI.keep (by decide) (by decide), fun t u _ h => VIn_any d z U E t _ _ u h, by rintro t' ⟨⟩; rfl⟩))
        | 4, ho =>
          obtain rfl := Option.some.inj ho
          have h8 := given_old hg 8 (by decide +kernel)
          clear hg
          have n5 : done 5 = false := by cases h : done 5 with | false => rfl | true => have := hsh 5 4 h (by decide +kernel); rw [hnot] at this; cases this
          obtain rfl := hI.1 n5
          exact st_list ho (wanted_none rfl) fun Q' hQ => wpList_load_mid rfl 78 (.tmp 8) rfl q 0 (by simp [Act.eval, h8]) E _ RE.out Tryz.underlying78 rfl LE.out (wpList_nil (hQ _ _ ⟨_, rfl, hI.keep (by decide) (by decide), fun t u _ h => VIn_any d z U E t _ _ u h, by rintro t' ⟨⟩; rfl⟩))
        | 5, ho =>
          obtain rfl := Option.some.inj ho
          have h8 := given_old hg 8 (by decide +kernel)
          obtain ⟨_, h47, rfl⟩ := given_fed hg 47 (by decide +kernel)
          clear hg
          have n7 : done 7 = false := by cases h : done 7 with | false => rfl | true => have := hsh 7 5 h (by decide +kernel); rw [hnot] at this; cases this
          obtain rfl := hI.1 hnot
          exact st_list ho (wanted_none rfl) fun Q' hQ => wpList_store_mid rfl 78 (.tmp 8) (.tmp 47) rfl q 0 U.toArray (by simp [Act.eval, h8]) (by simp [Act.eval, h47]) (by rw [SU.out]; exact THQ.out) (by rw [List.size_toArray]; exact LU.out) OU.out (wpList_nil (hQ _ _ ⟨_, rfl, I9.one _ n7, fun t u _ h => VIn_any d z U E t _ _ u h, by rintro t' ⟨⟩⟩))
        | 6, ho =>
          obtain rfl := Option.some.inj ho
          obtain ⟨_, h44, rfl⟩ := given_fed hg 44 (by decide +kernel)
          clear hg
          exact st_yield ho (wanted_none rfl) (.pointer (some ⟨d, z, none⟩)) w6 (by simp [execOp, Act.eval, h44, go_sem]) ⟨_, rfl, hI.keep (by decide) (by decide), fun t u _ h => VIn_any d z U E t _ _ u h, by rintro t' ⟨⟩; rfl⟩
        | 7, ho =>
          obtain rfl := Option.some.inj ho
          obtain ⟨_, h49, rfl⟩ := given_fed hg 49 (by decide +kernel)
          obtain ⟨_, h48, rfl⟩ := given_fed hg 48 (by decide +kernel)
          clear hg
          have n5 := hr 5 (by decide +kernel)
          obtain rfl := hI.2.1 n5 hnot
          exact st_list ho (wanted_none rfl) fun Q' hQ => wpList_store_mid rfl 78 (.tmp 49) (.tmp 48) rfl d z E.toArray (by simp [Act.eval, h49]) (by simp [Act.eval, h48]) (by rw [SE.out]; exact THD.out) (by rw [List.size_toArray]; exact LE.out) OE.out (wpList_nil (hQ _ _ ⟨_, rfl, I9.two _ n5, fun t u _ h => VIn_any d z U E t _ _ u h, by rintro t' ⟨⟩⟩))
        | n + 8, ho => simp at ho
      · intro f w7 done hall hI hv
        have hw7 := hI.2.2 (hall 7 (by decide))
        subst hw7
        clear hv hall hI RU RE THQ THD LU LE OU OE SU SE
        unfold putAll
        simp only [List.foldl]
        go_simp
        go_wp2_with fail
        go_roundw
        case rel => exact ⟨k + 1, by omega, by go_num, HT6, Go.Lib.hid fun e => absurd e HNE.out⟩
        case measure => simp only [intOf]; omega
    · obtain rfl : k = W.length := by omega
      have HCK := Go.Lib.hid (show CK wr d (shiftT T (some (tx, i)) W).1 by have := HIN.out.ck; rwa [List.take_length] at this)
      have HOF := Go.Lib.hid (show Off1 d w wr from (Off1.of_below HB2.out).trans HIN.out.off)
      clear HIN hkl
      by_cases h0 : W.length = 0
      · have HE := Go.Lib.hid (List.eq_nil_of_length_eq_zero h0)
        have p1 : decide ((0 : Int) < (W.length : Int)) = false := decide_eq_false (by omega)
        have p2 : decide (0 < W.length) = false := decide_eq_false (by omega)
        clear h0
        go_wp2_with fail
        go_ret
        exact ⟨W, HW.out, .inl ⟨HE.out, rfl, HBE.out HE.out⟩⟩
      · have HE := Go.Lib.hid (show W ≠ [] by intro e; rw [e] at h0; exact h0 rfl)
        have p1 : decide ((0 : Int) < (W.length : Int)) = true := decide_eq_true (by omega)
        have p2 : decide (0 < W.length) = true := decide_eq_true (by omega)
        clear h0
        go_wp2_with fail
        go_ret
        exact ⟨W, HW.out, .inr ⟨HE.out, rfl, HCK.out, HOF.out⟩⟩

end Go.Proofs.YtkddleonmkhaiaaGreat

namespace Go.Proofs.YtkddleonmkhaiaaGreat
open Go.RowKit

theorem way_fits {T : SlT} {es : List EnT} (hf : Fits T es) {x : Nat} {i : Int} {W : List (Nat × Nat)} (h : WayOk T (firstN x) (othN (firstN x) (tagN x)) W) (hne : W ≠ []) : Fits (shiftT T (some (tagN x, i)) W).1 (es ++ [(x, i)]) := by
  rcases h with ⟨h, -⟩ | ⟨c, P, e, s, hc, rfl, h1, h2, h3, h4, h5, h6⟩
  · exact absurd h hne
  · refine shift_fits hf h1 h2 h3 h4 h5 h6 ?_
    unfold keyH
    rcases hc with rfl | rfl
    · rfl
    · exact keyN_oth _ (first_lt x)
section
variable {w : World} {d : Nat} {T : SlT} {es : List EnT}
theorem cinsert_yes (h : CK w d T) (hf : Fits T es) {x : Nat} {i : Int} (hx : x < 18446744073709551616) (hi : idOk i = true) (hr : roomB (es.map Prod.fst ++ [x]) = true) :
    Calls Tryz.prog 32 #[.pointer (some ⟨d, 0, none⟩), .int .u64 (x : Int), .int .i64 i] w fun e w' => e = .returned (.bool true) ∧ (∃ T', CK w' d T' ∧ Fits T' (es ++ [(x, i)])) ∧ Off1 d w w' := by
  refine (cinsert_w h hx hi).mono ?_
  rintro e w' ⟨W, hW, ⟨rfl, -, -⟩ | ⟨hne, rfl, hck, hoff⟩⟩
  · rcases hW with ⟨-, L, h1, h2⟩ | ⟨c, P, e, s, -, h0, -⟩
    · rw [stuck hf h1 h2] at hr
      cases hr
    · simp at h0
  · exact ⟨rfl, ⟨_, hck, way_fits hf hW hne⟩, hoff⟩
theorem cinsert_none (v : Option Addr) {x : Nat} {i : Int} (w : World) (hi : v = none ∨ idOk i = false) :
    Calls Tryz.prog 32 #[.pointer v, .int .u64 (x : Int), .int .i64 i] w fun e w' => e = .returned (.bool false) ∧ Below w.heap.size w w' := by
  have HB := Go.Lib.hid (Below.refl w.heap.size w)
  cases v with
  | none =>
    clear hi
    go_enter Tryz.func32, Tryz.ntmps32
    go_wp2_with fail
    go_ret
    exact ⟨rfl, HB.out⟩
  | some a =>
    have hi2 : idOk i = false := by
      rcases hi with h | h
      · cases h
      · exact h
    have MC := Go.Lib.hid (fun W => cmay_c i W)
    rw [hi2] at MC
    clear hi hi2
    go_enter Tryz.func32, Tryz.ntmps32
    go_wp2_with fail
    refine (MC.out _).mono ?_
    rintro e w1 ⟨rfl, rfl⟩
    go_wp2_with fail
    go_ret
    exact ⟨rfl, HB.out⟩
theorem cinsert_no (h : CK w d T) (hf : Fits T es) {x : Nat} {i : Int} (hx : x < 18446744073709551616) (_hw : (Lit.int .i64 i).wf = true) (hr : (idOk i && roomB (es.map Prod.fst ++ [x])) = false) :
    Calls Tryz.prog 32 #[.pointer (some ⟨d, 0, none⟩), .int .u64 (x : Int), .int .i64 i] w fun e w' => e = .returned (.bool false) ∧ Below w.heap.size w w' := by
  cases hi : idOk i with
  | false => exact cinsert_none _ w (.inr hi)
  | true =>
    rw [hi, Bool.true_and] at hr
    refine (cinsert_w h hx hi).mono ?_
    rintro e w' ⟨W, hW, ⟨rfl, rfl, hb⟩ | ⟨hne, -, -, -⟩⟩
    · exact ⟨rfl, hb⟩
    · have := room_of_fits (way_fits (i := i) hf hW hne)
      rw [List.map_append] at this
      exact absurd (this.symm.trans hr) (by simp)
end
theorem cnil_insert (x : Nat) (i : Int) (_hx : x < 18446744073709551616) (w : World) : Calls Tryz.prog 32 #[.pointer none, .int .u64 (x : Int), .int .i64 i] w fun e w' => e = .returned (.bool false) ∧ Below w.heap.size w w' := cinsert_none none w (.inl rfl)

end Go.Proofs.YtkddleonmkhaiaaGreat

namespace Go.Proofs.YtkddleonmkhaiaaGreat
open Go.RowKit

theorem row_kept {w w' : World} {b : Nat} {o : Obj} (h : w.heap[b]? = some o) (hb : Below w.heap.size w w') : w'.heap[b]? = some o := (hb.block _ (Array.getElem?_eq_some_iff.1 h).1).trans h
theorem row5 {w : World} {b : Nat} {a0 a1 a2 a3 a4 : Value} {t : TypeId} {fr : Nat × Nat} (h : w.heap[b]? = some (.cells #[a0, a1, a2, a3, a4] t fr)) :
    w.cell? ⟨b, 0, none⟩ = some a0 ∧ w.cell? ⟨b, 1, none⟩ = some a1 ∧ w.cell? ⟨b, 2, none⟩ = some a2 ∧ w.cell? ⟨b, 3, none⟩ = some a3 ∧ w.cell? ⟨b, 4, none⟩ = some a4 := by
  have c := fun j => cell_of_row w b j _ _ _ h
  exact ⟨c 0, c 1, c 2, c 3, c 4⟩
theorem row_lt {w : World} {b : Nat} {o : Obj} (h : w.heap[b]? = some o) : b < w.heap.size := (Array.getElem?_eq_some_iff.1 h).1
theorem RRec.below {w w' : World} {v : Value} {l : List RecT} (h : RRec w v l) (hb : Below w.heap.size w w') : RRec w' v l := by
  have h5 := h.rs.below hb
  obtain ⟨a, cap, hv, h1, h2, h3, h4, -⟩ := h
  subst hv
  obtain ⟨a', cap', e, -, -, -, h5⟩ := h5
  simp only [Value.slice.injEq] at e
  obtain ⟨rfl, -, rfl⟩ := e
  exact ⟨a, cap, rfl, h1, h2, h3, h4, h5⟩

end Go.Proofs.YtkddleonmkhaiaaGreat
