/-
  Stage 17: Insert.
  Package cuckoo, as the laws meet it.
  Boxes of records: their cells, in whatever world came later.
  Stage 18: a *logstore.Log in memory; New, Len, the nil forms of what only reads.
  Stage 18: find.
  What a value holds.
  The contract of strings.HasPrefix.
  The contract of runes.Valid.
-/
import Derived.Test.YtkpbbjappndddaaGreatM07
import Derived.Test.YtkpbbjappndddaaGreatM06
import Derived.Test.YtkpbbjappndddaaGreatM03
import Derived.Test.YtkpbbjappndddaaGreatM05
import Derived.BigQuiet
import Derived.Deep.DeepCutAuto
import Derived.LoopTactic
import Derived.Test.YtkpbbjappndddaaGreatM02
import Derived.Test.YtkpbbjappndddaaGreatM01
namespace Go.Proofs.YtkpbbjappndddaaGreat
open Go.RowKit

/-- Within Insert's loop: the first k slots of the way are done; what is held lies at block q. -/
structure InS (T : SlT) (x0 : Option (Nat × Int)) (d q : Nat) (W : List (Nat × Nat)) (k : Nat) (w2 wr : World) : Prop where
  ck : CK wr d (shiftT T x0 (W.take k)).1
  b0 : wr.cell? ⟨q, 0, none⟩ = some (.bool (hasO (shiftT T x0 (W.take k)).2))
  b1 : wr.cell? ⟨q, 1, none⟩ = some (.int .i64 (tagO (shiftT T x0 (W.take k)).2 : Int))
  b2 : wr.cell? ⟨q, 2, none⟩ = some (.int .i64 (idO (shiftT T x0 (W.take k)).2))
  bf : ∀ o, wr.frozen? ⟨q, o, none⟩ = false
  et : ∀ y, (shiftT T x0 (W.take k)).2 = some y → y.1 < 32768
  off : Off1 d w2 wr
  qd : q ≠ d
  qn : w2.heap.size ≤ q
section
variable {T : SlT} {x0 : Option (Nat × Int)} {d q : Nat} {W : List (Nat × Nat)} {k : Nat} {w2 wr wr' : World}
theorem frozen_block {w w' : World} {g : Nat} (h : w'.heap[g]? = w.heap[g]?) (o : Nat) : w'.frozen? ⟨g, o, none⟩ = w.frozen? ⟨g, o, none⟩ := by
  unfold World.frozen?
  simp only []
  rw [h]
theorem InS.qlt (h : InS T x0 d q W k w2 wr) : q < wr.heap.size := World.block_lt_of_cell? wr _ h.b0
theorem InS.below (h : InS T x0 d q W k w2 wr) (hb : Below wr.heap.size wr wr') : InS T x0 d q W k w2 wr' :=
  ⟨h.ck.below hb, (hb.cell (World.block_lt_of_cell? wr _ h.b0)).trans h.b0, (hb.cell (World.block_lt_of_cell? wr _ h.b1)).trans h.b1, (hb.cell (World.block_lt_of_cell? wr _ h.b2)).trans h.b2, fun o => (frozen_block (hb.block q h.qlt) o).trans (h.bf o), h.et, h.off.above hb, h.qd, h.qn⟩
/-- One slot further. -/
theorem InS.turn (h : InS T x0 d q W k w2 wr) (hk : k < W.length) (h1 : W[k].1 < 8) (h2 : W[k].2 < 4) :
    InS T x0 d q W (k + 1) w2 ((wr.setCells q 0 (encO ((shiftT T x0 (W.take k)).1 (4 * W[k].1 + W[k].2)))).setCells d (3 * (4 * W[k].1 + W[k].2)) (encO (shiftT T x0 (W.take k)).2)) := by
  have et : shiftT T x0 (W.take (k + 1)) = (layT (shiftT T x0 (W.take k)).1 (4 * W[k].1 + W[k].2) (shiftT T x0 (W.take k)).2, (shiftT T x0 (W.take k)).1 (4 * W[k].1 + W[k].2)) := by
    rw [List.take_succ_eq_append_getElem hk, shift_snoc]
  have hq : 4 * W[k].1 + W[k].2 < 32 := by omega
  generalize 4 * W[k].1 + W[k].2 = z at *
  have hck := h.ck
  have hb0 := h.b0
  have hb1 := h.b1
  have hb2 := h.b2
  have het := h.et
  generalize hS : shiftT T x0 (W.take k) = S at *
  obtain ⟨U, e⟩ := S
  simp only [] at hck hb0 hb1 hb2 het et ⊢
  have hsame : ∀ (vs : List Value) (w : World) (o k b : Nat), k ≠ b → (w.setCells b o vs).heap[k]? = w.heap[k]? := by
    intro vs
    induction vs with
    | nil => intro w o k b _; rfl
    | cons v r ih => intro w o k b hne; rw [World.setCells, ih _ _ _ _ hne]; exact Below.heap_setCell _ _ _ _ hne
  have hsz : ∀ (vs : List Value) (w : World) (o b : Nat), (w.setCells b o vs).heap.size = w.heap.size := by
    intro vs
    induction vs with
    | nil => intro w o b; rfl
    | cons v r ih => intro w o b; rw [World.setCells, ih]; simp [World.setCell]
  have hos : ∀ (vs : List Value) (w : World) (o b : Nat), (w.setCells b o vs).os = w.os ∧ (w.setCells b o vs).tape = w.tape ∧ (w.setCells b o vs).output = w.output := by
    intro vs
    induction vs with
    | nil => intro w o b; exact ⟨rfl, rfl, rfl⟩
    | cons v r ih => intro w o b; rw [World.setCells]; exact ih _ _ _
  have c1 : CK (wr.setCells q 0 (encO (U z))) d U := hck.same (hsame _ _ _ _ _ h.qd.symm)
  have c2 := c1.setSlot hq e het
  have hin : ∀ j (hj : j < 3), (wr.setCells q 0 (encO (U z))).cell? ⟨q, j, none⟩ = (encO (U z))[j]? := fun j hj => by
    have := World.cell?_setCells_in q (encO (U z)) 0 wr (fun i hi => by
      have hi3 : i < 3 := hi
      rcases (by omega : i = 0 ∨ i = 1 ∨ i = 2) with rfl | rfl | rfl
      · rw [Nat.zero_add, hb0]; rfl
      · rw [Nat.zero_add, hb1]; rfl
      · rw [Nat.zero_add, hb2]; rfl) j hj
    rw [Nat.zero_add] at this
    rw [this]
    exact (List.getElem?_eq_getElem hj).symm
  have hin2 : ∀ j (hj : j < 3), ((wr.setCells q 0 (encO (U z))).setCells d (3 * z) (encO e)).cell? ⟨q, j, none⟩ = (encO (U z))[j]? := fun j hj =>
    (World.cell?_setCells_out d (encO e) (3 * z) _ ⟨q, j, none⟩ (fun hb _ => absurd hb h.qd)).trans (hin j hj)
  refine ⟨by rw [et]; exact c2, by rw [et]; exact hin2 0 (by omega), by rw [et]; exact hin2 1 (by omega), by rw [et]; exact hin2 2 (by omega), fun o => by rw [World.frozen?_setCells, World.frozen?_setCells]; exact h.bf o, ?_, ?_, h.qd, h.qn⟩
  · rw [et]
    intro y hy
    exact (hck.tok z y hy).2
  · obtain ⟨a1, a2, a3⟩ := hos (encO (U z)) wr 0 q
    obtain ⟨e1, e2, e3⟩ := hos (encO e) (wr.setCells q 0 (encO (U z))) (3 * z) d
    exact ⟨(e1.trans a1).trans h.off.os, (e2.trans a2).trans h.off.tape, (e3.trans a3).trans h.off.output, by rw [hsz, hsz]; exact h.off.size, fun j hj hne => by
      rw [hsame _ _ _ _ _ hne, hsame _ _ _ _ _ (by have := h.qn; omega)]
      exact h.off.block j hj hne⟩
end

theorem encO_one (x : Option (Nat × Int)) : ∀ v ∈ encO x, v.oneCell' = true := by
  intro v hv
  simp only [encO, List.mem_cons, List.not_mem_nil, or_false] at hv
  rcases hv with rfl | rfl | rfl <;> rfl
/-- Within 'e, *at = *at, e'. -/
def I9 (wb : World) (q d z : Nat) (U E : List Value) (done : Nat → Bool) (_a : Act) (w : World) : Prop :=
  (done 5 = false → w = wb) ∧ (done 5 = true → done 7 = false → w = wb.setCells q 0 U) ∧ (done 7 = true → w = (wb.setCells q 0 U).setCells d z E)
theorem I9.start (wb : World) (q d z : Nat) (U E : List Value) (a : Act) : I9 wb q d z U E (fun _ => false) a wb := ⟨fun _ => rfl, fun h => absurd h (by simp), fun h => absurd h (by simp)⟩
theorem I9.one {wb : World} {q d z : Nat} {U E : List Value} {done : Nat → Bool} (a' : Act) (h7 : done 7 = false) : I9 wb q d z U E (doneToo done 5) a' (wb.setCells q 0 U) :=
  ⟨fun h => absurd ((doneToo_self done 5).symm.trans h) (by simp), fun _ _ => rfl, fun h => absurd ((doneToo_other (done := done) (i := 5) (j := 7) (by decide)).symm.trans h |>.symm.trans h7) (by simp)⟩
theorem I9.two {wb : World} {q d z : Nat} {U E : List Value} {done : Nat → Bool} (a' : Act) (h5 : done 5 = true) : I9 wb q d z U E (doneToo done 7) a' ((wb.setCells q 0 U).setCells d z E) :=
  ⟨fun h => absurd ((doneToo_other (done := done) (i := 7) (j := 5) (by decide)).symm.trans h |>.symm.trans h5) (by simp), fun _ h => absurd ((doneToo_self done 7).symm.trans h) (by simp), fun _ => rfl⟩
theorem I9.keep {wb : World} {q d z : Nat} {U E : List Value} {done : Nat → Bool} {a a' : Act} {w : World} (h : I9 wb q d z U E done a w) {i : Nat} (h5 : 5 ≠ i) (h7 : 7 ≠ i) : I9 wb q d z U E (doneToo done i) a' w := by
  unfold I9
  rw [doneToo_other h5, doneToo_other h7]
  exact h
def VIn (d z : Nat) (U E : List Value) : Nat → World → Value → Prop
  | 44, _, v => v = .pointer (some ⟨d, z, none⟩)
  | 45, _, v => v = .pointer (some ⟨d, z, none⟩)
  | 46, _, v => v = .pointer (some ⟨d, z, none⟩)
  | 47, _, v => v = .agg U.toArray
  | 48, _, v => v = .agg E.toArray
  | 49, _, v => v = .pointer (some ⟨d, z, none⟩)
  | _, _, _ => True

theorem VIn_any (d z : Nat) (U E : List Value) : ∀ (i : Nat) (w w' : World) (v : Value), VIn d z U E i w v → VIn d z U E i w' v := by
  intro i w w' v h
  unfold VIn at h ⊢
  split at h <;> first | exact h | trivial

set_option maxHeartbeats 4000000 in
set_option maxRecDepth 100000 in
theorem cinsert_w {w : World} {d : Nat} {T : SlT} (h : CK w d T) {x : Nat} {i : Int} (hx : x < 18446744073709551616) (hi : idOk i = true) :
    Calls Tryz.prog 32 #[.pointer (some ⟨d, 0, none⟩), .int .u64 (x : Int), .int .i64 i] w fun e w' => ∃ W, WayOk T (firstN x) (othN (firstN x) (tagN x)) W ∧ ((W = [] ∧ e = .returned (.bool false) ∧ Below w.heap.size w w') ∨ (W ≠ [] ∧ e = .returned (.bool true) ∧ CK w' d (shiftT T (some (tagN x, i)) W).1 ∧ Off1 d w w')) := by
  have HD := Go.Lib.hid fun W (hW : Below w.heap.size w W) => h.below hW
  have HDL := Go.Lib.hid h.lt
  have MC := Go.Lib.hid (fun W => cmay_c i W)
  rw [hi] at MC
  have PA := Go.Lib.hid fun W => cpair_c x W hx
  have TA := Go.Lib.hid fun W => htag_c x W hx
  have WC := Go.Lib.hid (cway_c h (a := firstN x) (b := othN (firstN x) (tagN x)) (first_lt x) (oth_lt _ (first_lt x)) (fun e => oth_ne (tagN x) (first_lt x) e.symm))
  have HTL := Go.Lib.hid (tag_lt x)
  clear h hx hi
  generalize othN (firstN x) (tagN x) = bo at *
  generalize firstN x = bf at *
  generalize tagN x = tx at *
  go_enter Tryz.func32, Tryz.ntmps32
  go_wp2_with fail
  refine (MC.out _).mono ?_
  rintro e w1 ⟨rfl, rfl⟩
  go_wp2_with fail
  refine (PA.out _).mono ?_
  rintro e w1 ⟨rfl, rfl⟩
  go_wp2_with fail
  refine WC.out.mono ?_
  rintro e w2 ⟨v, rfl, hb2, W, hO, hW⟩
  have HB2 := Go.Lib.hid hb2
  have HO := Go.Lib.hid hO
  have HW := Go.Lib.hid hW
  have HWL := Go.Lib.hid (fun (p : Nat × Nat) (hp : p ∈ W) => show p.1 < 8 ∧ p.2 < 4 from by
    rcases hW with ⟨rfl, -⟩ | ⟨c, P, e, s, -, rfl, h1, h2, -, h4, h5, -⟩
    · cases hp
    · rcases List.mem_append.1 hp with hp | hp
      · refine ⟨h5 p hp, ?_⟩
        exact chain_slot h4 p hp
      · rw [List.mem_singleton.1 hp]; exact ⟨h1, h2⟩)
  obtain ⟨a, cap, rfl, hlm⟩ := hO.r.form
  clear hb2 hO hW WC PA MC
  go_wp2_with fail
  refine (TA.out _).mono ?_
  rintro e w3 ⟨rfl, rfl⟩
  go_upto_region 5 with (fail)
  have hb3 := (Below.refl w2.heap.size w2).alloc (Nat.le_refl _) (.cells #[.bool true, .int .i64 (tx : Int), .int .i64 i] 78)
  have HIN0 := Go.Lib.hid (show InS T (some (tx, i)) d w2.heap.size W 0 w2 (w2.alloc (.cells #[.bool true, .int .i64 (tx : Int), .int .i64 i] 78)) from by
    have hg := heap_alloc_new w2 (.cells #[.bool true, .int .i64 (tx : Int), .int .i64 i] 78)
    have hc := fun o => cell_of_row _ _ o _ _ _ hg
    refine ⟨(HD.out w2 HB2.out).below hb3, by rw [hc]; rfl, by rw [hc]; rfl, by rw [hc]; rfl, fun o => frozen_of_row _ _ _ _ _ hg, fun y hy => by cases hy; exact HTL.out, Off1.of_below hb3, fun e => ?_, Nat.le_refl _⟩
    have := HDL.out
    have := HB2.out.size
    omega)
  have HOK := Go.Lib.hid (fun wr (hoff : Off1 d w2 wr) => show KP.R wr (.slice a W.length cap) W from
    (Lay.O.same HO.out (w' := wr) fun q qs hq hB _ => hoff.block q (Array.getElem?_eq_some_iff.1 hq).1 (by have := HDL.out; omega)).r)
  clear hb3
  obtain ⟨q, hq⟩ : ∃ q, q = w2.heap.size := ⟨_, rfl⟩
  rw [← hq] at HIN0 ⊢
  clear hq
  go_wp2_with fail
  go_loopw [31] (fun kv wr => ∃ k : Nat, k ≤ W.length ∧ kv = .int .i64 (k : Int) ∧ Hid (InS T (some (tx, i)) d q W k w2 wr) ∧ Hid (W = [] → Below w.heap.size w wr)) (fun kv _ => W.length - (intOf kv).toNat)
  case atStart => exact ⟨0, by omega, rfl, HIN0, Go.Lib.hid fun _ => HB2.out.alloc HB2.out.size _⟩
  case round =>
    obtain ⟨k, hk, rfl, HIN, HBE⟩ := hrel
    by_cases hkl : k < W.length
    · obtain ⟨b, o, rfl, -, hbs, c0, c1⟩ := KP.at' (HOK.out wr HIN.out.off) k hkl
      have hix := idxP b o W.length cap k hkl wr
      obtain ⟨hp1, hp2⟩ := HWL.out W[k] (List.getElem_mem hkl)
      have hb2 := (Below.refl wr.heap.size wr).alloc (Nat.le_refl _) (.cells #[.int .i64 (W[k].1 : Int), .int .i64 (W[k].2 : Int)] 96)
      have HIN2 := Go.Lib.hid (HIN.out.below hb2)
      have HTURN := Go.Lib.hid (fun w5 (h5 : InS T (some (tx, i)) d q W k w2 w5) => h5.turn hkl hp1 hp2)
      have HNE := Go.Lib.hid (show W ≠ [] by intro e; rw [e] at hkl; simp at hkl)
      have HG := Go.Lib.hid (heap_alloc_new wr (.cells #[.int .i64 (W[k].1 : Int), .int .i64 (W[k].2 : Int)] 96))
      clear hb2
      generalize W[k] = pj at *
      obtain ⟨pb, ps⟩ := pj
      simp only [] at c0 c1 hp1 hp2 HIN2 HTURN HG
      go_upto_region 8 with (fail)
      obtain ⟨p, hp⟩ : ∃ p, p = wr.heap.size := ⟨_, rfl⟩
      rw [← hp] at HG ⊢
      clear hp c0 c1 hix hbs HIN
      generalize wr.alloc (.cells #[.int .i64 (pb : Int), .int .i64 (ps : Int)] 96) = w3 at *
      have p0 : w3.cell? ⟨p, 0, none⟩ = some (.int .i64 (pb : Int)) := by rw [cell_of_row _ _ _ _ _ _ HG.out]; rfl
      have p1 : w3.cell? ⟨p, 1, none⟩ = some (.int .i64 (ps : Int)) := by rw [cell_of_row _ _ _ _ _ _ HG.out]; rfl
      have h1 := fun W => idxB d pb hp1 W
      have h2 := fun W => idxS d (12 * pb) ps hp2 W
      go_quiet (fail)
      have HIN5 := Go.Lib.hid (HIN2.out.below (below_drewN (Below.refl _ _) nq))
      clear HIN2 p0 p1 h1 h2 HG
      generalize w3.drewN nq = w5 at *
      have HIN6 := Go.Lib.hid (HIN5.out.below (wr' := w5.drew) (below_drewN (Below.refl _ _) 1))
      have HT6 := Go.Lib.hid (HTURN.out _ HIN6.out)
      have RU := Go.Lib.hid (HIN6.out.ck.rangeS (4 * pb + ps) (by omega))
      have RE := Go.Lib.hid (show w5.drew.rangeAt q 0 (encO (shiftT T (some (tx, i)) (W.take k)).2) from fun j v hv => by
        have hj : j < 3 := (List.getElem?_eq_some_iff.1 hv).1
        rw [Nat.zero_add]
        rcases (by omega : j = 0 ∨ j = 1 ∨ j = 2) with rfl | rfl | rfl
        · exact HIN6.out.b0.trans hv
        · exact HIN6.out.b1.trans hv
        · exact HIN6.out.b2.trans hv)
      have THQ := Go.Lib.hid (show w5.drew.there q 0 3 from fun j hj => by
        refine ⟨?_, HIN6.out.bf _⟩
        rw [Nat.zero_add]
        rcases (by omega : j = 0 ∨ j = 1 ∨ j = 2) with rfl | rfl | rfl
        · rw [HIN6.out.b0]; rfl
        · rw [HIN6.out.b1]; rfl
        · rw [HIN6.out.b2]; rfl)
      have THD := Go.Lib.hid (show (w5.drew.setCells q 0 (encO ((shiftT T (some (tx, i)) (W.take k)).1 (4 * pb + ps)))).there d (3 * (4 * pb + ps)) 3 from fun j hj => by
        rw [World.frozen?_setCells, World.cell?_setCells_out _ _ _ _ _ (fun hb _ => absurd hb HIN6.out.qd.symm), HIN6.out.ck.cell (4 * pb + ps) j (by omega) hj]
        refine ⟨?_, HIN6.out.ck.fr _⟩
        rw [List.getElem?_eq_getElem (show j < (encO ((shiftT T (some (tx, i)) (W.take k)).1 (4 * pb + ps))).length from hj)]
        rfl)
      have LU := Go.Lib.hid (show (Tryz.prog.info? 78).map (·.size) = some (encO ((shiftT T (some (tx, i)) (W.take k)).1 (4 * pb + ps))).length by kernel_rfl)
      have LE := Go.Lib.hid (show (Tryz.prog.info? 78).map (·.size) = some (encO (shiftT T (some (tx, i)) (W.take k)).2).length by kernel_rfl)
      have OU := Go.Lib.hid (show (encO ((shiftT T (some (tx, i)) (W.take k)).1 (4 * pb + ps))).toArray.all (·.oneCell') = true from all_oneCell_toArray (encO_one _))
      have OE := Go.Lib.hid (show (encO (shiftT T (some (tx, i)) (W.take k)).2).toArray.all (·.oneCell') = true from all_oneCell_toArray (encO_one _))
      have SU := Go.Lib.hid (show (encO ((shiftT T (some (tx, i)) (W.take k)).1 (4 * pb + ps))).toArray.size = 3 from rfl)
      have SE := Go.Lib.hid (show (encO (shiftT T (some (tx, i)) (W.take k)).2).toArray.size = 3 from rfl)
      rw [show 3 * (4 * pb + ps) = 12 * pb + 3 * ps by omega] at HT6 RU THD
      clear HIN5 HIN6 HTURN
      generalize encO ((shiftT T (some (tx, i)) (W.take k)).1 (4 * pb + ps)) = U at *
      generalize encO (shiftT T (some (tx, i)) (W.take k)).2 = E at *
      generalize 12 * pb + 3 * ps = z at *
      go_upto_region 9 with (fail)
      refine wp_region_inv3 (by kernel_rfl) (VIn d z U E) (I9 w5.drew q d z U E) (by decide +kernel) (by decide +kernel) (by rfl) [44, 45, 46, 47, 48, 49] (by rfl) (I9.start _ _ _ _ _ _ _) ?_ ?_
      · intro i o ho a w6 done hI hnot hr hsh hlen hg
        match i, ho with
        | 0, ho =>
          obtain rfl := Option.some.inj ho
          have h11 := given_old hg 11 (by decide +kernel)
          clear hg
          exact st_yield ho (wanted_none rfl) (.pointer (some ⟨d, z, none⟩)) w6 (by simp [execOp, Act.eval, h11, go_sem]) ⟨_, rfl, hI.keep (by decide) (by decide), fun t u _ h => VIn_any d z U E t _ _ u h, by rintro t' ⟨⟩; rfl⟩
        | 1, ho =>
          obtain rfl := Option.some.inj ho
          have h11 := given_old hg 11 (by decide +kernel)
          clear hg
          exact st_yield ho (wanted_none rfl) (.pointer (some ⟨d, z, none⟩)) w6 (by simp [execOp, Act.eval, h11, go_sem]) ⟨_, rfl, hI.keep (by decide) (by decide), fun t u _ h => VIn_any d z U E t _ _ u h, by rintro t' ⟨⟩; rfl⟩
        | 2, ho =>
          obtain rfl := Option.some.inj ho
          obtain ⟨_, h45, rfl⟩ := given_fed hg 45 (by decide +kernel)
          clear hg
          exact st_yield ho (wanted_none rfl) (.pointer (some ⟨d, z, none⟩)) w6 (by simp [execOp, Act.eval, h45, go_sem]) ⟨_, rfl, hI.keep (by decide) (by decide), fun t u _ h => VIn_any d z U E t _ _ u h, by rintro t' ⟨⟩; rfl⟩
        | 3, ho =>
          obtain rfl := Option.some.inj ho
          obtain ⟨_, h46, rfl⟩ := given_fed hg 46 (by decide +kernel)
          clear hg
          have n5 : done 5 = false := by cases h : done 5 with | false => rfl | true => have := hsh 5 3 h (by decide +kernel); rw [hnot] at this; cases this
          obtain rfl := hI.1 n5
          exact st_list ho (wanted_none rfl) fun Q' hQ => wpList_load_mid rfl 78 (.tmp 46) rfl d z (by simp [Act.eval, h46]) U _ RU.out Tryz.underlying78 rfl LU.out (wpList_nil (hQ _ _ ⟨_, rfl, hI.keep (by decide) (by decide), fun t u _ h => VIn_any d z U E t _ _ u h, by rintro t' ⟨⟩; rfl⟩))
        | 4, ho =>
          obtain rfl := Option.some.inj ho
          have h8 := given_old hg 8 (by decide +kernel)
          clear hg
          have n5 : done 5 = false := by cases h : done 5 with | false => rfl | true => have := hsh 5 4 h (by decide +kernel); rw [hnot] at this; cases this
          obtain rfl := hI.1 n5
          exact st_list ho (wanted_none rfl) fun Q' hQ => wpList_load_mid rfl 78 (.tmp 8) rfl q 0 (by simp [Act.eval, h8]) E _ RE.out Tryz.underlying78 rfl LE.out (wpList_nil (hQ _ _ ⟨_, rfl, hI.keep (by decide) (by decide), fun t u _ h => VIn_any d z U E t _ _ u h, by rintro t' ⟨⟩; rfl⟩))
        | 5, ho =>
          obtain rfl := Option.some.inj ho
          have h8 := given_old hg 8 (by decide +kernel)
          obtain ⟨_, h47, rfl⟩ := given_fed hg 47 (by decide +kernel)
          clear hg
          have n7 : done 7 = false := by cases h : done 7 with | false => rfl | true => have := hsh 7 5 h (by decide +kernel); rw [hnot] at this; cases this
          obtain rfl := hI.1 hnot
          exact st_list ho (wanted_none rfl) fun Q' hQ => wpList_store_mid rfl 78 (.tmp 8) (.tmp 47) rfl q 0 U.toArray (by simp [Act.eval, h8]) (by simp [Act.eval, h47]) (by rw [SU.out]; exact THQ.out) (by rw [List.size_toArray]; exact LU.out) OU.out (wpList_nil (hQ _ _ ⟨_, rfl, I9.one _ n7, fun t u _ h => VIn_any d z U E t _ _ u h, by rintro t' ⟨⟩⟩))
        | 6, ho =>
          obtain rfl := Option.some.inj ho
          obtain ⟨_, h44, rfl⟩ := given_fed hg 44 (by decide +kernel)
          clear hg
          exact st_yield ho (wanted_none rfl) (.pointer (some ⟨d, z, none⟩)) w6 (by simp [execOp, Act.eval, h44, go_sem]) ⟨_, rfl, hI.keep (by decide) (by decide), fun t u _ h => VIn_any d z U E t _ _ u h, by rintro t' ⟨⟩; rfl⟩
        | 7, ho =>
          obtain rfl := Option.some.inj ho
          obtain ⟨_, h49, rfl⟩ := given_fed hg 49 (by decide +kernel)
          obtain ⟨_, h48, rfl⟩ := given_fed hg 48 (by decide +kernel)
          clear hg
          have n5 := hr 5 (by decide +kernel)
          obtain rfl := hI.2.1 n5 hnot
          exact st_list ho (wanted_none rfl) fun Q' hQ => wpList_store_mid rfl 78 (.tmp 49) (.tmp 48) rfl d z E.toArray (by simp [Act.eval, h49]) (by simp [Act.eval, h48]) (by rw [SE.out]; exact THD.out) (by rw [List.size_toArray]; exact LE.out) OE.out (wpList_nil (hQ _ _ ⟨_, rfl, I9.two _ n5, fun t u _ h => VIn_any d z U E t _ _ u h, by rintro t' ⟨⟩⟩))
        | n + 8, ho => simp at ho
      · intro f w7 done hall hI hv
        have hw7 := hI.2.2 (hall 7 (by decide))
        subst hw7
        clear hv hall hI RU RE THQ THD LU LE OU OE SU SE
        unfold putAll
        simp only [List.foldl]
        go_simp
        go_wp2_with fail
        go_roundw
        case rel => exact ⟨k + 1, by omega, by go_num, HT6, Go.Lib.hid fun e => absurd e HNE.out⟩
        case measure => simp only [intOf]; omega
    · obtain rfl : k = W.length := by omega
      have HCK := Go.Lib.hid (show CK wr d (shiftT T (some (tx, i)) W).1 by have := HIN.out.ck; rwa [List.take_length] at this)
      have HOF := Go.Lib.hid (show Off1 d w wr from (Off1.of_below HB2.out).trans HIN.out.off)
      clear HIN hkl
      by_cases h0 : W.length = 0
      · have HE := Go.Lib.hid (List.eq_nil_of_length_eq_zero h0)
        have p1 : decide ((0 : Int) < (W.length : Int)) = false := decide_eq_false (by omega)
        have p2 : decide (0 < W.length) = false := decide_eq_false (by omega)
        clear h0
        go_wp2_with fail
        go_ret
        exact ⟨W, HW.out, .inl ⟨HE.out, rfl, HBE.out HE.out⟩⟩
      · have HE := Go.Lib.hid (show W ≠ [] by intro e; rw [e] at h0; exact h0 rfl)
        have p1 : decide ((0 : Int) < (W.length : Int)) = true := decide_eq_true (by omega)
        have p2 : decide (0 < W.length) = true := decide_eq_true (by omega)
        clear h0
        go_wp2_with fail
        go_ret
        exact ⟨W, HW.out, .inr ⟨HE.out, rfl, HCK.out, HOF.out⟩⟩

end Go.Proofs.YtkpbbjappndddaaGreat

namespace Go.Proofs.YtkpbbjappndddaaGreat
open Go.RowKit

theorem way_fits {T : SlT} {es : List EnT} (hf : Fits T es) {x : Nat} {i : Int} {W : List (Nat × Nat)} (h : WayOk T (firstN x) (othN (firstN x) (tagN x)) W) (hne : W ≠ []) : Fits (shiftT T (some (tagN x, i)) W).1 (es ++ [(x, i)]) := by
  rcases h with ⟨h, -⟩ | ⟨c, P, e, s, hc, rfl, h1, h2, h3, h4, h5, h6⟩
  · exact absurd h hne
  · refine shift_fits hf h1 h2 h3 h4 h5 h6 ?_
    unfold keyH
    rcases hc with rfl | rfl
    · rfl
    · exact keyN_oth _ (first_lt x)
section
variable {w : World} {d : Nat} {T : SlT} {es : List EnT}
theorem cinsert_yes (h : CK w d T) (hf : Fits T es) {x : Nat} {i : Int} (hx : x < 18446744073709551616) (hi : idOk i = true) (hr : roomB (es.map Prod.fst ++ [x]) = true) :
    Calls Tryz.prog 32 #[.pointer (some ⟨d, 0, none⟩), .int .u64 (x : Int), .int .i64 i] w fun e w' => e = .returned (.bool true) ∧ (∃ T', CK w' d T' ∧ Fits T' (es ++ [(x, i)])) ∧ Off1 d w w' := by
  refine (cinsert_w h hx hi).mono ?_
  rintro e w' ⟨W, hW, ⟨rfl, -, -⟩ | ⟨hne, rfl, hck, hoff⟩⟩
  · rcases hW with ⟨-, L, h1, h2⟩ | ⟨c, P, e, s, -, h0, -⟩
    · rw [stuck hf h1 h2] at hr
      cases hr
    · simp at h0
  · exact ⟨rfl, ⟨_, hck, way_fits hf hW hne⟩, hoff⟩
theorem cinsert_none (v : Option Addr) {x : Nat} {i : Int} (w : World) (hi : v = none ∨ idOk i = false) :
    Calls Tryz.prog 32 #[.pointer v, .int .u64 (x : Int), .int .i64 i] w fun e w' => e = .returned (.bool false) ∧ Below w.heap.size w w' := by
  have HB := Go.Lib.hid (Below.refl w.heap.size w)
  cases v with
  | none =>
    clear hi
    go_enter Tryz.func32, Tryz.ntmps32
    go_wp2_with fail
    go_ret
    exact ⟨rfl, HB.out⟩
  | some a =>
    have hi2 : idOk i = false := by
      rcases hi with h | h
      · cases h
      · exact h
    have MC := Go.Lib.hid (fun W => cmay_c i W)
    rw [hi2] at MC
    clear hi hi2
    go_enter Tryz.func32, Tryz.ntmps32
    go_wp2_with fail
    refine (MC.out _).mono ?_
    rintro e w1 ⟨rfl, rfl⟩
    go_wp2_with fail
    go_ret
    exact ⟨rfl, HB.out⟩
theorem cinsert_no (h : CK w d T) (hf : Fits T es) {x : Nat} {i : Int} (hx : x < 18446744073709551616) (_hw : (Lit.int .i64 i).wf = true) (hr : (idOk i && roomB (es.map Prod.fst ++ [x])) = false) :
    Calls Tryz.prog 32 #[.pointer (some ⟨d, 0, none⟩), .int .u64 (x : Int), .int .i64 i] w fun e w' => e = .returned (.bool false) ∧ Below w.heap.size w w' := by
  cases hi : idOk i with
  | false => exact cinsert_none _ w (.inr hi)
  | true =>
    rw [hi, Bool.true_and] at hr
    refine (cinsert_w h hx hi).mono ?_
    rintro e w' ⟨W, hW, ⟨rfl, rfl, hb⟩ | ⟨hne, -, -, -⟩⟩
    · exact ⟨rfl, hb⟩
    · have := room_of_fits (way_fits (i := i) hf hW hne)
      rw [List.map_append] at this
      exact absurd (this.symm.trans hr) (by simp)
end
theorem cnil_insert (x : Nat) (i : Int) (_hx : x < 18446744073709551616) (w : World) : Calls Tryz.prog 32 #[.pointer none, .int .u64 (x : Int), .int .i64 i] w fun e w' => e = .returned (.bool false) ∧ Below w.heap.size w w' := cinsert_none none w (.inl rfl)

end Go.Proofs.YtkpbbjappndddaaGreat

namespace Go.Proofs.YtkpbbjappndddaaGreat
open Go.RowKit

theorem row_kept {w w' : World} {b : Nat} {o : Obj} (h : w.heap[b]? = some o) (hb : Below w.heap.size w w') : w'.heap[b]? = some o := (hb.block _ (Array.getElem?_eq_some_iff.1 h).1).trans h
theorem row5 {w : World} {b : Nat} {a0 a1 a2 a3 a4 : Value} {t : TypeId} {fr : Nat × Nat} (h : w.heap[b]? = some (.cells #[a0, a1, a2, a3, a4] t fr)) :
    w.cell? ⟨b, 0, none⟩ = some a0 ∧ w.cell? ⟨b, 1, none⟩ = some a1 ∧ w.cell? ⟨b, 2, none⟩ = some a2 ∧ w.cell? ⟨b, 3, none⟩ = some a3 ∧ w.cell? ⟨b, 4, none⟩ = some a4 := by
  have c := fun j => cell_of_row w b j _ _ _ h
  exact ⟨c 0, c 1, c 2, c 3, c 4⟩
theorem row_lt {w : World} {b : Nat} {o : Obj} (h : w.heap[b]? = some o) : b < w.heap.size := (Array.getElem?_eq_some_iff.1 h).1
theorem RRec.below {w w' : World} {v : Value} {l : List RecT} (h : RRec w v l) (hb : Below w.heap.size w w') : RRec w' v l := by
  have h5 := h.rs.below hb
  obtain ⟨a, cap, hv, h1, h2, h3, h4, -⟩ := h
  subst hv
  obtain ⟨a', cap', e, -, -, -, h5⟩ := h5
  simp only [Value.slice.injEq] at e
  obtain ⟨rfl, -, rfl⟩ := e
  exact ⟨a, cap, rfl, h1, h2, h3, h4, h5⟩

end Go.Proofs.YtkpbbjappndddaaGreat

namespace Go.Proofs.YtkpbbjappndddaaGreat
open Go.RowKit

/-- Of the blocks that there were all but p, d, r are as they were. -/
structure Off3 (p d : Nat) (r : Option Nat) (w w' : World) : Prop where
  os : w'.os = w.os
  tape : w'.tape = w.tape
  output : w'.output = w.output
  size : w.heap.size ≤ w'.heap.size
  block : ∀ k, k < w.heap.size → k ≠ p → k ≠ d → some k ≠ r → w'.heap[k]? = w.heap[k]?
section
variable {p d : Nat} {r r1 : Option Nat} {w w1 w2 w' : World}
theorem Off3.of_below (h : Below w.heap.size w w') : Off3 p d r w w' := ⟨h.os, h.tape, h.output, h.size, fun k hk _ _ _ => h.block k hk⟩
theorem Off3.refl (p d : Nat) (r : Option Nat) (w : World) : Off3 p d r w w := .of_below (Below.refl _ _)
theorem Off3.trans (h : Off3 p d r w w1) (k : Off3 p d r1 w1 w2) (hr : r1 = r ∨ ∀ g, r1 = some g → w.heap.size ≤ g) : Off3 p d r w w2 :=
  ⟨k.os.trans h.os, k.tape.trans h.tape, k.output.trans h.output, Nat.le_trans h.size k.size, fun i hi h1 h2 h3 => (k.block i (Nat.lt_of_lt_of_le hi h.size) h1 h2 (by
    rcases hr with rfl | hr
    · exact h3
    · intro e
      have := hr i e.symm
      omega)).trans (h.block i hi h1 h2 h3)⟩
theorem Off3.above (h : Off3 p d r w w1) (k : Below w1.heap.size w1 w2) : Off3 p d r w w2 := h.trans (r1 := r) (Off3.of_below k) (.inl rfl)
theorem Off3.of_off1 (h : Off1 d w w') : Off3 p d r w w' := ⟨h.os, h.tape, h.output, h.size, fun k hk _ h2 _ => h.block k hk h2⟩
theorem Off3.below {B : Nat} (h : Off3 p d r w w') (hp : B ≤ p) (hd : B ≤ d) (hr : ∀ g, r = some g → B ≤ g) (hB : B ≤ w.heap.size) : Below B w w' :=
  ⟨h.os, h.tape, h.output, h.size, fun k hk => h.block k (by omega) (by omega) (by omega) (by intro e; have := hr k e.symm; omega)⟩
end

/-- Block p is a log of the records L: block d is its directory, v the row of its records; all from block B on. -/
structure LG (w : World) (B p d : Nat) (v : Value) (L : List RecT) : Prop where
  bp : B ≤ p
  bd : B ≤ d
  row : w.heap[p]? = some (.cells #[.pointer (some ⟨d, 0, none⟩), v] 54 (0, 0))
  ck : ∃ T, CK w d T ∧ Fits T (esL L)
  own : OwnRec w B v L
  keys : KeysOk L
  may : ∀ x ∈ L, mayT x = true

theorem tLogDir : 54 ≠ 82 := by decide
theorem tLogRec : 54 ≠ 33 := by decide
theorem tDirRec : 82 ≠ 33 := by decide

section
variable {w w' : World} {B p d : Nat} {v : Value} {L : List RecT}
theorem LG.plt (h : LG w B p d v L) : p < w.heap.size := (Array.getElem?_eq_some_iff.1 h.row).1
theorem LG.dlt (h : LG w B p d v L) : d < w.heap.size := by obtain ⟨T, hc, -⟩ := h.ck; exact hc.lt
theorem LG.vlt (h : LG w B p d v L) : ∀ g, v.ownBlock = some g → g < w.heap.size := fun g hg => (World.ownsRow.lt h.own g hg).2
theorem LG.vge (h : LG w B p d v L) : ∀ g, v.ownBlock = some g → B ≤ g := fun g hg => (World.ownsRow.lt h.own g hg).1
theorem LG.Ble (h : LG w B p d v L) : B ≤ w.heap.size := by have := h.bp; have := h.plt; omega
theorem LG.pd (h : LG w B p d v L) : p ≠ d := by
  rintro rfl
  obtain ⟨T, hc, -⟩ := h.ck
  obtain ⟨cs, fr, hr⟩ := hc.row
  rw [h.row] at hr
  simp only [Option.some.injEq, Obj.cells.injEq] at hr
  exact tLogDir hr.2.1
/-- A row of records has a block of its own type. -/
theorem rec_type {w : World} {B : Nat} {v : Value} {L : List RecT} (h : OwnRec w B v L) {g : Nat} (hg : v.ownBlock = some g) : ∃ cs fr, w.heap[g]? = some (.cells cs 33 fr) := by
  rcases h.2 with ⟨rfl, -⟩ | ⟨q, cap, cur, rfl, -, h2, -⟩
  · cases hg
  · cases hg
    exact ⟨_, _, h2⟩
theorem own_same {w w' : World} {B : Nat} {v : Value} {L : List RecT} (h : OwnRec w B v L) (hs : ∀ g cs fr, w.heap[g]? = some (.cells cs 33 fr) → v.ownBlock = some g → w'.heap[g]? = w.heap[g]?) : OwnRec w' B v L := by
  refine ⟨h.1, ?_⟩
  rcases h.2 with h' | ⟨q, cap, cur, rfl, hB, h2, h3⟩
  · exact .inl h'
  · exact .inr ⟨q, cap, cur, rfl, hB, (hs q _ _ h2 rfl).trans h2, h3⟩
theorem LG.pv (h : LG w B p d v L) : v.ownBlock ≠ some p := by
  intro e
  obtain ⟨cs, fr, hr⟩ := rec_type h.own e
  rw [h.row] at hr
  simp only [Option.some.injEq, Obj.cells.injEq] at hr
  exact tLogRec hr.2.1
theorem LG.dv (h : LG w B p d v L) : v.ownBlock ≠ some d := by
  intro e
  obtain ⟨cs, fr, hr⟩ := rec_type h.own e
  obtain ⟨T, hc, -⟩ := h.ck
  obtain ⟨cs2, fr2, hr2⟩ := hc.row
  rw [hr2] at hr
  simp only [Option.some.injEq, Obj.cells.injEq] at hr
  exact tDirRec hr.2.1
theorem LG.same (h : LG w B p d v L) (h1 : w'.heap[p]? = w.heap[p]?) (h2 : w'.heap[d]? = w.heap[d]?) (h3 : ∀ g, v.ownBlock = some g → w'.heap[g]? = w.heap[g]?) : LG w' B p d v L := by
  obtain ⟨T, hc, hf⟩ := h.ck
  exact ⟨h.bp, h.bd, h1.trans h.row, ⟨T, hc.same h2, hf⟩, own_same h.own fun g _ _ _ hg => h3 g hg, h.keys, h.may⟩
theorem LG.below (h : LG w B p d v L) (hb : Below w.heap.size w w') : LG w' B p d v L := h.same (hb.block _ h.plt) (hb.block _ h.dlt) fun g hg => hb.block g (h.vlt g hg)
theorem LG.mono {B' : Nat} (h : LG w B p d v L) (hB : B' ≤ B) : LG w B' p d v L := ⟨Nat.le_trans hB h.bp, Nat.le_trans hB h.bd, h.row, h.ck, h.own.mono hB, h.keys, h.may⟩
/-- What a log's writes leave: another row of records. -/
theorem LG.keptRow (h : LG w B p d v L) (ho : Off3 p d v.ownBlock w w') {B' : Nat} {u : Value} {M : List RecT} (hu : OwnRec w B' u M) (hne : ∀ g, u.ownBlock = some g → v.ownBlock ≠ some g) : OwnRec w' B' u M :=
  own_same hu fun g cs fr hg hug => ho.block g (Array.getElem?_eq_some_iff.1 hg).1
    (by rintro rfl; rw [h.row] at hg; simp only [Option.some.injEq, Obj.cells.injEq] at hg; exact tLogRec hg.2.1)
    (by rintro rfl; obtain ⟨T, hc, -⟩ := h.ck; obtain ⟨cs2, fr2, hr2⟩ := hc.row; rw [hr2] at hg; simp only [Option.some.injEq, Obj.cells.injEq] at hg; exact tDirRec hg.2.1)
    (fun e => hne g hug e.symm)
theorem LG.offBelow (h : LG w B p d v L) (ho : Off3 p d v.ownBlock w w') : Below B w w' := ho.below h.bp h.bd h.vge h.Ble
theorem LG.cells (h : LG w B p d v L) : w.cell? ⟨p, 0, none⟩ = some (.pointer (some ⟨d, 0, none⟩)) ∧ w.cell? ⟨p, 1, none⟩ = some v := by
  have c := fun j => cell_of_row w p j _ _ _ h.row
  exact ⟨c 0, c 1⟩
theorem LG.len (h : LG w B p d v L) : L.length ≤ 32 := by
  obtain ⟨T, hc, hf⟩ := h.ck
  have h1 := hf.length
  rw [esL_len] at h1
  rw [← h1, ← cntT_all]
  exact cntT_le T 32
theorem LG.sizes (h : LG w B p d v L) {i : Nat} (hi : i < L.length) : L[i].1.size ≤ 16 ∧ L[i].2.2.2.2.size ≤ 24 := mayT_short (h.may _ (List.getElem_mem hi))
end

set_option maxRecDepth 100000 in
theorem lnew_c (w : World) : Calls Tryz.prog 9 #[] w fun e w' => ∃ p d, e = .returned (.pointer (some ⟨p, 0, none⟩)) ∧ LG w' w.heap.size p d (.slice none 0 0) [] ∧ Below w.heap.size w w' := by
  have C := Go.Lib.hid (cnew_c w)
  go_enter Tryz.func9, Tryz.ntmps9
  go_wp2_with fail
  refine C.out.mono ?_
  rintro e w1 ⟨d, rfl, hd, hck, hb⟩
  have hb2 := below_one w1 (.cells #[.pointer (some ⟨d, 0, none⟩), .slice none 0 0] 54)
  have hh := heap_alloc_new w1 (.cells #[.pointer (some ⟨d, 0, none⟩), .slice none 0 0] 54)
  have HG := Go.Lib.hid (show LG (w1.alloc (.cells #[.pointer (some ⟨d, 0, none⟩), .slice none 0 0] 54)) w.heap.size w1.heap.size d (.slice none 0 0) [] from
    ⟨hb.size, hd, hh, ⟨_, hck.below hb2, Fits.empty fun _ _ => rfl⟩, OwnRec.nil _ _, by simp [KeysOk], fun x hx => by cases hx⟩)
  have HB := Go.Lib.hid (hb.trans (hb2.mono hb.size))
  clear hb hb2 hh hck hd C
  go_wp2_with fail
  go_ret
  exact ⟨_, _, rfl, HG.out, HB.out⟩

set_option maxRecDepth 100000 in
theorem llen_c {w : World} {B p d : Nat} {v : Value} {L : List RecT} (h : LG w B p d v L) : Calls Tryz.prog 22 #[.pointer (some ⟨p, 0, none⟩)] w fun e w' => e = .returned (.int .i64 (L.length : Int)) ∧ w = w' := by
  obtain ⟨x0, x1⟩ := h.cells
  obtain ⟨a, cap, rfl, -⟩ := h.own.rs.form
  clear h
  go_enter Tryz.func22, Tryz.ntmps22
  go_wp2_with fail
  go_ret
  exact ⟨rfl, rfl⟩
set_option maxRecDepth 100000 in
theorem lnil_len (w : World) : Calls Tryz.prog 22 #[.pointer none] w fun e w' => e = .returned (.int .i64 0) ∧ w = w' := by
  go_enter Tryz.func22, Tryz.ntmps22
  go_wp2_with fail
  go_ret
  exact ⟨rfl, rfl⟩

end Go.Proofs.YtkpbbjappndddaaGreat

namespace Go.Proofs.YtkpbbjappndddaaGreat
open Go.RowKit

/-- The numbers that are found of a key, rising. -/
def idsR (L : List RecT) (key : ByteArray) : List Int := (((esL L).filter fun e => nearN (hashS key) e.1).map Prod.snd).mergeSort (fun a b => decide (a ≤ b))
theorem ids_of {L : List RecT} {key : ByteArray} {F : List Int} (h1 : F.Pairwise (· ≤ ·)) (h2 : F.Perm (((esL L).filter fun e => nearN (hashS key) e.1).map Prod.snd)) : F = idsR L key := by
  have h3 := List.pairwise_mergeSort (le := fun (a b : Int) => decide (a ≤ b)) (fun a b c h g => by simp at *; omega) (fun a b => by simp; omega) (((esL L).filter fun e => nearN (hashS key) e.1).map Prod.snd)
  exact List.Perm.eq_of_pairwise (fun a b _ _ h g => by simp at *; omega) h1 (h3.imp fun h => by simpa using h) (h2.trans (List.mergeSort_perm _ _).symm)
theorem ids_mem {L : List RecT} {key : ByteArray} (z : Int) : z ∈ idsR L key ↔ ∃ i, ∃ h : i < L.length, z = (i : Int) ∧ nearN (hashS key) (hR L[i]) = true := near_mem (List.mergeSort_perm _ _) z
theorem ids_len (L : List RecT) (key : ByteArray) : (idsR L key).length = readsR L key := by
  unfold idsR
  rw [List.length_mergeSort, List.length_map, reads_len]
theorem ids_hit {L : List RecT} {key : ByteArray} {i : Nat} (hi : i < L.length) (hk : L[i].1 = key) : (i : Int) ∈ idsR L key := by
  rw [ids_mem]
  refine ⟨i, hi, rfl, ?_⟩
  unfold hR
  rw [hk]
  exact near_self _
/-- The directory finds, of a log's key, these numbers. -/
theorem lids_c {w : World} {B p d : Nat} {v : Value} {L : List RecT} (h : LG w B p d v L) (key : ByteArray) : Calls Tryz.prog 35 #[.pointer (some ⟨d, 0, none⟩), .int .u64 (hashS key : Int)] w fun e w' => ∃ u, e = .returned u ∧ KI.R w' u (idsR L key) ∧ Below w.heap.size w w' := by
  obtain ⟨T, hc, hf⟩ := h.ck
  have hl := h.len
  refine (cfind_c hc hf (hashS_lt key) (by rw [esL_len]; omega)).mono ?_
  rintro e w' ⟨u, F, rfl, ho, h1, h2, hb⟩
  rw [ids_of h1 h2] at ho
  exact ⟨u, rfl, ho.r, hb⟩

def VLf (p d hk : Nat) (key : ByteArray) (F : List Int) : Nat → World → Value → Prop
  | 7, _, v => v = .pointer (some ⟨p, 0, none⟩)
  | 8, _, v => v = .pointer (some ⟨p, 0, none⟩)
  | 9, _, v => v = .pointer (some ⟨p, 0, none⟩)
  | 10, _, v => v = .pointer (some ⟨d, 0, none⟩)
  | 11, _, v => v = .string key
  | 12, _, v => v = .int .u64 (hk : Int)
  | 13, w, v => KI.R w v F
  | 14, _, v => v = .int .i64 (F.length : Int)
  | 15, _, v => v = .int .i64 0
  | _, _, _ => True

theorem VLf_below (p d hk : Nat) (key : ByteArray) (F : List Int) : ∀ (i : Nat) (w w' : World) (v : Value), VLf p d hk key F i w v → Below w.heap.size w w' → VLf p d hk key F i w' v := by
  intro i w w' v h hb
  unfold VLf at h ⊢
  split at h <;> first | exact h | trivial | exact Lay.R.below h hb

set_option maxHeartbeats 2000000 in
set_option maxRecDepth 100000 in
theorem lfind_c {w : World} {B p d : Nat} {v : Value} {L : List RecT} (h : LG w B p d v L) (key : ByteArray) (hk : key.size ≤ 1000000) :
    Calls Tryz.prog 30 #[.pointer (some ⟨p, 0, none⟩), .string key] w fun e w' => ((∃ i, ∃ h : i < L.length, L[i].1 = key ∧ e = .returned (.int .i64 (i : Int))) ∨ ((∀ x ∈ L, x.1 ≠ key) ∧ e = .returned (.int .i64 (-1)))) ∧ Below w.heap.size w w' := by
  have CH := Go.Lib.hid fun W => hof_k key (hashS key) rfl W hk
  have CF := Go.Lib.hid fun W (hb : Below w.heap.size w W) => lids_c (h.below hb) key
  have X0 := Go.Lib.hid h.cells.1
  have X1 := Go.Lib.hid h.cells.2
  obtain ⟨a, cap, rfl, hm⟩ := h.own.rs.form
  have HR := Go.Lib.hid h.own.rs
  have HM := Go.Lib.hid fun z => (ids_mem (L := L) (key := key) z).1
  have HH := Go.Lib.hid fun i (hi : i < L.length) (hk : L[i].1 = key) => ids_hit hi hk
  have HN := Go.Lib.hid h.len
  clear h hk
  generalize idsR L key = F at *
  generalize hashS key = hk at *
  go_enter Tryz.func30, Tryz.ntmps30
  go_upto_region 1 with (fail)
  refine wp_region_each (by kernel_rfl) (VLf p d hk key F) (VLf_below p d hk key F) (by decide +kernel) (by decide +kernel) (by rfl) [7, 8, 9, 10, 11, 12, 13, 14, 15] (by rfl) ?_ ?_
  · intro i o ho a w6 hb6 hlen hg
    have x0 := keepC X0.out hb6
    match i, ho with
    | 0, ho =>
      obtain rfl := Option.some.inj ho
      have h0 := given_old hg 0 (by decide +kernel)
      clear hg
      exact st_yield ho (wanted_none rfl) (.pointer (some ⟨p, 0, none⟩)) w6 (by simp [execOp, Act.eval, h0, go_sem]) ⟨_, rfl, Below.refl _ _, by rintro t' ⟨⟩; rfl⟩
    | 1, ho =>
      obtain rfl := Option.some.inj ho
      obtain ⟨_, h7, rfl⟩ := given_fed hg 7 (by decide +kernel)
      clear hg
      exact st_yield ho (wanted_none rfl) (.pointer (some ⟨p, 0, none⟩)) w6 (by simp [execOp, Act.eval, h7, go_sem]) ⟨_, rfl, Below.refl _ _, by rintro t' ⟨⟩; rfl⟩
    | 2, ho =>
      obtain rfl := Option.some.inj ho
      obtain ⟨_, h8, rfl⟩ := given_fed hg 8 (by decide +kernel)
      clear hg
      exact st_yield ho (wanted_none rfl) (.pointer (some ⟨p, 0, none⟩)) w6 (by simp [execOp, Act.eval, h8, go_sem]) ⟨_, rfl, Below.refl _ _, by rintro t' ⟨⟩; rfl⟩
    | 3, ho =>
      obtain rfl := Option.some.inj ho
      obtain ⟨_, h9, rfl⟩ := given_fed hg 9 (by decide +kernel)
      clear hg
      exact st_yield ho (wanted_none rfl) (.pointer (some ⟨d, 0, none⟩)) w6 (by simp [execOp, Act.eval, h9, go_sem, x0]) ⟨_, rfl, Below.refl _ _, by rintro t' ⟨⟩; rfl⟩
    | 4, ho =>
      obtain rfl := Option.some.inj ho
      have h1 := given_old hg 1 (by decide +kernel)
      clear hg
      exact st_yield ho (wanted_none rfl) (.string key) w6 (by simp [execOp, Act.eval, h1, go_sem]) ⟨_, rfl, Below.refl _ _, by rintro t' ⟨⟩; rfl⟩
    | 5, ho =>
      obtain rfl := Option.some.inj ho
      obtain ⟨_, h11, rfl⟩ := given_fed hg 11 (by decide +kernel)
      clear hg
      exact st_enter (w1 := w6) ho (wanted_none rfl) 33 #[.string key] (by simp [execOp, Act.eval, h11, resolve, go_sem]) ((CH.out _).mono (by rintro e w7 ⟨rfl, hb7⟩; exact ⟨_, rfl, _, rfl, hb7, by rintro t' ⟨⟩; rfl⟩))
    | 6, ho =>
      obtain rfl := Option.some.inj ho
      obtain ⟨_, h10, rfl⟩ := given_fed hg 10 (by decide +kernel)
      obtain ⟨_, h12, rfl⟩ := given_fed hg 12 (by decide +kernel)
      clear hg
      exact st_enter (w1 := w6) ho (wanted_none rfl) 35 #[.pointer (some ⟨d, 0, none⟩), .int .u64 (hk : Int)] (by simp [execOp, Act.eval, h10, h12, resolve, go_sem]) ((CF.out w6 hb6).mono (by rintro e w7 ⟨v', rfl, hown, hb7⟩; exact ⟨v', rfl, _, rfl, hb7, by rintro t' ⟨⟩; exact hown⟩))
    | 7, ho =>
      obtain rfl := Option.some.inj ho
      obtain ⟨v13, h13, p13⟩ := given_fed hg 13 (by decide +kernel)
      clear hg
      obtain ⟨a, cap, rfl, -⟩ := p13.form
      exact st_yield ho (wanted_none rfl) (.int .i64 (F.length : Int)) w6 (by simp [execOp, Act.eval, h13, resolve, go_sem]) ⟨_, rfl, Below.refl _ _, by rintro t' ⟨⟩; rfl⟩
    | 8, ho =>
      obtain rfl := Option.some.inj ho
      clear hg
      exact st_yield ho (wanted_none rfl) (.int .i64 0) w6 (by simp [execOp, Act.eval, go_sem]) ⟨_, rfl, Below.refl _ _, by rintro t' ⟨⟩; rfl⟩
    | n + 9, ho => simp at ho
  · intro f w6 hb6 hv
    have h13 := hv 13 (by decide)
    have h14 := hv 14 (by decide)
    have h15 := hv 15 (by decide)
    simp only [VLf] at h13 h14 h15
    obtain ⟨g, cg, hf13, hmF⟩ := h13.form
    rw [hf13] at h13
    have HF := Go.Lib.hid h13
    have HB6 := Go.Lib.hid hb6
    clear hv h13 CF CH
    unfold putAll
    simp only [List.foldl]
    simp only [hf13, h14, h15]
    go_simp
    clear hf13 h14 h15 hb6
    go_wp2_with fail
    go_loopw [6, 15] (fun _ ki wr => ∃ k : Nat, k ≤ F.length ∧ ki = .int .i64 (k : Int) ∧ Hid (∀ j (hj : j < F.length), j < k → ∀ i (hi : i < L.length), F[j] = (i : Int) → L[i].1 ≠ key) ∧ Hid (Below w6.heap.size w6 wr)) (fun _ ki _ => F.length - (intOf ki).toNat)
    case atStart => exact ⟨0, by omega, rfl, Go.Lib.hid fun j hj h => absurd h (by omega), Go.Lib.hid (Below.refl _ _)⟩
    case round =>
      obtain ⟨k, hk2, rfl, HNO, HB⟩ := hrel
      by_cases hlt : k < F.length
      · obtain ⟨b, o, rfl, -, -, c0⟩ := KI.at' (HF.out.below HB.out) k hlt
        have hix := idxI b o F.length cg k hlt
        obtain ⟨i, hi, hz, -⟩ := HM.out _ (List.getElem_mem hlt)
        have HBW := Go.Lib.hid (HB6.out.trans (HB.out.mono HB6.out.size))
        obtain ⟨b2, o2, rfl, -, -, d0, -⟩ := (HR.out.below HBW.out).at i hi
        have x1 := keepC X1.out HBW.out
        have hix2 := run_idx5 b2 o2 L.length cap i hi
        have HST := Go.Lib.hid (show L[i].1 ≠ key → ∀ j (hj : j < F.length), j < k + 1 → ∀ i (hi : i < L.length), F[j] = (i : Int) → L[i].1 ≠ key from fun hne j hj hjk i' hi' he => by
          rcases Nat.lt_or_ge j k with h | h
          · exact HNO.out j hj h i' hi' he
          · obtain rfl : j = k := by omega
            rw [hz] at he
            obtain rfl : i = i' := by omega
            exact hne)
        rw [hz] at c0
        have HYES := Go.Lib.hid (fun (hy : L[i].1 = key) => show ∃ i', ∃ h : i' < L.length, L[i'].1 = key ∧ (i : Int) = (i' : Int) from ⟨i, hi, hy, rfl⟩)
        have HZ := Go.Lib.hid hz
        clear hz HNO
        generalize hx : L[i].1 = kx at *
        by_cases hq : kx.toList = key.toList
        · have HY := Go.Lib.hid (HYES.out (ByteArray.ext (Array.toList_inj.1 (by rw [← ByteArray.toList_eq, ← ByteArray.toList_eq]; exact hq))))
          have hqb : (kx.toList == key.toList) = true := beq_iff_eq.2 hq
          go_wp2_with fail
          go_ret
          obtain ⟨i', h1, h2, h3⟩ := HY.out
          exact ⟨.inl ⟨i', h1, h2, by rw [h3]; rfl⟩, HBW.out⟩
        · have HS := Go.Lib.hid (HST.out (fun e => hq (by rw [e])))
          have hqb : (kx.toList == key.toList) = false := beq_eq_false_iff_ne.2 hq
          go_wp2_with fail
          exact ⟨⟨k + 1, by omega, by go_num, HS, HB⟩, by simp only [intOf]; omega⟩
      · obtain rfl : k = F.length := by omega
        have HNN := Go.Lib.hid (show ∀ x ∈ L, x.1 ≠ key from fun x hx e => by
          obtain ⟨i, hi, rfl⟩ := List.getElem_of_mem hx
          obtain ⟨j, hj, hjz⟩ := List.getElem_of_mem (HH.out i hi e)
          exact HNO.out j hj hj i hi hjz e)
        have HBW := Go.Lib.hid (HB6.out.trans (HB.out.mono HB6.out.size))
        go_wp2_with fail
        go_ret
        exact ⟨.inr ⟨HNN.out, rfl⟩, HBW.out⟩

end Go.Proofs.YtkpbbjappndddaaGreat

namespace Go.Proofs.YtkpbbjappndddaaGreat
open Go.RowKit

/-- What a value holds. -/
inductive VI where
  | none
  | num (n : Int)
  | text (s : ByteArray)
def VI.v : VI → Value
  | .none => .nilIface
  | .num n => .iface 124 (.int .i64 n)
  | .text s => .iface 125 (.string s)
def VI.val (x : VI) : Value := .agg #[x.v]
def VI.k : VI → Int
  | .none => 0
  | .num _ => 1
  | .text _ => 2
def VI.n : VI → Int
  | .num n => n
  | _ => 0
def VI.s : VI → ByteArray
  | .text s => s
  | _ => ⟨#[]⟩
def VI.isN : VI → Bool
  | .num _ => true
  | _ => false
def VI.isT : VI → Bool
  | .text _ => true
  | _ => false
def ofR (k n : Int) (s : ByteArray) : VI := if mayR k n s then (if k = 1 then .num n else .text s) else .none

end Go.Proofs.YtkpbbjappndddaaGreat

namespace Go.Proofs.YtkpbbjappndddaaGreat
open Go.RowKit

/-- Does t begin with p? -/
theorem prefix_eq (s t : ByteArray) : ((s.extract 0 t.size).toList == t.toList) = (bl t).isPrefixOf (bl s) := by
  rw [Bool.eq_iff_iff, beq_iff_eq, List.isPrefixOf_iff_prefix, List.prefix_iff_eq_take, ByteArray.toList_eq, ByteArray.toList_eq, Go.Lib.extract_data]
  unfold bl
  rw [← Go.Lib.size_eq]
  simp
  exact eq_comm

set_option maxRecDepth 100000 in
theorem lprefix_c (s t : ByteArray) (w : World) (_hm : s.size ≤ maxLen) :
    Calls Tryz.prog 110 #[.string s, .string t] w fun e w' => e = .returned (.bool ((bl t).isPrefixOf (bl s))) ∧ w = w' := by
  have hm := _hm
  unfold maxLen at hm
  by_cases h : t.size ≤ s.size
  · have hp := Go.Lib.hid (prefix_eq s t)
    go_enter Tryz.func110, Tryz.ntmps110
    go_wp2
    go_ret
    exact ⟨ret_of (congrArg Value.bool hp.out), rfl⟩
  · have hp : (bl t).isPrefixOf (bl s) = false := by
      cases hx : (bl t).isPrefixOf (bl s) with
      | false => rfl
      | true =>
        rw [List.isPrefixOf_iff_prefix] at hx
        have := hx.length_le
        rw [← bl_size, ← bl_size] at this
        exact absurd this h
    have hp := Go.Lib.hid hp
    go_enter Tryz.func110, Tryz.ntmps110
    go_wp2
    go_ret
    exact ⟨ret_of (congrArg Value.bool hp.out.symm), rfl⟩

theorem prefix_c (s t : ByteArray) (w : World) (hm : s.size ≤ maxLen) :
    Calls Tryz.prog 104 #[.string s, .string t] w fun e w' => e = .returned (.bool ((bl t).isPrefixOf (bl s))) ∧ w = w' := by
  have C := Go.Lib.hid (lprefix_c s t w hm)
  go_enter Tryz.func104, Tryz.ntmps104
  go_wp2_with (refine C.out.mono ?_; rintro e w1 ⟨rfl, rfl⟩)
  go_ret
  exact ⟨rfl, rfl⟩

end Go.Proofs.YtkpbbjappndddaaGreat

namespace Go.Proofs.YtkpbbjappndddaaGreat
open Go.RowKit

set_option maxRecDepth 100000 in
theorem valid_c (s : ByteArray) (w : World) (hm : s.size ≤ 1000000000) :
    Calls Tryz.prog 88 #[.string s] w fun e w' => e = .returned (.bool (wellB (toks (bl s)))) ∧ Below w.heap.size w w' := by
  have hl1 := toks_length (bl s)
  rw [← bl_size] at hl1
  obtain ⟨T, hT⟩ : ∃ T, T = (toks (bl s)).length := ⟨_, rfl⟩
  rw [← hT] at hl1
  have HT := Go.Lib.hid hT; clear hT
  go_enter Tryz.func88, Tryz.ntmps88
  go_wp2
  go_loopw [2] (fun _ wr => ∃ n : Nat, n ≤ T ∧ Hid (wellB ((toks (bl s)).take n) = true) ∧ wr.heap[w.heap.size]? = some (.stringIter s (posOf (bl s) n)) ∧ Below w.heap.size w wr) (fun _ wr => s.size - wr.iterPos w.heap.size)
  case atStart => exact ⟨0, by omega, rfl, World.iter_heap w s 0, (Below.refl _ w).alloc (Nat.le_refl _) _⟩
  case round =>
    obtain ⟨n, hn, hwell, hit, hbw⟩ := hrel
    by_cases hlt : n < T
    · have hT' : n < (toks (bl s)).length := by rw [← HT.out]; exact hlt
      obtain ⟨p1, p2, p3, p4⟩ := next_some s n hT'
      have hnx : ∀ ty, (Instr.next (.pointer (some ⟨w.heap.size, 0, none⟩)) true ty).run Tryz.prog wr = _ := fun ty => Go.Lib.run_next_any_at wr w.heap.size s _ ty hit p1
      rw [p3] at hnx
      rw [p2] at hnx
      have hit2 := Go.Lib.iterAt_heap wr w.heap.size s _ (posOf (bl s) (n + 1)) hit
      have hbw2 := below_iter hbw (Nat.le_refl _) s (posOf (bl s) (n + 1))
      have hwt := well_take (bl s) n hT'
      rw [hwell.out, Bool.true_and] at hwt
      have hmeas : Hid (s.size - posOf (bl s) (n + 1) < s.size - wr.iterPos w.heap.size) := by
        have := posOf_lt_succ (bl s) n hT'
        simp only [Hid, World.iterPos, hit]
        omega
      have hne := drop_ne (bl s) n hT'
      have hwf := well_false (bl s) n hT'
      have HP := fun W => prefix_c (s.extract (posOf (bl s) n) s.size) ⟨#[239, 191, 189]⟩ W (by simp [maxLen]; omega)
      rw [drop_bl] at HP
      have hle : posOf (bl s) n ≤ s.size := by omega
      clear p1 p2 p3 p4 hit hbw hwell
      have hof := okB_false (l := (bl s).drop (posOf (bl s) n))
      have hod : okB ((bl s).drop (posOf (bl s) n)) = (enc (dr ((bl s).drop (posOf (bl s) n)))).isPrefixOf ((bl s).drop (posOf (bl s) n)) := rfl
      generalize hL : (bl s).drop (posOf (bl s) n) = L at *
      generalize posOf (bl s) n = p at *
      have HP' := Go.Lib.hid HP; clear HP
      have Hwt := Go.Lib.hid hwt; clear hwt
      have Hwf := Go.Lib.hid hwf; clear hwf
      have Hod := Go.Lib.hid hod; clear hod
      have Hof := Go.Lib.hid hof; clear hof
      clear hL
      generalize wr.iterAt w.heap.size s (posOf (bl s) (n + 1)) = wi at hnx hit2 hbw2
      by_cases hr : dr L = 65533
      · rw [hr] at hnx
        have hpre : Hid ((bl ⟨#[239, 191, 189]⟩).isPrefixOf L = okB L) := by
          unfold Hid
          rw [Hod.out, hr, enc_bad]
          rfl
        cases ho : okB L with
        | true =>
          rw [ho] at hpre
          go_wp2_with (refine (HP'.out _).mono ?_; rintro e w1 ⟨rfl, rfl⟩; rw [hpre.out])
          go_roundw
          case rel => exact ⟨n + 1, by omega, Hwt.out.trans ho, hit2, hbw2⟩
          case measure => simp only [World.iterPos, hit2]; exact hmeas.out
        | false =>
          rw [ho] at hpre
          go_wp2_with (refine (HP'.out _).mono ?_; rintro e w1 ⟨rfl, rfl⟩; rw [hpre.out])
          go_ret
          exact ⟨ret_of (congrArg Value.bool (Hwf.out ho).symm), hbw2⟩
      · have ho : okB L = true := by
          cases ho : okB L with
          | true => rfl
          | false => exact absurd (Hof.out ho hne).1 hr
        have hr2 : ((dr L : Int) == 65533) = false := by
          rw [beq_eq_false_iff_ne]; omega
        generalize dr L = r at hnx hr2
        clear hr
        go_wp2
        go_roundw
        case rel => exact ⟨n + 1, by omega, Hwt.out.trans ho, hit2, hbw2⟩
        case measure => simp only [World.iterPos, hit2]; exact hmeas.out
    · have hend : ¬ posOf (bl s) n < s.size := by
        rw [posOf_all (bl s) n (by rw [← HT.out]; omega), bl_size]
        exact Nat.lt_irrefl _
      have hnx : ∀ ty, (Instr.next (.pointer (some ⟨w.heap.size, 0, none⟩)) true ty).run Tryz.prog wr = _ := fun ty => Go.Lib.run_next_end_at wr w.heap.size s _ ty hit hend
      have hall : Hid (wellB (toks (bl s)) = true) := by
        have := hwell.out
        rwa [List.take_of_length_le (by rw [← HT.out]; omega)] at this
      clear hend
      go_wp2
      go_ret
      exact ⟨ret_of (congrArg Value.bool hall.out.symm), hbw⟩

end Go.Proofs.YtkpbbjappndddaaGreat
