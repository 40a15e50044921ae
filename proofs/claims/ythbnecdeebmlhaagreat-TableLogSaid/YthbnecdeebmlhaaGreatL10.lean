/-
  Stage 17: Insert.
  Package cuckoo, as the laws meet it.
  Stage 18: a *logstore.Log in memory; New, Len, the nil forms of what only reads.
  Stage 20: a *hashstore.Store in memory; the nil forms; Len.
  Package value: contracts of Put, of what may be.
  Package record: contract of Put.
  Stage 19: order.entry, Encode.
  The contract of rank.New.
  Records: contract of the reference's Read.
  Package value: contracts of getOf, Get.
-/
import Derived.Test.YthbnecdeebmlhaaGreatL09
import Derived.Test.YthbnecdeebmlhaaGreatL08
import Derived.Test.YthbnecdeebmlhaaGreatL04
import Derived.Test.YthbnecdeebmlhaaGreatL03
import Derived.Test.YthbnecdeebmlhaaGreatL07
import Derived.Test.YthbnecdeebmlhaaGreatL05
import Derived.Test.YthbnecdeebmlhaaGreatL02
import Derived.Test.YthbnecdeebmlhaaGreatL06
import Derived.Deep.DeepMust
namespace Go.Proofs.YthbnecdeebmlhaaGreat
open Go.RowKit

/-- Within Insert's loop: the first k slots of the way are done; what is held lies at block q. -/
structure InS (T : SlT) (x0 : Option (Nat × Int)) (d q : Nat) (W : List (Nat × Nat)) (k : Nat) (w2 wr : World) : Prop where
  ck : CK wr d (shiftT T x0 (W.take k)).1
  b0 : wr.cell? ⟨q, 0, none⟩ = some (.bool (hasO (shiftT T x0 (W.take k)).2))
  b1 : wr.cell? ⟨q, 1, none⟩ = some (.int .i64 (tagO (shiftT T x0 (W.take k)).2 : Int))
  b2 : wr.cell? ⟨q, 2, none⟩ = some (.int .i64 (idO (shiftT T x0 (W.take k)).2))
  bf : ∀ o, wr.frozen? ⟨q, o, none⟩ = false
  et : ∀ y, (shiftT T x0 (W.take k)).2 = some y → y.1 < 32768
  off : Off1 d w2 wr
  qd : q ≠ d
  qn : w2.heap.size ≤ q
section
variable {T : SlT} {x0 : Option (Nat × Int)} {d q : Nat} {W : List (Nat × Nat)} {k : Nat} {w2 wr wr' : World}
theorem frozen_block {w w' : World} {g : Nat} (h : w'.heap[g]? = w.heap[g]?) (o : Nat) : w'.frozen? ⟨g, o, none⟩ = w.frozen? ⟨g, o, none⟩ := by
  unfold World.frozen?
  simp only []
  rw [h]
theorem InS.qlt (h : InS T x0 d q W k w2 wr) : q < wr.heap.size := World.block_lt_of_cell? wr _ h.b0
theorem InS.below (h : InS T x0 d q W k w2 wr) (hb : Below wr.heap.size wr wr') : InS T x0 d q W k w2 wr' :=
  ⟨h.ck.below hb, (hb.cell (World.block_lt_of_cell? wr _ h.b0)).trans h.b0, (hb.cell (World.block_lt_of_cell? wr _ h.b1)).trans h.b1, (hb.cell (World.block_lt_of_cell? wr _ h.b2)).trans h.b2, fun o => (frozen_block (hb.block q h.qlt) o).trans (h.bf o), h.et, h.off.above hb, h.qd, h.qn⟩
/-- One slot further. -/
theorem InS.turn (h : InS T x0 d q W k w2 wr) (hk : k < W.length) (h1 : W[k].1 < 8) (h2 : W[k].2 < 4) :
    InS T x0 d q W (k + 1) w2 ((wr.setCells q 0 (encO ((shiftT T x0 (W.take k)).1 (4 * W[k].1 + W[k].2)))).setCells d (3 * (4 * W[k].1 + W[k].2)) (encO (shiftT T x0 (W.take k)).2)) := by
  have et : shiftT T x0 (W.take (k + 1)) = (layT (shiftT T x0 (W.take k)).1 (4 * W[k].1 + W[k].2) (shiftT T x0 (W.take k)).2, (shiftT T x0 (W.take k)).1 (4 * W[k].1 + W[k].2)) := by
    rw [List.take_succ_eq_append_getElem hk, shift_snoc]
  have hq : 4 * W[k].1 + W[k].2 < 32 := by omega
  generalize 4 * W[k].1 + W[k].2 = z at *
  have hck := h.ck
  have hb0 := h.b0
  have hb1 := h.b1
  have hb2 := h.b2
  have het := h.et
  generalize hS : shiftT T x0 (W.take k) = S at *
  obtain ⟨U, e⟩ := S
  simp only [] at hck hb0 hb1 hb2 het et ⊢
  have hsame : ∀ (vs : List Value) (w : World) (o k b : Nat), k ≠ b → (w.setCells b o vs).heap[k]? = w.heap[k]? := by
    intro vs
    induction vs with
    | nil => intro w o k b _; rfl
    | cons v r ih => intro w o k b hne; rw [World.setCells, ih _ _ _ _ hne]; exact Below.heap_setCell _ _ _ _ hne
  have hsz : ∀ (vs : List Value) (w : World) (o b : Nat), (w.setCells b o vs).heap.size = w.heap.size := by
    intro vs
    induction vs with
    | nil => intro w o b; rfl
    | cons v r ih => intro w o b; rw [World.setCells, ih]; simp [World.setCell]
  have hos : ∀ (vs : List Value) (w : World) (o b : Nat), (w.setCells b o vs).os = w.os ∧ (w.setCells b o vs).tape = w.tape ∧ (w.setCells b o vs).output = w.output := by
    intro vs
    induction vs with
    | nil => intro w o b; exact ⟨rfl, rfl, rfl⟩
    | cons v r ih => intro w o b; rw [World.setCells]; exact ih _ _ _
  have c1 : CK (wr.setCells q 0 (encO (U z))) d U := hck.same (hsame _ _ _ _ _ h.qd.symm)
  have c2 := c1.setSlot hq e het
  have hin : ∀ j (hj : j < 3), (wr.setCells q 0 (encO (U z))).cell? ⟨q, j, none⟩ = (encO (U z))[j]? := fun j hj => by
    have := World.cell?_setCells_in q (encO (U z)) 0 wr (fun i hi => by
      have hi3 : i < 3 := hi
      rcases (by omega : i = 0 ∨ i = 1 ∨ i = 2) with rfl | rfl | rfl
      · rw [Nat.zero_add, hb0]; rfl
      · rw [Nat.zero_add, hb1]; rfl
      · rw [Nat.zero_add, hb2]; rfl) j hj
    rw [Nat.zero_add] at this
    rw [this]
    exact (List.getElem?_eq_getElem hj).symm
  have hin2 : ∀ j (hj : j < 3), ((wr.setCells q 0 (encO (U z))).setCells d (3 * z) (encO e)).cell? ⟨q, j, none⟩ = (encO (U z))[j]? := fun j hj =>
    (World.cell?_setCells_out d (encO e) (3 * z) _ ⟨q, j, none⟩ (fun hb _ => absurd hb h.qd)).trans (hin j hj)
  refine ⟨by rw [et]; exact c2, by rw [et]; exact hin2 0 (by omega), by rw [et]; exact hin2 1 (by omega), by rw [et]; exact hin2 2 (by omega), fun o => by rw [World.frozen?_setCells, World.frozen?_setCells]; exact h.bf o, ?_, ?_, h.qd, h.qn⟩
  · rw [et]
    intro y hy
    exact (hck.tok z y hy).2
  · obtain ⟨a1, a2, a3⟩ := hos (encO (U z)) wr 0 q
    obtain ⟨e1, e2, e3⟩ := hos (encO e) (wr.setCells q 0 (encO (U z))) (3 * z) d
    exact ⟨(e1.trans a1).trans h.off.os, (e2.trans a2).trans h.off.tape, (e3.trans a3).trans h.off.output, by rw [hsz, hsz]; exact h.off.size, fun j hj hne => by
      rw [hsame _ _ _ _ _ hne, hsame _ _ _ _ _ (by have := h.qn; omega)]
      exact h.off.block j hj hne⟩
end

theorem encO_one (x : Option (Nat × Int)) : ∀ v ∈ encO x, v.oneCell' = true := by
  intro v hv
  simp only [encO, List.mem_cons, List.not_mem_nil, or_false] at hv
  rcases hv with rfl | rfl | rfl <;> rfl
/-- Within 'e, *at = *at, e'. -/
def I9 (wb : World) (q d z : Nat) (U E : List Value) (done : Nat → Bool) (_a : Act) (w : World) : Prop :=
  (done 5 = false → w = wb) ∧ (done 5 = true → done 7 = false → w = wb.setCells q 0 U) ∧ (done 7 = true → w = (wb.setCells q 0 U).setCells d z E)
theorem I9.start (wb : World) (q d z : Nat) (U E : List Value) (a : Act) : I9 wb q d z U E (fun _ => false) a wb := ⟨fun _ => rfl, fun h => absurd h (by simp), fun h => absurd h (by simp)⟩
theorem I9.one {wb : World} {q d z : Nat} {U E : List Value} {done : Nat → Bool} (a' : Act) (h7 : done 7 = false) : I9 wb q d z U E (doneToo done 5) a' (wb.setCells q 0 U) :=
  ⟨fun h => absurd ((doneToo_self done 5).symm.trans h) (by simp), fun _ _ => rfl, fun h => absurd ((doneToo_other (done := done) (i := 5) (j := 7) (by decide)).symm.trans h |>.symm.trans h7) (by simp)⟩
theorem I9.two {wb : World} {q d z : Nat} {U E : List Value} {done : Nat → Bool} (a' : Act) (h5 : done 5 = true) : I9 wb q d z U E (doneToo done 7) a' ((wb.setCells q 0 U).setCells d z E) :=
  ⟨fun h => absurd ((doneToo_other (done := done) (i := 7) (j := 5) (by decide)).symm.trans h |>.symm.trans h5) (by simp), fun _ h => absurd ((doneToo_self done 7).symm.trans h) (by simp), fun _ => rfl⟩
theorem I9.keep {wb : World} {q d z : Nat} {U E : List Value} {done : Nat → Bool} {a a' : Act} {w : World} (h : I9 wb q d z U E done a w) {i : Nat} (h5 : 5 ≠ i) (h7 : 7 ≠ i) : I9 wb q d z U E (doneToo done i) a' w := by
  unfold I9
  rw [doneToo_other h5, doneToo_other h7]
  exact h
def VIn (d z : Nat) (U E : List Value) : Nat → World → Value → Prop
  | 44, _, v => v = .pointer (some ⟨d, z, none⟩)
  | 45, _, v => v = .pointer (some ⟨d, z, none⟩)
  | 46, _, v => v = .pointer (some ⟨d, z, none⟩)
  | 47, _, v => v = .agg U.toArray
  | 48, _, v => v = .agg E.toArray
  | 49, _, v => v = .pointer (some ⟨d, z, none⟩)
  | _, _, _ => True

theorem VIn_any (d z : Nat) (U E : List Value) : ∀ (i : Nat) (w w' : World) (v : Value), VIn d z U E i w v → VIn d z U E i w' v := by
  intro i w w' v h
  unfold VIn at h ⊢
  split at h <;> first | exact h | trivial

set_option maxHeartbeats 4000000 in
set_option maxRecDepth 100000 in
theorem cinsert_w {w : World} {d : Nat} {T : SlT} (h : CK w d T) {x : Nat} {i : Int} (hx : x < 18446744073709551616) (hi : idOk i = true) :
    Calls Tryz.prog 58 #[.pointer (some ⟨d, 0, none⟩), .int .u64 (x : Int), .int .i64 i] w fun e w' => ∃ W, WayOk T (firstN x) (othN (firstN x) (tagN x)) W ∧ ((W = [] ∧ e = .returned (.bool false) ∧ Below w.heap.size w w') ∨ (W ≠ [] ∧ e = .returned (.bool true) ∧ CK w' d (shiftT T (some (tagN x, i)) W).1 ∧ Off1 d w w')) := by
  have HD := Go.Lib.hid fun W (hW : Below w.heap.size w W) => h.below hW
  have HDL := Go.Lib.hid h.lt
  have MC := Go.Lib.hid (fun W => cmay_c i W)
  rw [hi] at MC
  have PA := Go.Lib.hid fun W => cpair_c x W hx
  have TA := Go.Lib.hid fun W => htag_c x W hx
  have WC := Go.Lib.hid (cway_c h (a := firstN x) (b := othN (firstN x) (tagN x)) (first_lt x) (oth_lt _ (first_lt x)) (fun e => oth_ne (tagN x) (first_lt x) e.symm))
  have HTL := Go.Lib.hid (tag_lt x)
  clear h hx hi
  generalize othN (firstN x) (tagN x) = bo at *
  generalize firstN x = bf at *
  generalize tagN x = tx at *
  go_enter Tryz.func58, Tryz.ntmps58
  go_wp2_with fail
  refine (MC.out _).mono ?_
  rintro e w1 ⟨rfl, rfl⟩
  go_wp2_with fail
  refine (PA.out _).mono ?_
  rintro e w1 ⟨rfl, rfl⟩
  go_wp2_with fail
  refine WC.out.mono ?_
  rintro e w2 ⟨v, rfl, hb2, W, hO, hW⟩
  have HB2 := Go.Lib.hid hb2
  have HO := Go.Lib.hid hO
  have HW := Go.Lib.hid hW
  have HWL := Go.Lib.hid (fun (p : Nat × Nat) (hp : p ∈ W) => show p.1 < 8 ∧ p.2 < 4 from by
    rcases hW with ⟨rfl, -⟩ | ⟨c, P, e, s, -, rfl, h1, h2, -, h4, h5, -⟩
    · cases hp
    · rcases List.mem_append.1 hp with hp | hp
      · refine ⟨h5 p hp, ?_⟩
        exact chain_slot h4 p hp
      · rw [List.mem_singleton.1 hp]; exact ⟨h1, h2⟩)
  obtain ⟨a, cap, rfl, hlm⟩ := hO.r.form
  clear hb2 hO hW WC PA MC
  go_wp2_with fail
  refine (TA.out _).mono ?_
  rintro e w3 ⟨rfl, rfl⟩
  go_upto_region 5 with (fail)
  have hb3 := (Below.refl w2.heap.size w2).alloc (Nat.le_refl _) (.cells #[.bool true, .int .i64 (tx : Int), .int .i64 i] 139)
  have HIN0 := Go.Lib.hid (show InS T (some (tx, i)) d w2.heap.size W 0 w2 (w2.alloc (.cells #[.bool true, .int .i64 (tx : Int), .int .i64 i] 139)) from by
    have hg := heap_alloc_new w2 (.cells #[.bool true, .int .i64 (tx : Int), .int .i64 i] 139)
    have hc := fun o => cell_of_row _ _ o _ _ _ hg
    refine ⟨(HD.out w2 HB2.out).below hb3, by rw [hc]; rfl, by rw [hc]; rfl, by rw [hc]; rfl, fun o => frozen_of_row _ _ _ _ _ hg, fun y hy => by cases hy; exact HTL.out, Off1.of_below hb3, fun e => ?_, Nat.le_refl _⟩
    have := HDL.out
    have := HB2.out.size
    omega)
  have HOK := Go.Lib.hid (fun wr (hoff : Off1 d w2 wr) => show KP.R wr (.slice a W.length cap) W from
    (Lay.O.same HO.out (w' := wr) fun q qs hq hB _ => hoff.block q (Array.getElem?_eq_some_iff.1 hq).1 (by have := HDL.out; omega)).r)
  clear hb3
  obtain ⟨q, hq⟩ : ∃ q, q = w2.heap.size := ⟨_, rfl⟩
  rw [← hq] at HIN0 ⊢
  clear hq
  go_wp2_with fail
  go_loopw [31] (fun kv wr => ∃ k : Nat, k ≤ W.length ∧ kv = .int .i64 (k : Int) ∧ Hid (InS T (some (tx, i)) d q W k w2 wr) ∧ Hid (W = [] → Below w.heap.size w wr)) (fun kv _ => W.length - (intOf kv).toNat)
  case atStart => exact ⟨0, by omega, rfl, HIN0, Go.Lib.hid fun _ => HB2.out.alloc HB2.out.size _⟩
  case round =>
    obtain ⟨k, hk, rfl, HIN, HBE⟩ := hrel
    by_cases hkl : k < W.length
    · obtain ⟨b, o, rfl, -, hbs, c0, c1⟩ := KP.at' (HOK.out wr HIN.out.off) k hkl
      have hix := idxP b o W.length cap k hkl wr
      obtain ⟨hp1, hp2⟩ := HWL.out W[k] (List.getElem_mem hkl)
      have hb2 := (Below.refl wr.heap.size wr).alloc (Nat.le_refl _) (.cells #[.int .i64 (W[k].1 : Int), .int .i64 (W[k].2 : Int)] 149)
      have HIN2 := Go.Lib.hid (HIN.out.below hb2)
      have HTURN := Go.Lib.hid (fun w5 (h5 : InS T (some (tx, i)) d q W k w2 w5) => h5.turn hkl hp1 hp2)
      have HNE := Go.Lib.hid (show W ≠ [] by intro e; rw [e] at hkl; simp at hkl)
      have HG := Go.Lib.hid (heap_alloc_new wr (.cells #[.int .i64 (W[k].1 : Int), .int .i64 (W[k].2 : Int)] 149))
      clear hb2
      generalize W[k] = pj at *
      obtain ⟨pb, ps⟩ := pj
      simp only [] at c0 c1 hp1 hp2 HIN2 HTURN HG
      go_upto_region 8 with (fail)
      obtain ⟨p, hp⟩ : ∃ p, p = wr.heap.size := ⟨_, rfl⟩
      rw [← hp] at HG ⊢
      clear hp c0 c1 hix hbs HIN
      generalize wr.alloc (.cells #[.int .i64 (pb : Int), .int .i64 (ps : Int)] 149) = w3 at *
      have p0 : w3.cell? ⟨p, 0, none⟩ = some (.int .i64 (pb : Int)) := by rw [cell_of_row _ _ _ _ _ _ HG.out]; rfl
      have p1 : w3.cell? ⟨p, 1, none⟩ = some (.int .i64 (ps : Int)) := by rw [cell_of_row _ _ _ _ _ _ HG.out]; rfl
      have h1 := fun W => idxB d pb hp1 W
      have h2 := fun W => idxS d (12 * pb) ps hp2 W
      go_quiet (fail)
      have HIN5 := Go.Lib.hid (HIN2.out.below (below_drewN (Below.refl _ _) nq))
      clear HIN2 p0 p1 h1 h2 HG
      generalize w3.drewN nq = w5 at *
      have HIN6 := Go.Lib.hid (HIN5.out.below (wr' := w5.drew) (below_drewN (Below.refl _ _) 1))
      have HT6 := Go.Lib.hid (HTURN.out _ HIN6.out)
      have RU := Go.Lib.hid (HIN6.out.ck.rangeS (4 * pb + ps) (by omega))
      have RE := Go.Lib.hid (show w5.drew.rangeAt q 0 (encO (shiftT T (some (tx, i)) (W.take k)).2) from fun j v hv => by
        have hj : j < 3 := (List.getElem?_eq_some_iff.1 hv).1
        rw [Nat.zero_add]
        rcases (by omega : j = 0 ∨ j = 1 ∨ j = 2) with rfl | rfl | rfl
        · exact HIN6.out.b0.trans hv
        · exact HIN6.out.b1.trans hv
        · exact HIN6.out.b2.trans hv)
      have THQ := Go.Lib.hid (show w5.drew.there q 0 3 from fun j hj => by
        refine ⟨?_, HIN6.out.bf _⟩
        rw [Nat.zero_add]
        rcases (by omega : j = 0 ∨ j = 1 ∨ j = 2) with rfl | rfl | rfl
        · rw [HIN6.out.b0]; rfl
        · rw [HIN6.out.b1]; rfl
        · rw [HIN6.out.b2]; rfl)
      have THD := Go.Lib.hid (show (w5.drew.setCells q 0 (encO ((shiftT T (some (tx, i)) (W.take k)).1 (4 * pb + ps)))).there d (3 * (4 * pb + ps)) 3 from fun j hj => by
        rw [World.frozen?_setCells, World.cell?_setCells_out _ _ _ _ _ (fun hb _ => absurd hb HIN6.out.qd.symm), HIN6.out.ck.cell (4 * pb + ps) j (by omega) hj]
        refine ⟨?_, HIN6.out.ck.fr _⟩
        rw [List.getElem?_eq_getElem (show j < (encO ((shiftT T (some (tx, i)) (W.take k)).1 (4 * pb + ps))).length from hj)]
        rfl)
      have LU := Go.Lib.hid (show (Tryz.prog.info? 139).map (·.size) = some (encO ((shiftT T (some (tx, i)) (W.take k)).1 (4 * pb + ps))).length by kernel_rfl)
      have LE := Go.Lib.hid (show (Tryz.prog.info? 139).map (·.size) = some (encO (shiftT T (some (tx, i)) (W.take k)).2).length by kernel_rfl)
      have OU := Go.Lib.hid (show (encO ((shiftT T (some (tx, i)) (W.take k)).1 (4 * pb + ps))).toArray.all (·.oneCell') = true from all_oneCell_toArray (encO_one _))
      have OE := Go.Lib.hid (show (encO (shiftT T (some (tx, i)) (W.take k)).2).toArray.all (·.oneCell') = true from all_oneCell_toArray (encO_one _))
      have SU := Go.Lib.hid (show (encO ((shiftT T (some (tx, i)) (W.take k)).1 (4 * pb + ps))).toArray.size = 3 from rfl)
      have SE := Go.Lib.hid (show (encO (shiftT T (some (tx, i)) (W.take k)).2).toArray.size = 3 from rfl)
      rw [show 3 * (4 * pb + ps) = 12 * pb + 3 * ps by omega] at HT6 RU THD
      clear HIN5 HIN6 HTURN
      generalize encO ((shiftT T (some (tx, i)) (W.take k)).1 (4 * pb + ps)) = U at *
      generalize encO (shiftT T (some (tx, i)) (W.take k)).2 = E at *
      generalize 12 * pb + 3 * ps = z at *
      go_upto_region 9 with (fail)
      refine wp_region_inv3 (by kernel_rfl) (VIn d z U E) (I9 w5.drew q d z U E) (by decide +kernel) (by decide +kernel) (by rfl) [44, 45, 46, 47, 48, 49] (by rfl) (I9.start _ _ _ _ _ _ _) ?_ ?_
      · intro i o ho a w6 done hI hnot hr hsh hlen hg
        match i, ho with
        | 0, ho =>
          obtain rfl := Option.some.inj ho
          have h11 := given_old hg 11 (by decide +kernel)
          clear hg
          exact st_yield ho (wanted_none rfl) (.pointer (some ⟨d, z, none⟩)) w6 (by simp [execOp, Act.eval, h11, go_sem]) ⟨_, rfl, hI.keep (by decide) (by decide), fun t u _ h => VIn_any d z U E t _ _ u h, by rintro t' ⟨⟩; rfl⟩
        | 1, ho =>
          obtain rfl := Option.some.inj ho
          have h11 := given_old hg 11 (by decide +kernel)
          clear hg
          exact st_yield ho (wanted_none rfl) (.pointer (some ⟨d, z, none⟩)) w6 (by simp [execOp, Act.eval, h11, go_sem]) ⟨_, rfl, hI.keep (by decide) (by decide), fun t u _ h => VIn_any d z U E t _ _ u h, by rintro t' ⟨⟩; rfl⟩
        | 2, ho =>
          obtain rfl := Option.some.inj ho
          obtain ⟨_, h45, rfl⟩ := given_fed hg 45 (by decide +kernel)
          clear hg
          exact st_yield ho (wanted_none rfl) (.pointer (some ⟨d, z, none⟩)) w6 (by simp [execOp, Act.eval, h45, go_sem]) ⟨_, rfl, hI.keep (by decide) (by decide), fun t u _ h => VIn_any d z U E t _ _ u h, by rintro t' ⟨⟩; rfl⟩
        | 3, ho =>
          obtain rfl := Option.some.inj ho
          obtain ⟨_, h46, rfl⟩ := given_fed hg 46 (by decide +kernel)
          clear hg
          have n5 : done 5 = false := by cases h : done 5 with | false => rfl | true => have := hsh 5 3 h (by decide +kernel); rw [hnot] at this; cases this
          obtain rfl := hI.1 n5
          exact st_list ho (wanted_none rfl) fun Q' hQ => wpList_load_mid rfl 139 (.tmp 46) rfl d z (by simp [Act.eval, h46]) U _ RU.out Tryz.underlying139 rfl LU.out (wpList_nil (hQ _ _ ⟨_, rfl, hI.keep (by decide) (by decide), fun t u _ h => VIn_any d z U E t _ _ u h, by rintro t' ⟨⟩; rfl⟩))
        | 4, ho =>
          obtain rfl := Option.some.inj ho
          have h8 := given_old hg 8 (by decide +kernel)
          clear hg
          have n5 : done 5 = false := by cases h : done 5 with | false => rfl | true => have := hsh 5 4 h (by decide +kernel); rw [hnot] at this; cases this
          obtain rfl := hI.1 n5
          exact st_list ho (wanted_none rfl) fun Q' hQ => wpList_load_mid rfl 139 (.tmp 8) rfl q 0 (by simp [Act.eval, h8]) E _ RE.out Tryz.underlying139 rfl LE.out (wpList_nil (hQ _ _ ⟨_, rfl, hI.keep (by decide) (by decide), fun t u _ h => VIn_any d z U E t _ _ u h, by rintro t' ⟨⟩; rfl⟩))
        | 5, ho =>
          obtain rfl := Option.some.inj ho
          have h8 := given_old hg 8 (by decide +kernel)
          obtain ⟨_, h47, rfl⟩ := given_fed hg 47 (by decide +kernel)
          clear hg
          have n7 : done 7 = false := by cases h : done 7 with | false => rfl | true => have := hsh 7 5 h (by decide +kernel); rw [hnot] at this; cases this
          obtain rfl := hI.1 hnot
          exact st_list ho (wanted_none rfl) fun Q' hQ => wpList_store_mid rfl 139 (.tmp 8) (.tmp 47) rfl q 0 U.toArray (by simp [Act.eval, h8]) (by simp [Act.eval, h47]) (by rw [SU.out]; exact THQ.out) (by rw [List.size_toArray]; exact LU.out) OU.out (wpList_nil (hQ _ _ ⟨_, rfl, I9.one _ n7, fun t u _ h => VIn_any d z U E t _ _ u h, by rintro t' ⟨⟩⟩))
        | 6, ho =>
          obtain rfl := Option.some.inj ho
          obtain ⟨_, h44, rfl⟩ := given_fed hg 44 (by decide +kernel)
          clear hg
          exact st_yield ho (wanted_none rfl) (.pointer (some ⟨d, z, none⟩)) w6 (by simp [execOp, Act.eval, h44, go_sem]) ⟨_, rfl, hI.keep (by decide) (by decide), fun t u _ h => VIn_any d z U E t _ _ u h, by rintro t' ⟨⟩; rfl⟩
        | 7, ho =>
          obtain rfl := Option.some.inj ho
          obtain ⟨_, h49, rfl⟩ := given_fed hg 49 (by decide +kernel)
          obtain ⟨_, h48, rfl⟩ := given_fed hg 48 (by decide +kernel)
          clear hg
          have n5 := hr 5 (by decide +kernel)
          obtain rfl := hI.2.1 n5 hnot
          exact st_list ho (wanted_none rfl) fun Q' hQ => wpList_store_mid rfl 139 (.tmp 49) (.tmp 48) rfl d z E.toArray (by simp [Act.eval, h49]) (by simp [Act.eval, h48]) (by rw [SE.out]; exact THD.out) (by rw [List.size_toArray]; exact LE.out) OE.out (wpList_nil (hQ _ _ ⟨_, rfl, I9.two _ n5, fun t u _ h => VIn_any d z U E t _ _ u h, by rintro t' ⟨⟩⟩))
        | n + 8, ho => simp at ho
      · intro f w7 done hall hI hv
        have hw7 := hI.2.2 (hall 7 (by decide))
        subst hw7
        clear hv hall hI RU RE THQ THD LU LE OU OE SU SE
        unfold putAll
        simp only [List.foldl]
        go_simp
        go_wp2_with fail
        go_roundw
        case rel => exact ⟨k + 1, by omega, by go_num, HT6, Go.Lib.hid fun e => absurd e HNE.out⟩
        case measure => simp only [intOf]; omega
    · obtain rfl : k = W.length := by omega
      have HCK := Go.Lib.hid (show CK wr d (shiftT T (some (tx, i)) W).1 by have := HIN.out.ck; rwa [List.take_length] at this)
      have HOF := Go.Lib.hid (show Off1 d w wr from (Off1.of_below HB2.out).trans HIN.out.off)
      clear HIN hkl
      by_cases h0 : W.length = 0
      · have HE := Go.Lib.hid (List.eq_nil_of_length_eq_zero h0)
        have p1 : decide ((0 : Int) < (W.length : Int)) = false := decide_eq_false (by omega)
        have p2 : decide (0 < W.length) = false := decide_eq_false (by omega)
        clear h0
        go_wp2_with fail
        go_ret
        exact ⟨W, HW.out, .inl ⟨HE.out, rfl, HBE.out HE.out⟩⟩
      · have HE := Go.Lib.hid (show W ≠ [] by intro e; rw [e] at h0; exact h0 rfl)
        have p1 : decide ((0 : Int) < (W.length : Int)) = true := decide_eq_true (by omega)
        have p2 : decide (0 < W.length) = true := decide_eq_true (by omega)
        clear h0
        go_wp2_with fail
        go_ret
        exact ⟨W, HW.out, .inr ⟨HE.out, rfl, HCK.out, HOF.out⟩⟩

end Go.Proofs.YthbnecdeebmlhaaGreat

namespace Go.Proofs.YthbnecdeebmlhaaGreat
open Go.RowKit

theorem way_fits {T : SlT} {es : List EnT} (hf : Fits T es) {x : Nat} {i : Int} {W : List (Nat × Nat)} (h : WayOk T (firstN x) (othN (firstN x) (tagN x)) W) (hne : W ≠ []) : Fits (shiftT T (some (tagN x, i)) W).1 (es ++ [(x, i)]) := by
  rcases h with ⟨h, -⟩ | ⟨c, P, e, s, hc, rfl, h1, h2, h3, h4, h5, h6⟩
  · exact absurd h hne
  · refine shift_fits hf h1 h2 h3 h4 h5 h6 ?_
    unfold keyH
    rcases hc with rfl | rfl
    · rfl
    · exact keyN_oth _ (first_lt x)
section
variable {w : World} {d : Nat} {T : SlT} {es : List EnT}
theorem cinsert_yes (h : CK w d T) (hf : Fits T es) {x : Nat} {i : Int} (hx : x < 18446744073709551616) (hi : idOk i = true) (hr : roomB (es.map Prod.fst ++ [x]) = true) :
    Calls Tryz.prog 58 #[.pointer (some ⟨d, 0, none⟩), .int .u64 (x : Int), .int .i64 i] w fun e w' => e = .returned (.bool true) ∧ (∃ T', CK w' d T' ∧ Fits T' (es ++ [(x, i)])) ∧ Off1 d w w' := by
  refine (cinsert_w h hx hi).mono ?_
  rintro e w' ⟨W, hW, ⟨rfl, -, -⟩ | ⟨hne, rfl, hck, hoff⟩⟩
  · rcases hW with ⟨-, L, h1, h2⟩ | ⟨c, P, e, s, -, h0, -⟩
    · rw [stuck hf h1 h2] at hr
      cases hr
    · simp at h0
  · exact ⟨rfl, ⟨_, hck, way_fits hf hW hne⟩, hoff⟩
theorem cinsert_none (v : Option Addr) {x : Nat} {i : Int} (w : World) (hi : v = none ∨ idOk i = false) :
    Calls Tryz.prog 58 #[.pointer v, .int .u64 (x : Int), .int .i64 i] w fun e w' => e = .returned (.bool false) ∧ Below w.heap.size w w' := by
  have HB := Go.Lib.hid (Below.refl w.heap.size w)
  cases v with
  | none =>
    clear hi
    go_enter Tryz.func58, Tryz.ntmps58
    go_wp2_with fail
    go_ret
    exact ⟨rfl, HB.out⟩
  | some a =>
    have hi2 : idOk i = false := by
      rcases hi with h | h
      · cases h
      · exact h
    have MC := Go.Lib.hid (fun W => cmay_c i W)
    rw [hi2] at MC
    clear hi hi2
    go_enter Tryz.func58, Tryz.ntmps58
    go_wp2_with fail
    refine (MC.out _).mono ?_
    rintro e w1 ⟨rfl, rfl⟩
    go_wp2_with fail
    go_ret
    exact ⟨rfl, HB.out⟩
theorem cinsert_no (h : CK w d T) (hf : Fits T es) {x : Nat} {i : Int} (hx : x < 18446744073709551616) (_hw : (Lit.int .i64 i).wf = true) (hr : (idOk i && roomB (es.map Prod.fst ++ [x])) = false) :
    Calls Tryz.prog 58 #[.pointer (some ⟨d, 0, none⟩), .int .u64 (x : Int), .int .i64 i] w fun e w' => e = .returned (.bool false) ∧ Below w.heap.size w w' := by
  cases hi : idOk i with
  | false => exact cinsert_none _ w (.inr hi)
  | true =>
    rw [hi, Bool.true_and] at hr
    refine (cinsert_w h hx hi).mono ?_
    rintro e w' ⟨W, hW, ⟨rfl, rfl, hb⟩ | ⟨hne, -, -, -⟩⟩
    · exact ⟨rfl, hb⟩
    · have := room_of_fits (way_fits (i := i) hf hW hne)
      rw [List.map_append] at this
      exact absurd (this.symm.trans hr) (by simp)
end
end Go.Proofs.YthbnecdeebmlhaaGreat

namespace Go.Proofs.YthbnecdeebmlhaaGreat
open Go.RowKit

/-- Of the blocks that there were all but p, d, r are as they were. -/
structure Off3 (p d : Nat) (r : Option Nat) (w w' : World) : Prop where
  os : w'.os = w.os
  tape : w'.tape = w.tape
  output : w'.output = w.output
  size : w.heap.size ≤ w'.heap.size
  block : ∀ k, k < w.heap.size → k ≠ p → k ≠ d → some k ≠ r → w'.heap[k]? = w.heap[k]?
section
variable {p d : Nat} {r r1 : Option Nat} {w w1 w2 w' : World}
theorem Off3.of_below (h : Below w.heap.size w w') : Off3 p d r w w' := ⟨h.os, h.tape, h.output, h.size, fun k hk _ _ _ => h.block k hk⟩
theorem Off3.trans (h : Off3 p d r w w1) (k : Off3 p d r1 w1 w2) (hr : r1 = r ∨ ∀ g, r1 = some g → w.heap.size ≤ g) : Off3 p d r w w2 :=
  ⟨k.os.trans h.os, k.tape.trans h.tape, k.output.trans h.output, Nat.le_trans h.size k.size, fun i hi h1 h2 h3 => (k.block i (Nat.lt_of_lt_of_le hi h.size) h1 h2 (by
    rcases hr with rfl | hr
    · exact h3
    · intro e
      have := hr i e.symm
      omega)).trans (h.block i hi h1 h2 h3)⟩
theorem Off3.below {B : Nat} (h : Off3 p d r w w') (hp : B ≤ p) (hd : B ≤ d) (hr : ∀ g, r = some g → B ≤ g) (hB : B ≤ w.heap.size) : Below B w w' :=
  ⟨h.os, h.tape, h.output, h.size, fun k hk => h.block k (by omega) (by omega) (by omega) (by intro e; have := hr k e.symm; omega)⟩
end

/-- Block p is a log of the records L: block d is its directory, v the row of its records; all from block B on. -/
structure LG (w : World) (B p d : Nat) (v : Value) (L : List RecT) : Prop where
  bp : B ≤ p
  bd : B ≤ d
  row : w.heap[p]? = some (.cells #[.pointer (some ⟨d, 0, none⟩), v] 102 (0, 0))
  ck : ∃ T, CK w d T ∧ Fits T (esL L)
  own : OwnRec w B v L
  keys : KeysOk L
  may : ∀ x ∈ L, mayT x = true

theorem tLogDir : 102 ≠ 143 := by decide
theorem tLogRec : 102 ≠ 28 := by decide
theorem tDirRec : 143 ≠ 28 := by decide

section
variable {w w' : World} {B p d : Nat} {v : Value} {L : List RecT}
theorem LG.plt (h : LG w B p d v L) : p < w.heap.size := (Array.getElem?_eq_some_iff.1 h.row).1
theorem LG.dlt (h : LG w B p d v L) : d < w.heap.size := by obtain ⟨T, hc, -⟩ := h.ck; exact hc.lt
theorem LG.vlt (h : LG w B p d v L) : ∀ g, v.ownBlock = some g → g < w.heap.size := fun g hg => (World.ownsRow.lt h.own g hg).2
theorem LG.vge (h : LG w B p d v L) : ∀ g, v.ownBlock = some g → B ≤ g := fun g hg => (World.ownsRow.lt h.own g hg).1
theorem LG.Ble (h : LG w B p d v L) : B ≤ w.heap.size := by have := h.bp; have := h.plt; omega
theorem LG.pd (h : LG w B p d v L) : p ≠ d := by
  rintro rfl
  obtain ⟨T, hc, -⟩ := h.ck
  obtain ⟨cs, fr, hr⟩ := hc.row
  rw [h.row] at hr
  simp only [Option.some.injEq, Obj.cells.injEq] at hr
  exact tLogDir hr.2.1
/-- A row of records has a block of its own type. -/
theorem rec_type {w : World} {B : Nat} {v : Value} {L : List RecT} (h : OwnRec w B v L) {g : Nat} (hg : v.ownBlock = some g) : ∃ cs fr, w.heap[g]? = some (.cells cs 28 fr) := by
  rcases h.2 with ⟨rfl, -⟩ | ⟨q, cap, cur, rfl, -, h2, -⟩
  · cases hg
  · cases hg
    exact ⟨_, _, h2⟩
theorem own_same {w w' : World} {B : Nat} {v : Value} {L : List RecT} (h : OwnRec w B v L) (hs : ∀ g cs fr, w.heap[g]? = some (.cells cs 28 fr) → v.ownBlock = some g → w'.heap[g]? = w.heap[g]?) : OwnRec w' B v L := by
  refine ⟨h.1, ?_⟩
  rcases h.2 with h' | ⟨q, cap, cur, rfl, hB, h2, h3⟩
  · exact .inl h'
  · exact .inr ⟨q, cap, cur, rfl, hB, (hs q _ _ h2 rfl).trans h2, h3⟩
theorem LG.pv (h : LG w B p d v L) : v.ownBlock ≠ some p := by
  intro e
  obtain ⟨cs, fr, hr⟩ := rec_type h.own e
  rw [h.row] at hr
  simp only [Option.some.injEq, Obj.cells.injEq] at hr
  exact tLogRec hr.2.1
theorem LG.dv (h : LG w B p d v L) : v.ownBlock ≠ some d := by
  intro e
  obtain ⟨cs, fr, hr⟩ := rec_type h.own e
  obtain ⟨T, hc, -⟩ := h.ck
  obtain ⟨cs2, fr2, hr2⟩ := hc.row
  rw [hr2] at hr
  simp only [Option.some.injEq, Obj.cells.injEq] at hr
  exact tDirRec hr.2.1
theorem LG.same (h : LG w B p d v L) (h1 : w'.heap[p]? = w.heap[p]?) (h2 : w'.heap[d]? = w.heap[d]?) (h3 : ∀ g, v.ownBlock = some g → w'.heap[g]? = w.heap[g]?) : LG w' B p d v L := by
  obtain ⟨T, hc, hf⟩ := h.ck
  exact ⟨h.bp, h.bd, h1.trans h.row, ⟨T, hc.same h2, hf⟩, own_same h.own fun g _ _ _ hg => h3 g hg, h.keys, h.may⟩
theorem LG.below (h : LG w B p d v L) (hb : Below w.heap.size w w') : LG w' B p d v L := h.same (hb.block _ h.plt) (hb.block _ h.dlt) fun g hg => hb.block g (h.vlt g hg)
theorem LG.offBelow (h : LG w B p d v L) (ho : Off3 p d v.ownBlock w w') : Below B w w' := ho.below h.bp h.bd h.vge h.Ble
theorem LG.cells (h : LG w B p d v L) : w.cell? ⟨p, 0, none⟩ = some (.pointer (some ⟨d, 0, none⟩)) ∧ w.cell? ⟨p, 1, none⟩ = some v := by
  have c := fun j => cell_of_row w p j _ _ _ h.row
  exact ⟨c 0, c 1⟩
theorem LG.len (h : LG w B p d v L) : L.length ≤ 32 := by
  obtain ⟨T, hc, hf⟩ := h.ck
  have h1 := hf.length
  rw [esL_len] at h1
  rw [← h1, ← cntT_all]
  exact cntT_le T 32
theorem LG.sizes (h : LG w B p d v L) {i : Nat} (hi : i < L.length) : L[i].1.size ≤ 16 ∧ L[i].2.2.2.2.size ≤ 24 := mayT_short (h.may _ (List.getElem_mem hi))
end

set_option maxRecDepth 100000 in
theorem lnew_c (w : World) : Calls Tryz.prog 24 #[] w fun e w' => ∃ p d, e = .returned (.pointer (some ⟨p, 0, none⟩)) ∧ LG w' w.heap.size p d (.slice none 0 0) [] ∧ Below w.heap.size w w' := by
  have C := Go.Lib.hid (cnew_c w)
  go_enter Tryz.func24, Tryz.ntmps24
  go_wp2_with fail
  refine C.out.mono ?_
  rintro e w1 ⟨d, rfl, hd, hck, hb⟩
  have hb2 := below_one w1 (.cells #[.pointer (some ⟨d, 0, none⟩), .slice none 0 0] 102)
  have hh := heap_alloc_new w1 (.cells #[.pointer (some ⟨d, 0, none⟩), .slice none 0 0] 102)
  have HG := Go.Lib.hid (show LG (w1.alloc (.cells #[.pointer (some ⟨d, 0, none⟩), .slice none 0 0] 102)) w.heap.size w1.heap.size d (.slice none 0 0) [] from
    ⟨hb.size, hd, hh, ⟨_, hck.below hb2, Fits.empty fun _ _ => rfl⟩, OwnRec.nil _ _, by simp [KeysOk], fun x hx => by cases hx⟩)
  have HB := Go.Lib.hid (hb.trans (hb2.mono hb.size))
  clear hb hb2 hh hck hd C
  go_wp2_with fail
  go_ret
  exact ⟨_, _, rfl, HG.out, HB.out⟩

end Go.Proofs.YthbnecdeebmlhaaGreat

namespace Go.Proofs.YthbnecdeebmlhaaGreat
open Go.RowKit

/-- Block p is a Store of the table TT: u the row of its records, r its *rank.Rank; all from block B on. -/
structure HW (w : World) (B p : Nat) (u : Value) (r : Option Addr) (TT : TabT) : Prop where
  bp : B ≤ p
  row : w.heap[p]? = some (.cells #[u, .pointer r] 86 (0, 0))
  own : OwnRec w B u (recsT TT 32)
  rk : RK w B r (hasL TT 32)
  lay : LayOk TT
section
variable {w w' : World} {B p : Nat} {u : Value} {r : Option Addr} {TT : TabT}
theorem RK.mono {l : List Bool} {B' : Nat} (h : RK w B r l) (hB : B' ≤ B) : RK w B' r l := by
  refine ⟨h.1, ?_⟩
  rcases h.2 with h' | ⟨b, v1, v2, h1, h2⟩
  · exact .inl h'
  · refine .inr ⟨b, v1, v2, h1, h2.blk, ?_, ?_, Nat.le_trans hB h2.low⟩
    · exact ⟨h2.ws.1, h2.ws.2.imp id fun ⟨g, cap, cur, e1, e2, e3⟩ => ⟨g, cap, cur, e1, Nat.le_trans hB e2, e3⟩⟩
    · exact ⟨h2.hs.1, h2.hs.2.imp id fun ⟨g, cap, cur, e1, e2, e3⟩ => ⟨g, cap, cur, e1, Nat.le_trans hB e2, e3⟩⟩
theorem HW.lt (h : HW w B p u r TT) : p < w.heap.size := (Array.getElem?_eq_some_iff.1 h.row).1
theorem HW.below (h : HW w B p u r TT) (hb : Below w.heap.size w w') : HW w' B p u r TT :=
  ⟨h.bp, (hb.block p h.lt).trans h.row, h.own.below hb, h.rk.below hb, h.lay⟩
theorem HW.mono {B' : Nat} (h : HW w B p u r TT) (hB : B' ≤ B) : HW w B' p u r TT := ⟨Nat.le_trans hB h.bp, h.row, h.own.mono hB, h.rk.mono hB, h.lay⟩
theorem HW.cells (h : HW w B p u r TT) : w.cell? ⟨p, 0, none⟩ = some u ∧ w.cell? ⟨p, 1, none⟩ = some (.pointer r) := by
  have c := fun j => cell_of_row w p j _ _ _ h.row
  exact ⟨c 0, c 1⟩
end

set_option maxRecDepth 100000 in
theorem hlen_c {w : World} {B p : Nat} {u : Value} {r : Option Addr} {TT : TabT} (h : HW w B p u r TT) : Calls Tryz.prog 22 #[.pointer (some ⟨p, 0, none⟩)] w fun e w' => e = .returned (.int .i64 ((recsT TT 32).length : Int)) ∧ w = w' := by
  obtain ⟨x0, x1⟩ := h.cells
  obtain ⟨a, cap, rfl, -⟩ := h.own.rs.form
  clear h
  go_enter Tryz.func22, Tryz.ntmps22
  go_wp2_with fail
  go_ret
  exact ⟨rfl, rfl⟩
end Go.Proofs.YthbnecdeebmlhaaGreat

namespace Go.Proofs.YthbnecdeebmlhaaGreat
open Go.RowKit
open Go.Lib (uvarint zigzag)

set_option maxRecDepth 100000 in
theorem vput_c (v : Value) (l : List UInt8) (k n : Int) (s : List UInt8) (w : World) (hv : RB w v l) (hm : mayR k n (str s) = true) (h0 : -9223372036854775808 ≤ n) (h1 : n ≤ 9223372036854775807) (hl : l.length ≤ 100000) :
    Calls Tryz.prog 131 #[v, rawV k n (str s)] w fun e w' => ∃ v', e = .returned v' ∧ Own 5 w' w.heap.size v' (l ++ putV k n s) ∧ Below w.heap.size w w' := by
  have C0 := Go.Lib.hid fun W => vof_c k n (str s) W
  rcases mayR_cases hm with ⟨rfl, rfl⟩ | ⟨rfl, rfl, hs⟩
  · have e0 := of_num hm
    have C0 := C0.out
    rw [e0] at C0
    simp only [VI.val, VI.v] at C0
    have C0' := Go.Lib.hid C0
    clear C0 hm e0
    have C1 := Go.Lib.hid fun W (h : RB W v l) => put_c v l 1 W h (by omega) (by omega) (by omega)
    have hz := Go.Lib.uvarint_length64 (Go.Lib.zigzag_lt (x := 1) (by omega) (by omega))
    have C2 := Go.Lib.hid fun v' W (h : RB W v' (l ++ uvarint (zigzag 1))) => put_c v' (l ++ uvarint (zigzag 1)) n W h h0 h1 (by rw [List.length_append]; omega)
    have he : Hid (l ++ uvarint (zigzag 1) ++ uvarint (zigzag n) = l ++ putV 1 n []) := by unfold Hid putV; rw [if_pos rfl, List.append_assoc]
    clear hz h0 h1 hl
    generalize uvarint (zigzag 1) = uk at *
    generalize uvarint (zigzag n) = un at *
    unfold rawV at C0' ⊢
    have hR0 := Go.Lib.hid (hv.below (below_one w (.cells #[.int .i64 1, .int .i64 n, .string (str [])] 26)))
    clear hv
    go_enter Tryz.func131, Tryz.ntmps131
    go_wp2_with fail
    refine (C0'.out _).mono ?_
    rintro e w1 ⟨rfl, hb1⟩
    obtain ⟨x0, x1, x2⟩ := box_cells _ _ _ _ _ _ hb1
    have hbb1 := (below_one w _).trans (hb1.mono (below_one w _).size)
    have hR1 := Go.Lib.hid ((hR0.out.below hb1).below (below_one w1 (.cells #[.iface 195 (.int .i64 n)] 174)))
    have Hbo := Go.Lib.hid (hbb1.trans ((below_one w1 (.cells #[.iface 195 (.int .i64 n)] 174)).mono hbb1.size))
    have xx := fun (c : Option Value) (p : Addr) (h : w1.cell? p = c) (o : Obj) (hp : p.block < w1.heap.size) => ((below_one w1 o).cell hp).trans h
    have hlt : w.heap.size < w1.heap.size := by
      have h1 := hb1.size
      have h2 := (Array.getElem?_eq_some_iff.1 (heap_alloc_new w (.cells #[.int .i64 1, .int .i64 n, .string (str [])] 26))).1
      omega
    have y0 := fun o => xx _ _ x0 o hlt
    have y1 := fun o => xx _ _ x1 o hlt
    have y2 := fun o => xx _ _ x2 o hlt
    clear xx hb1 hbb1 hR0 C0' x0 x1 x2
    go_wp2_with fail
    refine (C1.out _ hR1.out).mono ?_
    rintro e w2 ⟨v2, rfl, hown2, hb2⟩
    have hlt2 := Nat.lt_of_lt_of_le hlt ((below_one w1 (.cells #[.iface 195 (.int .i64 n)] 174)).size)
    have z0 := (hb2.cell hlt2).trans (y0 _)
    have z1 := (hb2.cell hlt2).trans (y1 _)
    have hbb2 := Hbo.out.trans (hb2.mono Hbo.out.size)
    have hR2 := hown2.rb
    clear y0 y1 y2 hR1 Hbo hlt hlt2 C1 hb2 hown2
    go_wp2_with fail
    refine (C2.out _ _ hR2).mono ?_
    rintro e w3 ⟨v3, rfl, hown3, hb3⟩
    have hbb3 := hbb2.trans (hb3.mono hbb2.size)
    have hown3' := hown3.mono hbb2.size
    rw [he.out] at hown3'
    clear hown3 hb3 z0 z1 hR2
    go_wp2_with fail
    go_ret
    exact ⟨_, rfl, hown3', hbb3⟩
  · have e0 := of_text hm
    have C0 := C0.out
    rw [e0] at C0
    simp only [VI.val, VI.v] at C0
    have C0' := Go.Lib.hid C0
    clear C0 hm e0
    have C1 := Go.Lib.hid fun W (h : RB W v l) => put_c v l 2 W h (by omega) (by omega) (by omega)
    have hz := Go.Lib.uvarint_length64 (Go.Lib.zigzag_lt (x := 2) (by omega) (by omega))
    have C2 := fun v' W (h : RB W v' (l ++ uvarint (zigzag 2))) => putText_c v' (l ++ uvarint (zigzag 2)) (str s) W h (by rw [List.length_append, str_size]; omega)
    have he : Hid (l ++ uvarint (zigzag 2) ++ putT s = l ++ putV 2 0 s) := by unfold Hid putV; rw [if_neg (by omega), List.append_assoc]
    rw [show (str s).data.toList = s from by simp [str]] at C2
    have C2 := Go.Lib.hid C2
    clear hz h0 h1 hl
    generalize uvarint (zigzag 2) = uk at *
    generalize putT s = un at *
    unfold rawV at C0' ⊢
    have hR0 := Go.Lib.hid (hv.below (below_one w (.cells #[.int .i64 2, .int .i64 0, .string (str s)] 26)))
    clear hv
    go_enter Tryz.func131, Tryz.ntmps131
    go_wp2_with fail
    refine (C0'.out _).mono ?_
    rintro e w1 ⟨rfl, hb1⟩
    obtain ⟨x0, x1, x2⟩ := box_cells _ _ _ _ _ _ hb1
    have hbb1 := (below_one w _).trans (hb1.mono (below_one w _).size)
    have hR1 := Go.Lib.hid ((hR0.out.below hb1).below (below_one w1 (.cells #[.iface 196 (.string (str s))] 174)))
    have Hbo := Go.Lib.hid (hbb1.trans ((below_one w1 (.cells #[.iface 196 (.string (str s))] 174)).mono hbb1.size))
    have xx := fun (c : Option Value) (p : Addr) (h : w1.cell? p = c) (o : Obj) (hp : p.block < w1.heap.size) => ((below_one w1 o).cell hp).trans h
    have hlt : w.heap.size < w1.heap.size := by
      have h1 := hb1.size
      have h2 := (Array.getElem?_eq_some_iff.1 (heap_alloc_new w (.cells #[.int .i64 2, .int .i64 0, .string (str s)] 26))).1
      omega
    have y0 := fun o => xx _ _ x0 o hlt
    have y1 := fun o => xx _ _ x1 o hlt
    have y2 := fun o => xx _ _ x2 o hlt
    clear xx hb1 hbb1 hR0 C0' x0 x1 x2
    go_wp2_with fail
    refine (C1.out _ hR1.out).mono ?_
    rintro e w2 ⟨v2, rfl, hown2, hb2⟩
    have hlt2 := Nat.lt_of_lt_of_le hlt ((below_one w1 (.cells #[.iface 196 (.string (str s))] 174)).size)
    have z0 := (hb2.cell hlt2).trans (y0 _)
    have z1 := (hb2.cell hlt2).trans (y2 _)
    have hbb2 := Hbo.out.trans (hb2.mono Hbo.out.size)
    have hR2 := hown2.rb
    clear y0 y1 y2 hR1 Hbo hlt hlt2 C1 hb2 hown2
    go_wp2_with fail
    refine (C2.out _ _ hR2).mono ?_
    rintro e w3 ⟨v3, rfl, hown3, hb3⟩
    have hbb3 := hbb2.trans (hb3.mono hbb2.size)
    have hown3' := hown3.mono hbb2.size
    rw [he.out] at hown3'
    clear hown3 hb3 z0 z1 hR2
    go_wp2_with fail
    go_ret
    exact ⟨_, rfl, hown3', hbb3⟩

end Go.Proofs.YthbnecdeebmlhaaGreat

namespace Go.Proofs.YthbnecdeebmlhaaGreat
open Go.RowKit
open Go.Lib (uvarint zigzag)

set_option maxRecDepth 100000 in
theorem pput_c (v : Value) (l key : List UInt8) (gone : Bool) (k n : Int) (s : List UInt8) (w : World) (hv : RB w v l) (hm : mayRec (str key) gone k n (str s) = true) (h0 : -9223372036854775808 ≤ n) (h1 : n ≤ 9223372036854775807) (hl : l.length ≤ 50000) :
    Calls Tryz.prog 111 #[v, recV (str key) gone k n (str s)] w fun e w' => ∃ v', e = .returned v' ∧ Own 5 w' w.heap.size v' (l ++ recB key gone k n s) ∧ Below w.heap.size w w' := by
  have hm' := hm
  unfold mayRec at hm'
  rw [Bool.and_eq_true] at hm'
  obtain ⟨hk, hr⟩ := hm'
  have hks : key.length ≤ 16 := by
    unfold mayK at hk
    rw [Bool.and_eq_true, decide_eq_true_eq, decide_eq_true_eq, str_size] at hk
    exact hk.2
  have hss : (str s).size ≤ maxLen := by
    unfold maxLen
    cases gone with
    | true =>
      rw [if_pos rfl, Bool.and_eq_true] at hr
      have h2 := hr.2
      rw [str_size]
      have h3 : s = [] := by simpa [str, ByteArray.toList_eq] using h2
      rw [h3]
      decide
    | false =>
      rw [if_neg (by decide)] at hr
      rw [str_size]
      rcases mayR_cases hr with ⟨-, h3⟩ | ⟨-, -, h3⟩
      · rw [h3]; decide
      · have := h3; omega
  have c0 := fun W => pmay_c (str key) gone k n (str s) W (by rw [str_size]; unfold maxLen; omega) hss
  rw [hm] at c0
  have c1 := fun W (h : RB W v l) => putText_c v l (str key) W h (by rw [str_size]; omega)
  rw [show (str key).data.toList = key from by simp [str]] at c1
  have hpl : (putT key).length ≤ 30 := by
    have hz := Go.Lib.uvarint_length64 (Go.Lib.zigzag_lt (x := (key.length : Int)) (by omega) (by omega))
    unfold putT
    rw [List.length_append]
    omega
  have C1 := Go.Lib.hid c1
  clear c1
  unfold recV at c0 ⊢
  have C0 := Go.Lib.hid c0
  clear c0
  have hb1 := below_one w (.cells #[.string (str key), .bool gone, .int .i64 k, .int .i64 n, .string (str s)] 28)
  have hA := heap_alloc_new w (.cells #[.string (str key), .bool gone, .int .i64 k, .int .i64 n, .string (str s)] 28)
  have hR0 := hv.below hb1
  cases gone with
  | true =>
    have c2 := fun v' W (h : RB W v' (l ++ putT key)) => put_c v' (l ++ putT key) 0 W h (by omega) (by omega) (by rw [List.length_append]; omega)
    have he : Hid (l ++ putT key ++ uvarint (zigzag 0) = l ++ recB key true k n s) := by unfold Hid recB; rw [if_pos rfl, List.append_assoc]
    rw [he.out] at c2
    have C2 := Go.Lib.hid c2
    clear c2 he hl hpl hks hss hr hk hm h0 h1
    generalize putT key = pk at *
    generalize l ++ recB key true k n s = L at *
    go_enter Tryz.func111, Tryz.ntmps111
    go_wp2_with fail
    refine (C0.out _).mono ?_
    rintro e w1 ⟨rfl, hb2⟩
    have hbb := hb1.trans (hb2.mono hb1.size)
    have hA := row_kept hA hb2
    have hR1 := hR0.below hb2
    obtain ⟨x0, x1, x2, x3, x4⟩ := row5 hA
    clear hb1 hb2 hR0 C0
    go_wp2_with fail
    refine (C1.out _ hR1).mono ?_
    rintro e w2 ⟨v2, rfl, hown2, hb2⟩
    have hbb2 := hbb.trans (hb2.mono hbb.size)
    have hA := row_kept hA hb2
    have hR2 := hown2.rb
    clear x0 x1 x2 x3 x4 hb2 hown2 hbb hR1 C1
    obtain ⟨x0, x1, x2, x3, x4⟩ := row5 hA
    go_wp2_with fail
    refine (C2.out _ _ hR2).mono ?_
    rintro e w3 ⟨v3, rfl, hown3, hb3⟩
    have hbb3 := hbb2.trans (hb3.mono hbb2.size)
    have hown3' := hown3.mono hbb2.size
    clear hown3 hb3 hR2 C2 x0 x1 x2 x3 x4
    go_wp2_with fail
    go_ret
    exact ⟨_, rfl, hown3', hbb3⟩
  | false =>
    rw [if_neg (by decide)] at hr
    have c2 := fun v' W (h : RB W v' (l ++ putT key)) => vput_c v' (l ++ putT key) k n s W h hr h0 h1 (by rw [List.length_append]; omega)
    have he : Hid (l ++ putT key ++ putV k n s = l ++ recB key false k n s) := by unfold Hid recB; rw [if_neg (by decide), List.append_assoc]
    rw [he.out] at c2
    unfold rawV at c2
    have C2 := Go.Lib.hid c2
    clear c2 he hl hpl hks hss hr hk hm h0 h1
    generalize putT key = pk at *
    generalize l ++ recB key false k n s = L at *
    go_enter Tryz.func111, Tryz.ntmps111
    go_wp2_with fail
    refine (C0.out _).mono ?_
    rintro e w1 ⟨rfl, hb2⟩
    have hbb := hb1.trans (hb2.mono hb1.size)
    have hA := row_kept hA hb2
    have hR1 := hR0.below hb2
    obtain ⟨x0, x1, x2, x3, x4⟩ := row5 hA
    clear hb1 hb2 hR0 C0
    go_wp2_with fail
    refine (C1.out _ hR1).mono ?_
    rintro e w2 ⟨v2, rfl, hown2, hb2⟩
    have hbb2 := hbb.trans (hb2.mono hbb.size)
    have hA := row_kept hA hb2
    have hR2 := hown2.rb
    clear x0 x1 x2 x3 x4 hb2 hown2 hbb hR1 C1
    obtain ⟨x0, x1, x2, x3, x4⟩ := row5 hA
    go_wp2_with fail
    refine (C2.out _ _ hR2).mono ?_
    rintro e w3 ⟨v3, rfl, hown3, hb3⟩
    have hbb3 := hbb2.trans (hb3.mono hbb2.size)
    have hown3' := hown3.mono hbb2.size
    clear hown3 hb3 hR2 C2 x0 x1 x2 x3 x4
    go_wp2_with fail
    go_ret
    exact ⟨_, rfl, hown3', hbb3⟩

end Go.Proofs.YthbnecdeebmlhaaGreat

namespace Go.Proofs.YthbnecdeebmlhaaGreat
open Go.RowKit

set_option maxHeartbeats 1000000 in
set_option maxRecDepth 100000 in
theorem entry_c (kx : ByteArray) (gx : Bool) (ax nx : Int) (sx : ByteArray) (w : World) (hm : mayT (kx, gx, ax, nx, sx) = true) (hok : RecOk (kx, gx, ax, nx, sx)) :
    Calls Tryz.prog 80 #[.agg #[.string kx, .bool gx, .int .i64 ax, .int .i64 nx, .string sx]] w fun e w' => ∃ v', e = .returned v' ∧ Own 5 w' w.heap.size v' (entB (kx, gx, ax, nx, sx)) ∧ Below w.heap.size w w' := by
  have hsz := mayT_short hm
  simp only [] at hsz
  have HX := Go.Lib.hid (heap_alloc_new w (.cells #[.string kx, .bool gx, .int .i64 ax, .int .i64 nx, .string sx] 28))
  have HB := Go.Lib.hid (below_one w (.cells #[.string kx, .bool gx, .int .i64 ax, .int .i64 nx, .string sx] 28))
  have CH := Go.Lib.hid fun W => hof_k kx (hashS kx) rfl W (by omega)
  have CT := Go.Lib.hid fun W => htag_c (hashS kx) W (hashS_lt kx)
  have HTL := tag_lt (hashS kx)
  have CP := Go.Lib.hid fun v (W : World) (hv : RB W v [UInt8.ofNat (tagN (hashS kx) / 256), UInt8.ofNat (tagN (hashS kx) % 256)]) => by
    have hn := recOk_n hok
    have := pput_c v _ (bl kx) gx ax nx (bl sx) W hv (by rw [str_bl, str_bl]; exact hm) hn.1 hn.2 (by simp)
    rw [str_bl, str_bl] at this
    unfold recV at this
    exact this
  have HE := Go.Lib.hid (show entB (kx, gx, ax, nx, sx) = [UInt8.ofNat (tagN (hashS kx) / 256), UInt8.ofNat (tagN (hashS kx) % 256)] ++ recB (bl kx) gx ax nx (bl sx) from rfl)
  generalize entB (kx, gx, ax, nx, sx) = eb at *
  generalize tagN (hashS kx) = tg at *
  generalize hashS kx = hx at *
  have HL := Go.Lib.hid (show ∀ W : World, RB (W.alloc (.cells #[.int .u8 ((tg : Int) / 256), .int .u8 ((tg : Int) % 256)] 5)) (.slice (some ⟨W.heap.size, 0, none⟩) 2 2) [UInt8.ofNat (tg / 256), UInt8.ofNat (tg % 256)] from fun W => by
    refine RB.lits W 5 _ _ _ 2 ?_ rfl (by simp)
    have e1 : (UInt8.ofNat (tg / 256)).toNat = tg / 256 := by simp only [UInt8.toNat_ofNat']; omega
    have e2 : (UInt8.ofNat (tg % 256)).toNat = tg % 256 := by simp only [UInt8.toNat_ofNat']; omega
    simp [cells, e1, e2])
  have hw1 : IntKind.u8.wrap ((tg : Int) / 256) = (tg : Int) / 256 := by rw [IntKind.wrap_u8]; omega
  have hw2 : IntKind.u8.wrap (tg : Int) = (tg : Int) % 256 := by rw [IntKind.wrap_u8]
  clear hsz hm hok
  go_enter Tryz.func80, Tryz.ntmps80
  go_wp2_with fail
  refine (CH.out _).mono ?_
  rintro e w1 ⟨rfl, hc⟩
  have HX1 := Go.Lib.hid (row_kept HX.out hc)
  have HB1 := Go.Lib.hid (HB.out.trans (hc.mono HB.out.size))
  clear hc CH HX HB
  go_wp2_with fail
  refine (CT.out _).mono ?_
  rintro e w2 ⟨rfl, rfl⟩
  have hb2 := below_one w1 (.cells #[.int .u8 ((tg : Int) / 256), .int .u8 ((tg : Int) % 256)] 5)
  have HX2 := Go.Lib.hid (row_kept HX1.out hb2)
  have HB2 := Go.Lib.hid (HB1.out.trans (hb2.mono HB1.out.size))
  have CP2 := Go.Lib.hid (CP.out _ _ (HL.out w1))
  obtain ⟨x0, x1, x2, x3, x4⟩ := row5 HX2.out
  clear hb2 CP HL CT
  go_wp2_with fail
  refine CP2.out.mono ?_
  rintro e w3 ⟨v3, rfl, ho, hc⟩
  have HF := Go.Lib.hid (And.intro (show Own 5 w3 w.heap.size v3 eb by rw [HE.out]; exact ho.mono HB2.out.size) (HB2.out.trans (hc.mono HB2.out.size)))
  clear ho hc CP2
  go_wp2_with fail
  go_ret
  exact ⟨_, rfl, HF.out.1, HF.out.2⟩

/-- More bytes; the row is the one it was, or a new one. -/
theorem wpList_append_bytes {P : Program} {ops : Array Oper} {rest : List Oper} {o : Oper} {a : Act} {w : World} {Q : Exit → Act → World → Prop} (hgd : o.guard = none) (s x : Operand) (t : TypeId)
    (ho : o.op = .call { callee := .builtin .append, args := #[s, x], argTypes := #[t, t] })
    (B : Nat) (e : TypeId) (ht : P.underlying t = some (.slice e)) (hinfo : (P.info? e).map (fun i => (i.zero, i.size, i.bytes)) = some (some (.int .u8 0), 1, 1))
    (v xv : Value) (l m : List UInt8) (hs : a.eval s = v) (hx : a.eval x = xv) (hown : Own e w B v l) (hrb : RB w xv m) (hm0 : m ≠ [])
    (hlen : l.length + m.length ≤ 140737488355328) (hbase : B ≤ w.heap.size)
    (h : ∀ v' w', Own e w' B v' (l ++ m) → w.grownBy w' v.ownBlock → (v'.ownBlock = v.ownBlock ∨ ∀ k, v'.ownBlock = some k → w.heap.size ≤ k) → wpList P ops Q rest (a.put o.dst v') w') : wpList P ops Q (o :: rest) a w := by
  obtain ⟨ad, cap, rfl, h1, h2, h3, h4⟩ := hrb
  obtain ⟨b, of_, rfl, hc⟩ := h4 hm0
  refine wpList_append_where w hgd s x t ho B e ht (.int .u8 0) 1 1 hinfo rfl (by decide) v l.length (cells l) hs hown ⟨b, of_, none⟩ m.length cap (cells m) hx (by simp [cells_length]) ?_ (cells_one m) (by unfold maxLen; omega) (by omega) hbase ?_
  · intro j u hj
    have hjm : j < m.length := by
      rcases Nat.lt_or_ge j m.length with hlt | hge
      · exact hlt
      · rw [List.getElem?_eq_none (by simpa [cells_length] using hge)] at hj; cases hj
    rw [cells_at m j hjm] at hj
    cases hj
    have hadd : (⟨b, of_, none⟩ : Addr).add j = ⟨b, of_ + j, none⟩ := by unfold Addr.add; split <;> simp_all
    rw [hadd]
    exact hc j hjm
  · intro v' w' hown' hg hn
    exact h v' w' (by unfold Own; rw [List.length_append, cells_append]; exact hown') hg hn

/-- The head's bits and the body's bytes, each in a row of its own. -/
structure EncI (TT : TabT) (g hb n : Nat) (u : Value) (w : World) : Prop where
  bt : ∃ vb, BT w g hb vb (hasL TT n) ∧ ∀ k, u.ownBlock = some k → vb.ownBlock ≠ some k
  own : Own 5 w g u (bodyB TT n)
theorem EncI.below {TT : TabT} {g hb n : Nat} {u : Value} {w w' : World} (h : EncI TT g hb n u w) (hk : Below w.heap.size w w') : EncI TT g hb n u w' := by
  obtain ⟨vb, h1, h2⟩ := h.bt
  exact ⟨⟨vb, h1.below hk, h2⟩, h.own.below hk⟩
theorem Own.twoKept {e : TypeId} {w w' : World} {B b : Nat} {r : Option Nat} {v : Value} {l : List UInt8} (h : Own e w B v l) (hk : Two b r w w') (h1 : v.ownBlock ≠ some b) (h2 : ∀ k, v.ownBlock = some k → r ≠ some k) : Own e w' B v l := by
  refine ⟨h.1, ?_⟩
  rcases h.2 with h' | ⟨g, cap, cur, e1, hB, e2, e3⟩
  · exact .inl h'
  · subst e1
    exact .inr ⟨g, cap, cur, rfl, hB, (hk.block g (Array.getElem?_eq_some_iff.1 e2).1 (fun e' => h1 (by rw [← e']; rfl)) (fun e' => h2 g rfl e'.symm)).trans e2, e3⟩
theorem Own.ltHeap {e : TypeId} {w : World} {B : Nat} {v : Value} {l : List UInt8} (h : Own e w B v l) : ∀ k, v.ownBlock = some k → k < w.heap.size := fun k hk => (World.ownsRow.lt h k hk).2

theorem BB.grownKept {w w' : World} {B b n : Nat} {v : Value} {p : List UInt8} {r : Option Nat} (h : BB w B b v p n) (hg : w.grownBy w' r) (h1 : r ≠ some b) (h2 : ∀ k, r = some k → v.ownBlock ≠ some k) : BB w' B b v p n := by
  refine ⟨(hg.block b h.lt (fun e => h1 e.symm)).trans h.blk, h.row.kept hg ?_, h.low⟩
  cases r with
  | none =>
    cases hv : v.ownBlock with
    | none => exact .inl rfl
    | some k => exact .inr (by simp)
  | some k => exact .inr (h2 k rfl)

set_option maxHeartbeats 4000000 in
set_option maxRecDepth 100000 in
theorem oencode_c (TT : TabT) (w : World) (hs : ∀ q, q < 32 → (TT q).2.1.size ≤ 1000 ∧ (TT q).2.2.2.2.2.size ≤ 1000) (hok : TabOk TT) :
    Calls Tryz.prog 48 #[.agg (tabL TT 32).toArray] w fun e w' => ∃ v', e = .returned v' ∧ Own 5 w' w.heap.size v' (if okTo TT 32 then tabB TT else []) ∧ Below w.heap.size w w' := by
  have HRG := Go.Lib.hid (TO.new w TT)
  have HB := Go.Lib.hid (below_one w (.cells (tabL TT 32).toArray 43))
  have HV := Go.Lib.hid (tabV TT)
  have HRA := Go.Lib.hid (fun (W : World) g (h : TO W g TT) => h.range)
  have CM := Go.Lib.hid fun W => omay_c TT W hs
  have HREC := Go.Lib.hid (fun (h : okTo TT 32 = true) q (hq : q < 32) (h1 : (TT q).1 = true) => And.intro ((okTo_slot h hq).1 h1) (hok q hq))
  have HLEN := Go.Lib.hid (fun (h : okTo TT 32 = true) => bodyB_len h hok)
  generalize tabL TT 32 = TL at *
  generalize (fun b => (rowL TT b).toArray) = RL at *
  generalize (rowL (fun _ => (false, nullR)) 0).toArray = Z at *
  clear hs hok
  obtain ⟨g, hg⟩ : ∃ g, g = w.heap.size := ⟨_, rfl⟩
  have HG := Go.Lib.hid hg
  rw [← hg] at HRG HB ⊢
  clear hg
  have hz := HV.out.zero
  obtain ⟨OUT, hOUT⟩ : ∃ OUT, OUT = if okTo TT 32 then tabB TT else [] := ⟨_, rfl⟩
  rw [← hOUT]
  have HOUT := Go.Lib.hid hOUT
  clear hOUT
  go_enter Tryz.func48, Tryz.ntmps48
  go_upto_region 1 with (fail)
  rw [← HG.out]
  generalize w.alloc (.cells TL.toArray 43) = w1 at *
  have HRX := Go.Lib.hid (HRA.out _ _ HRG.out)
  go_wp2_with (first
    | (with_reducible show wpList _ _ _ (⟨some 9, _, _, _, _, _⟩ :: _) _ _; go_loud (refine wpList_load_mid rfl 43 (.tmp 1) rfl g 0 rfl TL _ HRX.out Tryz.underlying43 rfl HV.out.size ?_))
    | fail)
  refine (CM.out _).mono ?_
  rintro e w2 ⟨rfl, hc⟩
  have HT2 := Go.Lib.hid (HRG.out.below hc)
  have HB2 := Go.Lib.hid (HB.out.trans (hc.mono (by have := HB.out.size; have := HG.out; omega)))
  clear hc CM HRG HB HRX
  by_cases hok : okTo TT 32 = true
  · have HOUT := Go.Lib.hid (show OUT = tabB TT by rw [HOUT.out, if_pos hok])
    rw [hok]
    have HREC2 := Go.Lib.hid (HREC.out hok)
    have HLEN2 := Go.Lib.hid (HLEN.out hok)
    clear hok HREC HLEN
    go_upto_region 4 with (fail)
    have hb3 := below_one w2 (.cells #[.slice none 0 0, .int .i64 0] 80)
    have HBT := Go.Lib.hid ((BT.new w2).mono (B' := g) (by have := HB2.out.size; have := HG.out; omega))
    have HT3 := Go.Lib.hid (HT2.out.below hb3)
    have HB3 := Go.Lib.hid (HB2.out.trans (hb3.mono (by have := HB2.out.size; have := HG.out; omega)))
    have HHB := Go.Lib.hid (show g ≤ w2.heap.size by have := HB2.out.size; have := HG.out; omega)
    clear hb3 HT2 HB2
    obtain ⟨hb, hhb⟩ : ∃ h, h = w2.heap.size := ⟨_, rfl⟩
    rw [← hhb] at HBT HHB ⊢
    clear hhb
    generalize w2.alloc (.cells #[.slice none 0 0, .int .i64 0] 80) = w3 at *
    have HRX := Go.Lib.hid (HRA.out _ _ HT3.out)
    have HI := Go.Lib.hid (show EncI TT g hb 0 (.slice none 0 0) w3 from ⟨⟨_, HBT.out, (fun k hk => by cases hk)⟩, Own.nil _ _ _⟩)
    clear HT3 HBT HRA
    go_wp2_with (first
      | (with_reducible show wpList _ _ _ (⟨some 12, _, _, _, _, _⟩ :: _) _ _; go_loud (refine wpList_load_mid rfl 43 (.tmp 1) rfl g 0 rfl TL _ HRX.out Tryz.underlying43 rfl HV.out.size ?_))
      | fail)
    go_loopw [4, 13] (fun lv bv wr => ∃ (b : Nat) (u : Value), u = lv ∧ b ≤ 8 ∧ bv = .int .i64 (b : Int) ∧ Hid (EncI TT g hb (4 * b) u wr) ∧ Hid (Below g w wr)) (fun _ bv _ => 8 - (intOf bv).toNat)
    case atStart => exact ⟨0, _, rfl, by omega, rfl, HI, HB3⟩
    case round =>
      clear HI HRX HB3
      obtain ⟨b, u, rfl, hb8, rfl, HI, HB⟩ := hrel
      by_cases hlt : b < 8
      · have hltI : (b : Int) < 8 := by omega
        have hix := HV.out.row b hlt
        have hgw : g ≤ wr.heap.size := by have := HB.out.size; have := HG.out; omega
        have hb2 := below_one wr (.cells Z 41)
        have HZ := Go.Lib.hid (heap_alloc_new wr (.cells Z 41))
        have HX := Go.Lib.hid (setRow_heap _ wr.heap.size _ (RL b) 41 (0, 0) HZ.out)
        have hb3 := setRow_below (RL b) hb2 (Nat.le_refl _)
        have HB2 := Go.Lib.hid (HB.out.trans (hb3.mono hgw))
        have HI2 := Go.Lib.hid (HI.out.below hb3)
        clear hb2 hb3 HB HI
        go_upto_region 8 with (first
          | (with_reducible show wpList _ _ _ (⟨none, Op.store 41 (.tmp 6) (.tmp 15), _, _, _, _⟩ :: _) _ _; go_loud (refine wpList_store_row rfl 41 (.tmp 6) (.tmp 15) rfl wr.heap.size (RL b) rfl rfl 41 Z HZ.out (HV.out.rsize b) (HV.out.zsize b) (HV.out.rone b) ?_))
          | fail)
        obtain ⟨g2, hg2⟩ : ∃ g2, g2 = wr.heap.size := ⟨_, rfl⟩
        rw [← hg2] at HX HI2 HB2 ⊢
        clear hg2 HZ hix hz hgw
        generalize (wr.alloc (.cells Z 41)).setRow g2 (RL b) = w4 at *
        go_wp2_with (first
          | (with_reducible show wpList _ _ _ (⟨some 16, _, _, _, _, _⟩ :: _) _ _; go_loud (refine wpList_load_row rfl 41 (.tmp 6) rfl g2 rfl 41 (RL b) (0, 0) _ HX.out Tryz.underlying41 rfl (HV.out.rsize b) ?_))
          | fail)
        go_loopw [4, 17] (fun lv sv wr => ∃ (s : Nat) (u : Value), u = lv ∧ s ≤ 4 ∧ sv = .int .i64 (s : Int) ∧ Hid (EncI TT g hb (4 * b + s) u wr) ∧ Hid (Below g w wr)) (fun _ sv _ => 4 - (intOf sv).toNat)
        case atStart => exact ⟨0, _, rfl, by omega, rfl, HI2, HB2⟩
        case round =>
          clear HI2 HB2 HX
          obtain ⟨s, u, rfl, hs4, rfl, HI, HB⟩ := hrel
          by_cases hslt : s < 4
          · have hsI : (s : Int) < 4 := by omega
            have hgw : g ≤ wr.heap.size := by have := HB.out.size; have := HG.out; omega
            have hix2 := HV.out.slot b s hslt
            rw [slot6] at hix2
            have HN := Go.Lib.hid (show 4 * b + s < 32 by omega)
            have HRC := Go.Lib.hid (HREC2.out (4 * b + s) HN.out)
            have HBL := Go.Lib.hid (HLEN2.out (4 * b + s) (by omega))
            have HHN := Go.Lib.hid (show hasL TT (4 * b + (s + 1)) = hasL TT (4 * b + s) ++ [(TT (4 * b + s)).1] from hasL_succ TT (4 * b + s))
            have HBN := Go.Lib.hid (show bodyB TT (4 * b + (s + 1)) = bodyB TT (4 * b + s) ++ (if (TT (4 * b + s)).1 then entB (TT (4 * b + s)).2 else []) from bodyB_succ TT (4 * b + s))
            obtain ⟨vb, hbt, hap⟩ := HI.out.bt
            have HBT := Go.Lib.hid hbt
            have HAP := Go.Lib.hid hap
            have HOW := Go.Lib.hid HI.out.own
            have HHL := Go.Lib.hid (hasL_len TT (4 * b + s))
            clear HI hbt hap
            generalize hasL TT (4 * b + s) = HL at *
            generalize bodyB TT (4 * b + s) = BL at *
            generalize TT (4 * b + s) = y at *
            obtain ⟨hq, kx, gx, ax, nx, sx⟩ := y
            simp only [] at hix2 HRC HHN HBN
            have hbA := below_one wr (.cells #[.bool hq, .string kx, .bool gx, .int .i64 ax, .int .i64 nx, .string sx] 40)
            have HX := Go.Lib.hid (heap_alloc_new wr (.cells #[.bool hq, .string kx, .bool gx, .int .i64 ax, .int .i64 nx, .string sx] 40))
            have HBT2 := Go.Lib.hid (HBT.out.below hbA)
            have HOW2 := Go.Lib.hid (HOW.out.below hbA)
            have HB2 := Go.Lib.hid (HB.out.trans (hbA.mono hgw))
            clear hbA HBT HOW HB
            go_upto_region 11 with (fail)
            obtain ⟨g3, hg3⟩ : ∃ g, g = wr.heap.size := ⟨_, rfl⟩
            rw [← hg3] at HX ⊢
            clear hix2 hg3
            generalize wr.alloc (.cells #[.bool hq, .string kx, .bool gx, .int .i64 ax, .int .i64 nx, .string sx] 40) = w5 at *
            obtain ⟨x0, x1, x2, x3, x4, x5⟩ := row6 HX.out
            have CP := Go.Lib.hid (bitput_c hq w5 g hb vb HL HBT2.out (by have := HHL.out; have := HN.out; omega))
            go_wp2_with fail
            refine CP.out.mono ?_
            rintro e w6 ⟨rfl, vb6, hbt, htw, hnw⟩
            have HBT6 := Go.Lib.hid hbt
            have HOW6 := Go.Lib.hid (HOW2.out.twoKept htw (own_not HOW2.out HBT2.out.blk (by decide)) HAP.out)
            have HAP6 := Go.Lib.hid (show ∀ k, u.ownBlock = some k → vb6.ownBlock ≠ some k from fun k hk hv => by
              rcases hnw with h | h
              · exact HAP.out k hk (h.symm.trans hv)
              · have h1 := h k hv
                have h2 := HOW2.out.ltHeap k hk
                omega)
            have hw5 : g ≤ w5.heap.size := by have := HB2.out.size; have := HG.out; omega
            have HB6 := Go.Lib.hid (HB2.out.trans (htw.below HHB.out HBT2.out.rows hw5))
            have HX6 := Go.Lib.hid ((htw.block g3 (row_lt HX.out) (fun e => by have h1 := HX.out; rw [e, HBT2.out.blk] at h1; simp at h1) (fun e => own_not HBT2.out.row HX.out (by decide) e.symm)).trans HX.out)
            clear hbt htw hnw CP HBT2 HOW2 HAP HB2 HX x0 x1 x2 x3 x4 x5 hw5
            obtain ⟨x0, x1, x2, x3, x4, x5⟩ := row6 HX6.out
            cases hq with
            | false =>
              simp only [Bool.false_eq_true, if_false, List.append_nil] at HBN
              have HI8 := Go.Lib.hid (show EncI TT g hb (4 * b + (s + 1)) u w6 from ⟨⟨vb6, by rw [HHN.out]; exact HBT6.out, HAP6.out⟩, by rw [HBN.out]; exact HOW6.out⟩)
              go_wp2_with fail
              exact ⟨⟨s + 1, _, rfl, by omega, by go_num, HI8, HB6⟩, by simp only [intOf]; omega⟩
            | true =>
              simp only [if_true] at HBN
              have CE := Go.Lib.hid (entry_c kx gx ax nx sx w6 (HRC.out rfl).1 (HRC.out rfl).2)
              have HEL := Go.Lib.hid (show (entB (kx, gx, ax, nx, sx)).length ≤ 210 ∧ entB (kx, gx, ax, nx, sx) ≠ [] from by
                have := (recT_len (HRC.out rfl).1 (HRC.out rfl).2).2
                unfold entB
                simp only [List.length_cons]
                exact ⟨by omega, by simp⟩)
              generalize entB (kx, gx, ax, nx, sx) = EB at *
              go_wp2_with fail
              refine CE.out.mono ?_
              rintro e w7 ⟨v7, rfl, ho, hc⟩
              have hw6 : g ≤ w6.heap.size := by have := HB6.out.size; have := HG.out; omega
              have HR7 := Go.Lib.hid ho.rb
              have HBT7 := Go.Lib.hid (HBT6.out.below hc)
              have HOW7 := Go.Lib.hid (HOW6.out.below hc)
              have HB7 := Go.Lib.hid (HB6.out.trans (hc.mono hw6))
              clear ho hc CE HBT6 HOW6 HB6 hw6 x0 x1 x2 x3 x4 x5 HX6
              go_wp2_with (first
                | (with_reducible show wpList _ _ _ (⟨some 29, _, _, _, _, _⟩ :: _) _ _; go_loud (refine wpList_append_bytes rfl (.tmp 25) (.tmp 28) 47 rfl g 5 Tryz.underlying47 info8 u v7 BL EB rfl rfl HOW7.out HR7.out HEL.out.2 (by have := HBL.out; have := HEL.out.1; have := HN.out; omega) (by have := HB7.out.size; have := HG.out; omega) ?_); intro v8 w8 ho8 hg8 hn8)
                | fail)
              have HI8 := Go.Lib.hid (show EncI TT g hb (4 * b + (s + 1)) v8 w8 from by
                refine ⟨⟨vb6, ?_, fun k hk hv => ?_⟩, by rw [HBN.out]; exact ho8⟩
                · rw [HHN.out]
                  exact HBT7.out.grownKept hg8 (own_not HOW7.out HBT7.out.blk (by decide)) HAP6.out
                · rcases hn8 with h | h
                  · exact HAP6.out k (h.symm.trans hk) hv
                  · have h1 := h k hk
                    have h2 := HBT7.out.row.ltHeap k hv
                    omega)
              have HB8 := Go.Lib.hid (HB7.out.grown hg8 (by have := HB7.out.size; have := HG.out; omega) (fun j hj => HOW7.out.row j hj))
              clear ho8 hg8 hn8
              go_wp2_with fail
              exact ⟨⟨s + 1, _, rfl, by omega, by go_num, HI8, HB8⟩, by simp only [intOf]; omega⟩
          · obtain rfl : s = 4 := by omega
            go_wp2_with fail
            exact ⟨⟨b + 1, _, rfl, by omega, by go_num, HI, HB⟩, by simp only [intOf]; omega⟩
      · obtain rfl : b = 8 := by omega
        obtain ⟨vb, hbt, hap⟩ := HI.out.bt
        have hbt : BT wr g hb vb (hasL TT 32) := hbt
        have CB := Go.Lib.hid (bytes_c wr g hb vb _ _ hbt (by rw [headB_len]; omega))
        have HOW := Go.Lib.hid (show Own 5 wr g u (bodyB TT 32) from HI.out.own)
        have HLB := Go.Lib.hid (HLEN2.out 32 (by omega))
        clear HI hbt hap HREC2 HLEN2
        go_wp2_with fail
        refine CB.out.mono ?_
        rintro e w4 ⟨v4, rfl, ho, hc⟩
        have hgw : g ≤ wr.heap.size := by have := HB.out.size; have := HG.out; omega
        have HO4 := Go.Lib.hid (ho.mono hgw)
        have HR4 := Go.Lib.hid (HOW.out.below hc).rb
        have HB4 := Go.Lib.hid (HB.out.trans (hc.mono hgw))
        clear ho hc CB HOW HB hgw
        go_wp2_with (first
          | (with_reducible show wpList _ _ _ (⟨some 34, _, _, _, _, _⟩ :: _) _ _; go_loud (refine wpList_append_RB rfl (.tmp 32) (.tmp 33) 47 rfl g 5 Tryz.underlying47 info8 v4 u _ _ rfl rfl HO4.out HR4.out (by have := HLB.out; rw [headB_len]; omega) (by have := HB4.out.size; have := HG.out; omega) ?_); intro v5 w5 ho5 hg5)
          | fail)
        have HF := Go.Lib.hid (And.intro (show Own 5 w5 g v5 OUT by rw [HOUT.out]; exact ho5) (HB4.out.grown hg5 (by have := HB4.out.size; have := HG.out; omega) (fun j hj => HO4.out.row j hj)))
        clear ho5 hg5
        go_wp2_with fail
        go_ret
        exact ⟨_, rfl, HF.out.1, HF.out.2⟩
  · have hok : okTo TT 32 = false := by simpa using hok
    have HOUT := Go.Lib.hid (show OUT = [] by rw [HOUT.out, hok]; rfl)
    rw [hok]
    clear HREC HLEN
    go_wp2_with fail
    go_ret
    exact ⟨_, rfl, by rw [HOUT.out]; exact Own.nil _ _ _, HB2.out⟩
end Go.Proofs.YthbnecdeebmlhaaGreat

namespace Go.Proofs.YthbnecdeebmlhaaGreat
open Go.RowKit

theorem infoU64 : (Tryz.prog.info? 74).map (fun i => (i.zero, i.size, i.bytes)) = some (some (.int .u64 0), 1, 8) := by kernel_rfl
theorem infoI64 : (Tryz.prog.info? 3).map (fun i => (i.zero, i.size, i.bytes)) = some (some (.int .i64 0), 1, 8) := by kernel_rfl

/-- What stands while a word is appended (p: it has been) and stored (q: it has been). -/
def JN (w0 : World) (B b : Nat) (v1 v2 : Value) (l : List Bool) (k : Nat) (p q : Bool) (w : World) : Prop :=
  Below B w0 w ∧ if q then ∃ u, RKW w B b u v2 l (k + 1) k else (w.heap[b]? = some (.cells #[v1, v2, .int .i64 (l.length : Int)] 123) ∧ OwnV 3 w B v2 (zi .i64 (aheads l k)) ∧ (p = false → OwnV 74 w B v1 (zi .u64 (words l k))))
theorem JN.alloc {w0 w : World} {B b : Nat} {v1 v2 : Value} {l : List Bool} {k : Nat} {p q : Bool} (h : JN w0 B b v1 v2 l k p q w) (hB : B ≤ w.heap.size) (o : Obj) : JN w0 B b v1 v2 l k p q (w.alloc o) := by
  have hb : Below w.heap.size w (w.alloc o) := (Below.refl _ _).alloc (Nat.le_refl _) o
  refine ⟨h.1.trans (hb.mono hB), ?_⟩
  have h2 := h.2
  split
  · rename_i hq
    rw [if_pos hq] at h2
    obtain ⟨u, hu⟩ := h2
    exact ⟨u, hu.below hb⟩
  · rename_i hq
    rw [if_neg hq] at h2
    obtain ⟨a1, a2, a3⟩ := h2
    exact ⟨(hb.block b (Array.getElem?_eq_some_iff.1 a1).1).trans a1, a2.below hb, fun hp => (a3 hp).below hb⟩

def ahead8 (done : Nat → Bool) : Prop := (done 10 = true → done 4 = true ∧ done 9 = true) ∧ (done 13 = true → done 10 = true)
def IN (w0 : World) (B b : Nat) (v1 v2 : Value) (l : List Bool) (k : Nat) (done : Nat → Bool) (w : World) : Prop := ahead8 done ∧ JN w0 B b v1 v2 l k (done 10) (done 13) w
theorem IN.keep {w0 w w' : World} {B b : Nat} {v1 v2 : Value} {l : List Bool} {k : Nat} (done : Nat → Bool) (i : Nat) (hi : (i ≠ 10 ∧ i ≠ 13)) (h : IN w0 B b v1 v2 l k done w) (hw : JN w0 B b v1 v2 l k (done 10) (done 13) w → JN w0 B b v1 v2 l k (done 10) (done 13) w') : IN w0 B b v1 v2 l k (doneToo done i) w' := by
  obtain ⟨⟨h1, h2⟩, h3⟩ := h
  refine ⟨⟨?_, ?_⟩, ?_⟩
  · intro hd
    rw [doneToo_other (Ne.symm hi.1)] at hd
    obtain ⟨a, c⟩ := h1 hd
    exact ⟨by unfold doneToo; split <;> simp [a], by unfold doneToo; split <;> simp [c]⟩
  · intro hd
    rw [doneToo_other (Ne.symm hi.2)] at hd
    rw [doneToo_other (Ne.symm hi.1)]
    exact h2 hd
  · rw [doneToo_other (Ne.symm hi.1), doneToo_other (Ne.symm hi.2)]
    exact hw h3
def VN (r k x t s X : Nat) (v1 : Value) (l : List Bool) : Nat → World → Value → Prop
  | 35, _, v => v = .pointer (some ⟨r, 0, none⟩)
  | 36, _, v => v = .pointer (some ⟨r, 0, none⟩)
  | 37, _, v => v = .pointer (some ⟨r, 0, none⟩)
  | 38, _, v => v = .pointer (some ⟨r, 0, none⟩)
  | 39, _w, v => v = v1
  | 40, _, v => v = .int .u64 (x : Int)
  | 41, _, v => v = .int .i64 (t : Int)
  | 42, _, v => v = .int .i64 (s : Int)
  | 43, _, v => v = .int .u64 (X : Int)
  | 44, w, v => ∃ g, v = .slice (some ⟨g, 0, none⟩) 1 1 ∧ w.heap[g]? = some (.cells #[.int .u64 (X : Int)] 74) ∧ v1.ownBlock ≠ some g
  | 45, w, v => OwnV 74 w r v (zi .u64 (words l k ++ [X]))
  | 46, _, v => v = .pointer (some ⟨r, 0, none⟩)
  | 47, _, v => v = .pointer (some ⟨r, 0, none⟩)
  | _, _, _ => True

theorem rv_cell {w : World} {g : Nat} {x : Value} {e : TypeId} (h : w.heap[g]? = some (.cells #[x] e)) : RV w (.slice (some ⟨g, 0, none⟩) 1 1) [x] := by
  refine ⟨some ⟨g, 0, none⟩, 1, rfl, Nat.le_refl _, by simp [maxLen], (fun h => by cases h), fun _ => ⟨g, 0, rfl, fun i hi => ?_⟩⟩
  obtain rfl : i = 0 := by simp at hi; omega
  rw [cell_of_row w g 0 _ _ _ h]
  rfl
theorem VN_alloc (r k x t s X : Nat) (v1 : Value) (l : List Bool) (w : World) (o : Obj) : ∀ (i : Nat) (v : Value), VN r k x t s X v1 l i w v → VN r k x t s X v1 l i (w.alloc o) v := by
  intro i v h
  unfold VN at h ⊢
  split at h <;> first | exact h | trivial | exact h.alloc _ | exact (let ⟨g, h1, h2, h3⟩ := h; ⟨g, h1, (((Below.refl _ _).alloc (Nat.le_refl _) o).block g (Array.getElem?_eq_some_iff.1 h2).1).trans h2, h3⟩)
theorem OwnV.slice {e : TypeId} {w : World} {B : Nat} {v : Value} {xs : List Value} (h : OwnV e w B v xs) : ∃ a n c, v = .slice a n c := by
  rcases h.2 with ⟨rfl, -⟩ | ⟨g, cap, cur, rfl, -⟩
  · exact ⟨_, _, _, rfl⟩
  · exact ⟨_, _, _, rfl⟩
theorem below_set {w : World} {r o : Nat} {v : Value} (h : r < w.heap.size) : Below r w (w.setCell ⟨r, o, none⟩ v) :=
  ⟨rfl, rfl, rfl, by simp [World.setCell], fun k hk => Below.heap_setCell _ _ _ _ (by rintro rfl; exact absurd hk (Nat.lt_irrefl _))⟩
theorem VN_set (r k x t s X : Nat) (v1 : Value) (l : List Bool) (w : World) (u0 : Value) (a1 : Value) (a2 : Value) (hc : w.heap[r]? = some (.cells #[v1, a1, a2] 123)) (i : Nat) (v : Value) (h : VN r k x t s X v1 l i w v) : VN r k x t s X v1 l i (w.setCell ⟨r, 0, none⟩ u0) v := by
  unfold VN at h ⊢
  split at h <;> first | exact h | trivial | exact (let ⟨g, h1, h2, h3⟩ := h; ⟨g, h1, (Below.heap_setCell _ _ _ _ (by rintro rfl; rw [hc] at h2; simp at h2)).trans h2, h3⟩) | exact h.same fun g _ _ hg => Below.heap_setCell _ _ _ _ (by rintro rfl; exact row_not h hc (by decide) hg)
theorem VN_grown (r k x t s X : Nat) (v1 : Value) (l : List Bool) (w w' : World) (i : Nat) (v : Value) (hi : i ≠ 45) (hg : w.grownBy w' v1.ownBlock) (h : VN r k x t s X v1 l i w v) : VN r k x t s X v1 l i w' v := by
  unfold VN at h ⊢
  split at h <;> first | exact absurd rfl hi | exact h | trivial | exact (let ⟨g, h1, h2, h3⟩ := h; ⟨g, h1, (hg.block g (Array.getElem?_eq_some_iff.1 h2).1 (fun e => h3 e.symm)).trans h2, h3⟩)

/-- What stands behind the append to the second row, ahead of its store. -/
structure Step9 (w9 : World) (r : Nat) (u v2 v9 : Value) (l : List Bool) (k : Nat) : Prop where
  blk : w9.heap[r]? = some (.cells #[u, v2, .int .i64 (l.length : Int)] 123)
  ws : OwnV 74 w9 r u (zi .u64 (words l (k + 1)))
  hs : OwnV 3 w9 r v9 (zi .i64 (aheads l k) ++ [.int .i64 (ones l (64 * k) : Int)])
theorem two_step {w8 w9 : World} {r : Nat} {u v2 v9 : Value} {l : List Bool} {k : Nat} (h : RKW w8 r r u v2 l (k + 1) k) (ho : OwnV 3 w9 r v9 (zi .i64 (aheads l k) ++ [.int .i64 (ones l (64 * k) : Int)])) (hg : w8.grownBy w9 v2.ownBlock) : Step9 w9 r u v2 v9 l k :=
  ⟨(hg.block r h.lt (row_not h.hs h.blk (by decide)).symm).trans h.blk, h.ws.apart h.hs (by decide) hg, ho⟩
section
variable {w9 : World} {r : Nat} {u v2 v9 : Value} {l : List Bool} {k : Nat}
theorem Step9.c9 (h : Step9 w9 r u v2 v9 l k) : w9.cell? ⟨r, 1, none⟩ = some v2 := by rw [cell_of_row w9 r 1 _ _ _ h.blk]; rfl
theorem Step9.f9 (h : Step9 w9 r u v2 v9 l k) : w9.frozen? ⟨r, 1, none⟩ = false := frozen_of_row w9 r 1 _ _ h.blk
theorem Step9.lt9 (h : Step9 w9 r u v2 v9 l k) : r < w9.heap.size := (Array.getElem?_eq_some_iff.1 h.blk).1
theorem Step9.rw (h : Step9 w9 r u v2 v9 l k) (ha : aheads l (k + 1) = aheads l k ++ [ones l (64 * k)]) : RKW (w9.setCell ⟨r, 1, none⟩ v9) r r u v9 l (k + 1) (k + 1) := by
  refine ⟨by rw [heap_set h.blk]; rfl, h.ws.same fun g _ _ hg => Below.heap_setCell _ _ _ _ (by rintro rfl; exact row_not h.ws h.blk (by decide) hg), ?_, Nat.le_refl _⟩
  rw [ha, zi_append]
  exact h.hs.same fun g _ _ hg => Below.heap_setCell _ _ _ _ (by rintro rfl; exact row_not h.hs h.blk (by decide) hg)
end
set_option maxHeartbeats 2000000 in
set_option maxRecDepth 100000 in
theorem rnew_c (w : World) (B b : Nat) (v : Value) (l : List Bool) (h : BT w B b v l) (hl : l.length ≤ 1000000) :
    Calls Tryz.prog 45 #[.pointer (some ⟨b, 0, none⟩)] w fun e w' => ∃ a, e = .returned (.pointer (some a)) ∧ RK w' w.heap.size (some a) l ∧ Below w.heap.size w w' := by
  have C0 := Go.Lib.hid (len_c w B b v _ _ h)
  have H := Go.Lib.hid h
  obtain ⟨r, hr⟩ : ∃ r, r = w.heap.size := ⟨_, rfl⟩
  have hnew := heap_alloc_new w (.cells #[.slice none 0 0, .slice none 0 0, .int .i64 (l.length : Int)] 123)
  have hb0 : Below w.heap.size w (w.alloc (.cells #[.slice none 0 0, .slice none 0 0, .int .i64 (l.length : Int)] 123)) := (Below.refl _ _).alloc (Nat.le_refl _) _
  rw [← hr] at hnew hb0
  have H0 : Hid (RKW (w.alloc (.cells #[.slice none 0 0, .slice none 0 0, .int .i64 (l.length : Int)] 123)) r r (.slice none 0 0) (.slice none 0 0) l 0 0) := ⟨hnew, OwnV.nil _ _ _, OwnV.nil _ _ _, Nat.le_refl _⟩
  have HR := Go.Lib.hid hr
  clear h hnew
  go_enter Tryz.func45, Tryz.ntmps45
  go_wp2_with fail
  refine C0.out.mono ?_
  rintro e w1 ⟨rfl, rfl⟩
  go_wp2_with fail
  rw [← hr]
  clear hr C0
  go_loopw [4, 5] (fun ov av wr => ∃ (k : Nat) (v1 v2 : Value), k ≤ nw l ∧ av = .int .i64 (64 * (k : Int)) ∧ ov = .int .i64 (ones l (64 * k) : Int) ∧ RKW wr r r v1 v2 l k k ∧ Below r w wr) (fun _ av _ => l.length + 64 - (intOf av).toNat)
  case atStart => exact ⟨0, _, _, by omega, rfl, rfl, H0.out, hb0⟩
  case round =>
    obtain ⟨k, v1, v2, hk, rfl, rfl, hrw, hb⟩ := hrel
    clear hb0 H0
    have c2 := hrw.c2
    have honl := ones_le l (64 * k)
    have Hnw := Go.Lib.hid (show nw l = (l.length + 63) / 64 from rfl)
    by_cases hlt : 64 * k < l.length
    · obtain ⟨t, ht⟩ : ∃ t, t = min 64 (l.length - 64 * k) := ⟨_, rfl⟩
      have htI : min (64 : Int) ((l.length : Int) - 64 * (k : Int)) = (t : Int) := by omega
      have C1 := num_c (64 * k) t wr B b v l (H.out.below (by rw [← HR.out]; exact hb)) (by omega) (by omega) (by omega)
      rw [show ((64 * k : Nat) : Int) = 64 * (k : Int) from by omega] at C1
      have hws := word_shift l k t ht
      have hpl := pop_low l k t ht
      have hcp := ones64_c (val ((l.drop (64 * k)).take t))
      have hx64 : val ((l.drop (64 * k)).take t) < 18446744073709551616 := by
        have h1 := val_lt ((l.drop (64 * k)).take t)
        exact Nat.lt_of_lt_of_le h1 (Nat.le_trans (Nat.pow_le_pow_right (by omega) (show ((l.drop (64 * k)).take t).length ≤ 64 by rw [List.length_take]; omega)) (by decide))
      have hxx := word_lt l k
      have hws1 := words_succ l k
      have has1 := aheads_succ l k
      have hc64 : (numB (val ((l.drop (64 * k)).take t)) 64).count true ≤ 64 := by
        have : (numB (val ((l.drop (64 * k)).take t)) 64).count true ≤ (numB (val ((l.drop (64 * k)).take t)) 64).length := List.count_le_length
        rwa [numB_length] at this
      have Hknw : Hid (k + 1 ≤ nw l) := Go.Lib.hid (by rw [Hnw.out]; omega)
      obtain ⟨s, hs⟩ : ∃ s, s = 64 - t := ⟨_, rfl⟩
      rw [← hs] at hws
      have hsI : 64 - (t : Int) = (s : Int) := by omega
      have hs64 : s ≤ 64 := by omega
      have hX : IntKind.u64.wrap ((val ((l.drop (64 * k)).take t) : Int) * 2 ^ s) = (word l k : Int) := by
        have e : (val ((l.drop (64 * k)).take t) : Int) * 2 ^ s = (word l k : Int) := by rw [hws]; simp
        rw [e, IntKind.wrap_u64]
        omega
      have CP := fun W => Go.Lib.hid (hcp W hx64)
      have HPL := Go.Lib.hid hpl
      have HW1 := Go.Lib.hid hws1
      have HA1 := Go.Lib.hid has1
      clear hws hpl hcp hws1 has1 ht hs
      have C1 := Go.Lib.hid C1
      have HRW := Go.Lib.hid hrw
      have hat : 64 * k ≤ 1000000 := by omega
      have Hat := Go.Lib.hid (show 64 * k = 64 * k from rfl)
      generalize (numB (val ((l.drop (64 * k)).take t)) 64).count true = c at *
      generalize val ((l.drop (64 * k)).take t) = x at *
      clear hrw
      go_wp2_with fail
      refine C1.out.mono ?_
      rintro e w2 ⟨rfl, hb2⟩
      have hr2 : r ≤ wr.heap.size := Nat.le_of_lt HRW.out.lt
      have hbb2 := hb.trans (hb2.mono hr2)
      have HRW2 := Go.Lib.hid (HRW.out.below hb2)
      clear HRW hb2 c2 C1
      go_upto_region 8 with (fail)
      have hI0 : IN w r r v1 v2 l k (fun _ => false) w2.drew := by
        have h2 := HRW2.out.below (below_drewN (B := w2.heap.size) (Below.refl _ w2) 1)
        refine ⟨⟨fun h => (by cases h), fun h => (by cases h)⟩, hbb2.trans ((below_drewN (B := w2.heap.size) (Below.refl _ w2) 1).mono (by have := hbb2.size; have := HRW2.out.lt; omega)), ?_⟩
        exact ⟨h2.blk, h2.hs, fun _ => h2.ws⟩
      have hrlt : r < w2.heap.size := HRW2.out.lt
      have hsW : IntKind.i64.wrap (64 - (t : Int)) = (s : Int) := by rw [IntKind.wrap_i64]; omega
      have hkl : k ≤ 1000000 := by omega
      generalize hXe : word l k = X at *
      have hXm : IntKind.u64.wrap ((x : Int) * 2 ^ min s 64) = (X : Int) := by rw [Nat.min_eq_left hs64]; exact hX
      clear htI hlt hsI hxx hs64
      refine wp_region_inv2 (by kernel_rfl) (VN r k x t s X v1 l) (IN w r r v1 v2 l k) (by decide +kernel) (by decide +kernel) (by rfl) [35, 36, 37, 38, 39, 40, 41, 42, 43, 44, 45, 46, 47] (by rfl) (hI0) ?_ ?_
      · intro i o ho a w6 done hI hnot hr hlen hg
        match i, ho with
        | 0, ho =>
          obtain rfl := Option.some.inj ho
          have h3 := given_old hg 3 (by decide +kernel)
          clear hg
          exact st_yield ho (wanted_none rfl) (.pointer (some ⟨r, 0, none⟩)) w6 (by simp [execOp, Act.eval, h3, go_sem]) ⟨_, rfl, hI.keep done 0 (by decide) id, fun _ _ _ h => h, by rintro t' ⟨⟩; rfl⟩
        | 1, ho =>
          obtain rfl := Option.some.inj ho
          have h3 := given_old hg 3 (by decide +kernel)
          clear hg
          exact st_yield ho (wanted_none rfl) (.pointer (some ⟨r, 0, none⟩)) w6 (by simp [execOp, Act.eval, h3, go_sem]) ⟨_, rfl, hI.keep done 1 (by decide) id, fun _ _ _ h => h, by rintro t' ⟨⟩; rfl⟩
        | 2, ho =>
          obtain rfl := Option.some.inj ho
          obtain ⟨_, h36, rfl⟩ := given_fed hg 36 (by decide +kernel)
          clear hg
          exact st_yield ho (wanted_none rfl) (.pointer (some ⟨r, 0, none⟩)) w6 (by simp [execOp, Act.eval, h36, go_sem]) ⟨_, rfl, hI.keep done 2 (by decide) id, fun _ _ _ h => h, by rintro t' ⟨⟩; rfl⟩
        | 3, ho =>
          obtain rfl := Option.some.inj ho
          obtain ⟨_, h37, rfl⟩ := given_fed hg 37 (by decide +kernel)
          clear hg
          exact st_yield ho (wanted_none rfl) (.pointer (some ⟨r, 0, none⟩)) w6 (by simp [execOp, Act.eval, h37, go_sem]) ⟨_, rfl, hI.keep done 3 (by decide) id, fun _ _ _ h => h, by rintro t' ⟨⟩; rfl⟩
        | 4, ho =>
          obtain rfl := Option.some.inj ho
          obtain ⟨_, h38, rfl⟩ := given_fed hg 38 (by decide +kernel)
          clear hg
          have hq : done 13 = false := by cases h : done 13 with | false => rfl | true => have := (hI.1.1 (hI.1.2 h)).1; rw [hnot] at this; cases this
          have hc := hI.2.2
          rw [if_neg (by rw [hq]; decide)] at hc
          have k0 : w6.cell? ⟨r, 0, none⟩ = some v1 := by rw [cell_of_row w6 r 0 _ _ _ hc.1]; rfl
          exact st_yield ho (wanted_none rfl) v1 w6 (by simp [execOp, Act.eval, h38, go_sem, k0]) ⟨_, rfl, hI.keep done 4 (by decide) id, fun _ _ _ h => h, by rintro t' ⟨⟩; rfl⟩
        | 5, ho =>
          obtain rfl := Option.some.inj ho
          have h7 := given_old hg 7 (by decide +kernel)
          clear hg
          exact st_yield ho (wanted_none rfl) (.int .u64 (x : Int)) w6 (by simp [execOp, Act.eval, h7, go_sem]) ⟨_, rfl, hI.keep done 5 (by decide) id, fun _ _ _ h => h, by rintro t' ⟨⟩; rfl⟩
        | 6, ho =>
          obtain rfl := Option.some.inj ho
          have h6 := given_old hg 6 (by decide +kernel)
          clear hg
          exact st_yield ho (wanted_none rfl) (.int .i64 (t : Int)) w6 (by simp [execOp, Act.eval, h6, go_sem]) ⟨_, rfl, hI.keep done 6 (by decide) id, fun _ _ _ h => h, by rintro t' ⟨⟩; rfl⟩
        | 7, ho =>
          obtain rfl := Option.some.inj ho
          obtain ⟨_, h41, rfl⟩ := given_fed hg 41 (by decide +kernel)
          clear hg
          exact st_yield ho (wanted_none rfl) (.int .i64 (s : Int)) w6 (by simp [execOp, Act.eval, h41, go_sem, hsW]) ⟨_, rfl, hI.keep done 7 (by decide) id, fun _ _ _ h => h, by rintro t' ⟨⟩; rfl⟩
        | 8, ho =>
          obtain rfl := Option.some.inj ho
          obtain ⟨_, h40, rfl⟩ := given_fed hg 40 (by decide +kernel)
          obtain ⟨_, h42, rfl⟩ := given_fed hg 42 (by decide +kernel)
          clear hg
          exact st_yield ho (wanted_none rfl) (.int .u64 (X : Int)) w6 (by simp [execOp, Act.eval, h40, h42, go_sem, hXm]) ⟨_, rfl, hI.keep done 8 (by decide) id, fun _ _ _ h => h, by rintro t' ⟨⟩; rfl⟩
        | 9, ho =>
          obtain rfl := Option.some.inj ho
          obtain ⟨_, h43, rfl⟩ := given_fed hg 43 (by decide +kernel)
          clear hg
          have hp : done 10 = false := by cases h : done 10 with | false => rfl | true => have := (hI.1.1 h).2; rw [hnot] at this; cases this
          have hq : done 13 = false := by cases h : done 13 with | false => rfl | true => have := hI.1.2 h; rw [hp] at this; cases this
          have hc := hI.2.2
          rw [if_neg (by rw [hq]; decide)] at hc
          have hown := hc.2.2 hp
          have hrs : r ≤ w6.heap.size := Nat.le_of_lt (Array.getElem?_eq_some_iff.1 hc.1).1
          exact st_yield ho (wanted_none rfl) (.slice (some ⟨w6.heap.size, 0, none⟩) 1 1) (w6.alloc (.cells #[.int .u64 (X : Int)] 74)) (by simp [execOp, Act.eval, h43, go_sem]) ⟨_, rfl, hI.keep done 9 (by decide) (fun h => h.alloc hrs _), fun t u _ => VN_alloc _ _ _ _ _ _ _ _ _ _ t u, by rintro t' ⟨⟩; exact ⟨w6.heap.size, rfl, heap_alloc_new w6 _, fun e => by have := (World.ownsRow.lt hown _ e).2; omega⟩⟩
        | 10, ho =>
          obtain rfl := Option.some.inj ho
          obtain ⟨v39, h39, p39⟩ := given_fed hg 39 (by decide +kernel)
          obtain ⟨v44, h44, p44⟩ := given_fed hg 44 (by decide +kernel)
          clear hg
          have hq : done 13 = false := by cases h : done 13 with | false => rfl | true => have := hI.1.2 h; rw [hnot] at this; cases this
          have hc := hI.2.2
          rw [if_neg (by rw [hq]; decide)] at hc
          obtain ⟨hc1, hc2, hc3⟩ := hc
          have hown := hc3 hnot
          obtain ⟨g, rfl, hg, hgn⟩ := p44
          have hrs : r ≤ w6.heap.size := Nat.le_of_lt (Array.getElem?_eq_some_iff.1 hc1).1
          rw [p39] at h39
          have hone : RV w6 (.slice (some ⟨g, 0, none⟩) 1 1) [.int .u64 (X : Int)] := rv_cell hg
          have hl1 : ((zi .u64 (words l k)).length + [Value.int .u64 (X : Int)].length) * 8 ≤ 140737488355328 := by rw [zi_length, words_length]; simp; omega
          have hl2 : (zi .u64 (words l k)).length + [Value.int .u64 (X : Int)].length ≤ 140737488355328 := by rw [zi_length, words_length]; simp; omega
          refine st_list ho (wanted_none rfl) (fun Q' hQ => ?_)
          refine wpList_append_RV rfl (.tmp 39) (.tmp 44) 121 rfl r 74 Tryz.underlying121 (.int .u64 0) 8 rfl infoU64 v1 (.slice (some ⟨g, 0, none⟩) 1 1) (zi .u64 (words l k)) [.int .u64 (X : Int)] (by simp [Act.eval, h39]) (by simp [Act.eval, h44]) hown hone (by simp [Value.oneCell']) hl1 hl2 hrs ?_
          intro v7 w7 ho7 hg7
          refine hQ _ _ ⟨v7, rfl, ⟨⟨fun _ => ⟨?_, ?_⟩, fun _ => doneToo_self _ _⟩, ?_⟩, ?_, ?_⟩
          · unfold doneToo; split <;> simp [hr 4 (by decide +kernel)]
          · unfold doneToo; split <;> simp [hr 9 (by decide +kernel)]
          · rw [doneToo_self, doneToo_other (show (13 : Nat) ≠ 10 by decide), hq]
            refine ⟨hI.2.1.trans (grown_below hg7 hrs hown.row), ?_⟩
            rw [if_neg (by decide)]
            exact ⟨(hg7.block r (Array.getElem?_eq_some_iff.1 hc1).1 (row_not hown hc1 (by decide)).symm).trans hc1, hc2.apart hown (by decide) hg7, fun h => (by cases h)⟩
          · intro t' u hw hV
            have hne : t' ≠ 45 := by rintro rfl; exact not_wrote (i := 10) (by rfl) hnot hw
            exact VN_grown _ _ _ _ _ _ _ _ _ _ _ _ hne hg7 hV
          · rintro t' ⟨⟩
            show OwnV 74 w7 r v7 (zi .u64 (words l k ++ [X]))
            rw [show zi .u64 (words l k ++ [X]) = zi .u64 (words l k) ++ [.int .u64 (X : Int)] from by rw [zi_append]; rfl]
            exact ho7
        | 11, ho =>
          obtain rfl := Option.some.inj ho
          obtain ⟨_, h35, rfl⟩ := given_fed hg 35 (by decide +kernel)
          clear hg
          exact st_yield ho (wanted_none rfl) (.pointer (some ⟨r, 0, none⟩)) w6 (by simp [execOp, Act.eval, h35, go_sem]) ⟨_, rfl, hI.keep done 11 (by decide) id, fun _ _ _ h => h, by rintro t' ⟨⟩; rfl⟩
        | 12, ho =>
          obtain rfl := Option.some.inj ho
          obtain ⟨_, h46, rfl⟩ := given_fed hg 46 (by decide +kernel)
          clear hg
          exact st_yield ho (wanted_none rfl) (.pointer (some ⟨r, 0, none⟩)) w6 (by simp [execOp, Act.eval, h46, go_sem]) ⟨_, rfl, hI.keep done 12 (by decide) id, fun _ _ _ h => h, by rintro t' ⟨⟩; rfl⟩
        | 13, ho =>
          obtain rfl := Option.some.inj ho
          obtain ⟨_, h47, rfl⟩ := given_fed hg 47 (by decide +kernel)
          obtain ⟨v45, h45, p45⟩ := given_fed hg 45 (by decide +kernel)
          clear hg
          have hp := hr 10 (by decide +kernel)
          have hc := hI.2.2
          rw [if_neg (by rw [hnot]; decide)] at hc
          obtain ⟨hc1, hc2, -⟩ := hc
          have hfz : w6.frozen? ⟨r, 0, none⟩ = false := frozen_of_row w6 r 0 _ _ hc1
          have k0 : w6.cell? ⟨r, 0, none⟩ = some v1 := by rw [cell_of_row w6 r 0 _ _ _ hc1]; rfl
          have hkeep : ∀ {e : TypeId} {u : Value} {xs : List Value}, OwnV e w6 r u xs → e ≠ 123 → OwnV e (w6.setCell ⟨r, 0, none⟩ v45) r u xs := fun {e u xs} hu he => hu.same fun g _ _ hg => Below.heap_setCell _ _ _ _ (by rintro rfl; exact row_not hu hc1 he hg)
          have p45' : OwnV 74 w6 r v45 (zi .u64 (words l (k + 1))) := by rw [HW1.out]; exact p45
          have hset : (w6.setCell ⟨r, 0, none⟩ v45).heap[r]? = some (.cells #[v45, v2, .int .i64 (l.length : Int)] 123) := by rw [heap_set hc1]; rfl
          have hrs : r < w6.heap.size := (Array.getElem?_eq_some_iff.1 hc1).1
          have hp4 := (hI.1.1 hp).1
          have hp9 := (hI.1.1 hp).2
          obtain ⟨y1, y2, y3, rfl⟩ := OwnV.slice p45'
          refine st_done ho (wanted_none rfl) (w6.setCell ⟨r, 0, none⟩ (.slice y1 y2 y3)) (by simp [execOp, Act.eval, h45, h47, go_sem, hfz, k0]) ⟨_, rfl, ⟨⟨fun _ => ⟨?_, ?_⟩, fun _ => ?_⟩, ?_⟩, ?_, ?_⟩
          · unfold doneToo; split <;> simp [hp4]
          · unfold doneToo; split <;> simp [hp9]
          · unfold doneToo; split <;> simp [hp]
          · rw [doneToo_self]
            refine ⟨hI.2.1.trans (below_set hrs), ?_⟩
            rw [if_pos rfl]
            exact ⟨_, hset, hkeep p45' (by decide), hkeep hc2 (by decide), Nat.le_refl _⟩
          · intro t' u _ hV
            exact VN_set _ _ _ _ _ _ _ _ _ _ _ _ hc1 _ _ hV
          · rintro t' ⟨⟩
        | n + 14, ho => simp at ho
      · intro f w7 done hall hI hv
        have h10 := hall 10 (by decide)
        have h13 := hall 13 (by decide)
        obtain ⟨-, hI1, hI2⟩ := hI
        rw [if_pos h13] at hI2
        obtain ⟨u, hI3⟩ := hI2
        clear hv hall h10 h13
        unfold putAll
        simp only [List.foldl]
        go_simp
        have hrl7 := hI3.lt
        have hA : Below w7.heap.size w7 (w7.alloc (.cells #[.int .i64 (ones l (64 * k) : Int)] 3)) := (Below.refl _ _).alloc (Nat.le_refl _) _
        have hI4 := hI3.below hA
        have hbA := hI1.trans (hA.mono (Nat.le_of_lt hrl7))
        have c1 := hI3.c1
        have hone := RV.one w7 3 (.int .i64 (ones l (64 * k) : Int))
        have hown := hI4.hs
        have hsz : r ≤ (w7.alloc (.cells #[.int .i64 (ones l (64 * k) : Int)] 3)).heap.size := Nat.le_of_lt hI4.lt
        have hl1 : ((zi .i64 (aheads l k)).length + [Value.int .i64 (ones l (64 * k) : Int)].length) * 8 ≤ 140737488355328 := by rw [zi_length, aheads_length]; simp; omega
        have hl2 : (zi .i64 (aheads l k)).length + [Value.int .i64 (ones l (64 * k) : Int)].length ≤ 140737488355328 := by rw [zi_length, aheads_length]; simp; omega
        have H4 := Go.Lib.hid hI4
        clear hI3 hI1 hA hI4 hI0 HRW2 hX hXm HW1 hXe hsW hrlt hbb2
        go_wp2_with (first
          | (with_reducible show wpList _ _ _ (⟨some 55, _, _, _, _, _⟩ :: _) _ _; go_must (refine wpList_append_RV rfl (.tmp 52) (.tmp 54) 108 rfl r 3 Tryz.underlying108 (.int .i64 0) 8 rfl infoI64 v2 (.slice (some ⟨w7.heap.size, 0, none⟩) 1 1) (zi .i64 (aheads l k)) [.int .i64 (ones l (64 * k) : Int)] rfl rfl hown hone (by simp [Value.oneCell']) hl1 hl2 hsz ?_); go_must (intro v9 w9 ho9 hg9; obtain ⟨y1, y2, y3, rfl⟩ := OwnV.slice ho9; have h9 := two_step H4.out ho9 hg9; have hb9 := hbA.trans (grown_below hg9 hsz hown.row); have hc9 := h9.c9; have hf9 := h9.f9; have hbs := hb9.trans (below_set (o := 1) (v := .slice y1 y2 y3) h9.lt9); have H9 := Go.Lib.hid (h9.rw HA1.out); clear ho9 hg9 hown hone hl1 hl2 hsz H4 hbA h9 hb9))
          | fail)
        refine (CP _).out.mono ?_
        rintro e w11 ⟨rfl, rfl⟩
        go_wp2_with fail
        go_roundw
        case rel => exact ⟨k + 1, _, _, Hknw.out, by go_num, by rw [HPL.out]; rfl, H9.out, hbs⟩
        case measure => simp only [intOf]; omega
    · have hk2 : k = nw l := by have := Hnw.out; omega
      subst hk2
      have HRW := Go.Lib.hid hrw
      clear hrw
      go_wp2_with fail
      go_ret
      exact ⟨_, rfl, ⟨hl, .inr ⟨r, v1, v2, rfl, by rw [← HR.out]; exact HRW.out⟩⟩, by rw [← HR.out]; exact hb⟩

end Go.Proofs.YthbnecdeebmlhaaGreat

namespace Go.Proofs.YthbnecdeebmlhaaGreat
open Go.RowKit
open Go.Lib (uvarint zigzag)

def rr (r : RdT) : Value := .tuple #[recV (str r.1.1) r.1.2.1 r.1.2.2.1 r.1.2.2.2.1 (str r.1.2.2.2.2), .int .i64 (r.2.1 : Int), .int .i64 r.2.2]

end Go.Proofs.YthbnecdeebmlhaaGreat

namespace Go.Proofs.YthbnecdeebmlhaaGreat
open Go.RowKit

/-- What stands behind the kind. -/
def goR (k : Int) (l : List UInt8) : (Int × Int × List UInt8) × Nat × Int :=
  if k = 1 then ((1, (getB l).1, []), (getB l).2.1, (getB l).2.2) else if k = 2 then ((2, 0, (textB l).1), (textB l).2.1, (textB l).2.2) else ((0, 0, []), 0, 1)

theorem valB_go (l : List UInt8) (k : Int) (p : Nat) (h : getB l = (k, p, 0)) (r : Int × Int × List UInt8) (m : Nat) (e : Int) (g : goR k (l.drop p) = (r, m, e)) :
    valB l = if e = 0 then (if mayR r.1 r.2.1 (str r.2.2) then (r, p + m, 0) else ((0, 0, []), 0, 1)) else ((0, 0, []), 0, e) := by
  unfold goR at g
  split at g
  · rename_i hk
    subst hk
    rw [valB_num l p _ _ _ h rfl]
    simp only [Prod.mk.injEq] at g
    obtain ⟨rfl, rfl, rfl⟩ := g
    have : ∀ n, mayR 1 n (str []) = true := fun n => by unfold mayR; simp [str]
    simp only [this, if_true]
    rfl
  · split at g
    · rename_i hk
      subst hk
      rw [valB_text l _ p _ _ h rfl]
      simp only [Prod.mk.injEq] at g
      obtain ⟨rfl, rfl, rfl⟩ := g
      rfl
    · rename_i h1 h2
      rw [valB_else l k p h h1 h2]
      simp only [Prod.mk.injEq] at g
      obtain ⟨rfl, rfl, rfl⟩ := g
      simp

theorem goR_small {k : Int} {l : List UInt8} {r : Int × Int × List UInt8} {m : Nat} {e : Int} (h : goR k l = (r, m, e)) (he : e = 0) : r.2.2.length ≤ 65536 ∧ m ≤ 70000 := by
  unfold goR at h
  split at h
  · have := getB_fits l
    simp only [Prod.mk.injEq] at h
    obtain ⟨rfl, rfl, rfl⟩ := h
    simp
    omega
  · split at h
    · simp only [Prod.mk.injEq] at h
      obtain ⟨rfl, rfl, rfl⟩ := h
      exact textB_small (l := l) rfl he
    · simp only [Prod.mk.injEq] at h
      obtain ⟨rfl, rfl, rfl⟩ := h
      simp

theorem ret_gof_at {w w0 : World} {tmps : Array Value} {k n : Int} {s : ByteArray} {m : Nat} {e : Int} {g : Nat} {fr : Nat × Nat} {r : (Int × Int × List UInt8) × Nat × Int}
    (hp : tmps.getD 4 undef = .pointer (some ⟨g, 0, none⟩)) (hg : w.heap[g]? = some (.cells #[.int .i64 k, .int .i64 n, .string s] 26 fr)) (h3 : tmps.getD 5 undef = .int .i64 (m : Int)) (h4 : tmps.getD 6 undef = .int .i64 e)
    (hr : ((k, n, bl s), m, e) = r) (hb : Below w0.heap.size w0 w) : bodyPost Tryz.prog Tryz.f155 (fun e w' => e = .returned (vv r) ∧ Below w0.heap.size w0 w') Exit.ret { tmps := tmps, defers := [] } w := by
  subst hr
  have h := results_row_two (P := Tryz.prog) (fn := Tryz.f155) (p := 4) (u := 5) (v := 6) (ty := 26) rfl tmps w g 26 #[.int .i64 k, .int .i64 n, .string s] fr _ hp hg Tryz.underlying26 rfl (by kernel_rfl)
  rw [h3, h4] at h
  refine bodyPost_ret h rfl ⟨?_, hb⟩
  unfold vv rawV
  rw [str_bl]

theorem ret_vget_at {w w0 : World} {tmps : Array Value} {k n : Int} {s : ByteArray} {m : Nat} {e : Int} {g : Nat} {fr : Nat × Nat} {r : (Int × Int × List UInt8) × Nat × Int}
    (hp : tmps.getD 2 undef = .pointer (some ⟨g, 0, none⟩)) (hg : w.heap[g]? = some (.cells #[.int .i64 k, .int .i64 n, .string s] 26 fr)) (h3 : tmps.getD 3 undef = .int .i64 (m : Int)) (h4 : tmps.getD 4 undef = .int .i64 e)
    (hr : ((k, n, bl s), m, e) = r) (hb : Below w0.heap.size w0 w) : bodyPost Tryz.prog Tryz.f135 (fun e w' => e = .returned (vv r) ∧ Below w0.heap.size w0 w') Exit.ret { tmps := tmps, defers := [] } w := by
  subst hr
  have h := results_row_two (P := Tryz.prog) (fn := Tryz.f135) (p := 2) (u := 3) (v := 4) (ty := 26) rfl tmps w g 26 #[.int .i64 k, .int .i64 n, .string s] fr _ hp hg Tryz.underlying26 rfl (by kernel_rfl)
  rw [h3, h4] at h
  refine bodyPost_ret h rfl ⟨?_, hb⟩
  unfold vv rawV
  rw [str_bl]

set_option maxRecDepth 100000 in
theorem getOf_c (k : Int) (v : Value) (l : List UInt8) (w : World) (hv : RB w v l) :
    Calls Tryz.prog 155 #[.int .i64 k, v] w fun e w' => e = .returned (vv (goR k l)) ∧ Below w.heap.size w w' := by
  have hrb := hv
  obtain ⟨a, cap, rfl, -⟩ := hv
  have hR1 := Go.Lib.hid (hrb.below (below_one w (.cells #[.int .i64 0, .int .i64 0, .string ⟨#[]⟩] 26)))
  clear hrb
  by_cases h1 : k = 1
  · subst h1
    have C := Go.Lib.hid fun W h => get_c (.slice a l.length cap) l W h
    have hr : Hid (((1, (getB l).1, bl ⟨#[]⟩), (getB l).2.1, (getB l).2.2) = goR 1 l) := rfl
    unfold gv at C
    generalize (getB l).1 = n at *
    generalize (getB l).2.1 = p at *
    generalize (getB l).2.2 = er at *
    go_enter Tryz.func155, Tryz.ntmps155
    go_wp2_with fail
    refine (C.out _ hR1.out).mono ?_
    rintro e w1 ⟨rfl, rfl⟩
    go_wp2_with fail
    exact ret_gof_at rfl (heap_alloc_new ..) rfl rfl hr.out (below_one ..)
  · by_cases h2 : k = 2
    · subst h2
      have C := Go.Lib.hid fun W h => getText_c (.slice a l.length cap) l W h
      have hr : Hid (((2, 0, bl (str (textB l).1)), (textB l).2.1, (textB l).2.2) = goR 2 l) := by unfold Hid; rw [bl_str]; rfl
      unfold tv at C
      generalize str (textB l).1 = s at *
      generalize (textB l).2.1 = p at *
      generalize (textB l).2.2 = er at *
      go_enter Tryz.func155, Tryz.ntmps155
      go_wp2_with fail
      refine (C.out _ hR1.out).mono ?_
      rintro e w1 ⟨rfl, rfl⟩
      go_wp2_with fail
      exact ret_gof_at rfl (heap_alloc_new ..) rfl rfl hr.out (below_one ..)
    · have h1' : (k == 1) = false := by simp [h1]
      have h2' : (k == 2) = false := by simp [h2]
      have hr : Hid (((0, 0, bl ⟨#[]⟩), 0, 1) = goR k l) := by unfold Hid goR; rw [if_neg h1, if_neg h2]; rfl
      go_enter Tryz.func155, Tryz.ntmps155
      go_wp2_with fail
      exact ret_gof_at (m := 0) rfl (heap_alloc_new ..) rfl rfl hr.out (below_one ..)

set_option maxHeartbeats 2000000 in
set_option maxRecDepth 100000 in
theorem vget_c (v : Value) (l : List UInt8) (w : World) (hv : RB w v l) :
    Calls Tryz.prog 135 #[v] w fun e w' => e = .returned (vv (valB l)) ∧ Below w.heap.size w w' := by
  have hrb := hv
  obtain ⟨a, cap, rfl, h1, h2, h3, h4⟩ := hv
  have hm : l.length ≤ 9223372036854775807 := by unfold maxLen at h2; omega
  clear h4 h3 h1 h2
  have hfit := getB_fits l
  have c1 := fun W (h : RB W (.slice a l.length cap) l) => get_c (.slice a l.length cap) l W h
  rcases hr : getB l with ⟨k, p, er⟩
  rw [hr] at hfit c1
  unfold gv at c1
  simp only [] at hfit c1
  obtain ⟨f1, f2, f3, f4, f5, f6⟩ := hfit
  have C1 := Go.Lib.hid c1; clear c1
  have Hr := Go.Lib.hid hr; clear hr
  have hR1 := Go.Lib.hid (hrb.below (below_one w (.cells #[.int .i64 0, .int .i64 0, .string ⟨#[]⟩] 26)))
  clear hrb
  by_cases he : er = 0
  · subst he
    rcases hg : goR k (l.drop p) with ⟨⟨k1, n1, s1⟩, m, e⟩
    have hsm := Go.Lib.hid (goR_small hg)
    have hv := Go.Lib.hid (valB_go l k p Hr.out (k1, n1, s1) m e hg)
    have C2 := fun v' W (h : RB W v' (l.drop p)) => getOf_c k v' (l.drop p) W h
    rw [hg] at C2
    unfold vv rawV at C2
    simp only [] at C2
    have C2 := Go.Lib.hid C2
    clear hg f4 f5
    by_cases he : e = 0
    · subst he
      obtain ⟨hs1, hm1⟩ := hsm.out rfl
      have C3 := fun W => vof_c k1 n1 (str s1) W
      unfold ofV rawV VI.val at C3
      have hv2 := hv.out
      rw [if_pos rfl] at hv2
      have hv3 : Hid (valB l = if mayR k1 n1 (str s1) = true then ((k1, n1, bl (str s1)), p + m, 0) else ((0, 0, bl ⟨#[]⟩), 0, 1)) := by unfold Hid; rw [bl_str]; exact hv2
      clear hv2 hv hsm hs1
      generalize hmay : mayR k1 n1 (str s1) = may at C3 hv3
      generalize ofR k1 n1 (str s1) = x at C3
      have hst := store_vi x
      generalize str s1 = q at *
      obtain ⟨e3, he3⟩ : ∃ e3 : Int, (if may = true then (0 : Int) else 1) = e3 := ⟨_, rfl⟩
      rw [he3] at C3
      have he3 := Go.Lib.hid he3
      have C3 := Go.Lib.hid C3
      clear hmay f1 f2
      have hpm : IntKind.i64.wrap ((p : Int) + (m : Int)) = ((p + m : Nat) : Int) := by rw [IntKind.wrap_i64]; omega
      have Hpm := Go.Lib.hid hpm; clear hpm
      go_enter Tryz.func135, Tryz.ntmps135
      go_wp2_with fail
      refine (C1.out _ hR1.out).mono ?_
      rintro e w1 ⟨rfl, rfl⟩
      go_wp2_with (first
        | (with_reducible show wpList _ _ _ (⟨some 26, _, _, _, _, _⟩ :: _) _ _; go_loud (refine wpList_slice_l rfl (.tmp 24) (.tmp 25) 47 rfl 5 Tryz.underlying47 info8 (.slice a l.length cap) l .i64 _ p rfl rfl rfl hR1.out f3 ?_); intro v3 hv3)
        | fail)
      refine (C2.out _ _ hv3).mono ?_
      rintro e w2 ⟨rfl, hb2⟩
      have hlt0 := (Array.getElem?_eq_some_iff.1 (heap_alloc_new w (.cells #[.int .i64 0, .int .i64 0, .string ⟨#[]⟩] 26))).1
      have hA := (hb2.block _ hlt0).trans (heap_alloc_new w _)
      have hbb2 := (below_one w (.cells #[.int .i64 0, .int .i64 0, .string ⟨#[]⟩] 26)).trans (hb2.mono (below_one w _).size)
      clear hb2 hlt0 hv3 hR1 C1 C2
      have HA := Go.Lib.hid hA; clear hA
      have Hb2 := Go.Lib.hid hbb2; clear hbb2
      go_wp2_with fail
      refine (C3.out _).mono ?_
      rintro e w3 ⟨rfl, hb3⟩
      have hltA : w.heap.size < w2.heap.size := (Array.getElem?_eq_some_iff.1 HA.out).1
      have hB := heap_alloc_new w2 (.cells #[.int .i64 k1, .int .i64 n1, .string q] 26)
      have hltB := (Array.getElem?_eq_some_iff.1 hB).1
      have hA3 := (hb3.block w.heap.size (by omega)).trans ((_root_.Go.heap_alloc_old w2 _ hltA).trans HA.out)
      have hB3 := (hb3.block _ hltB).trans hB
      have hbb3 := (Hb2.out.trans ((below_one w2 (.cells #[.int .i64 k1, .int .i64 n1, .string q] 26)).mono Hb2.out.size)).trans (hb3.mono (Nat.le_trans Hb2.out.size (below_one w2 _).size))
      have hltA3 := (Array.getElem?_eq_some_iff.1 hA3).1
      have hltB3 := (Array.getElem?_eq_some_iff.1 hB3).1
      have hA4 := Go.Lib.hid ((_root_.Go.heap_alloc_old w3 (.cells #[x.v] 174) hltA3).trans hA3)
      have hB4 := (_root_.Go.heap_alloc_old w3 (.cells #[x.v] 174) hltB3).trans hB3
      have hbb4 := Go.Lib.hid (hbb3.trans ((below_one w3 (.cells #[x.v] 174)).mono hbb3.size))
      have x0 := cell_of_row _ w2.heap.size 0 _ _ _ hB4
      have x1 := cell_of_row _ w2.heap.size 1 _ _ _ hB4
      have x2 := cell_of_row _ w2.heap.size 2 _ _ _ hB4
      simp only [List.getElem?_toArray, List.getElem?_cons_zero, List.getElem?_cons_succ] at x0 x1 x2
      clear hB4 hltA3 hltB3 hbb3 hB3 hA3 hltB hB hltA hb3 HA Hb2 C3
      cases may with
      | true =>
        obtain rfl := he3.out
        rw [if_pos rfl]
        have hv4 := Go.Lib.hid (hv3.out.trans (if_pos rfl)).symm
        clear hv3
        have hpm := Hpm.out
        clear Hpm
        go_wp2_with (first
          | (with_reducible show wpList _ _ _ (⟨none, Op.store 26 (.tmp 2) (.tmp 44), _, _, _, _⟩ :: _) _ _; go_loud (refine wpList_store_row rfl 26 (.tmp 2) (.tmp 44) rfl w.heap.size #[.int .i64 k1, .int .i64 n1, .string q] rfl rfl 26 _ hA4.out (by kernel_rfl) rfl (raw_cells_one ..) ?_))
          | fail)
        refine ret_vget_at (m := p + m) rfl (setRow_heap _ _ _ _ _ (0, 0) hA4.out) rfl rfl hv4.out (setRow_below _ hbb4.out (Nat.le_refl _))
      | false =>
        obtain rfl := he3.out
        rw [if_neg (by decide)]
        have hv4 := Go.Lib.hid (hv3.out.trans (if_neg (by decide))).symm
        clear hv3 Hpm x0 x1 x2
        go_wp2_with (first
          | (with_reducible show wpList _ _ _ (⟨none, Op.store 26 (.tmp 2) (.tmp 42), _, _, _, _⟩ :: _) _ _; go_loud (refine wpList_store_row rfl 26 (.tmp 2) (.tmp 42) rfl w.heap.size #[.int .i64 0, .int .i64 0, .string ⟨#[]⟩] rfl rfl 26 _ hA4.out (by kernel_rfl) rfl (raw_cells_one ..) ?_))
          | fail)
        refine ret_vget_at (m := 0) rfl (setRow_heap _ _ _ _ _ (0, 0) hA4.out) rfl rfl hv4.out (setRow_below _ hbb4.out (Nat.le_refl _))
    · have hv2 := hv.out
      rw [if_neg he] at hv2
      have hv4 := Go.Lib.hid hv2.symm
      have heb : (e == 0) = false := by simp [he]
      clear hv2 hv he hsm f1 f2
      generalize str s1 = q at *
      generalize he1 : e = e1 at *
      clear he1
      go_enter Tryz.func135, Tryz.ntmps135
      go_wp2_with fail
      refine (C1.out _ hR1.out).mono ?_
      rintro e w1 ⟨rfl, rfl⟩
      go_wp2_with (first
        | (with_reducible show wpList _ _ _ (⟨some 26, _, _, _, _, _⟩ :: _) _ _; go_loud (refine wpList_slice_l rfl (.tmp 24) (.tmp 25) 47 rfl 5 Tryz.underlying47 info8 (.slice a l.length cap) l .i64 _ p rfl rfl rfl hR1.out f3 ?_); intro v3 hv3)
        | fail)
      refine (C2.out _ _ hv3).mono ?_
      rintro e w2 ⟨rfl, hb2⟩
      have hlt0 := (Array.getElem?_eq_some_iff.1 (heap_alloc_new w (.cells #[.int .i64 0, .int .i64 0, .string ⟨#[]⟩] 26))).1
      have hA := (hb2.block _ hlt0).trans (heap_alloc_new w _)
      have hbb2 := (below_one w (.cells #[.int .i64 0, .int .i64 0, .string ⟨#[]⟩] 26)).trans (hb2.mono (below_one w _).size)
      clear hb2 hlt0 hv3 hR1 C1 C2
      have hltA := (Array.getElem?_eq_some_iff.1 hA).1
      have hA4 := Go.Lib.hid ((_root_.Go.heap_alloc_old w2 (.cells #[.int .i64 k1, .int .i64 n1, .string q] 26) hltA).trans hA)
      have hbb4 := Go.Lib.hid (hbb2.trans ((below_one w2 (.cells #[.int .i64 k1, .int .i64 n1, .string q] 26)).mono hbb2.size))
      clear hA hbb2 hltA
      go_wp2_with (first
        | (with_reducible show wpList _ _ _ (⟨none, Op.store 26 (.tmp 2) (.tmp 33), _, _, _, _⟩ :: _) _ _; go_loud (refine wpList_store_row rfl 26 (.tmp 2) (.tmp 33) rfl w.heap.size #[.int .i64 0, .int .i64 0, .string ⟨#[]⟩] rfl rfl 26 _ hA4.out (by kernel_rfl) rfl (raw_cells_one ..) ?_))
        | fail)
      refine ret_vget_at (m := 0) rfl (setRow_heap _ _ _ _ _ (0, 0) hA4.out) rfl rfl hv4.out (setRow_below _ hbb4.out (Nat.le_refl _))
  · have hv := Go.Lib.hid (valB_err l k er p Hr.out he).symm
    have heb : (er == 0) = false := by simp [he]
    clear f4 f5 f6 he
    go_enter Tryz.func135, Tryz.ntmps135
    go_wp2_with fail
    refine (C1.out _ hR1.out).mono ?_
    rintro e w1 ⟨rfl, rfl⟩
    go_wp2_with fail
    refine ret_vget_at (m := 0) rfl (heap_alloc_new ..) rfl rfl hv.out (below_one ..)

end Go.Proofs.YthbnecdeebmlhaaGreat
