/-
  Stage 17: slices.Sort of ints that the call made; Find.
  Mathematics of ways (of no code): the slots along which entries give way, one to the next.
  Stage 17: the buckets that are reached, in memory; slices.Clone of places.
  Stage 17: way.
  A region whose order is open, whose operations read and make memory, and some of which CHANGE what stands (a call of a method that writes): beside the condition for each slot (XDraw) an invariant of the world that knows which operations have been carried out. Each operation is shown once.
  As XDrawI's wp_region_inv2, with an invariant that sees the slots too.
-/
import Derived.Test.YthbnecdeebmlhaaGreatL08
import Derived.Test.YthbnecdeebmlhaaGreatL04
import Derived.Sort.OwnSortedInts
import Derived.Test.YthbnecdeebmlhaaGreatL03
import Derived.Test.YthbnecdeebmlhaaGreatL06
import Derived.Lib.SliceRun
namespace Go.Proofs.YthbnecdeebmlhaaGreat
open Go.RowKit Go.Sort Go.Shelf

theorem flatI (l : List Int) : KI.flat l = l.map (Value.int .i64) := by
  unfold Lay.flat
  induction l with
  | nil => rfl
  | cons x l ih => rw [List.flatMap_cons, ih]; rfl
theorem sortI_c (w : World) (B : Nat) (v : Value) (F : List Int) (hown : KI.O w B v F) (hl : F.length ≤ 100000) :
    Calls Tryz.prog 102 #[v] w fun e w' => e = .returned (.tuple #[]) ∧ ∃ G, G.Perm F ∧ G.Pairwise (· ≤ ·) ∧ KI.O w' B v G ∧ w.grownBy w' v.ownBlock := by
  have h0 := hown
  rcases hown with ⟨h1, ⟨rfl, hn⟩ | ⟨g, cap, cur, rfl, hB, h2, h3, h4, h5, h6⟩⟩
  · obtain rfl : F = [] := List.eq_nil_of_length_eq_zero hn
    have h := AnyM.slices_Sort_int_none { sortIL with } none 0 w
    change Calls Tryz.prog 102 _ _ _ at h
    refine h.mono ?_
    rintro e w' ⟨rfl, rfl⟩
    exact ⟨rfl, [], List.Perm.refl _, List.Pairwise.nil, h0, World.grownBy.refl _ _⟩
  · have hH : Holds (Value.int .i64) w g 0 F.toArray := fun j hj => by
      have hjl : j < F.length := by simpa using hj
      refine ⟨?_, frozen_of_row _ _ _ _ _ h2⟩
      have := Lay.O.cell h0 KI_ok j hjl 0 _ rfl
      rw [getElem!_pos F.toArray j hj]
      simpa [KI] using this
    have h := AnyM.slices_Sort_int sortIL g 0 cap F w hH (Array.getElem?_eq_some_iff.1 h2).1 (by omega)
    change Calls Tryz.prog 102 _ _ _ at h
    refine h.mono ?_
    rintro e w' ⟨rfl, n, os, rfl⟩
    have hp : (F.mergeSort fun x y => decide (x ≤ y)).Perm F := List.mergeSort_perm _ _
    have hs : (F.mergeSort fun x y => decide (x ≤ y)).Pairwise (· ≤ ·) := by
      have := List.pairwise_mergeSort (le := fun x y : Int => decide (x ≤ y)) (fun a b c h1 h2 => by simp at *; omega) (fun a b => by simp; omega) F
      exact this.imp fun h => by simpa using h
    generalize F.mergeSort (fun x y => decide (x ≤ y)) = G at *
    refine ⟨rfl, G, hp, hs, ?_, grownBy_sortedI _⟩
    have hlen := hp.length_eq
    have := ownsRow_sortedI (w := w) (base := B) (n := n) (e := 3) (os := os) (ss := F) (ts := G) hlen hB h2 h3 h4 (by simpa [KI] using h5)
    unfold Lay.O
    rw [flatI, hlen]
    exact this

/-! ### Whose numbers they are. -/
def qP (p : Nat × Nat) : Nat := 4 * p.1 + p.2
theorem hits_nodup (T : SlT) (t b k : Nat) : ((hitsT T t b k).map qP).Nodup := by
  unfold hitsT
  rw [List.map_map]
  unfold List.Nodup
  rw [List.pairwise_map]
  refine List.Pairwise.imp (R := fun a b : Nat => a ≠ b) (fun {a c} hac => ?_) (List.Pairwise.filter _ List.nodup_range)
  show 4 * b + a ≠ 4 * b + c
  omega
theorem places_nodup (T : SlT) (x : Nat) : ((placesT T x).map qP).Nodup := by
  show ((([] : List (Nat × Nat)) ++ hitsT T (tagN x) (bkX x 0) 4) ++ hitsT T (tagN x) (bkX x 1) 4).map qP |>.Nodup
  rw [List.nil_append, List.map_append, List.nodup_append]
  refine ⟨hits_nodup _ _ _ _, hits_nodup _ _ _ _, fun a ha b hb => ?_⟩
  obtain ⟨p, hp, rfl⟩ := List.mem_map.1 ha
  obtain ⟨q, hq, rfl⟩ := List.mem_map.1 hb
  obtain ⟨h1, h2, -⟩ := hits_mem.1 hp
  obtain ⟨h3, h4, -⟩ := hits_mem.1 hq
  have hne : othN (firstN x) (tagN x) ≠ firstN x := oth_ne _ (first_lt x)
  have e0 : bkX x 0 = firstN x := rfl
  have e1 : bkX x 1 = othN (firstN x) (tagN x) := rfl
  unfold qP
  omega
def hereT (T : SlT) (x q : Nat) : Bool := hitO (tagN x) (T q) && keyN (q / 4) (tagN x) == keyH x
theorem places_q (T : SlT) (x : Nat) : ((placesT T x).map qP).Perm ((List.range 32).filter (hereT T x)) := by
  rw [List.perm_ext_iff_of_nodup (places_nodup T x) (List.Pairwise.filter _ List.nodup_range)]
  intro q
  rw [List.mem_filter, List.mem_range]
  constructor
  · intro h
    obtain ⟨p, hp, rfl⟩ := List.mem_map.1 h
    obtain ⟨h1, h2, h3, h4⟩ := places_lt hp
    have e : qP p / 4 = p.1 := by unfold qP; omega
    refine ⟨by unfold qP; omega, ?_⟩
    unfold hereT
    have e5 : hitO (tagN x) (T (qP p)) = true := (places_mem.1 hp).2.2
    rw [e, h4, e5]
    simp
  · rintro ⟨hq, hh⟩
    unfold hereT at hh
    rw [Bool.and_eq_true, beq_iff_eq] at hh
    refine List.mem_map.2 ⟨(q / 4, q % 4), places_of (hitO_some hh.1) hq hh.2, ?_⟩
    unfold qP
    simp only []
    omega
theorem here_slots (T : SlT) (x : Nat) : (((slL T).map keyS).filter fun k => k.1 == keyH x).map Prod.snd = ((List.range 32).filter (hereT T x)).map fun q => idO (T q) := by
  unfold slL
  induction List.range 32 with
  | nil => rfl
  | cons q l ih =>
    rw [List.filterMap_cons, List.filter_cons]
    cases hT : T q with
    | none =>
      have e : hereT T x q = false := by unfold hereT; rw [hT]; rfl
      rw [e]
      simp only [Option.map_none]
      exact ih
    | some y =>
      simp only [Option.map_some, List.map_cons, List.filter_cons]
      by_cases hk : keyN (q / 4) y.1 = keyH x
      · have ht : y.1 = tagN x := by
          have := congrArg Prod.snd hk
          simpa [keyN, keyH] using this
        have e : hereT T x q = true := by unfold hereT; rw [hT, ← ht]; simp [hitO, hk]
        have e2 : (keyS (q / 4, y.1, y.2)).1 == keyH x := by rw [beq_iff_eq]; exact hk
        rw [e, if_pos e2, if_pos rfl, List.map_cons, List.map_cons, ih, hT]
        rfl
      · have e : hereT T x q = false := by
          unfold hereT
          rw [hT]
          by_cases ht : y.1 = tagN x
          · rw [← ht]; simp [hk]
          · simp [hitO, ht]
        have e2 : ¬ ((keyS (q / 4, y.1, y.2)).1 == keyH x) = true := by rw [beq_iff_eq]; exact hk
        rw [e, if_neg e2, if_neg (by simp)]
        exact ih
theorem places_perm {T : SlT} {es : List EnT} (h : Fits T es) (x : Nat) : ((placesT T x).map (idP T)).Perm ((es.filter fun e => nearN x e.1).map Prod.snd) := by
  have h1 : ((placesT T x).map (idP T)).Perm (((List.range 32).filter (hereT T x)).map fun q => idO (T q)) := by
    have := (places_q T x).map fun q => idO (T q)
    rw [List.map_map] at this
    exact this
  have h2 := (List.Perm.filter (fun k => k.1 == keyH x) h).map Prod.snd
  rw [here_slots] at h2
  refine h1.trans (h2.trans ?_)
  rw [List.filter_map, List.map_map]
  have e : ((fun k : (Nat × Nat) × Int => k.1 == keyH x) ∘ keyE) = fun e : EnT => nearN x e.1 := by
    funext e
    rw [Bool.eq_iff_iff, near_iff]
    show (keyH e.1 == keyH x) = true ↔ _
    rw [beq_iff_eq]
    exact eq_comm
  rw [e]
  exact List.Perm.refl _

theorem KI.one' (w : World) (z : Int) : KI.R (w.alloc (.cells #[.int .i64 z] 3)) (.slice (some ⟨w.heap.size, 0, none⟩) 1 1) [z] := Lay.R.one w KI_ok z 3 (0, 0)
def VFd (d g pb ps : Nat) (u : Value) (z : Int) : Nat → World → Value → Prop
  | 16, _, v => v = u
  | 17, _, v => v = .pointer (some ⟨d, 0, none⟩)
  | 18, _, v => v = .pointer (some ⟨g, 0, none⟩)
  | 19, _, v => v = .int .i64 (pb : Int)
  | 20, _, v => v = .pointer (some ⟨g, 1, none⟩)
  | 21, _, v => v = .int .i64 (ps : Int)
  | 22, _, v => v = .pointer (some ⟨d, 0, none⟩)
  | 23, _, v => v = .pointer (some ⟨d, 0, none⟩)
  | 24, _, v => v = .pointer (some ⟨d, 12 * pb, none⟩)
  | 25, _, v => v = .pointer (some ⟨d, 12 * pb + 3 * ps, none⟩)
  | 26, _, v => v = .pointer (some ⟨d, 12 * pb + 3 * ps + 2, none⟩)
  | 27, _, v => v = .int .i64 z
  | 28, w, v => KI.R w v [z]
  | _, _, _ => True

theorem VFd_below (d g pb ps : Nat) (u : Value) (z : Int) : ∀ (i : Nat) (w w' : World) (v : Value), VFd d g pb ps u z i w v → Below w.heap.size w w' → VFd d g pb ps u z i w' v := by
  intro i w w' v h hb
  unfold VFd at h ⊢
  split at h <;> first | exact h | trivial | exact Lay.R.below h hb

set_option maxHeartbeats 2000000 in
set_option maxRecDepth 100000 in
theorem cfind_w {w : World} {d : Nat} {T : SlT} (h : CK w d T) {x : Nat} (hx : x < 18446744073709551616) :
    Calls Tryz.prog 63 #[.pointer (some ⟨d, 0, none⟩), .int .u64 (x : Int)] w fun e w' => ∃ v F, e = .returned v ∧ KI.O w' w.heap.size v F ∧ F.Pairwise (· ≤ ·) ∧ F.Perm ((placesT T x).map (idP T)) ∧ Below w.heap.size w w' := by
  have HD := Go.Lib.hid fun W (hW : Below w.heap.size w W) => h.below hW
  have PC := Go.Lib.hid (cplaces_c h hx)
  have HPL := Go.Lib.hid fun (p : Nat × Nat) (hp : p ∈ placesT T x) => places_lt hp
  have HLN := Go.Lib.hid (show (placesT T x).length ≤ 8 from foundT_len T x 2)
  clear h hx
  generalize placesT T x = PL at *
  go_enter Tryz.func63, Tryz.ntmps63
  go_wp2_with fail
  refine PC.out.mono ?_
  rintro e w1 ⟨v, rfl, hown, hb1⟩
  obtain ⟨a, cap, rfl, hlm⟩ := hown.r.form
  have HR1 := Go.Lib.hid hown.r
  have HB1 := Go.Lib.hid hb1
  clear hown hb1 PC
  go_wp2_with fail
  go_loopw [5, 12] (fun lv jv wr => ∃ (j : Nat) (u : Value), u = lv ∧ j ≤ PL.length ∧ jv = .int .i64 (j : Int) ∧ KI.O wr w1.heap.size u ((PL.take j).map (idP T)) ∧ Below w1.heap.size w1 wr) (fun _ jv _ => PL.length - (intOf jv).toNat)
  case atStart => exact ⟨0, _, rfl, by omega, rfl, Lay.O.nil _ _, Below.refl _ _⟩
  case round =>
    obtain ⟨j, u, rfl, hj, rfl, hO, hbc⟩ := hrel
    by_cases hjl : j < PL.length
    · obtain ⟨b, o, rfl, -, hbs, c0, c1⟩ := KP.at' (HR1.out.below hbc) j hjl
      have hix := idxP b o PL.length cap j hjl wr
      obtain ⟨hp1, hp2, hp3, -⟩ := HPL.out PL[j] (List.getElem_mem hjl)
      have HTK := Go.Lib.hid (show (PL.take (j + 1)).map (idP T) = (PL.take j).map (idP T) ++ [idP T PL[j]] by rw [List.take_succ_eq_append_getElem hjl, List.map_append]; rfl)
      have HTL := Go.Lib.hid (show ((PL.take j).map (idP T)).length ≤ 8 by have := HLN.out; rw [List.length_map, List.length_take]; omega)
      have hidp : idP T PL[j] = idO (T (4 * PL[j].1 + PL[j].2)) := rfl
      generalize hpj : PL[j] = pj at *
      obtain ⟨pb, ps⟩ := pj
      simp only [] at c0 c1 hp1 hp2 hp3 hidp
      have hck := HD.out wr (HB1.out.trans (hbc.mono HB1.out.size))
      obtain ⟨d0, d1, d2⟩ := hck.at hp1 hp2
      have hd := hck.lt
      have h1 := fun W => idxB d pb hp1 W
      have h2 := fun W => idxS d (12 * pb) ps hp2 W
      rw [← hidp] at d2
      have hb2 := (Below.refl wr.heap.size wr).alloc (Nat.le_refl _) (.cells #[.int .i64 (pb : Int), .int .i64 (ps : Int)] 149)
      have HO3 := Go.Lib.hid (hO.below hb2)
      have HB3 := Go.Lib.hid (hbc.trans (hb2.mono hbc.size))
      have HD2 := Go.Lib.hid (keepC d2 hb2)
      have HG := Go.Lib.hid (heap_alloc_new wr (.cells #[.int .i64 (pb : Int), .int .i64 (ps : Int)] 149))
      clear hO hbc hck hp3 hidp hb2 hd d0 d1 d2 hpj
      generalize idP T (pb, ps) = z at *
      generalize (PL.take j).map (idP T) = F at *
      go_upto_region 5 with (fail)
      obtain ⟨g, hg⟩ : ∃ g, g = wr.heap.size := ⟨_, rfl⟩
      rw [← hg] at HG ⊢
      clear hg c0 c1 hix hbs
      generalize wr.alloc (.cells #[.int .i64 (pb : Int), .int .i64 (ps : Int)] 149) = w3 at *
      have B0 := Go.Lib.hid (show w3.cell? ⟨g, 0, none⟩ = some (.int .i64 (pb : Int)) from by rw [cell_of_row _ _ _ _ _ _ HG.out]; rfl)
      have B1 := Go.Lib.hid (show w3.cell? ⟨g, 1, none⟩ = some (.int .i64 (ps : Int)) from by rw [cell_of_row _ _ _ _ _ _ HG.out]; rfl)
      refine wp_region_head 13 (by decide) (by kernel_rfl) (VFd d g pb ps u z) (VFd_below d g pb ps u z) (by decide +kernel) (by rfl) [16, 17, 18, 19, 20, 21, 22, 23, 24, 25, 26, 27, 28] (by rfl) ?_ ?_
      · intro i o hin ho a w6 hb6 hlen hg
        have x0 := keepC B0.out hb6
        have x1 := keepC B1.out hb6
        have x2 := keepC HD2.out hb6
        match i, hin, ho with
        | 0, hin, ho =>
          obtain rfl := Option.some.inj ho
          have h5 := given_old hg 5 (by decide +kernel)
          clear hg
          exact st_yield ho (wanted_none rfl) (u) w6 (by simp [execOp, Act.eval, h5, go_sem]) ⟨_, rfl, Below.refl _ _, by rintro t' ⟨⟩; rfl⟩
        | 1, hin, ho =>
          obtain rfl := Option.some.inj ho
          have h0 := given_old hg 0 (by decide +kernel)
          clear hg
          exact st_yield ho (wanted_none rfl) (.pointer (some ⟨d, 0, none⟩)) w6 (by simp [execOp, Act.eval, h0, go_sem]) ⟨_, rfl, Below.refl _ _, by rintro t' ⟨⟩; rfl⟩
        | 2, hin, ho =>
          obtain rfl := Option.some.inj ho
          have h7 := given_old hg 7 (by decide +kernel)
          clear hg
          exact st_yield ho (wanted_none rfl) (.pointer (some ⟨g, 0, none⟩)) w6 (by simp [execOp, Act.eval, h7, go_sem]) ⟨_, rfl, Below.refl _ _, by rintro t' ⟨⟩; rfl⟩
        | 3, hin, ho =>
          obtain rfl := Option.some.inj ho
          obtain ⟨_, h18, rfl⟩ := given_fed hg 18 (by decide +kernel)
          clear hg
          exact st_yield ho (wanted_none rfl) (.int .i64 (pb : Int)) w6 (by simp [execOp, Act.eval, h18, go_sem, x0]) ⟨_, rfl, Below.refl _ _, by rintro t' ⟨⟩; rfl⟩
        | 4, hin, ho =>
          obtain rfl := Option.some.inj ho
          have h7 := given_old hg 7 (by decide +kernel)
          clear hg
          exact st_yield ho (wanted_none rfl) (.pointer (some ⟨g, 1, none⟩)) w6 (by simp [execOp, Act.eval, h7, go_sem]) ⟨_, rfl, Below.refl _ _, by rintro t' ⟨⟩; rfl⟩
        | 5, hin, ho =>
          obtain rfl := Option.some.inj ho
          obtain ⟨_, h20, rfl⟩ := given_fed hg 20 (by decide +kernel)
          clear hg
          exact st_yield ho (wanted_none rfl) (.int .i64 (ps : Int)) w6 (by simp [execOp, Act.eval, h20, go_sem, x1]) ⟨_, rfl, Below.refl _ _, by rintro t' ⟨⟩; rfl⟩
        | 6, hin, ho =>
          obtain rfl := Option.some.inj ho
          obtain ⟨_, h17, rfl⟩ := given_fed hg 17 (by decide +kernel)
          clear hg
          exact st_yield ho (wanted_none rfl) (.pointer (some ⟨d, 0, none⟩)) w6 (by simp [execOp, Act.eval, h17, go_sem]) ⟨_, rfl, Below.refl _ _, by rintro t' ⟨⟩; rfl⟩
        | 7, hin, ho =>
          obtain rfl := Option.some.inj ho
          obtain ⟨_, h22, rfl⟩ := given_fed hg 22 (by decide +kernel)
          clear hg
          exact st_yield ho (wanted_none rfl) (.pointer (some ⟨d, 0, none⟩)) w6 (by simp [execOp, Act.eval, h22, go_sem]) ⟨_, rfl, Below.refl _ _, by rintro t' ⟨⟩; rfl⟩
        | 8, hin, ho =>
          obtain rfl := Option.some.inj ho
          obtain ⟨_, h23, rfl⟩ := given_fed hg 23 (by decide +kernel)
          obtain ⟨_, h19, rfl⟩ := given_fed hg 19 (by decide +kernel)
          clear hg
          exact st_yield ho (wanted_none rfl) (.pointer (some ⟨d, 12 * pb, none⟩)) w6 (by simp [execOp, Act.eval, h23, h19, go_sem, h1]) ⟨_, rfl, Below.refl _ _, by rintro t' ⟨⟩; rfl⟩
        | 9, hin, ho =>
          obtain rfl := Option.some.inj ho
          obtain ⟨_, h24, rfl⟩ := given_fed hg 24 (by decide +kernel)
          obtain ⟨_, h21, rfl⟩ := given_fed hg 21 (by decide +kernel)
          clear hg
          exact st_yield ho (wanted_none rfl) (.pointer (some ⟨d, 12 * pb + 3 * ps, none⟩)) w6 (by simp [execOp, Act.eval, h24, h21, go_sem, h2]) ⟨_, rfl, Below.refl _ _, by rintro t' ⟨⟩; rfl⟩
        | 10, hin, ho =>
          obtain rfl := Option.some.inj ho
          obtain ⟨_, h25, rfl⟩ := given_fed hg 25 (by decide +kernel)
          clear hg
          exact st_yield ho (wanted_none rfl) (.pointer (some ⟨d, 12 * pb + 3 * ps + 2, none⟩)) w6 (by simp [execOp, Act.eval, h25, go_sem]) ⟨_, rfl, Below.refl _ _, by rintro t' ⟨⟩; rfl⟩
        | 11, hin, ho =>
          obtain rfl := Option.some.inj ho
          obtain ⟨_, h26, rfl⟩ := given_fed hg 26 (by decide +kernel)
          clear hg
          exact st_yield ho (wanted_none rfl) (.int .i64 z) w6 (by simp [execOp, Act.eval, h26, go_sem, x2]) ⟨_, rfl, Below.refl _ _, by rintro t' ⟨⟩; rfl⟩
        | 12, hin, ho =>
          obtain rfl := Option.some.inj ho
          obtain ⟨_, h27, rfl⟩ := given_fed hg 27 (by decide +kernel)
          clear hg
          exact st_yield ho (wanted_none rfl) (.slice (some ⟨w6.heap.size, 0, none⟩) 1 1) (w6.alloc (.cells #[.int .i64 z] 3)) (by simp [execOp, Act.eval, h27, go_sem]) ⟨_, rfl, (Below.refl _ _).alloc (Nat.le_refl _) _, by rintro t' ⟨⟩; exact KI.one' w6 z⟩
        | n + 13, hin, ho => omega
      · intro f w6 hb6 hv
        have h16 := hv 16 (by decide)
        have h28 := hv 28 (by decide)
        simp only [VFd] at h16 h28
        have HO6 := Go.Lib.hid (HO3.out.below hb6)
        have HB6 := Go.Lib.hid (HB3.out.trans (hb6.mono HB3.out.size))
        have HONE := Go.Lib.hid h28
        clear hv hb6 h28
        unfold putAll
        simp only [List.foldl, List.drop]
        simp only [h16]
        go_simp
        go_wp2_with (first
          | ((with_reducible show wpList _ _ _ (⟨some 29, _, _, _, _, _⟩ :: _) _ _); go_loud (refine KI_ok.append rfl (.tmp 16) (.tmp 28) rfl w1.heap.size u (f 28) F [z] rfl rfl HO6.out HONE.out (by have := HTL.out; simp; omega) HB6.out.size ?_); intro v7 w7 hown7 hg7; have HB7 := Go.Lib.hid (HB6.out.grown hg7 HB6.out.size HO6.out.row); have HO7 := Go.Lib.hid hown7; clear hown7 hg7)
          | fail)
        go_roundw
        case rel => exact ⟨j + 1, _, rfl, by omega, by go_num, by rw [HTK.out]; exact HO7.out, HB7.out⟩
        case measure => simp only [intOf]; omega
    · obtain rfl : j = PL.length := by omega
      rw [List.take_length] at hO
      have HO := Go.Lib.hid (hO.mono HB1.out.size)
      have HB := Go.Lib.hid (HB1.out.trans (hbc.mono HB1.out.size))
      have SC := Go.Lib.hid (sortI_c wr w.heap.size u (PL.map (idP T)) (hO.mono HB1.out.size) (by have := HLN.out; rw [List.length_map]; omega))
      clear hO hbc hjl
      go_wp2_with fail
      refine SC.out.mono ?_
      rintro e w2 ⟨rfl, G, hp, hs, hown, hg⟩
      have HB2 := Go.Lib.hid (HB.out.grown hg HB.out.size HO.out.row)
      clear hg
      have HOW := Go.Lib.hid hown
      have HP := Go.Lib.hid hp
      have HS := Go.Lib.hid hs
      clear hown hp hs
      go_wp2_with fail
      go_ret
      exact ⟨_, G, rfl, HOW.out, HS.out, HP.out, HB2.out⟩
theorem cfind_c {w : World} {d : Nat} {T : SlT} {es : List EnT} (h : CK w d T) (hf : Fits T es) {x : Nat} (hx : x < 18446744073709551616) (_hl : es.length ≤ 60) :
    Calls Tryz.prog 63 #[.pointer (some ⟨d, 0, none⟩), .int .u64 (x : Int)] w fun e w' => ∃ v F, e = .returned v ∧ KI.O w' w.heap.size v F ∧ F.Pairwise (· ≤ ·) ∧ F.Perm ((es.filter fun e => nearN x e.1).map Prod.snd) ∧ Below w.heap.size w w' := by
  refine (cfind_w h hx).mono ?_
  rintro e w' ⟨v, F, h1, h2, h3, h4, h5⟩
  exact ⟨v, F, h1, h2, h3, h4.trans (places_perm hf x), h5⟩
end Go.Proofs.YthbnecdeebmlhaaGreat

namespace Go.Proofs.YthbnecdeebmlhaaGreat

/-- From bucket c on: each slot of the way is full, its entry can move to the next one's bucket, the last one's to bucket e. -/
def Chain (T : SlT) : Nat → List (Nat × Nat) → Nat → Prop
  | c, [], e => c = e
  | c, p :: P, e => p.1 = c ∧ p.2 < 4 ∧ ∃ x, T (4 * c + p.2) = some x ∧ Chain T (othN c x.1) P e
theorem Chain.snoc {T : SlT} {x : Nat × Int} {s : Nat} : ∀ {P : List (Nat × Nat)} {c e : Nat}, Chain T c P e → s < 4 → T (4 * e + s) = some x → Chain T c (P ++ [(e, s)]) (othN e x.1)
  | [], c, e, h, hs, hT => by
    have h : c = e := h
    subst h
    exact ⟨rfl, hs, x, hT, rfl⟩
  | p :: P, c, e, h, hs, hT => by
    obtain ⟨h1, h2, y, h3, h4⟩ := h
    exact ⟨h1, h2, y, h3, Chain.snoc h4 hs hT⟩

theorem chain_slot {T : SlT} : ∀ {P : List (Nat × Nat)} {c e : Nat}, Chain T c P e → ∀ p ∈ P, p.2 < 4
  | [], c, e, _, p, hp => by cases hp
  | q :: P, c, e, h, p, hp => by
    obtain ⟨h1, h2, y, h3, h4⟩ := h
    rcases List.mem_cons.1 hp with rfl | hp
    · exact h2
    · exact chain_slot h4 p hp

/-- What is held is put down at each slot, what lay there is taken up. -/
def shiftT : SlT → Option (Nat × Int) → List (Nat × Nat) → SlT × Option (Nat × Int)
  | U, x, [] => (U, x)
  | U, x, p :: P => shiftT (layT U (4 * p.1 + p.2) x) (U (4 * p.1 + p.2)) P
theorem shift_snoc (p : Nat × Nat) : ∀ (P : List (Nat × Nat)) (U : SlT) (x : Option (Nat × Int)), shiftT U x (P ++ [p]) = (layT (shiftT U x P).1 (4 * p.1 + p.2) (shiftT U x P).2, (shiftT U x P).1 (4 * p.1 + p.2))
  | [], _U, _x => rfl
  | q :: P, U, x => shift_snoc p P (layT U (4 * q.1 + q.2) x) (U (4 * q.1 + q.2))

theorem put_key (U : SlT) {q : Nat} (hq : q < 32) (x : Nat × Int) : ((keyS (q / 4, x.1, x.2) :: (slL U).map keyS).Perm (((U q).map fun y => keyS (q / 4, y.1, y.2)).toList ++ (slL (layT U q (some x))).map keyS)) := by
  obtain ⟨a, b, h1, h2⟩ := slL_split U hq
  rw [h1, h2]
  cases hU : U q with
  | none =>
    simp only [Option.map_none, Option.toList_none, List.nil_append, Option.map_some, Option.toList_some, List.map_append, List.map_cons, List.singleton_append]
    exact List.perm_middle.symm
  | some y =>
    simp only [Option.map_some, Option.toList_some, List.map_append, List.map_cons, List.singleton_append]
    refine (List.Perm.cons _ List.perm_middle).trans ((List.Perm.swap _ _ _).trans (List.Perm.cons _ List.perm_middle.symm))
theorem putT_other {U : SlT} {q k : Nat} {x : Option (Nat × Int)} (h : k ≠ q) : layT U q x k = U k := by unfold layT; rw [if_neg h]

/-- Along a way all go one further; what was held ahead lies with the others. -/
theorem shift_perm (T : SlT) {s e : Nat} (he : e < 8) (hs : s < 4) (hT : T (4 * e + s) = none) : ∀ (P : List (Nat × Nat)) (c : Nat) (U : SlT) (x : Nat × Int), Chain T c P e → (∀ p ∈ P, p.1 < 8) → (P.map Prod.fst ++ [e]).Nodup →
    (∀ b ∈ P.map Prod.fst ++ [e], ∀ k, k < 4 → U (4 * b + k) = T (4 * b + k)) → ((slL (shiftT U (some x) (P ++ [(e, s)])).1).map keyS).Perm (keyS (c, x.1, x.2) :: (slL U).map keyS)
  | [], c, U, x, h, _, _, hU => by
    have h : c = e := h
    subst h
    have hq : 4 * c + s < 32 := by omega
    have e4 : (4 * c + s) / 4 = c := by omega
    have h1 := put_key U hq x
    rw [hU c (by simp) s hs, hT, e4] at h1
    exact h1.symm
  | p :: P, c, U, x, h, h8, hn, hU => by
    obtain ⟨h1, h2, y, h3, h4⟩ := h
    subst h1
    have hp8 := h8 p (List.mem_cons_self ..)
    have hq : 4 * p.1 + p.2 < 32 := by omega
    have e4 : (4 * p.1 + p.2) / 4 = p.1 := by omega
    have hUp : U (4 * p.1 + p.2) = some y := (hU p.1 (by simp) p.2 h2).trans h3
    have hn' : p.1 ∉ P.map Prod.fst ++ [e] ∧ (P.map Prod.fst ++ [e]).Nodup := by
      have : (p.1 :: (P.map Prod.fst ++ [e])).Nodup := hn
      exact List.nodup_cons.1 this
    have ih := shift_perm T he hs hT P (othN p.1 y.1) (layT U (4 * p.1 + p.2) (some x)) y h4 (fun q hq => h8 q (List.mem_cons_of_mem _ hq)) hn'.2 (fun b hb k hk => by
      rw [putT_other (by
        intro hc
        have : b = p.1 := by omega
        exact hn'.1 (this ▸ hb))]
      exact hU b (List.mem_cons_of_mem _ hb) k hk)
    have h5 := put_key U hq x
    rw [hUp, e4] at h5
    simp only [Option.map_some, Option.toList_some, List.singleton_append] at h5
    have hk : keyS (othN p.1 y.1, y.1, y.2) = keyS (p.1, y.1, y.2) := by unfold keyS; simp only []; rw [keyN_oth _ hp8]
    rw [hk] at ih
    show ((slL (shiftT (layT U (4 * p.1 + p.2) (some x)) (U (4 * p.1 + p.2)) (P ++ [(e, s)])).1).map keyS).Perm _
    rw [hUp]
    exact ih.trans h5.symm
theorem shift_fits {T : SlT} {es : List EnT} (h : Fits T es) {s e c : Nat} (he : e < 8) (hs : s < 4) (hT : T (4 * e + s) = none) {P : List (Nat × Nat)} (hc : Chain T c P e) (h8 : ∀ p ∈ P, p.1 < 8) (hn : (P.map Prod.fst ++ [e]).Nodup) {x : Nat} {i : Int} (hk : keyN c (tagN x) = keyH x) :
    Fits (shiftT T (some (tagN x, i)) (P ++ [(e, s)])).1 (es ++ [(x, i)]) := by
  have h1 := shift_perm T he hs hT P c T (tagN x, i) hc h8 hn (fun _ _ _ _ => rfl)
  unfold Fits at *
  refine h1.trans ?_
  have e1 : keyS (c, tagN x, i) = keyE (x, i) := by unfold keyS keyE; simp only []; rw [hk]
  rw [show ((tagN x, i) : Nat × Int).1 = tagN x from rfl, show ((tagN x, i) : Nat × Int).2 = i from rfl, e1, List.map_append]
  exact (List.Perm.cons _ h).trans (List.perm_append_singleton _ _).symm

/-! ### Sets of buckets, as a number. -/
theorem mask_all : ∀ b0 b1 b2 b3 b4 b5 b6 b7 : Bool, ∃ S : Fin 256, bitN S.val 0 = b0.toNat ∧ bitN S.val 1 = b1.toNat ∧ bitN S.val 2 = b2.toNat ∧ bitN S.val 3 = b3.toNat ∧ bitN S.val 4 = b4.toNat ∧ bitN S.val 5 = b5.toNat ∧ bitN S.val 6 = b6.toNat ∧ bitN S.val 7 = b7.toNat := by
  intro b0 b1 b2 b3 b4 b5 b6 b7
  refine ⟨⟨b0.toNat + 2 * b1.toNat + 4 * b2.toNat + 8 * b3.toNat + 16 * b4.toNat + 32 * b5.toNat + 64 * b6.toNat + 128 * b7.toNat, ?_⟩, ?_⟩
  · cases b0 <;> cases b1 <;> cases b2 <;> cases b3 <;> cases b4 <;> cases b5 <;> cases b6 <;> cases b7 <;> decide
  · revert b0 b1 b2 b3 b4 b5 b6 b7
    decide +kernel
theorem mask_of (f : Nat → Bool) : ∃ S, S < 256 ∧ ∀ b, b < 8 → bitN S b = (f b).toNat := by
  obtain ⟨S, h0, h1, h2, h3, h4, h5, h6, h7⟩ := mask_all (f 0) (f 1) (f 2) (f 3) (f 4) (f 5) (f 6) (f 7)
  refine ⟨S.val, S.isLt, fun b hb => ?_⟩
  rcases (by omega : b = 0 ∨ b = 1 ∨ b = 2 ∨ b = 3 ∨ b = 4 ∨ b = 5 ∨ b = 6 ∨ b = 7) with rfl | rfl | rfl | rfl | rfl | rfl | rfl | rfl <;> assumption

/-! ### The buckets that are reached. -/
/-- A bucket and the way to it. -/
abbrev ReT := Nat × List (Nat × Nat)
def bks (L : List ReT) : List Nat := L.map Prod.fst
structure LineOk (T : SlT) (a b : Nat) (L : List ReT) : Prop where
  nodup : (bks L).Nodup
  lt : ∀ x ∈ L, x.1 < 8
  hasA : a ∈ bks L
  hasB : b ∈ bks L
  way : ∀ x ∈ L, ∃ c, (c = a ∨ c = b) ∧ Chain T c x.2 x.1 ∧ (x.2.map Prod.fst ++ [x.1]).Nodup ∧ ∀ p ∈ x.2, p.1 ∈ bks L
theorem LineOk.lt' {T : SlT} {a b : Nat} {L : List ReT} (h : LineOk T a b L) {c : Nat} (hc : c ∈ bks L) : c < 8 := by
  obtain ⟨x, hx, rfl⟩ := List.mem_map.1 hc
  exact h.lt x hx
theorem LineOk.start {T : SlT} {a b : Nat} (ha : a < 8) (hb : b < 8) (hab : a ≠ b) : LineOk T a b [(a, []), (b, [])] := by
  refine ⟨?_, ?_, by simp [bks], by simp [bks], ?_⟩
  · simp [bks, hab]
  · intro x hx
    simp only [List.mem_cons, List.not_mem_nil, or_false] at hx
    rcases hx with rfl | rfl
    · exact ha
    · exact hb
  · intro x hx
    simp only [List.mem_cons, List.not_mem_nil, or_false] at hx
    rcases hx with rfl | rfl
    · exact ⟨a, .inl rfl, rfl, by simp, by simp⟩
    · exact ⟨b, .inr rfl, rfl, by simp, by simp⟩
theorem nodup_le8 {l : List Nat} (hn : l.Nodup) (h8 : ∀ x ∈ l, x < 8) : l.length ≤ 8 := by
  have hp : l.Perm ((List.range 8).filter fun x => decide (x ∈ l)) := by
    rw [List.perm_ext_iff_of_nodup hn (List.Pairwise.filter _ List.nodup_range)]
    intro x
    rw [List.mem_filter, List.mem_range, decide_eq_true_eq]
    exact ⟨fun h => ⟨h8 x h, h⟩, fun h => h.2⟩
  rw [hp.length_eq]
  have := List.length_filter_le (fun x => decide (x ∈ l)) (List.range 8)
  rw [List.length_range] at this
  exact this
theorem LineOk.len {T : SlT} {a b : Nat} {L : List ReT} (h : LineOk T a b L) : L.length ≤ 8 := by
  have := nodup_le8 h.nodup (fun c hc => h.lt' hc)
  rw [bks, List.length_map] at this
  exact this
/-- One more bucket, reached by way of slot s of bucket i. -/
theorem LineOk.more {T : SlT} {a b : Nat} {L : List ReT} (h : LineOk T a b L) {i s : Nat} (hi : i < L.length) (hs : s < 4) {x : Nat × Int} (hT : T (4 * L[i].1 + s) = some x) (hnew : othN L[i].1 x.1 ∉ bks L) :
    LineOk T a b (L ++ [(othN L[i].1 x.1, L[i].2 ++ [(L[i].1, s)])]) := by
  have hm := List.getElem_mem hi
  have h8 := h.lt _ hm
  obtain ⟨c, hc, hch, hnd, hin⟩ := h.way _ hm
  have hb : ∀ L' : List ReT, ∀ c, c ∈ bks L → c ∈ bks (L ++ L') := fun L' c hc => by unfold bks at *; rw [List.map_append]; exact List.mem_append_left _ hc
  have hib : L[i].1 ∈ bks L := List.mem_map.2 ⟨_, hm, rfl⟩
  refine ⟨?_, ?_, hb _ _ h.hasA, hb _ _ h.hasB, ?_⟩
  · unfold bks at *
    rw [List.map_append, List.nodup_append]
    exact ⟨h.nodup, by simp, fun u hu v hv => by
      simp only [List.map_cons, List.map_nil, List.mem_singleton] at hv
      subst hv
      intro e
      exact hnew (e ▸ hu)⟩
  · intro y hy
    rcases List.mem_append.1 hy with hy | hy
    · exact h.lt y hy
    · rw [List.mem_singleton.1 hy]
      exact oth_lt _ h8
  · intro y hy
    rcases List.mem_append.1 hy with hy | hy
    · obtain ⟨c', h1, h2, h3, h4⟩ := h.way y hy
      exact ⟨c', h1, h2, h3, fun p hp => hb _ _ (h4 p hp)⟩
    · rw [List.mem_singleton.1 hy]
      refine ⟨c, hc, hch.snoc hs hT, ?_, fun p hp => ?_⟩
      · simp only [List.map_append, List.map_cons, List.map_nil]
        rw [List.nodup_append]
        refine ⟨hnd, by simp, fun u hu v hv => ?_⟩
        rw [List.mem_singleton.1 hv]
        intro e
        apply hnew
        rw [← e]
        rcases List.mem_append.1 hu with hu | hu
        · obtain ⟨p, hp, rfl⟩ := List.mem_map.1 hu
          exact hin p hp
        · rw [List.mem_singleton.1 hu]; exact hib
      · simp only [] at hp
        rcases List.mem_append.1 hp with hp | hp
        · exact hb _ _ (hin p hp)
        · rw [List.mem_singleton.1 hp]; exact hb _ _ hib
/-- What was looked at ahead of slot s of bucket i is full, and can move only to buckets that are reached. -/
def DoneT (T : SlT) (L : List ReT) (i s : Nat) : Prop := ∀ j, j ≤ i → ∀ (hj : j < L.length), ∀ k, k < 4 → (j < i ∨ k < s) → ∃ x, T (4 * L[j].1 + k) = some x ∧ othN L[j].1 x.1 ∈ bks L
theorem DoneT.zero (T : SlT) (L : List ReT) : DoneT T L 0 0 := fun j hj _ k _ h => by omega
theorem DoneT.next {T : SlT} {L : List ReT} {i : Nat} (h : DoneT T L i 4) : DoneT T L (i + 1) 0 := fun j hj hjl k hk hh => h j (by omega) hjl k hk (by omega)
theorem DoneT.step {T : SlT} {L : List ReT} {i s : Nat} (h : DoneT T L i s) (hi : i < L.length) {x : Nat × Int} (hT : T (4 * L[i].1 + s) = some x) (hin : othN L[i].1 x.1 ∈ bks L) : DoneT T L i (s + 1) := fun j hj hjl k hk hh => by
  by_cases hc : j < i ∨ k < s
  · exact h j hj hjl k hk hc
  · have h1 : j = i := by omega
    have h2 : k = s := by omega
    subst h1 h2
    exact ⟨x, hT, hin⟩
theorem DoneT.grow {T : SlT} {L : List ReT} {i s : Nat} (h : DoneT T L i s) (hi : i < L.length) (y : ReT) : DoneT T (L ++ [y]) i s := fun j hj hjl k hk hh => by
  have hjl' : j < L.length := by omega
  obtain ⟨x, h1, h2⟩ := h j hj hjl' k hk hh
  have e : (L ++ [y])[j] = L[j] := List.getElem_append_left hjl'
  refine ⟨x, by rw [e]; exact h1, ?_⟩
  rw [e]
  unfold bks at *
  rw [List.map_append]
  exact List.mem_append_left _ h2
/-- All looked at, no slot empty: one more finds no room. -/
theorem stuck {T : SlT} {es : List EnT} (hf : Fits T es) {x : Nat} {L : List ReT} (h : LineOk T (firstN x) (othN (firstN x) (tagN x)) L) (hd : DoneT T L L.length 0) : roomB (es.map Prod.fst ++ [x]) = false := by
  obtain ⟨S, hS, hbit⟩ := mask_of fun b => decide (b ∈ bks L)
  have hin : ∀ c, c ∈ bks L → bitN S c = 1 := fun c hc => by rw [hbit c (h.lt' hc), decide_eq_true hc]; rfl
  refine no_room hf hS ?_ ?_
  · unfold inS
    rw [hin _ h.hasA, hin _ h.hasB]
    rfl
  · intro q hq hb
    have hq8 : q / 4 < 8 := by omega
    rw [hbit _ hq8] at hb
    have hm : q / 4 ∈ bks L := by
      by_cases hc : q / 4 ∈ bks L
      · exact hc
      · rw [decide_eq_false hc] at hb; cases hb
    obtain ⟨y, hy, hye⟩ := List.mem_map.1 hm
    obtain ⟨j, hj, rfl⟩ := List.mem_iff_getElem.1 hy
    obtain ⟨z, h1, h2⟩ := hd j (Nat.le_of_lt hj) hj (q % 4) (Nat.mod_lt _ (by omega)) (.inl hj)
    rw [hye] at h1 h2
    rw [show 4 * (q / 4) + q % 4 = q by omega] at h1
    exact ⟨z, h1, hin _ h2⟩

end Go.Proofs.YthbnecdeebmlhaaGreat

namespace Go.Proofs.YthbnecdeebmlhaaGreat
open Go.RowKit

/-- 'append(s, x...)', s the call's own, x not empty: the row is the one it was, or a new one. -/
theorem Lay.Ok.appendW {α : Type} {K : Lay α} {P : Program} (hK : K.Ok P) {ops : Array Oper} {rest : List Oper} {o : Oper} {a : Act} {w : World} {Q : Exit → Act → World → Prop} (hgd : o.guard = none) (s x : Operand) (ho : o.op = .call { callee := .builtin .append, args := #[s, x], argTypes := #[K.row, K.row] })
    (B : Nat) (v xv : Value) (l m : List α) (hs : a.eval s = v) (hx : a.eval x = xv) (hown : K.O w B v l) (hrb : K.R w xv m) (hne : m ≠ []) (hl : l.length + m.length ≤ 1000000) (hbase : B ≤ w.heap.size)
    (h : ∀ v' w', K.O w' B v' (l ++ m) → w.grownBy w' v.ownBlock → (v'.ownBlock = v.ownBlock ∨ ∀ k, v'.ownBlock = some k → w.heap.size ≤ k) → wpList P ops Q rest (a.put o.dst v') w') : wpList P ops Q (o :: rest) a w := by
  obtain ⟨ad, cap, rfl, h1, h2, h3, h4⟩ := hrb
  obtain ⟨b2, o2, rfl, hc⟩ := h4 hne
  have hb : (l.length + m.length) * K.bytes ≤ 140737488355328 := by
    have := Nat.mul_le_mul hl hK.fit
    omega
  refine wpList_append_where w hgd s x K.row ho B K.elem hK.under K.zero K.size K.bytes hK.info hK.zsize hK.pos v l.length (K.flat l) hs hown ⟨b2, o2, none⟩ m.length cap (K.flat m) hx (hK.flat_len m) (fun j u hj => ?_) (hK.flat_one m) (by unfold maxLen; omega) hb hbase (fun v' w' hown' hg hw => h v' w' ?_ hg hw)
  · rw [Addr.add_mid]
    exact hc j u hj
  · unfold Lay.O
    rw [List.length_append, Lay.flat_append]
    exact hown'

abbrev SvT := Option Addr × Nat × Nat
def svE (y : SvT) : Value := .slice y.1 y.2.1 y.2.2
def KR : Lay (Nat × SvT) := ⟨fun e => [.int .i64 (e.1 : Int), .slice e.2.1 e.2.2.1 e.2.2.2], 2, 179, 180, .agg #[.int .i64 0, .slice none 0 0], 32⟩
theorem KR_ok : KR.Ok Tryz.prog := ⟨by decide, fun _ => rfl, fun x u hu => by
  rcases List.mem_cons.1 hu with rfl | hu
  · rfl
  · rw [List.mem_singleton.1 hu]; rfl, Tryz.underlying180, by kernel_rfl, rfl, by decide⟩
theorem KR.one' (w : World) (c : Nat) (a : Option Addr) (n k : Nat) : KR.R (w.alloc (.cells #[.int .i64 (c : Int), .slice a n k] 179)) (.slice (some ⟨w.heap.size, 0, none⟩) 1 1) [(c, a, n, k)] := Lay.R.one w KR_ok (c, a, n, k) 179 (0, 0)
theorem KR.at' {w : World} {a : Option Addr} {n cap : Nat} {l : List (Nat × SvT)} (h : KR.R w (.slice a n cap) l) (i : Nat) (hi : i < l.length) : ∃ b o, a = some ⟨b, o, none⟩ ∧ n = l.length ∧ b < w.heap.size ∧ w.cell? ⟨b, o + i * 2, none⟩ = some (.int .i64 (l[i].1 : Int)) ∧ w.cell? ⟨b, o + i * 2 + 1, none⟩ = some (svE l[i].2) := by
  obtain ⟨b, o, h1, h2, h3, h4⟩ := h.at KR_ok i hi
  exact ⟨b, o, h1, h2, h3, h4 0 _ rfl, h4 1 _ rfl⟩
theorem idxR (b o n cap j : Nat) (h : j < n) (W : World) : (Instr.indexAt 180 (.slice (some ⟨b, o, none⟩) n cap) (.int .i64 (j : Int))).run Tryz.prog W = .ok (.pointer (some ⟨b, o + j * 2, none⟩)) W := KR_ok.run_idx b o n cap j h W
theorem idx8 (g b : Nat) (hb : b < 8) (W : World) : (Instr.indexAt 177 (.pointer (some ⟨g, 0, none⟩)) (.int .i64 (b : Int))).run Tryz.prog W = .ok (.pointer (some ⟨g, b, none⟩)) W := by
  have hu : Tryz.prog.underlying 177 = some (.array 8 4) := by kernel_rfl
  have hs : (Tryz.prog.info? 4).map (fun i => i.size) = some 1 := by kernel_rfl
  have h8 : ¬ 8 ≤ b := by omega
  have h8' : (b : Int) < 8 := by omega
  cases hi : Tryz.prog.info? 4 with
  | none => rw [hi] at hs; cases hs
  | some i =>
    rw [hi] at hs
    have hs' : i.size = 1 := by simpa using hs
    simp [Instr.indexAt, run_underlying hu, Instr.sureAddr, asIntOf, h8, sizeOf, typeInfo, hi, hs', Result.andThen, Addr.add_mid]

/-- Whose rows are of other types is another block. -/
theorem Lay.O.neOf {α : Type} {K : Lay α} {w : World} {B : Nat} {v : Value} {l : List α} (h : K.O w B v l) {g : Nat} {cs : Array Value} {t : TypeId} {fr : Nat × Nat} (hg : w.heap[g]? = some (.cells cs t fr)) (ht : t ≠ K.elem) : v.ownBlock ≠ some g := by
  rcases h.2 with ⟨rfl, -⟩ | ⟨q, cap, cur, rfl, -, h2, -⟩
  · intro e; cases e
  · intro e
    simp only [Value.ownBlock, Option.some.injEq] at e
    subst e
    rw [h2] at hg
    cases hg
    exact ht rfl

/-- A bucket, the value that holds the way to it, that way. -/
abbrev LnT := Nat × SvT × List (Nat × Nat)
def bkL (L : List LnT) : List Nat := L.map Prod.fst
def reL (L : List LnT) : List ReT := L.map fun x => (x.1, x.2.2)
theorem bks_re (L : List LnT) : bks (reL L) = bkL L := by unfold bks reL bkL; rw [List.map_map]; rfl
/-- The buckets that are reached, in memory: u their slice, at block g which of the eight they are (M). -/
structure BG (w : World) (B g : Nat) (u : Value) (L : List LnT) (M : List Nat) : Prop where
  row : KR.O w B u (L.map fun x => (x.1, x.2.1))
  ways : ∀ x ∈ L, KP.O w B (svE x.2.1) x.2.2
  seen : ∀ b, b < 8 → w.cell? ⟨g, b, none⟩ = some (.bool (decide (b ∈ M)))
  blk : ∃ cs, w.heap[g]? = some (.cells cs 177 (0, 0))
section
variable {w w' : World} {B g : Nat} {u : Value} {L : List LnT} {M : List Nat}
theorem BG.below (h : BG w B g u L M) (hb : Below w.heap.size w w') : BG w' B g u L M := by
  obtain ⟨cs, hc⟩ := h.blk
  exact ⟨h.row.below hb, fun x hx => (h.ways x hx).below hb, fun b h8 => (hb.cell (World.block_lt_of_cell? w _ (h.seen b h8))).trans (h.seen b h8), ⟨cs, (hb.block g (Array.getElem?_eq_some_iff.1 hc).1).trans hc⟩⟩
theorem BG.frozen (h : BG w B g u L M) (o : Nat) : w.frozen? ⟨g, o, none⟩ = false := by
  obtain ⟨cs, hc⟩ := h.blk
  exact frozen_of_row _ _ _ _ _ hc
theorem BG.mark (h : BG w B g u L M) {t : Nat} (ht : t < 8) : BG (w.setCell ⟨g, t, none⟩ (.bool true)) B g u L (M ++ [t]) := by
  obtain ⟨cs, hc⟩ := h.blk
  have hb : ∀ k, k ≠ g → (w.setCell ⟨g, t, none⟩ (.bool true)).heap[k]? = w.heap[k]? := fun k hk => Below.heap_setCell _ _ _ _ hk
  refine ⟨h.row.same fun q qs hq _ _ => hb q ?_, fun x hx => (h.ways x hx).same fun q qs hq _ _ => hb q ?_, fun b h8 => ?_, ⟨cs.setIfInBounds t (.bool true), by simp [World.setCell, Array.getElem?_modify, hc]⟩⟩
  · rintro rfl; rw [hc] at hq; cases hq
  · rintro rfl; rw [hc] at hq; cases hq
  · by_cases e : b = t
    · subst e
      rw [World.cell?_setCell_same _ _ _ (h.seen b h8)]
      simp
    · rw [World.cell?_setCell_other _ _ _ _ (fun e2 => by simp only [Addr.mk.injEq] at e2; omega), h.seen b h8]
      simp [e]
theorem BG.more (h : BG w B g u L M) {v' : Value} {t : Nat} {y : SvT} {P : List (Nat × Nat)} (hown : KR.O w' B v' ((L.map fun x => (x.1, x.2.1)) ++ [(t, y)])) (hgr : w.grownBy w' u.ownBlock) (hy : KP.O w B (svE y) P) : BG w' B g v' (L ++ [(t, y, P)]) M := by
  obtain ⟨cs, hc⟩ := h.blk
  have hgl : g < w.heap.size := (Array.getElem?_eq_some_iff.1 hc).1
  have hgb : w'.heap[g]? = w.heap[g]? := hgr.block g hgl (fun e => h.row.neOf hc (by decide) e.symm)
  have hw : ∀ (v : Value) (l : List (Nat × Nat)), KP.O w B v l → KP.O w' B v l := fun v l hv => hv.same fun q qs hq _ _ => hgr.block q (Array.getElem?_eq_some_iff.1 hq).1 (fun e => h.row.neOf hq (by decide) e.symm)
  refine ⟨by rw [List.map_append]; exact hown, fun x hx => ?_, fun b h8 => (World.cell?_of_block (w := w) (a := ⟨g, b, none⟩) hgb).trans (h.seen b h8), ⟨cs, hgb.trans hc⟩⟩
  rcases List.mem_append.1 hx with hx | hx
  · exact hw _ _ (h.ways x hx)
  · rw [List.mem_singleton.1 hx]; exact hw _ _ hy
end

def z8 (a b : Nat) : Array Value := (([Value.bool false, .bool false, .bool false, .bool false, .bool false, .bool false, .bool false, .bool false].set a (.bool true)).set b (.bool true)).toArray
theorem z8_at (a b c : Nat) (ha : a < 8) (hb : b < 8) (hc : c < 8) : (z8 a b)[c]? = some (.bool (decide (c ∈ [a, b]))) := by
  unfold z8
  rw [List.getElem?_toArray]
  have h0 : [Value.bool false, .bool false, .bool false, .bool false, .bool false, .bool false, .bool false, .bool false] = List.replicate 8 (Value.bool false) := rfl
  rw [h0]
  by_cases e1 : b = c
  · subst e1
    rw [List.getElem?_set_self (by simpa using hb)]
    simp
  · rw [List.getElem?_set_ne e1]
    by_cases e2 : a = c
    · subst e2
      rw [List.getElem?_set_self (by simpa using ha)]
      simp
    · rw [List.getElem?_set_ne e2, List.getElem?_replicate, if_pos hc]
      have e3 : c ∉ [a, b] := by simp only [List.mem_cons, List.not_mem_nil, or_false]; omega
      rw [decide_eq_false e3]
def line0 (a b : Nat) : List LnT := [(a, (none, 0, 0), []), (b, (none, 0, 0), [])]
theorem BG.start (w : World) {a b : Nat} (ha : a < 8) (hb : b < 8) : BG ((w.alloc (.cells (z8 a b) 177)).alloc (.cells #[.int .i64 (a : Int), .slice none 0 0, .int .i64 (b : Int), .slice none 0 0] 179)) w.heap.size w.heap.size (.slice (some ⟨w.heap.size + 1, 0, none⟩) 2 2) (line0 a b) [a, b] := by
  have h1 := heap_alloc_new w (.cells (z8 a b) 177)
  have hs : (w.alloc (.cells (z8 a b) 177)).heap.size = w.heap.size + 1 := Array.size_push ..
  have h2 := heap_alloc_new (w.alloc (.cells (z8 a b) 177)) (.cells #[.int .i64 (a : Int), .slice none 0 0, .int .i64 (b : Int), .slice none 0 0] 179)
  have h3 : ((w.alloc (.cells (z8 a b) 177)).alloc (.cells #[.int .i64 (a : Int), .slice none 0 0, .int .i64 (b : Int), .slice none 0 0] 179)).heap[w.heap.size]? = some (.cells (z8 a b) 177) := (Below.heap_alloc _ _ _ (by omega)).trans h1
  rw [hs] at h2
  refine ⟨⟨rfl, .inr ⟨_, 2, _, rfl, Nat.le_succ _, h2, Nat.le_refl _, by simp [maxLen], rfl, rfl⟩⟩, fun x hx => ?_, fun c hc => ?_, ⟨_, h3⟩⟩
  · simp only [line0, List.mem_cons, List.not_mem_nil, or_false] at hx
    rcases hx with rfl | rfl
    · exact Lay.O.nil _ _
    · exact Lay.O.nil _ _
  · rw [cell_of_row _ _ _ _ _ _ h3]
    exact z8_at a b c ha hb hc

set_option maxHeartbeats 1000000 in
set_option maxRecDepth 100000 in
theorem cclone_c (w : World) (B : Nat) (v : Value) (P : List (Nat × Nat)) (h : KP.O w B v P) (hn : P.length ≤ 1000) : Calls Tryz.prog 122 #[v] w fun e w' => ∃ v', e = .returned v' ∧ KP.O w' w.heap.size v' P ∧ Below w.heap.size w w' := by
  rcases h.2 with ⟨rfl, h0⟩ | ⟨g, cap, cur, rfl, -, -⟩
  · obtain rfl : P = [] := List.eq_nil_of_length_eq_zero h0
    have hq := fun w => Go.Lib.run_eql_slice_nil (P := Tryz.prog) w 144 149 none 0 0 0 0 Tryz.underlying144
    have HB := Go.Lib.hid (Below.refl w.heap.size w)
    clear h hn h0
    go_enter Tryz.func122, Tryz.ntmps122
    go_wp2_with fail
    go_ret
    exact ⟨_, rfl, Lay.O.nil _ _, HB.out⟩
  · have hq := fun w => Go.Lib.run_eql_slice_nil (P := Tryz.prog) w 144 149 (some ⟨g, 0, none⟩) P.length cap 0 0 Tryz.underlying144
    have hb1 := (Below.refl w.heap.size w).alloc (Nat.le_refl _) (.cells #[] 149)
    have HO := Go.Lib.hid (show KP.O (w.alloc (.cells #[] 149)) w.heap.size (.slice (some ⟨w.heap.size, 0, none⟩) 0 0) [] from ⟨rfl, .inr ⟨w.heap.size, 0, #[], rfl, Nat.le_refl _, heap_alloc_new w _, Nat.le_refl _, by simp [maxLen], rfl, rfl⟩⟩)
    have HR := Go.Lib.hid (h.r.below hb1)
    have HN := Go.Lib.hid hn
    have HB := Go.Lib.hid hb1
    clear h hn hb1
    go_enter Tryz.func122, Tryz.ntmps122
    go_wp2_with (first
      | ((with_reducible show wpList _ _ _ (⟨some 7, _, _, _, _, _⟩ :: _) _ _); go_loud (refine KP_ok.append rfl (.tmp 5) (.tmp 6) rfl w.heap.size (.slice (some ⟨w.heap.size, 0, none⟩) 0 0) (.slice (some ⟨g, 0, none⟩) P.length cap) [] P rfl rfl HO.out HR.out (by have := HN.out; simp; omega) HB.out.size ?_); intro v2 w2 hown2 hg2; have HB2 := Go.Lib.hid (HB.out.grown hg2 HB.out.size HO.out.row); have HO2 := Go.Lib.hid hown2; clear hown2 hg2)
      | fail)
    go_ret
    exact ⟨_, rfl, HO2.out, HB2.out⟩

end Go.Proofs.YthbnecdeebmlhaaGreat

namespace Go.Proofs.YthbnecdeebmlhaaGreat
open Go.RowKit

/-- A way to room, or none: all that can be reached is full. -/
def WayOk (T : SlT) (a b : Nat) (W : List (Nat × Nat)) : Prop := (W = [] ∧ ∃ L : List ReT, LineOk T a b L ∧ DoneT T L L.length 0) ∨
  ∃ c P e s, (c = a ∨ c = b) ∧ W = P ++ [(e, s)] ∧ e < 8 ∧ s < 4 ∧ T (4 * e + s) = none ∧ Chain T c P e ∧ (∀ p ∈ P, p.1 < 8) ∧ (P.map Prod.fst ++ [e]).Nodup
def WayTo (T : SlT) (a b : Nat) (B : Nat) (w : World) (v : Value) : Prop := ∃ W, KP.O w B v W ∧ WayOk T a b W
theorem bk_snoc (L : List LnT) (x : LnT) : bkL (L ++ [x]) = bkL L ++ [x.1] := by unfold bkL; rw [List.map_append]; rfl
theorem re_snoc (L : List LnT) (x : LnT) : reL (L ++ [x]) = reL L ++ [(x.1, x.2.2)] := by unfold reL; rw [List.map_append]; rfl
theorem re_len (L : List LnT) : (reL L).length = L.length := by unfold reL; rw [List.length_map]
theorem re_at {L : List LnT} {i : Nat} {x : LnT} (h : L[i]? = some x) : ∃ hi : i < (reL L).length, (reL L)[i] = (x.1, x.2.2) := by
  obtain ⟨hi, rfl⟩ := List.getElem?_eq_some_iff.1 h
  refine ⟨by rw [re_len]; exact hi, ?_⟩
  unfold reL
  rw [List.getElem_map]
/-- Within a round: the bucket c is looked at (p: the block of what was taken out of the line), its first s slots are done. -/
structure InW (T : SlT) (a b g p c i s : Nat) (y : SvT) (P : List (Nat × Nat)) (w : World) (u : Value) (L : List LnT) : Prop where
  bg : BG w g g u L (bkL L)
  ok : LineOk T a b (reL L)
  done : DoneT T (reL L) i s
  il : L[i]? = some (c, y, P)
  b0 : w.cell? ⟨p, 0, none⟩ = some (.int .i64 (c : Int))
  b1 : w.cell? ⟨p, 1, none⟩ = some (svE y)
  up : u.ownBlock ≠ some p
  pg : p ≠ g
section
variable {T : SlT} {a b g p c i s : Nat} {y : SvT} {P : List (Nat × Nat)} {w w' w1 w2 : World} {u v' : Value} {L : List LnT}
theorem InW.below (h : InW T a b g p c i s y P w u L) (hb : Below w.heap.size w w') : InW T a b g p c i s y P w' u L :=
  ⟨h.bg.below hb, h.ok, h.done, h.il, (hb.cell (World.block_lt_of_cell? w _ h.b0)).trans h.b0, (hb.cell (World.block_lt_of_cell? w _ h.b1)).trans h.b1, h.up, h.pg⟩
theorem InW.step (h : InW T a b g p c i s y P w u L) {x : Nat × Int} (hT : T (4 * c + s) = some x) (hin : othN c x.1 ∈ bkL L) : InW T a b g p c i (s + 1) y P w u L := by
  obtain ⟨hi, e⟩ := re_at h.il
  refine ⟨h.bg, h.ok, h.done.step hi (x := x) ?_ ?_, h.il, h.b0, h.b1, h.up, h.pg⟩
  · rw [e]; exact hT
  · rw [e, bks_re]; exact hin
theorem InW.mark (h : InW T a b g p c i s y P w u L) {t : Nat} (ht : t < 8) : BG (w.setCell ⟨g, t, none⟩ (.bool true)) g g u L (bkL L ++ [t]) ∧ (w.setCell ⟨g, t, none⟩ (.bool true)).cell? ⟨p, 0, none⟩ = some (.int .i64 (c : Int)) ∧ (w.setCell ⟨g, t, none⟩ (.bool true)).cell? ⟨p, 1, none⟩ = some (svE y) := by
  have hne : ∀ o o', (⟨g, o, none⟩ : Addr) ≠ ⟨p, o', none⟩ := fun o o' e => by
    simp only [Addr.mk.injEq] at e
    exact h.pg e.1.symm
  exact ⟨h.bg.mark ht, (World.cell?_setCell_other _ _ _ _ (hne _ _)).trans h.b0, (World.cell?_setCell_other _ _ _ _ (hne _ _)).trans h.b1⟩
theorem InW.more (h : InW T a b g p c i s y P w u L) (hs : s < 4) {x : Nat × Int} (hT : T (4 * c + s) = some x) (hnew : othN c x.1 ∉ bkL L) {y' : SvT}
    (hb : Below (w.setCell ⟨g, othN c x.1, none⟩ (.bool true)).heap.size (w.setCell ⟨g, othN c x.1, none⟩ (.bool true)) w1)
    (hown : KR.O w2 g v' ((L.map fun x => (x.1, x.2.1)) ++ [(othN c x.1, y')])) (hgr : w1.grownBy w2 u.ownBlock) (hwh : v'.ownBlock = u.ownBlock ∨ ∀ k, v'.ownBlock = some k → w1.heap.size ≤ k)
    (hy : KP.O w g (svE y') (P ++ [(c, s)])) : InW T a b g p c i (s + 1) y P w2 v' (L ++ [(othN c x.1, y', P ++ [(c, s)])]) := by
  obtain ⟨hi, e⟩ := re_at h.il
  have hil := (List.getElem?_eq_some_iff.1 h.il).1
  have h8 : c < 8 := by
    have := h.ok.lt _ (List.getElem_mem hi)
    rw [e] at this
    exact this
  have ht := oth_lt x.1 h8
  obtain ⟨m1, m2, m3⟩ := h.mark ht
  have hok := h.ok.more hi hs (x := x) (by rw [e]; exact hT) (by rw [e, bks_re]; exact hnew)
  rw [e] at hok
  have hdone := (h.done.grow hi (othN c x.1, P ++ [(c, s)])).step (x := x) (by rw [List.length_append]; omega) (by rw [List.getElem_append_left hi, e]; exact hT) (by
    rw [List.getElem_append_left hi, e]
    unfold bks
    rw [List.map_append]
    exact List.mem_append_right _ (List.mem_singleton.2 rfl))
  obtain ⟨cs, hc⟩ := h.bg.blk
  have hyk : KP.O (w.setCell ⟨g, othN c x.1, none⟩ (.bool true)) g (svE y') (P ++ [(c, s)]) := hy.same fun q qs hq _ _ => Below.heap_setCell _ _ _ _ (by rintro rfl; rw [hc] at hq; cases hq)
  have hbg := (m1.below hb).more (t := othN c x.1) (y := y') (P := P ++ [(c, s)]) hown hgr (hyk.below hb)
  have hp1 : p < (w.setCell ⟨g, othN c x.1, none⟩ (.bool true)).heap.size := World.block_lt_of_cell? _ _ m2
  have hp2 : p < w1.heap.size := Nat.lt_of_lt_of_le hp1 hb.size
  have hpb : w2.heap[p]? = w1.heap[p]? := hgr.block p hp2 (fun e => h.up e.symm)
  have k0 := (hb.cell hp1).trans m2
  have k1 := (hb.cell hp1).trans m3
  refine ⟨by rw [bk_snoc]; exact hbg, by rw [re_snoc]; exact hok, by rw [re_snoc]; exact hdone, by rw [List.getElem?_append_left hil]; exact h.il, (World.cell?_of_block (w := w1) (a := ⟨p, 0, none⟩) hpb).trans k0, (World.cell?_of_block (w := w1) (a := ⟨p, 1, none⟩) hpb).trans k1, ?_, h.pg⟩
  intro e2
  rcases hwh with hwh | hwh
  · exact h.up (hwh.symm.trans e2)
  · have := hwh p e2
    omega
end
def VWa (d p c : Nat) (R : List Value) : Nat → World → Value → Prop
  | 34, _, v => v = .pointer (some ⟨d, 0, none⟩)
  | 35, _, v => v = .pointer (some ⟨p, 0, none⟩)
  | 36, _, v => v = .int .i64 (c : Int)
  | 37, _, v => v = .pointer (some ⟨d, 0, none⟩)
  | 38, _, v => v = .pointer (some ⟨d, 0, none⟩)
  | 39, _, v => v = .pointer (some ⟨d, 12 * c, none⟩)
  | 40, _, v => v = .agg R.toArray
  | 41, _, v => v = .int .i64 0
  | _, _, _ => True

theorem VWa_below (d p c : Nat) (R : List Value) : ∀ (i : Nat) (w w' : World) (v : Value), VWa d p c R i w v → Below w.heap.size w w' → VWa d p c R i w' v := by
  intro i w w' v h hb
  unfold VWa at h ⊢
  split at h <;> first | exact h | trivial | exact Lay.R.below h hb | exact Lay.O.below h hb

def VWb (p c s B : Nat) (ya : Option Addr) (yn yk : Nat) (P : List (Nat × Nat)) : Nat → World → Value → Prop
  | 45, _, v => v = .pointer (some ⟨p, 1, none⟩)
  | 46, _, v => v = .slice ya yn yk
  | 47, w, v => KP.O w B v P
  | 48, _, v => v = .pointer (some ⟨p, 0, none⟩)
  | 49, _, v => v = .int .i64 (c : Int)
  | 50, _, v => v = .int .i64 (s : Int)
  | 51, _, v => v = .agg #[.int .i64 (c : Int), .int .i64 (s : Int)]
  | 52, w, v => KP.R w v [(c, s)]
  | _, _, _ => True

theorem VWb_below (p c s B : Nat) (ya : Option Addr) (yn yk : Nat) (P : List (Nat × Nat)) : ∀ (i : Nat) (w w' : World) (v : Value), VWb p c s B ya yn yk P i w v → Below w.heap.size w w' → VWb p c s B ya yn yk P i w' v := by
  intro i w w' v h hb
  unfold VWb at h ⊢
  split at h <;> first | exact h | trivial | exact Lay.R.below h hb | exact Lay.O.below h hb

set_option maxHeartbeats 4000000 in
set_option maxRecDepth 100000 in
theorem cway_c {w : World} {d : Nat} {T : SlT} (h : CK w d T) {a b : Nat} (ha : a < 8) (hb : b < 8) (hab : a ≠ b) :
    Calls Tryz.prog 96 #[.pointer (some ⟨d, 0, none⟩), .int .i64 (a : Int), .int .i64 (b : Int)] w fun e w' => ∃ v, e = .returned v ∧ Below w.heap.size w w' ∧ WayTo T a b w.heap.size w' v := by
  have HD := Go.Lib.hid fun W (hW : Below w.heap.size w W) => h.below hW
  have HTOK := Go.Lib.hid h.tok
  have HR := Go.Lib.hid (idxRow T)
  have HLEN := Go.Lib.hid (fun b => show (Tryz.prog.info? 140).map (·.size) = some (rowO T b).length by kernel_rfl)
  have HST := Go.Lib.hid (LineOk.start (T := T) ha hb hab)
  have ia := fun g W => idx8 g a ha W
  have ib := fun g W => idx8 g b hb W
  clear h
  go_enter Tryz.func96, Tryz.ntmps96
  go_upto_region 3 with (fail)
  obtain ⟨g, hg⟩ : ∃ g, g = w.heap.size := ⟨_, rfl⟩
  have hz8 : (([Value.bool false, .bool false, .bool false, .bool false, .bool false, .bool false, .bool false, .bool false].set a (.bool true)).set b (.bool true)).toArray = z8 a b := rfl
  rw [hz8]
  have HBG := Go.Lib.hid (BG.start w ha hb)
  have HB0 := Go.Lib.hid ((Below.refl w.heap.size w).alloc (Nat.le_refl _) (.cells (z8 a b) 177))
  have HS0 := Go.Lib.hid (show (w.alloc (.cells (z8 a b) 177)).heap.size = w.heap.size + 1 from Array.size_push ..)
  clear hz8 ia ib
  rw [← hg]
  rw [← hg] at HBG HB0 HS0 HD
  generalize w.alloc (.cells (z8 a b) 177) = w1 at *
  have HG0 := Go.Lib.hid hg
  clear hg
  have HB1 := Go.Lib.hid (HB0.out.alloc (by have := HS0.out; omega) (.cells #[.int .i64 (a : Int), .slice none 0 0, .int .i64 (b : Int), .slice none 0 0] 179))
  rw [← HS0.out] at HBG
  go_wp2_with fail
  go_loopw [8, 9] (fun lv iv wr => ∃ (i : Nat) (u : Value) (L : List LnT), u = lv ∧ i ≤ L.length ∧ iv = .int .i64 (i : Int) ∧ Hid (BG wr g g u L (bkL L)) ∧ Hid (LineOk T a b (reL L) ∧ DoneT T (reL L) i 0) ∧ Hid (Below g w wr)) (fun _ iv _ => 8 - (intOf iv).toNat)
  case atStart => exact ⟨0, _, line0 a b, rfl, by omega, rfl, HBG, Go.Lib.hid ⟨HST.out, DoneT.zero _ _⟩, HB1⟩
  case round =>
    obtain ⟨i, u, L, rfl, hi, rfl, HBG, HLO, HB⟩ := hrel
    have HGW := Go.Lib.hid (show g ≤ wr.heap.size by rw [HG0.out]; exact HB.out.size)
    have HL8 := Go.Lib.hid (show L.length ≤ 8 by have := HLO.out.1.len; rwa [re_len] at this)
    obtain ⟨au, cu, rfl, hum⟩ := HBG.out.row.r.form
    have hlen : (L.map fun x => (x.1, x.2.1)).length = L.length := List.length_map _
    rw [hlen] at HBG ⊢
    by_cases hil : i < L.length
    · obtain ⟨bq, o, rfl, -, hbs, c0, c1⟩ := KR.at' HBG.out.row.r i (by rw [hlen]; exact hil)
      have hix := idxR bq o L.length cu i hil wr
      obtain ⟨x, hx⟩ : ∃ x, L[i]? = some x := ⟨_, List.getElem?_eq_getElem hil⟩
      obtain ⟨c, ⟨ya, yn, yk⟩, P⟩ := x
      have hxi : L[i] = (c, (ya, yn, yk), P) := by
        have := List.getElem?_eq_getElem hil
        rw [hx] at this
        exact (Option.some.inj this).symm
      rw [List.getElem_map, hxi] at c0 c1
      simp only [svE] at c0 c1
      obtain ⟨hri, hre⟩ := re_at hx
      have hc8 : c < 8 := by
        have := HLO.out.1.lt _ (List.getElem_mem hri)
        rw [hre] at this
        exact this
      have HIL := Go.Lib.hid hx
      have hb2 := (Below.refl wr.heap.size wr).alloc (Nat.le_refl _) (.cells #[.int .i64 (c : Int), .slice ya yn yk] 179)
      have HBG3 := Go.Lib.hid (HBG.out.below hb2)
      have HB3 := Go.Lib.hid (HB.out.trans (hb2.mono HGW.out))
      have HGW3 := Go.Lib.hid (show g ≤ (wr.alloc (.cells #[.int .i64 (c : Int), .slice ya yn yk] 179)).heap.size from Nat.le_trans HGW.out hb2.size)
      have HG := Go.Lib.hid (heap_alloc_new wr (.cells #[.int .i64 (c : Int), .slice ya yn yk] 179))
      have HUP := Go.Lib.hid (show (Value.slice (some ⟨bq, o, none⟩) L.length cu).ownBlock ≠ some wr.heap.size from fun e => by have := HBG.out.row.lt _ e; omega)
      have HPG := Go.Lib.hid (show wr.heap.size ≠ g from fun e => by
        obtain ⟨cs, hcs⟩ := HBG.out.blk
        have := (Array.getElem?_eq_some_iff.1 hcs).1
        omega)
      have hir := HR.out c
      have HL2 := Go.Lib.hid (HLEN.out c)
      have h1 := fun W => idxB d c hc8 W
      clear hb2 hxi hri hre hx hlen
      go_upto_region 8 with (fail)
      obtain ⟨p, hp⟩ : ∃ p, p = wr.heap.size := ⟨_, rfl⟩
      rw [← hp] at HG HUP HPG ⊢
      clear hp c0 c1 hix hbs HBG HB HGW
      generalize wr.alloc (.cells #[.int .i64 (c : Int), .slice ya yn yk] 179) = w3 at *
      have x0 : w3.cell? ⟨p, 0, none⟩ = some (.int .i64 (c : Int)) := by rw [cell_of_row _ _ _ _ _ _ HG.out]; rfl
      have x1 : w3.cell? ⟨p, 1, none⟩ = some (.slice ya yn yk) := by rw [cell_of_row _ _ _ _ _ _ HG.out]; rfl
      have HRG := Go.Lib.hid (fun W (hW : Below w3.heap.size w3 W) => show W.rangeAt d (12 * c) (rowO T c) from (HD.out W (HB3.out.trans (hW.mono HGW3.out))).range c hc8)
      have HIN := Go.Lib.hid (show InW T a b g p c i 0 (ya, yn, yk) P w3 (.slice (some ⟨bq, o, none⟩) L.length cu) L from ⟨HBG3.out, HLO.out.1, HLO.out.2, HIL.out, x0, x1, HUP.out, HPG.out⟩)
      clear HBG3 HLO HIL HG HUP HPG
      generalize rowO T c = R at *
      refine wp_region_each (by kernel_rfl) (VWa d p c R) (VWa_below d p c R) (by decide +kernel) (by decide +kernel) (by rfl) [34, 35, 36, 37, 38, 39, 40, 41] (by rfl) ?_ ?_
      · intro i o ho a w6 hb6 hlen hg
        have x0 := keepC x0 hb6
        have hrg := HRG.out w6 hb6
        match i, ho with
        | 0, ho =>
          obtain rfl := Option.some.inj ho
          have h0 := given_old hg 0 (by decide +kernel)
          clear hg
          exact st_yield ho (wanted_none rfl) (.pointer (some ⟨d, 0, none⟩)) w6 (by simp [execOp, Act.eval, h0, go_sem]) ⟨_, rfl, Below.refl _ _, by rintro t' ⟨⟩; rfl⟩
        | 1, ho =>
          obtain rfl := Option.some.inj ho
          have h10 := given_old hg 10 (by decide +kernel)
          clear hg
          exact st_yield ho (wanted_none rfl) (.pointer (some ⟨p, 0, none⟩)) w6 (by simp [execOp, Act.eval, h10, go_sem]) ⟨_, rfl, Below.refl _ _, by rintro t' ⟨⟩; rfl⟩
        | 2, ho =>
          obtain rfl := Option.some.inj ho
          obtain ⟨_, h35, rfl⟩ := given_fed hg 35 (by decide +kernel)
          clear hg
          exact st_yield ho (wanted_none rfl) (.int .i64 (c : Int)) w6 (by simp [execOp, Act.eval, h35, go_sem, x0]) ⟨_, rfl, Below.refl _ _, by rintro t' ⟨⟩; rfl⟩
        | 3, ho =>
          obtain rfl := Option.some.inj ho
          obtain ⟨_, h34, rfl⟩ := given_fed hg 34 (by decide +kernel)
          clear hg
          exact st_yield ho (wanted_none rfl) (.pointer (some ⟨d, 0, none⟩)) w6 (by simp [execOp, Act.eval, h34, go_sem]) ⟨_, rfl, Below.refl _ _, by rintro t' ⟨⟩; rfl⟩
        | 4, ho =>
          obtain rfl := Option.some.inj ho
          obtain ⟨_, h37, rfl⟩ := given_fed hg 37 (by decide +kernel)
          clear hg
          exact st_yield ho (wanted_none rfl) (.pointer (some ⟨d, 0, none⟩)) w6 (by simp [execOp, Act.eval, h37, go_sem]) ⟨_, rfl, Below.refl _ _, by rintro t' ⟨⟩; rfl⟩
        | 5, ho =>
          obtain rfl := Option.some.inj ho
          obtain ⟨_, h38, rfl⟩ := given_fed hg 38 (by decide +kernel)
          obtain ⟨_, h36, rfl⟩ := given_fed hg 36 (by decide +kernel)
          clear hg
          exact st_yield ho (wanted_none rfl) (.pointer (some ⟨d, 12 * c, none⟩)) w6 (by simp [execOp, Act.eval, h38, h36, go_sem, h1]) ⟨_, rfl, Below.refl _ _, by rintro t' ⟨⟩; rfl⟩
        | 6, ho =>
          obtain rfl := Option.some.inj ho
          obtain ⟨_, h39, rfl⟩ := given_fed hg 39 (by decide +kernel)
          clear hg
          exact st_list ho (wanted_none rfl) fun Q' hQ => wpList_load_mid rfl 140 (.tmp 39) rfl d (12 * c) (by simp [Act.eval, h39]) R _ hrg Tryz.underlying140 rfl HL2.out (wpList_nil (hQ _ _ ⟨_, rfl, Below.refl _ _, by rintro t' ⟨⟩; rfl⟩))
        | 7, ho =>
          obtain rfl := Option.some.inj ho
          clear hg
          exact st_yield ho (wanted_none rfl) (.int .i64 0) w6 (by simp [execOp, Act.eval, go_sem]) ⟨_, rfl, Below.refl _ _, by rintro t' ⟨⟩; rfl⟩
        | n + 8, ho => simp at ho
      · intro f w6 hb6 hv
        have h40 := hv 40 (by decide)
        have h41 := hv 41 (by decide)
        simp only [VWa] at h40 h41
        have HIN6 := Go.Lib.hid (HIN.out.below hb6)
        have HB6 := Go.Lib.hid (HB3.out.trans (hb6.mono HGW3.out))
        clear hv hb6 HIN HB3 x0 x1
        unfold putAll
        simp only [List.foldl]
        simp only [h40, h41]
        go_simp
        clear HRG
        go_wp2_with fail
        go_loopw [8, 41] (fun lv sv wr => ∃ (s : Nat) (u : Value) (L : List LnT), u = lv ∧ s ≤ 4 ∧ sv = .int .i64 (s : Int) ∧ Hid (InW T a b g p c i s (ya, yn, yk) P wr u L) ∧ Hid (Below g w wr)) (fun _ sv _ => 4 - (intOf sv).toNat)
        case atStart => exact ⟨0, _, L, rfl, by omega, rfl, HIN6, HB6⟩
        case round =>
          obtain ⟨s, u, L, rfl, hs, rfl, HIN, HB⟩ := hrel
          by_cases hs4 : s < 4
          · have hsI : (s : Int) < 4 := by omega
            have hie := hir s hs4
            have HTQ := Go.Lib.hid (show (hasO (T (4 * c + s)) = false ∧ T (4 * c + s) = none) ∨ (hasO (T (4 * c + s)) = true ∧ ∃ x : Nat × Int, T (4 * c + s) = some x ∧ x.1 = tagO (T (4 * c + s)) ∧ x.1 < 32768) by
              cases hT : T (4 * c + s) with
              | none => exact .inl ⟨rfl, rfl⟩
              | some x => exact .inr ⟨rfl, x, rfl, rfl, (HTOK.out _ _ hT).2⟩)
            have HGW := Go.Lib.hid (show g ≤ wr.heap.size by rw [HG0.out]; exact HB.out.size)
            generalize hasO (T (4 * c + s)) = hh at *
            generalize tagO (T (4 * c + s)) = tt at *
            generalize idO (T (4 * c + s)) = ii at *
            have hb2 := (Below.refl wr.heap.size wr).alloc (Nat.le_refl _) (.cells #[.bool hh, .int .i64 (tt : Int), .int .i64 ii] 139)
            have HIN4 := Go.Lib.hid (HIN.out.below hb2)
            have HB4 := Go.Lib.hid (HB.out.trans (hb2.mono HGW.out))
            have HGW4 := Go.Lib.hid (Nat.le_trans HGW.out hb2.size)
            have HQ := Go.Lib.hid (heap_alloc_new wr (.cells #[.bool hh, .int .i64 (tt : Int), .int .i64 ii] 139))
            clear hb2 hir HIN HB HGW
            go_upto_region 11 with (fail)
            obtain ⟨q, hq⟩ : ∃ q, q = wr.heap.size := ⟨_, rfl⟩
            rw [← hq] at HQ ⊢
            clear hq hie
            generalize wr.alloc (.cells #[.bool hh, .int .i64 (tt : Int), .int .i64 ii] 139) = w4 at *
            have HQ0 := Go.Lib.hid (show w4.cell? ⟨q, 0, none⟩ = some (.bool hh) by rw [cell_of_row _ _ _ _ _ _ HQ.out]; rfl)
            have HQ1 := Go.Lib.hid (show w4.cell? ⟨q, 1, none⟩ = some (.int .i64 (tt : Int)) by rw [cell_of_row _ _ _ _ _ _ HQ.out]; rfl)
            have x0 := HIN4.out.b0
            have x1 : w4.cell? ⟨p, 1, none⟩ = some (.slice ya yn yk) := HIN4.out.b1
            have HPO := Go.Lib.hid (show KP.O w4 g (.slice ya yn yk) P from HIN4.out.bg.ways _ (List.mem_of_getElem? HIN4.out.il))
            have HPL := Go.Lib.hid (show P.length ≤ 8 by
              obtain ⟨hri, hre⟩ := re_at HIN4.out.il
              obtain ⟨c0, -, -, hnd, hin⟩ := HIN4.out.ok.way _ (List.getElem_mem hri)
              rw [hre] at hnd hin
              have h8 := nodup_le8 (List.nodup_append.1 hnd).1 (fun z hz => by
                obtain ⟨pp, hpp, rfl⟩ := List.mem_map.1 hz
                exact HIN4.out.ok.lt' (hin pp hpp))
              rwa [List.length_map] at h8)
            have CC := Go.Lib.hid (fun W (hW : Below w4.heap.size w4 W) => cclone_c W g (.slice ya yn yk) P (HPO.out.below hW) (by have := HPL.out; omega))
            clear HQ
            refine wp_region_head 8 (by decide) (by kernel_rfl) (VWb p c s w4.heap.size ya yn yk P) (VWb_below p c s w4.heap.size ya yn yk P) (by decide +kernel) (by rfl) [45, 46, 47, 48, 49, 50, 51, 52] (by rfl) ?_ ?_
            · intro i o hin ho a w6 hb6 hlen hg
              have x0 := keepC x0 hb6
              have x1 := keepC x1 hb6
              match i, hin, ho with
              | 0, hin, ho =>
                obtain rfl := Option.some.inj ho
                have h10 := given_old hg 10 (by decide +kernel)
                clear hg
                exact st_yield ho (wanted_none rfl) (.pointer (some ⟨p, 1, none⟩)) w6 (by simp [execOp, Act.eval, h10, go_sem]) ⟨_, rfl, Below.refl _ _, by rintro t' ⟨⟩; rfl⟩
              | 1, hin, ho =>
                obtain rfl := Option.some.inj ho
                obtain ⟨_, h45, rfl⟩ := given_fed hg 45 (by decide +kernel)
                clear hg
                exact st_yield ho (wanted_none rfl) (.slice ya yn yk) w6 (by simp [execOp, Act.eval, h45, go_sem, x1]) ⟨_, rfl, Below.refl _ _, by rintro t' ⟨⟩; rfl⟩
              | 2, hin, ho =>
                obtain rfl := Option.some.inj ho
                obtain ⟨_, h46, rfl⟩ := given_fed hg 46 (by decide +kernel)
                clear hg
                exact st_enter (w1 := w6) ho (wanted_none rfl) 122 #[.slice ya yn yk] (by simp [execOp, Act.eval, h46, resolve, go_sem]) ((CC.out w6 hb6).mono (by rintro e w7 ⟨v', rfl, hown, hb7⟩; exact ⟨v', rfl, _, rfl, hb7, by rintro t' ⟨⟩; exact hown.mono hb6.size⟩))
              | 3, hin, ho =>
                obtain rfl := Option.some.inj ho
                have h10 := given_old hg 10 (by decide +kernel)
                clear hg
                exact st_yield ho (wanted_none rfl) (.pointer (some ⟨p, 0, none⟩)) w6 (by simp [execOp, Act.eval, h10, go_sem]) ⟨_, rfl, Below.refl _ _, by rintro t' ⟨⟩; rfl⟩
              | 4, hin, ho =>
                obtain rfl := Option.some.inj ho
                obtain ⟨_, h48, rfl⟩ := given_fed hg 48 (by decide +kernel)
                clear hg
                exact st_yield ho (wanted_none rfl) (.int .i64 (c : Int)) w6 (by simp [execOp, Act.eval, h48, go_sem, x0]) ⟨_, rfl, Below.refl _ _, by rintro t' ⟨⟩; rfl⟩
              | 5, hin, ho =>
                obtain rfl := Option.some.inj ho
                have h11 := given_old hg 11 (by decide +kernel)
                clear hg
                exact st_yield ho (wanted_none rfl) (.int .i64 (s : Int)) w6 (by simp [execOp, Act.eval, h11, go_sem]) ⟨_, rfl, Below.refl _ _, by rintro t' ⟨⟩; rfl⟩
              | 6, hin, ho =>
                obtain rfl := Option.some.inj ho
                obtain ⟨_, h49, rfl⟩ := given_fed hg 49 (by decide +kernel)
                obtain ⟨_, h50, rfl⟩ := given_fed hg 50 (by decide +kernel)
                clear hg
                exact st_yield ho (wanted_none rfl) (.agg #[.int .i64 (c : Int), .int .i64 (s : Int)]) w6 (by simp [execOp, Act.eval, h49, h50, go_sem]) ⟨_, rfl, Below.refl _ _, by rintro t' ⟨⟩; rfl⟩
              | 7, hin, ho =>
                obtain rfl := Option.some.inj ho
                obtain ⟨_, h51, rfl⟩ := given_fed hg 51 (by decide +kernel)
                clear hg
                exact st_yield ho (wanted_none rfl) (.slice (some ⟨w6.heap.size, 0, none⟩) 1 1) (w6.alloc (.cells #[.int .i64 (c : Int), .int .i64 (s : Int)] 149)) (by simp [execOp, Act.eval, h51, go_sem]) ⟨_, rfl, (Below.refl _ _).alloc (Nat.le_refl _) _, by rintro t' ⟨⟩; exact KP.one' w6 c s⟩
              | n + 8, hin, ho => omega
            · intro f w6 hb6 hv
              have h47 := hv 47 (by decide)
              have h52 := hv 52 (by decide)
              simp only [VWb] at h47 h52
              have HO6 := Go.Lib.hid h47
              have HR6 := Go.Lib.hid h52
              have HB6 := Go.Lib.hid hb6
              clear hv hb6 h47 h52 x0 x1 CC
              unfold putAll
              simp only [List.foldl, List.drop]
              go_simp
              go_upto_region 12 with (first
                | ((with_reducible show wpList _ _ _ (⟨some 53, _, _, _, _, _⟩ :: _) _ _); go_loud (refine KP_ok.append rfl (.tmp 47) (.tmp 52) rfl w4.heap.size (f 47) (f 52) P [(c, s)] rfl rfl HO6.out HR6.out (by have := HPL.out; simp; omega) HB6.out.size ?_); intro v7 w7 hown7 hg7; have HB7 := Go.Lib.hid (HB6.out.grown hg7 HB6.out.size HO6.out.row); have HO7 := Go.Lib.hid hown7; clear hown7 hg7)
                | fail)
              have y0 := keepC HQ0.out HB7.out
              have y1 := keepC HQ1.out HB7.out
              have HIN7 := Go.Lib.hid (HIN4.out.below HB7.out)
              have HBW := Go.Lib.hid (HB4.out.trans (HB7.out.mono HGW4.out))
              have HP7 := Go.Lib.hid (HO7.out.mono HGW4.out)
              clear HIN4 HB4 HQ0 HQ1 HPO HO6 HR6 HB6
              obtain ⟨a7, k7, rfl, hm7⟩ := HP7.out.r.form
              rw [show (P ++ [(c, s)]).length = P.length + 1 by simp] at HP7 hm7 ⊢
              cases hh with
              | false =>
                have HRES := Go.Lib.hid (show ∃ c0 P0 e0 s0, (c0 = a ∨ c0 = b) ∧ P ++ [(c, s)] = P0 ++ [(e0, s0)] ∧ e0 < 8 ∧ s0 < 4 ∧ T (4 * e0 + s0) = none ∧ Chain T c0 P0 e0 ∧ (∀ p ∈ P0, p.1 < 8) ∧ (P0.map Prod.fst ++ [e0]).Nodup from by
                  have hTn : T (4 * c + s) = none := by
                    rcases HTQ.out with ⟨-, h⟩ | ⟨h, -⟩
                    · exact h
                    · cases h
                  obtain ⟨hri, hre⟩ := re_at HIN7.out.il
                  obtain ⟨c0, h0, hch, hnd, hin⟩ := HIN7.out.ok.way _ (List.getElem_mem hri)
                  rw [hre] at hch hnd hin
                  exact ⟨c0, P, c, s, h0, rfl, hc8, hs4, hTn, hch, fun pp hpp => HIN7.out.ok.lt' (hin pp hpp), hnd⟩)
                have HW := Go.Lib.hid (show Below w.heap.size w w7 by rw [← HG0.out]; exact HBW.out)
                have HPW := Go.Lib.hid (show KP.O w7 w.heap.size (.slice a7 (P.length + 1) k7) (P ++ [(c, s)]) by rw [← HG0.out]; exact HP7.out)
                clear hs4 hs hi hil hum hm7
                go_wp2_with fail
                go_ret
                exact ⟨_, rfl, HW.out, ⟨_, HPW.out, .inr HRES.out⟩⟩
              | true =>
                obtain ⟨x, hTx, hxt, hx8⟩ : ∃ x : Nat × Int, T (4 * c + s) = some x ∧ x.1 = tt ∧ x.1 < 32768 := by
                  rcases HTQ.out with ⟨h, -⟩ | ⟨-, h⟩
                  · cases h
                  · exact h
                have htl : tt < 32768 := by rw [← hxt]; exact hx8
                have OA := Go.Lib.hid fun W => hother_c (c : Int) (tt : Int) W (by omega) (by omega) (by omega) (by omega)
                rw [otherI_nat hc8 htl] at OA
                have ho8 : othN c tt < 8 := oth_lt tt hc8
                have z0 := HIN7.out.b0
                have hse := HIN7.out.bg.seen (othN c tt) ho8
                have h8 := fun W => idx8 g (othN c tt) ho8 W
                have HSTEP := Go.Lib.hid (fun (hin : othN c tt ∈ bkL L) => HIN7.out.step hTx (by rw [hxt]; exact hin))
                have HMORE := Go.Lib.hid (fun (hnew : othN c tt ∉ bkL L) (W1 W2 : World) (v' : Value) (y' : SvT) h1 h2 h3 h4 h5 => HIN7.out.more (w1 := W1) (w2 := W2) (v' := v') (y' := y') hs4 hTx (by rw [hxt]; exact hnew) (by rw [hxt]; exact h1) (by rw [hxt]; exact h2) h3 h4 h5)
                rw [hxt] at HMORE
                have hfz := HIN7.out.bg.frozen (othN c tt)
                have HMK := Go.Lib.hid (HIN7.out.mark ho8)
                have HUL := Go.Lib.hid (show L.length ≤ 8 by have := HIN7.out.ok.len; rwa [re_len] at this)
                clear hTx hxt hx8 HTQ
                generalize othN c tt = o8 at *
                by_cases hin : o8 ∈ bkL L
                · rw [decide_eq_true hin] at hse
                  have HN := Go.Lib.hid (HSTEP.out hin)
                  clear HSTEP HMORE hin HMK
                  go_wp2_with fail
                  refine (OA.out _).mono ?_
                  rintro e w8 ⟨rfl, rfl⟩
                  go_wp2_with fail
                  go_roundw
                  case rel => exact ⟨s + 1, _, L, rfl, by omega, by go_num, HN, HBW⟩
                  case measure => simp only [intOf]; omega
                · rw [decide_eq_false hin] at hse
                  have HN := Go.Lib.hid (HMORE.out hin)
                  clear HSTEP HMORE hin
                  go_wp2_with fail
                  refine (OA.out _).mono ?_
                  rintro e w8 ⟨rfl, rfl⟩
                  go_upto_region 17 with (fail)
                  have HFX := Go.Lib.hid (show Below g w (w7.setCell ⟨g, o8, none⟩ (.bool true)) from ⟨HBW.out.os, HBW.out.tape, HBW.out.output, by simpa [World.setCell] using HBW.out.size, fun k hk => (Below.heap_setCell _ _ _ _ (by simp only []; omega)).trans (HBW.out.block k hk)⟩)
                  have HM1 := Go.Lib.hid HMK.out.1
                  clear z0 hse h8 hfz y0 y1 HMK
                  generalize w7.setCell ⟨g, o8, none⟩ (.bool true) = w9 at *
                  have hb2 := (Below.refl w9.heap.size w9).alloc (Nat.le_refl _) (.cells #[.int .i64 (o8 : Int), .slice a7 (P.length + 1) k7] 179)
                  have HGW9 := Go.Lib.hid (show g ≤ w9.heap.size by rw [HG0.out]; exact HFX.out.size)
                  have HBX := Go.Lib.hid hb2
                  have HFY := Go.Lib.hid (HFX.out.trans (hb2.mono HGW9.out))
                  have HROW := Go.Lib.hid (HM1.out.row.below hb2)
                  have HONE := Go.Lib.hid (KR.one' w9 o8 a7 (P.length + 1) k7)
                  have HGY := Go.Lib.hid (Nat.le_trans HGW9.out hb2.size)
                  clear hb2 HM1
                  go_wp2_with (first
                    | ((with_reducible show wpList _ _ _ (⟨some 74, _, _, _, _, _⟩ :: _) _ _); go_loud (refine KR_ok.appendW rfl (.tmp 69) (.tmp 73) rfl g u (.slice (some ⟨w9.heap.size, 0, none⟩) 1 1) (L.map fun x => (x.1, x.2.1)) [(o8, a7, P.length + 1, k7)] rfl rfl HROW.out HONE.out (by simp) (by have := HUL.out; rw [List.length_map, List.length_singleton]; omega) HGY.out ?_); intro v10 w10 hown10 hg10 hwh10; have HFZ := Go.Lib.hid (HFY.out.grown hg10 (by rw [HG0.out]; exact HFY.out.size) HROW.out.row); have HN2 := Go.Lib.hid (HN.out _ w10 v10 (a7, P.length + 1, k7) HBX.out hown10 hg10 hwh10 HP7.out); clear hown10 hg10 hwh10)
                    | fail)
                  go_roundw
                  case rel => exact ⟨s + 1, _, _, rfl, by omega, by go_num, HN2, HFZ⟩
                  case measure => simp only [intOf]; omega
          · obtain rfl : s = 4 := by omega
            have HBE := Go.Lib.hid HIN.out.bg
            have HLE := Go.Lib.hid (show LineOk T a b (reL L) ∧ DoneT T (reL L) (i + 1) 0 from ⟨HIN.out.ok, HIN.out.done.next⟩)
            have HLI := Go.Lib.hid (show i + 1 ≤ L.length from (List.getElem?_eq_some_iff.1 HIN.out.il).1)
            have HLM := Go.Lib.hid (show L.length ≤ 8 by have := HIN.out.ok.len; rwa [re_len] at this)
            have hi8 : i ≤ 7 := by have := HLI.out; have := HLM.out; omega
            clear hir HIN hs4
            go_wp2_with fail
            go_roundw
            case rel => exact ⟨i + 1, _, L, rfl, HLI.out, by go_num, HBE, HLE, HB⟩
            case measure => simp only [intOf]; omega
    · obtain rfl : i = L.length := by omega
      have HW := Go.Lib.hid (show Below w.heap.size w wr by rw [← HG0.out]; exact HB.out)
      clear hil hum hlen
      go_wp2_with fail
      go_ret
      exact ⟨_, rfl, HW.out, [], Lay.O.nil _ _, .inl ⟨rfl, reL L, HLO.out.1, by rw [re_len]; exact HLO.out.2⟩⟩

end Go.Proofs.YthbnecdeebmlhaaGreat

namespace Go.Proofs.YthbnecdeebmlhaaGreat
open Go.RowKit

/-- Does operation i wait for operation j, by whatever way? -/
def aheadB (ops : Array Oper) (i j : Nat) : Bool := (reach ops ops.size (edges ops i)).contains j

section
variable {P : Program} {ops : Array Oper} {Q : Exit → Act → World → Prop}

structure HeldI (ops : Array Oper) (V : Nat → World → Value → Prop) (I : (Nat → Bool) → World → Prop) (a0 : Act) (listed : Array Bool) (a : Act) (w : World) : Prop where
  size : listed.size = ops.size
  inv : I (fun j => listed.getD j false) w
  defers : a.defers = a0.defers
  len : a.tmps.size = a0.tmps.size
  old : ∀ t : Nat, (∀ (i : Nat) (o : Oper), ops[i]? = some o → o.dst = some t → listed.getD i false = false) → a.tmps[t]? = a0.tmps[t]?
  new : ∀ (i : Nat) (o : Oper) (t : Nat), ops[i]? = some o → o.dst = some t → listed.getD i false = true → ∃ v, a.tmps[t]? = some v ∧ V t w v
  shut : ∀ (i : Nat) (o : Oper), ops[i]? = some o → listed.getD i false = true → ∀ e ∈ o.after, Region.binds .any e = true → listed.getD e.on false = true

/-- Operation i has been carried out too. -/
def doneToo (done : Nat → Bool) (i : Nat) : Nat → Bool := fun j => if j = i then true else done j
theorem doneToo_other {done : Nat → Bool} {i j : Nat} (h : j ≠ i) : doneToo done i j = done j := by unfold doneToo; rw [if_neg h]
theorem doneToo_self (done : Nat → Bool) (i : Nat) : doneToo done i i = true := by unfold doneToo; rw [if_pos rfl]

/-- Slot t has been written. -/
def Wrote (ops : Array Oper) (done : Nat → Bool) (t : Nat) : Prop := ∃ (j : Nat) (p : Oper), ops[j]? = some p ∧ p.dst = some t ∧ done j = true
/-- Operation i alone writes slot t. -/
def soleB (ops : Array Oper) (i t : Nat) : Bool := (List.range ops.size).all fun j => match ops[j]? with | some p => p.dst != some t || j == i | none => true
theorem not_wrote {ops : Array Oper} {done : Nat → Bool} {i t : Nat} (hs : soleB ops i t = true) (hn : done i = false) : ¬ Wrote ops done t := by
  rintro ⟨j, p, hj, hd, hdone⟩
  unfold soleB at hs
  rw [List.all_eq_true] at hs
  have h1 := hs j (by rw [List.mem_range]; exact (Array.getElem?_eq_some_iff.1 hj).1)
  rw [hj] at h1
  simp only [hd, bne_self_eq_false, Bool.false_or, beq_iff_eq] at h1
  rw [h1, hn] at hdone
  cases hdone

theorem wp_region_inv2 {id : Nat} {a0 : Act} {w0 : World} (hm : P.follows .mixedOrders = true) (V : Nat → World → Value → Prop) (I : (Nat → Bool) → World → Prop)
    (htidy : tidyB ops = true) (hlow : lowB ops = true) (hdst : (ops.toList.all fun o => match o.dst with | some t => decide (t < a0.tmps.size) | none => true) = true)
    (l : List Nat) (hl : dsts ops = l) (h0 : I (fun _ => false) w0.drew)
    (hstep : ∀ (i : Nat) (o : Oper), ops[i]? = some o → ∀ (a : Act) (w : World) (done : Nat → Bool), I done w → done i = false → (∀ j, aheadB ops i j = true → done j = true) → a.tmps.size = a0.tmps.size → Given ops V a0 o a w →
      wpOp P ops Q i (fun a' w' => ∃ v, a' = a.put o.dst v ∧ I (doneToo done i) w' ∧ (∀ t u, Wrote ops done t → V t w u → V t w' u) ∧ ∀ t, o.dst = some t → V t w' v) a w)
    (hend : ∀ (f : Nat → Value) (w : World) (done : Nat → Bool), (∀ i, i < ops.size → done i = true) → I done w → (∀ t, t ∈ l → V t w (f t)) → Q .normal (putAll a0 f l) w) :
    (Code.region id ops true).wp P Q a0 w0 := by
  have hdd : ∀ (i : Nat) (o : Oper) (t : Nat), ops[i]? = some o → o.dst = some t → t < a0.tmps.size := by
    intro i o t ho hod
    rw [List.all_eq_true] at hdst
    have h1 := hdst o (by obtain ⟨h, rfl⟩ := Array.getElem?_eq_some_iff.1 ho; simp)
    rw [hod] at h1
    exact of_decide_eq_true h1
  have hmem : ∀ t, t ∈ l ↔ ∃ (i : Nat) (o : Oper), ops[i]? = some o ∧ o.dst = some t := by
    intro t
    rw [← hl, dsts, List.mem_filterMap]
    constructor
    · rintro ⟨o, ho, hot⟩
      obtain ⟨i, hi, rfl⟩ := List.mem_iff_getElem.1 ho
      have hi' : i < ops.size := by simpa using hi
      exact ⟨i, ops[i], by simp [hi'], by simpa using hot⟩
    · rintro ⟨i, o, ho, hot⟩
      obtain ⟨h, rfl⟩ := Array.getElem?_eq_some_iff.1 ho
      exact ⟨ops[i], by simp, hot⟩
  refine wp_region_any hm ?_
  have hfin : ∀ (listed : Array Bool) (a : Act) (w : World), HeldI ops V I a0 listed a w → Region.ready .any ops listed = [] → Q .normal a w := by
    intro listed a w h hr
    have hall := listed_all hlow h.size hr
    have hf : ∀ t, t ∈ l → ∃ v, a.tmps[t]? = some v ∧ V t w v := fun t ht => by
      obtain ⟨i, o, ho, hot⟩ := (hmem t).1 ht
      exact h.new i o t ho hot (hall i o ho)
    have ha : a = putAll a0 (fun t => a.tmps.getD t undef) l := by
      have hdef := h.defers
      have hlen := h.len
      have hold := h.old
      obtain ⟨tm, df⟩ := a
      obtain ⟨h1, h2⟩ := putAll_size (fun t => tm.getD t undef) l a0
      have h3 : tm = (putAll a0 (fun t => tm.getD t undef) l).tmps := by
        apply Array.ext_getElem?
        intro t
        rw [putAll_tmps]
        by_cases ht : t ∈ l
        · obtain ⟨v, hv, -⟩ := hf t ht
          simp only [] at hv
          have hts : t < a0.tmps.size := by rw [← hlen]; exact (Array.getElem?_eq_some_iff.1 hv).1
          rw [if_pos ⟨ht, hts⟩, Array.getD_eq_getD_getElem?, hv]
          rfl
        · rw [if_neg (fun h => ht h.1)]
          exact hold t fun i o ho hot => absurd ((hmem t).2 ⟨i, o, ho, hot⟩) ht
      have h4 : df = (putAll a0 (fun t => tm.getD t undef) l).defers := by rw [h2]; exact hdef
      calc (⟨tm, df⟩ : Act) = ⟨(putAll a0 (fun t => tm.getD t undef) l).tmps, (putAll a0 (fun t => tm.getD t undef) l).defers⟩ := by rw [← h3, ← h4]
        _ = _ := rfl
    rw [ha]
    refine hend _ w _ (fun i hi => hall i ops[i] (by simp [hi])) h.inv fun t ht => ?_
    obtain ⟨v, hv, hVv⟩ := hf t ht
    rw [Array.getD_eq_getD_getElem?, hv]
    exact hVv
  have key : ∀ (fuel : Nat) (listed : Array Bool) (a : Act) (w : World), HeldI ops V I a0 listed a w →
      (List.range ops.size).countP (fun j => !listed.getD j true) ≤ fuel → wpAny P .any ops Q fuel listed a w := by
    intro fuel
    induction fuel with
    | zero =>
      intro listed a w h hcount
      have hr : Region.ready .any ops listed = [] := by
        cases hrr : Region.ready .any ops listed with
        | nil => rfl
        | cons x xs =>
          have hx : x ∈ Region.ready .any ops listed := by rw [hrr]; simp
          obtain ⟨hun, o, ho, -⟩ := mem_ready.1 hx
          have : 0 < (List.range ops.size).countP (fun j => !listed.getD j true) := List.countP_pos_iff.2 ⟨x, by rw [List.mem_range]; exact (Array.getElem?_eq_some_iff.1 ho).1, by rw [hun]; rfl⟩
          omega
      exact ⟨hr, hfin _ _ _ h hr⟩
    | succ fuel ih =>
      intro listed a w h hcount
      refine ⟨fun hr => hfin _ _ _ h hr, fun i hi => ?_⟩
      obtain ⟨hun, o, ho, hall⟩ := mem_ready.1 hi
      have hil : i < listed.size := by
        rw [h.size]
        exact (Array.getElem?_eq_some_iff.1 ho).1
      have hunf := getD_false_of hil hun
      have hgiven : Given ops V a0 o a w := by
        intro t ht
        refine ⟨fun hf => ?_, fun hf => ?_⟩
        · unfold fedB at hf
          rw [Array.any_eq_true] at hf
          obtain ⟨k, hk, hke⟩ := hf
          simp only [Bool.and_eq_true] at hke
          obtain ⟨hb, hw⟩ := hke
          have hl := hall o.after[k] (Array.getElem_mem hk) hb
          cases hp : ops[(o.after[k]).on]? with
          | none => rw [hp] at hw; cases hw
          | some p =>
            rw [hp] at hw
            exact h.new _ p t hp (by simpa using hw) hl
        · refine h.old t fun j p hj hd => ?_
          have hti := htidy
          unfold tidyB at hti
          rw [List.all_eq_true] at hti
          have h1 := hti i (by rw [List.mem_range]; exact (Array.getElem?_eq_some_iff.1 ho).1)
          rw [ho] at h1
          simp only [List.all_eq_true] at h1
          have h2 := h1 t ht
          rw [hf, Bool.false_or] at h2
          unfold lateB at h2
          rw [List.all_eq_true] at h2
          have h3 := h2 j (by rw [List.mem_range]; exact (Array.getElem?_eq_some_iff.1 hj).1)
          rw [hj] at h3
          simp only [hd, bne_self_eq_false, Bool.false_or, Array.any_eq_true, Bool.and_eq_true] at h3
          obtain ⟨k, hk, hb, hon⟩ := h3
          cases hlj : listed.getD j false with
          | false => rfl
          | true =>
            have := h.shut j p hj hlj p.after[k] (Array.getElem_mem hk) hb
            rw [show (p.after[k]).on = i from by simpa using hon, hunf] at this
            cases this
      have hreach : ∀ j, aheadB ops i j = true → listed.getD j false = true := fun j hj => by
        unfold aheadB at hj
        rw [List.contains_iff_mem] at hj
        refine reach_listed h.shut ops.size (edges ops i) (fun x hx => ?_) j hj
        obtain ⟨e, he, hb, rfl⟩ := edges_mem ho hx
        exact hall e he hb
      refine wpOp_mono ?_ (hstep i o ho a w _ h.inv hunf hreach h.len hgiven)
      rintro a' w' ⟨v, rfl, hI, hst, hv⟩
      have hpd : (a.put o.dst v).defers = a.defers := by unfold Act.put; split <;> rfl
      have hps : (a.put o.dst v).tmps.size = a.tmps.size := by unfold Act.put; split <;> simp
      have hpo : ∀ t : Nat, o.dst ≠ some t → (a.put o.dst v).tmps[t]? = a.tmps[t]? := by
        intro t ht
        unfold Act.put
        split
        · rename_i d hd
          exact Array.getElem?_setIfInBounds_ne (fun e => ht (by rw [hd, e]))
        · rfl
      have hpn : ∀ t : Nat, o.dst = some t → (a.put o.dst v).tmps[t]? = some v := by
        intro t ht
        have hts : t < a.tmps.size := by rw [h.len]; exact hdd i o t ho ht
        unfold Act.put
        rw [ht]
        simp [hts]
      have hset : ∀ j, (listed.setIfInBounds i true).getD j false = if j = i then true else listed.getD j false := by
        intro j
        by_cases hji : j = i
        · subst hji; simp [hil]
        · simp [hji, Array.getElem?_setIfInBounds_ne (Ne.symm hji), Array.getD_eq_getD_getElem?]
      have hdone : (fun j => (listed.setIfInBounds i true).getD j false) = doneToo (fun j => listed.getD j false) i := by
        funext j
        rw [hset]
        rfl
      refine ih _ _ _ ⟨by simpa using h.size, by rw [hdone]; exact hI, ?_, ?_, ?_, ?_, ?_⟩ ?_
      · rw [hpd]; exact h.defers
      · rw [hps]; exact h.len
      · intro t ht
        have hdt : o.dst ≠ some t := by
          intro e
          have := ht i o ho e
          rw [hset, if_pos rfl] at this
          cases this
        rw [hpo t hdt]
        refine h.old t fun j p hj hdj => ?_
        have := ht j p hj hdj
        rw [hset] at this
        split at this
        · cases this
        · exact this
      · intro j p t hj hdj hlj
        by_cases hdt : o.dst = some t
        · exact ⟨v, hpn t hdt, hv t hdt⟩
        · rw [hpo t hdt]
          rw [hset] at hlj
          split at hlj
          · rename_i hji
            subst hji
            rw [ho] at hj
            cases hj
            exact absurd hdj hdt
          · obtain ⟨u, hu, hVu⟩ := h.new j p t hj hdj hlj
            exact ⟨u, hu, hst _ _ ⟨j, p, hj, hdj, hlj⟩ hVu⟩
      · intro j p hj hlj e he hbe
        rw [hset] at hlj ⊢
        split
        · rfl
        · split at hlj
          · rename_i hji
            subst hji
            rw [ho] at hj
            cases hj
            exact hall e he hbe
          · exact h.shut j p hj hlj e he hbe
      · have : (List.range ops.size).countP (fun j => !(listed.setIfInBounds i true).getD j true) < (List.range ops.size).countP (fun j => !listed.getD j true) := by
          refine countP_lt (i := i) (fun j hj hq => ?_) (by rw [List.mem_range, ← h.size]; exact hil) (by rw [hun]; rfl) (by simp [hil])
          by_cases hji : j = i
          · subst hji; rw [hun]; rfl
          · simp only [Array.getD_eq_getD_getElem?] at hq ⊢
            rwa [Array.getElem?_setIfInBounds_ne (Ne.symm hji)] at hq
        omega
  refine key ops.size _ _ _ ⟨by simp, ?_, rfl, rfl, fun _ _ => rfl, fun i o t hi _ hl => ?_, fun i o hi hl => ?_⟩ ?_
  · have : (fun j => (Array.replicate ops.size false).getD j false) = fun _ => false := by
      funext j
      rw [Array.getD_eq_getD_getElem?, Array.getElem?_replicate]
      split <;> rfl
    rw [this]
    exact h0
  · rw [Array.getD_eq_getD_getElem?, Array.getElem?_replicate] at hl
    split at hl <;> cases hl
  · rw [Array.getD_eq_getD_getElem?, Array.getElem?_replicate] at hl
    split at hl <;> cases hl
  · exact Nat.le_trans List.countP_le_length (by simp)

/-- A store, or whatever else yields nothing. -/
theorem st_done {K : Act → World → Prop} {i : Nat} {o : Oper} {a : Act} {w : World} (ho : ops[i]? = some o) (hw : Region.wanted o (yielded ops a.tmps) = true) (w' : World)
    (hrun : (execOp a.eval o).run P w = .ok .skip w') (h : K (a.put o.dst undef) w') : wpOp P ops Q i K a w := by
  unfold wpOp
  rw [ho]
  simp only [hw, if_true]
  refine .inl ?_
  unfold Oper.wp
  rw [hrun]
  exact h

end

attribute [irreducible] aheadB

end Go.Proofs.YthbnecdeebmlhaaGreat

namespace Go.Proofs.YthbnecdeebmlhaaGreat
open Go.RowKit

section
variable {P : Program} {ops : Array Oper} {Q : Exit → Act → World → Prop}

structure HeldT (ops : Array Oper) (V : Nat → World → Value → Prop) (I : (Nat → Bool) → Act → World → Prop) (a0 : Act) (listed : Array Bool) (a : Act) (w : World) : Prop where
  size : listed.size = ops.size
  inv : I (fun j => listed.getD j false) a w
  defers : a.defers = a0.defers
  len : a.tmps.size = a0.tmps.size
  old : ∀ t : Nat, (∀ (i : Nat) (o : Oper), ops[i]? = some o → o.dst = some t → listed.getD i false = false) → a.tmps[t]? = a0.tmps[t]?
  new : ∀ (i : Nat) (o : Oper) (t : Nat), ops[i]? = some o → o.dst = some t → listed.getD i false = true → ∃ v, a.tmps[t]? = some v ∧ V t w v
  shut : ∀ (i : Nat) (o : Oper), ops[i]? = some o → listed.getD i false = true → ∀ e ∈ o.after, Region.binds .any e = true → listed.getD e.on false = true

theorem wp_region_inv3 {id : Nat} {a0 : Act} {w0 : World} (hm : P.follows .mixedOrders = true) (V : Nat → World → Value → Prop) (I : (Nat → Bool) → Act → World → Prop)
    (htidy : tidyB ops = true) (hlow : lowB ops = true) (hdst : (ops.toList.all fun o => match o.dst with | some t => decide (t < a0.tmps.size) | none => true) = true)
    (l : List Nat) (hl : dsts ops = l) (h0 : I (fun _ => false) a0 w0.drew)
    (hstep : ∀ (i : Nat) (o : Oper), ops[i]? = some o → ∀ (a : Act) (w : World) (done : Nat → Bool), I done a w → done i = false → (∀ j, aheadB ops i j = true → done j = true) → (∀ i' j, done i' = true → aheadB ops i' j = true → done j = true) → a.tmps.size = a0.tmps.size → Given ops V a0 o a w →
      wpOp P ops Q i (fun a' w' => ∃ v, a' = a.put o.dst v ∧ I (doneToo done i) a' w' ∧ (∀ t u, Wrote ops done t → V t w u → V t w' u) ∧ ∀ t, o.dst = some t → V t w' v) a w)
    (hend : ∀ (f : Nat → Value) (w : World) (done : Nat → Bool), (∀ i, i < ops.size → done i = true) → I done (putAll a0 f l) w → (∀ t, t ∈ l → V t w (f t)) → Q .normal (putAll a0 f l) w) :
    (Code.region id ops true).wp P Q a0 w0 := by
  have hdd : ∀ (i : Nat) (o : Oper) (t : Nat), ops[i]? = some o → o.dst = some t → t < a0.tmps.size := by
    intro i o t ho hod
    rw [List.all_eq_true] at hdst
    have h1 := hdst o (by obtain ⟨h, rfl⟩ := Array.getElem?_eq_some_iff.1 ho; simp)
    rw [hod] at h1
    exact of_decide_eq_true h1
  have hmem : ∀ t, t ∈ l ↔ ∃ (i : Nat) (o : Oper), ops[i]? = some o ∧ o.dst = some t := by
    intro t
    rw [← hl, dsts, List.mem_filterMap]
    constructor
    · rintro ⟨o, ho, hot⟩
      obtain ⟨i, hi, rfl⟩ := List.mem_iff_getElem.1 ho
      have hi' : i < ops.size := by simpa using hi
      exact ⟨i, ops[i], by simp [hi'], by simpa using hot⟩
    · rintro ⟨i, o, ho, hot⟩
      obtain ⟨h, rfl⟩ := Array.getElem?_eq_some_iff.1 ho
      exact ⟨ops[i], by simp, hot⟩
  refine wp_region_any hm ?_
  have hfin : ∀ (listed : Array Bool) (a : Act) (w : World), HeldT ops V I a0 listed a w → Region.ready .any ops listed = [] → Q .normal a w := by
    intro listed a w h hr
    have hall := listed_all hlow h.size hr
    have hf : ∀ t, t ∈ l → ∃ v, a.tmps[t]? = some v ∧ V t w v := fun t ht => by
      obtain ⟨i, o, ho, hot⟩ := (hmem t).1 ht
      exact h.new i o t ho hot (hall i o ho)
    have ha : a = putAll a0 (fun t => a.tmps.getD t undef) l := by
      have hdef := h.defers
      have hlen := h.len
      have hold := h.old
      obtain ⟨tm, df⟩ := a
      obtain ⟨h1, h2⟩ := putAll_size (fun t => tm.getD t undef) l a0
      have h3 : tm = (putAll a0 (fun t => tm.getD t undef) l).tmps := by
        apply Array.ext_getElem?
        intro t
        rw [putAll_tmps]
        by_cases ht : t ∈ l
        · obtain ⟨v, hv, -⟩ := hf t ht
          simp only [] at hv
          have hts : t < a0.tmps.size := by rw [← hlen]; exact (Array.getElem?_eq_some_iff.1 hv).1
          rw [if_pos ⟨ht, hts⟩, Array.getD_eq_getD_getElem?, hv]
          rfl
        · rw [if_neg (fun h => ht h.1)]
          exact hold t fun i o ho hot => absurd ((hmem t).2 ⟨i, o, ho, hot⟩) ht
      have h4 : df = (putAll a0 (fun t => tm.getD t undef) l).defers := by rw [h2]; exact hdef
      calc (⟨tm, df⟩ : Act) = ⟨(putAll a0 (fun t => tm.getD t undef) l).tmps, (putAll a0 (fun t => tm.getD t undef) l).defers⟩ := by rw [← h3, ← h4]
        _ = _ := rfl
    have hinv := h.inv
    rw [ha] at hinv ⊢
    refine hend _ w _ (fun i hi => hall i ops[i] (by simp [hi])) hinv fun t ht => ?_
    obtain ⟨v, hv, hVv⟩ := hf t ht
    rw [Array.getD_eq_getD_getElem?, hv]
    exact hVv
  have key : ∀ (fuel : Nat) (listed : Array Bool) (a : Act) (w : World), HeldT ops V I a0 listed a w →
      (List.range ops.size).countP (fun j => !listed.getD j true) ≤ fuel → wpAny P .any ops Q fuel listed a w := by
    intro fuel
    induction fuel with
    | zero =>
      intro listed a w h hcount
      have hr : Region.ready .any ops listed = [] := by
        cases hrr : Region.ready .any ops listed with
        | nil => rfl
        | cons x xs =>
          have hx : x ∈ Region.ready .any ops listed := by rw [hrr]; simp
          obtain ⟨hun, o, ho, -⟩ := mem_ready.1 hx
          have : 0 < (List.range ops.size).countP (fun j => !listed.getD j true) := List.countP_pos_iff.2 ⟨x, by rw [List.mem_range]; exact (Array.getElem?_eq_some_iff.1 ho).1, by rw [hun]; rfl⟩
          omega
      exact ⟨hr, hfin _ _ _ h hr⟩
    | succ fuel ih =>
      intro listed a w h hcount
      refine ⟨fun hr => hfin _ _ _ h hr, fun i hi => ?_⟩
      obtain ⟨hun, o, ho, hall⟩ := mem_ready.1 hi
      have hil : i < listed.size := by
        rw [h.size]
        exact (Array.getElem?_eq_some_iff.1 ho).1
      have hunf := getD_false_of hil hun
      have hgiven : Given ops V a0 o a w := by
        intro t ht
        refine ⟨fun hf => ?_, fun hf => ?_⟩
        · unfold fedB at hf
          rw [Array.any_eq_true] at hf
          obtain ⟨k, hk, hke⟩ := hf
          simp only [Bool.and_eq_true] at hke
          obtain ⟨hb, hw⟩ := hke
          have hl := hall o.after[k] (Array.getElem_mem hk) hb
          cases hp : ops[(o.after[k]).on]? with
          | none => rw [hp] at hw; cases hw
          | some p =>
            rw [hp] at hw
            exact h.new _ p t hp (by simpa using hw) hl
        · refine h.old t fun j p hj hd => ?_
          have hti := htidy
          unfold tidyB at hti
          rw [List.all_eq_true] at hti
          have h1 := hti i (by rw [List.mem_range]; exact (Array.getElem?_eq_some_iff.1 ho).1)
          rw [ho] at h1
          simp only [List.all_eq_true] at h1
          have h2 := h1 t ht
          rw [hf, Bool.false_or] at h2
          unfold lateB at h2
          rw [List.all_eq_true] at h2
          have h3 := h2 j (by rw [List.mem_range]; exact (Array.getElem?_eq_some_iff.1 hj).1)
          rw [hj] at h3
          simp only [hd, bne_self_eq_false, Bool.false_or, Array.any_eq_true, Bool.and_eq_true] at h3
          obtain ⟨k, hk, hb, hon⟩ := h3
          cases hlj : listed.getD j false with
          | false => rfl
          | true =>
            have := h.shut j p hj hlj p.after[k] (Array.getElem_mem hk) hb
            rw [show (p.after[k]).on = i from by simpa using hon, hunf] at this
            cases this
      have hreach : ∀ j, aheadB ops i j = true → listed.getD j false = true := fun j hj => by
        unfold aheadB at hj
        rw [List.contains_iff_mem] at hj
        refine reach_listed h.shut ops.size (edges ops i) (fun x hx => ?_) j hj
        obtain ⟨e, he, hb, rfl⟩ := edges_mem ho hx
        exact hall e he hb
      have hsh : ∀ i' j, listed.getD i' false = true → aheadB ops i' j = true → listed.getD j false = true := fun i' j hi' hj => by
        unfold aheadB at hj
        rw [List.contains_iff_mem] at hj
        have hlt : i' < ops.size := by
          rw [← h.size]
          rcases Nat.lt_or_ge i' listed.size with h1 | h1
          · exact h1
          · rw [Array.getD_eq_getD_getElem?, Array.getElem?_eq_none h1] at hi'
            cases hi'
        have ho' : ops[i']? = some ops[i'] := by simp [hlt]
        refine reach_listed h.shut ops.size (edges ops i') (fun x hx => ?_) j hj
        obtain ⟨e, he, hb, rfl⟩ := edges_mem ho' hx
        exact h.shut i' ops[i'] ho' hi' e he hb
      refine wpOp_mono ?_ (hstep i o ho a w _ h.inv hunf hreach hsh h.len hgiven)
      rintro a' w' ⟨v, rfl, hI, hst, hv⟩
      have hpd : (a.put o.dst v).defers = a.defers := by unfold Act.put; split <;> rfl
      have hps : (a.put o.dst v).tmps.size = a.tmps.size := by unfold Act.put; split <;> simp
      have hpo : ∀ t : Nat, o.dst ≠ some t → (a.put o.dst v).tmps[t]? = a.tmps[t]? := by
        intro t ht
        unfold Act.put
        split
        · rename_i d hd
          exact Array.getElem?_setIfInBounds_ne (fun e => ht (by rw [hd, e]))
        · rfl
      have hpn : ∀ t : Nat, o.dst = some t → (a.put o.dst v).tmps[t]? = some v := by
        intro t ht
        have hts : t < a.tmps.size := by rw [h.len]; exact hdd i o t ho ht
        unfold Act.put
        rw [ht]
        simp [hts]
      have hset : ∀ j, (listed.setIfInBounds i true).getD j false = if j = i then true else listed.getD j false := by
        intro j
        by_cases hji : j = i
        · subst hji; simp [hil]
        · simp [hji, Array.getElem?_setIfInBounds_ne (Ne.symm hji), Array.getD_eq_getD_getElem?]
      have hdone : (fun j => (listed.setIfInBounds i true).getD j false) = doneToo (fun j => listed.getD j false) i := by
        funext j
        rw [hset]
        rfl
      refine ih _ _ _ ⟨by simpa using h.size, by rw [hdone]; exact hI, ?_, ?_, ?_, ?_, ?_⟩ ?_
      · rw [hpd]; exact h.defers
      · rw [hps]; exact h.len
      · intro t ht
        have hdt : o.dst ≠ some t := by
          intro e
          have := ht i o ho e
          rw [hset, if_pos rfl] at this
          cases this
        rw [hpo t hdt]
        refine h.old t fun j p hj hdj => ?_
        have := ht j p hj hdj
        rw [hset] at this
        split at this
        · cases this
        · exact this
      · intro j p t hj hdj hlj
        by_cases hdt : o.dst = some t
        · exact ⟨v, hpn t hdt, hv t hdt⟩
        · rw [hpo t hdt]
          rw [hset] at hlj
          split at hlj
          · rename_i hji
            subst hji
            rw [ho] at hj
            cases hj
            exact absurd hdj hdt
          · obtain ⟨u, hu, hVu⟩ := h.new j p t hj hdj hlj
            exact ⟨u, hu, hst _ _ ⟨j, p, hj, hdj, hlj⟩ hVu⟩
      · intro j p hj hlj e he hbe
        rw [hset] at hlj ⊢
        split
        · rfl
        · split at hlj
          · rename_i hji
            subst hji
            rw [ho] at hj
            cases hj
            exact hall e he hbe
          · exact h.shut j p hj hlj e he hbe
      · have : (List.range ops.size).countP (fun j => !(listed.setIfInBounds i true).getD j true) < (List.range ops.size).countP (fun j => !listed.getD j true) := by
          refine countP_lt (i := i) (fun j hj hq => ?_) (by rw [List.mem_range, ← h.size]; exact hil) (by rw [hun]; rfl) (by simp [hil])
          by_cases hji : j = i
          · subst hji; rw [hun]; rfl
          · simp only [Array.getD_eq_getD_getElem?] at hq ⊢
            rwa [Array.getElem?_setIfInBounds_ne (Ne.symm hji)] at hq
        omega
  refine key ops.size _ _ _ ⟨by simp, ?_, rfl, rfl, fun _ _ => rfl, fun i o t hi _ hl => ?_, fun i o hi hl => ?_⟩ ?_
  · have : (fun j => (Array.replicate ops.size false).getD j false) = fun _ => false := by
      funext j
      rw [Array.getD_eq_getD_getElem?, Array.getElem?_replicate]
      split <;> rfl
    rw [this]
    exact h0
  · rw [Array.getD_eq_getD_getElem?, Array.getElem?_replicate] at hl
    split at hl <;> cases hl
  · rw [Array.getD_eq_getD_getElem?, Array.getElem?_replicate] at hl
    split at hl <;> cases hl
  · exact Nat.le_trans List.countP_le_length (by simp)

end

end Go.Proofs.YthbnecdeebmlhaaGreat
