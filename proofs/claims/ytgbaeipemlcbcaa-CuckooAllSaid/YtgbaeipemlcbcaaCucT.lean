/-
  Stage 17: slices.Sort of ints that the call made; Find.
-/
import Derived.Test.YtgbaeipemlcbcaaCucS
import Derived.Test.YtgbaeipemlcbcaaSortI
import Derived.Test.YtgbaeipemlcbcaaHead
import Derived.Sort.OwnSortedInts
namespace Go.Proofs.Ytgbaeipemlcbcaa
open Go.RowKit Go.Sort Go.Shelf

theorem flatI (l : List Int) : KI.flat l = l.map (Value.int .i64) := by
  unfold Lay.flat
  induction l with
  | nil => rfl
  | cons x l ih => rw [List.flatMap_cons, ih]; rfl
theorem sortI_c (w : World) (B : Nat) (v : Value) (F : List Int) (hown : KI.O w B v F) (hl : F.length ≤ 100000) :
    Calls Try.prog 27 #[v] w fun e w' => e = .returned (.tuple #[]) ∧ ∃ G, G.Perm F ∧ G.Pairwise (· ≤ ·) ∧ KI.O w' B v G ∧ w.grownBy w' v.ownBlock := by
  have h0 := hown
  rcases hown with ⟨h1, ⟨rfl, hn⟩ | ⟨g, cap, cur, rfl, hB, h2, h3, h4, h5, h6⟩⟩
  · obtain rfl : F = [] := List.eq_nil_of_length_eq_zero hn
    have h := AnyM.slices_Sort_int_none { sortIL with } none 0 w
    change Calls Try.prog 27 _ _ _ at h
    refine h.mono ?_
    rintro e w' ⟨rfl, rfl⟩
    exact ⟨rfl, [], List.Perm.refl _, List.Pairwise.nil, h0, World.grownBy.refl _ _⟩
  · have hH : Holds (Value.int .i64) w g 0 F.toArray := fun j hj => by
      have hjl : j < F.length := by simpa using hj
      refine ⟨?_, frozen_of_row _ _ _ _ _ h2⟩
      have := Lay.O.cell h0 KI_ok j hjl 0 _ rfl
      rw [getElem!_pos F.toArray j hj]
      simpa [KI] using this
    have h := AnyM.slices_Sort_int sortIL g 0 cap F w hH (Array.getElem?_eq_some_iff.1 h2).1 (by omega)
    change Calls Try.prog 27 _ _ _ at h
    refine h.mono ?_
    rintro e w' ⟨rfl, n, os, rfl⟩
    have hp : (F.mergeSort fun x y => decide (x ≤ y)).Perm F := List.mergeSort_perm _ _
    have hs : (F.mergeSort fun x y => decide (x ≤ y)).Pairwise (· ≤ ·) := by
      have := List.pairwise_mergeSort (le := fun x y : Int => decide (x ≤ y)) (fun a b c h1 h2 => by simp at *; omega) (fun a b => by simp; omega) F
      exact this.imp fun h => by simpa using h
    generalize F.mergeSort (fun x y => decide (x ≤ y)) = G at *
    refine ⟨rfl, G, hp, hs, ?_, grownBy_sortedI _⟩
    have hlen := hp.length_eq
    have := ownsRow_sortedI (w := w) (base := B) (n := n) (e := 3) (os := os) (ss := F) (ts := G) hlen hB h2 h3 h4 (by simpa [KI] using h5)
    unfold Lay.O
    rw [flatI, hlen]
    exact this

/-! ### Whose numbers they are. -/
def qP (p : Nat × Nat) : Nat := 4 * p.1 + p.2
theorem hits_nodup (T : SlT) (t b k : Nat) : ((hitsT T t b k).map qP).Nodup := by
  unfold hitsT
  rw [List.map_map]
  unfold List.Nodup
  rw [List.pairwise_map]
  refine List.Pairwise.imp (R := fun a b : Nat => a ≠ b) (fun {a c} hac => ?_) (List.Pairwise.filter _ List.nodup_range)
  show 4 * b + a ≠ 4 * b + c
  omega
theorem places_nodup (T : SlT) (x : Nat) : ((placesT T x).map qP).Nodup := by
  show ((([] : List (Nat × Nat)) ++ hitsT T (tagN x) (bkX x 0) 4) ++ hitsT T (tagN x) (bkX x 1) 4).map qP |>.Nodup
  rw [List.nil_append, List.map_append, List.nodup_append]
  refine ⟨hits_nodup _ _ _ _, hits_nodup _ _ _ _, fun a ha b hb => ?_⟩
  obtain ⟨p, hp, rfl⟩ := List.mem_map.1 ha
  obtain ⟨q, hq, rfl⟩ := List.mem_map.1 hb
  obtain ⟨h1, h2, -⟩ := hits_mem.1 hp
  obtain ⟨h3, h4, -⟩ := hits_mem.1 hq
  have hne : othN (firstN x) (tagN x) ≠ firstN x := oth_ne _ (first_lt x)
  have e0 : bkX x 0 = firstN x := rfl
  have e1 : bkX x 1 = othN (firstN x) (tagN x) := rfl
  unfold qP
  omega
def hereT (T : SlT) (x q : Nat) : Bool := hitO (tagN x) (T q) && keyN (q / 4) (tagN x) == keyH x
theorem places_q (T : SlT) (x : Nat) : ((placesT T x).map qP).Perm ((List.range 32).filter (hereT T x)) := by
  rw [List.perm_ext_iff_of_nodup (places_nodup T x) (List.Pairwise.filter _ List.nodup_range)]
  intro q
  rw [List.mem_filter, List.mem_range]
  constructor
  · intro h
    obtain ⟨p, hp, rfl⟩ := List.mem_map.1 h
    obtain ⟨h1, h2, h3, h4⟩ := places_lt hp
    have e : qP p / 4 = p.1 := by unfold qP; omega
    refine ⟨by unfold qP; omega, ?_⟩
    unfold hereT
    have e5 : hitO (tagN x) (T (qP p)) = true := (places_mem.1 hp).2.2
    rw [e, h4, e5]
    simp
  · rintro ⟨hq, hh⟩
    unfold hereT at hh
    rw [Bool.and_eq_true, beq_iff_eq] at hh
    refine List.mem_map.2 ⟨(q / 4, q % 4), places_of (hitO_some hh.1) hq hh.2, ?_⟩
    unfold qP
    simp only []
    omega
theorem here_slots (T : SlT) (x : Nat) : (((slL T).map keyS).filter fun k => k.1 == keyH x).map Prod.snd = ((List.range 32).filter (hereT T x)).map fun q => idO (T q) := by
  unfold slL
  induction List.range 32 with
  | nil => rfl
  | cons q l ih =>
    rw [List.filterMap_cons, List.filter_cons]
    cases hT : T q with
    | none =>
      have e : hereT T x q = false := by unfold hereT; rw [hT]; rfl
      rw [e]
      simp only [Option.map_none]
      exact ih
    | some y =>
      simp only [Option.map_some, List.map_cons, List.filter_cons]
      by_cases hk : keyN (q / 4) y.1 = keyH x
      · have ht : y.1 = tagN x := by
          have := congrArg Prod.snd hk
          simpa [keyN, keyH] using this
        have e : hereT T x q = true := by unfold hereT; rw [hT, ← ht]; simp [hitO, hk]
        have e2 : (keyS (q / 4, y.1, y.2)).1 == keyH x := by rw [beq_iff_eq]; exact hk
        rw [e, if_pos e2, if_pos rfl, List.map_cons, List.map_cons, ih, hT]
        rfl
      · have e : hereT T x q = false := by
          unfold hereT
          rw [hT]
          by_cases ht : y.1 = tagN x
          · rw [← ht]; simp [hk]
          · simp [hitO, ht]
        have e2 : ¬ ((keyS (q / 4, y.1, y.2)).1 == keyH x) = true := by rw [beq_iff_eq]; exact hk
        rw [e, if_neg e2, if_neg (by simp)]
        exact ih
theorem places_perm {T : SlT} {es : List EnT} (h : Fits T es) (x : Nat) : ((placesT T x).map (idP T)).Perm ((es.filter fun e => nearN x e.1).map Prod.snd) := by
  have h1 : ((placesT T x).map (idP T)).Perm (((List.range 32).filter (hereT T x)).map fun q => idO (T q)) := by
    have := (places_q T x).map fun q => idO (T q)
    rw [List.map_map] at this
    exact this
  have h2 := (List.Perm.filter (fun k => k.1 == keyH x) h).map Prod.snd
  rw [here_slots] at h2
  refine h1.trans (h2.trans ?_)
  rw [List.filter_map, List.map_map]
  have e : ((fun k : (Nat × Nat) × Int => k.1 == keyH x) ∘ keyE) = fun e : EnT => nearN x e.1 := by
    funext e
    rw [Bool.eq_iff_iff, near_iff]
    show (keyH e.1 == keyH x) = true ↔ _
    rw [beq_iff_eq]
    exact eq_comm
  rw [e]
  exact List.Perm.refl _

theorem KI.one' (w : World) (z : Int) : KI.R (w.alloc (.cells #[.int .i64 z] 3)) (.slice (some ⟨w.heap.size, 0, none⟩) 1 1) [z] := Lay.R.one w KI_ok z 3 (0, 0)
def VFd (d g pb ps : Nat) (u : Value) (z : Int) : Nat → World → Value → Prop
  | 16, _, v => v = u
  | 17, _, v => v = .pointer (some ⟨d, 0, none⟩)
  | 18, _, v => v = .pointer (some ⟨g, 0, none⟩)
  | 19, _, v => v = .int .i64 (pb : Int)
  | 20, _, v => v = .pointer (some ⟨g, 1, none⟩)
  | 21, _, v => v = .int .i64 (ps : Int)
  | 22, _, v => v = .pointer (some ⟨d, 0, none⟩)
  | 23, _, v => v = .pointer (some ⟨d, 0, none⟩)
  | 24, _, v => v = .pointer (some ⟨d, 12 * pb, none⟩)
  | 25, _, v => v = .pointer (some ⟨d, 12 * pb + 3 * ps, none⟩)
  | 26, _, v => v = .pointer (some ⟨d, 12 * pb + 3 * ps + 2, none⟩)
  | 27, _, v => v = .int .i64 z
  | 28, w, v => KI.R w v [z]
  | _, _, _ => True

theorem VFd_below (d g pb ps : Nat) (u : Value) (z : Int) : ∀ (i : Nat) (w w' : World) (v : Value), VFd d g pb ps u z i w v → Below w.heap.size w w' → VFd d g pb ps u z i w' v := by
  intro i w w' v h hb
  unfold VFd at h ⊢
  split at h <;> first | exact h | trivial | exact Lay.R.below h hb

set_option maxHeartbeats 2000000 in
set_option maxRecDepth 100000 in
theorem cfind_w {w : World} {d : Nat} {T : SlT} (h : CK w d T) {x : Nat} (hx : x < 18446744073709551616) :
    Calls Try.prog 14 #[.pointer (some ⟨d, 0, none⟩), .int .u64 (x : Int)] w fun e w' => ∃ v F, e = .returned v ∧ KI.O w' w.heap.size v F ∧ F.Pairwise (· ≤ ·) ∧ F.Perm ((placesT T x).map (idP T)) ∧ Below w.heap.size w w' := by
  have HD := Go.Lib.hid fun W (hW : Below w.heap.size w W) => h.below hW
  have PC := Go.Lib.hid (cplaces_c h hx)
  have HPL := Go.Lib.hid fun (p : Nat × Nat) (hp : p ∈ placesT T x) => places_lt hp
  have HLN := Go.Lib.hid (show (placesT T x).length ≤ 8 from foundT_len T x 2)
  clear h hx
  generalize placesT T x = PL at *
  go_enter Try.func14, Try.ntmps14
  go_wp2_with fail
  refine PC.out.mono ?_
  rintro e w1 ⟨v, rfl, hown, hb1⟩
  obtain ⟨a, cap, rfl, hlm⟩ := hown.r.form
  have HR1 := Go.Lib.hid hown.r
  have HB1 := Go.Lib.hid hb1
  clear hown hb1 PC
  go_wp2_with fail
  go_loopw [5, 12] (fun lv jv wr => ∃ (j : Nat) (u : Value), u = lv ∧ j ≤ PL.length ∧ jv = .int .i64 (j : Int) ∧ KI.O wr w1.heap.size u ((PL.take j).map (idP T)) ∧ Below w1.heap.size w1 wr) (fun _ jv _ => PL.length - (intOf jv).toNat)
  case atStart => exact ⟨0, _, rfl, by omega, rfl, Lay.O.nil _ _, Below.refl _ _⟩
  case round =>
    obtain ⟨j, u, rfl, hj, rfl, hO, hbc⟩ := hrel
    by_cases hjl : j < PL.length
    · obtain ⟨b, o, rfl, -, hbs, c0, c1⟩ := KP.at' (HR1.out.below hbc) j hjl
      have hix := idxP b o PL.length cap j hjl wr
      obtain ⟨hp1, hp2, hp3, -⟩ := HPL.out PL[j] (List.getElem_mem hjl)
      have HTK := Go.Lib.hid (show (PL.take (j + 1)).map (idP T) = (PL.take j).map (idP T) ++ [idP T PL[j]] by rw [List.take_succ_eq_append_getElem hjl, List.map_append]; rfl)
      have HTL := Go.Lib.hid (show ((PL.take j).map (idP T)).length ≤ 8 by have := HLN.out; rw [List.length_map, List.length_take]; omega)
      have hidp : idP T PL[j] = idO (T (4 * PL[j].1 + PL[j].2)) := rfl
      generalize hpj : PL[j] = pj at *
      obtain ⟨pb, ps⟩ := pj
      simp only [] at c0 c1 hp1 hp2 hp3 hidp
      have hck := HD.out wr (HB1.out.trans (hbc.mono HB1.out.size))
      obtain ⟨d0, d1, d2⟩ := hck.at hp1 hp2
      have hd := hck.lt
      have h1 := fun W => idxB d pb hp1 W
      have h2 := fun W => idxS d (12 * pb) ps hp2 W
      rw [← hidp] at d2
      have hb2 := (Below.refl wr.heap.size wr).alloc (Nat.le_refl _) (.cells #[.int .i64 (pb : Int), .int .i64 (ps : Int)] 63)
      have HO3 := Go.Lib.hid (hO.below hb2)
      have HB3 := Go.Lib.hid (hbc.trans (hb2.mono hbc.size))
      have HD2 := Go.Lib.hid (keepC d2 hb2)
      have HG := Go.Lib.hid (heap_alloc_new wr (.cells #[.int .i64 (pb : Int), .int .i64 (ps : Int)] 63))
      clear hO hbc hck hp3 hidp hb2 hd d0 d1 d2 hpj
      generalize idP T (pb, ps) = z at *
      generalize (PL.take j).map (idP T) = F at *
      go_upto_region 5 with (fail)
      obtain ⟨g, hg⟩ : ∃ g, g = wr.heap.size := ⟨_, rfl⟩
      rw [← hg] at HG ⊢
      clear hg c0 c1 hix hbs
      generalize wr.alloc (.cells #[.int .i64 (pb : Int), .int .i64 (ps : Int)] 63) = w3 at *
      have B0 := Go.Lib.hid (show w3.cell? ⟨g, 0, none⟩ = some (.int .i64 (pb : Int)) from by rw [cell_of_row _ _ _ _ _ _ HG.out]; rfl)
      have B1 := Go.Lib.hid (show w3.cell? ⟨g, 1, none⟩ = some (.int .i64 (ps : Int)) from by rw [cell_of_row _ _ _ _ _ _ HG.out]; rfl)
      refine wp_region_head 13 (by decide) (by kernel_rfl) (VFd d g pb ps u z) (VFd_below d g pb ps u z) (by decide +kernel) (by rfl) [16, 17, 18, 19, 20, 21, 22, 23, 24, 25, 26, 27, 28] (by rfl) ?_ ?_
      · intro i o hin ho a w6 hb6 hlen hg
        have x0 := keepC B0.out hb6
        have x1 := keepC B1.out hb6
        have x2 := keepC HD2.out hb6
        match i, hin, ho with
        | 0, hin, ho =>
          obtain rfl := Option.some.inj ho
          have h5 := given_old hg 5 (by decide +kernel)
          clear hg
          exact st_yield ho (wanted_none rfl) (u) w6 (by simp [execOp, Act.eval, h5, go_sem]) ⟨_, rfl, Below.refl _ _, by rintro t' ⟨⟩; rfl⟩
        | 1, hin, ho =>
          obtain rfl := Option.some.inj ho
          have h0 := given_old hg 0 (by decide +kernel)
          clear hg
          exact st_yield ho (wanted_none rfl) (.pointer (some ⟨d, 0, none⟩)) w6 (by simp [execOp, Act.eval, h0, go_sem]) ⟨_, rfl, Below.refl _ _, by rintro t' ⟨⟩; rfl⟩
        | 2, hin, ho =>
          obtain rfl := Option.some.inj ho
          have h7 := given_old hg 7 (by decide +kernel)
          clear hg
          exact st_yield ho (wanted_none rfl) (.pointer (some ⟨g, 0, none⟩)) w6 (by simp [execOp, Act.eval, h7, go_sem]) ⟨_, rfl, Below.refl _ _, by rintro t' ⟨⟩; rfl⟩
        | 3, hin, ho =>
          obtain rfl := Option.some.inj ho
          obtain ⟨_, h18, rfl⟩ := given_fed hg 18 (by decide +kernel)
          clear hg
          exact st_yield ho (wanted_none rfl) (.int .i64 (pb : Int)) w6 (by simp [execOp, Act.eval, h18, go_sem, x0]) ⟨_, rfl, Below.refl _ _, by rintro t' ⟨⟩; rfl⟩
        | 4, hin, ho =>
          obtain rfl := Option.some.inj ho
          have h7 := given_old hg 7 (by decide +kernel)
          clear hg
          exact st_yield ho (wanted_none rfl) (.pointer (some ⟨g, 1, none⟩)) w6 (by simp [execOp, Act.eval, h7, go_sem]) ⟨_, rfl, Below.refl _ _, by rintro t' ⟨⟩; rfl⟩
        | 5, hin, ho =>
          obtain rfl := Option.some.inj ho
          obtain ⟨_, h20, rfl⟩ := given_fed hg 20 (by decide +kernel)
          clear hg
          exact st_yield ho (wanted_none rfl) (.int .i64 (ps : Int)) w6 (by simp [execOp, Act.eval, h20, go_sem, x1]) ⟨_, rfl, Below.refl _ _, by rintro t' ⟨⟩; rfl⟩
        | 6, hin, ho =>
          obtain rfl := Option.some.inj ho
          obtain ⟨_, h17, rfl⟩ := given_fed hg 17 (by decide +kernel)
          clear hg
          exact st_yield ho (wanted_none rfl) (.pointer (some ⟨d, 0, none⟩)) w6 (by simp [execOp, Act.eval, h17, go_sem]) ⟨_, rfl, Below.refl _ _, by rintro t' ⟨⟩; rfl⟩
        | 7, hin, ho =>
          obtain rfl := Option.some.inj ho
          obtain ⟨_, h22, rfl⟩ := given_fed hg 22 (by decide +kernel)
          clear hg
          exact st_yield ho (wanted_none rfl) (.pointer (some ⟨d, 0, none⟩)) w6 (by simp [execOp, Act.eval, h22, go_sem]) ⟨_, rfl, Below.refl _ _, by rintro t' ⟨⟩; rfl⟩
        | 8, hin, ho =>
          obtain rfl := Option.some.inj ho
          obtain ⟨_, h23, rfl⟩ := given_fed hg 23 (by decide +kernel)
          obtain ⟨_, h19, rfl⟩ := given_fed hg 19 (by decide +kernel)
          clear hg
          exact st_yield ho (wanted_none rfl) (.pointer (some ⟨d, 12 * pb, none⟩)) w6 (by simp [execOp, Act.eval, h23, h19, go_sem, h1]) ⟨_, rfl, Below.refl _ _, by rintro t' ⟨⟩; rfl⟩
        | 9, hin, ho =>
          obtain rfl := Option.some.inj ho
          obtain ⟨_, h24, rfl⟩ := given_fed hg 24 (by decide +kernel)
          obtain ⟨_, h21, rfl⟩ := given_fed hg 21 (by decide +kernel)
          clear hg
          exact st_yield ho (wanted_none rfl) (.pointer (some ⟨d, 12 * pb + 3 * ps, none⟩)) w6 (by simp [execOp, Act.eval, h24, h21, go_sem, h2]) ⟨_, rfl, Below.refl _ _, by rintro t' ⟨⟩; rfl⟩
        | 10, hin, ho =>
          obtain rfl := Option.some.inj ho
          obtain ⟨_, h25, rfl⟩ := given_fed hg 25 (by decide +kernel)
          clear hg
          exact st_yield ho (wanted_none rfl) (.pointer (some ⟨d, 12 * pb + 3 * ps + 2, none⟩)) w6 (by simp [execOp, Act.eval, h25, go_sem]) ⟨_, rfl, Below.refl _ _, by rintro t' ⟨⟩; rfl⟩
        | 11, hin, ho =>
          obtain rfl := Option.some.inj ho
          obtain ⟨_, h26, rfl⟩ := given_fed hg 26 (by decide +kernel)
          clear hg
          exact st_yield ho (wanted_none rfl) (.int .i64 z) w6 (by simp [execOp, Act.eval, h26, go_sem, x2]) ⟨_, rfl, Below.refl _ _, by rintro t' ⟨⟩; rfl⟩
        | 12, hin, ho =>
          obtain rfl := Option.some.inj ho
          obtain ⟨_, h27, rfl⟩ := given_fed hg 27 (by decide +kernel)
          clear hg
          exact st_yield ho (wanted_none rfl) (.slice (some ⟨w6.heap.size, 0, none⟩) 1 1) (w6.alloc (.cells #[.int .i64 z] 3)) (by simp [execOp, Act.eval, h27, go_sem]) ⟨_, rfl, (Below.refl _ _).alloc (Nat.le_refl _) _, by rintro t' ⟨⟩; exact KI.one' w6 z⟩
        | n + 13, hin, ho => omega
      · intro f w6 hb6 hv
        have h16 := hv 16 (by decide)
        have h28 := hv 28 (by decide)
        simp only [VFd] at h16 h28
        have HO6 := Go.Lib.hid (HO3.out.below hb6)
        have HB6 := Go.Lib.hid (HB3.out.trans (hb6.mono HB3.out.size))
        have HONE := Go.Lib.hid h28
        clear hv hb6 h28
        unfold putAll
        simp only [List.foldl, List.drop]
        simp only [h16]
        go_simp
        go_wp2_with (first
          | ((with_reducible show wpList _ _ _ (⟨some 29, _, _, _, _, _⟩ :: _) _ _); go_loud (refine KI_ok.append rfl (.tmp 16) (.tmp 28) rfl w1.heap.size u (f 28) F [z] rfl rfl HO6.out HONE.out (by have := HTL.out; simp; omega) HB6.out.size ?_); intro v7 w7 hown7 hg7; have HB7 := Go.Lib.hid (HB6.out.grown hg7 HB6.out.size HO6.out.row); have HO7 := Go.Lib.hid hown7; clear hown7 hg7)
          | fail)
        go_roundw
        case rel => exact ⟨j + 1, _, rfl, by omega, by go_num, by rw [HTK.out]; exact HO7.out, HB7.out⟩
        case measure => simp only [intOf]; omega
    · obtain rfl : j = PL.length := by omega
      rw [List.take_length] at hO
      have HO := Go.Lib.hid (hO.mono HB1.out.size)
      have HB := Go.Lib.hid (HB1.out.trans (hbc.mono HB1.out.size))
      have SC := Go.Lib.hid (sortI_c wr w.heap.size u (PL.map (idP T)) (hO.mono HB1.out.size) (by have := HLN.out; rw [List.length_map]; omega))
      clear hO hbc hjl
      go_wp2_with fail
      refine SC.out.mono ?_
      rintro e w2 ⟨rfl, G, hp, hs, hown, hg⟩
      have HB2 := Go.Lib.hid (HB.out.grown hg HB.out.size HO.out.row)
      clear hg
      have HOW := Go.Lib.hid hown
      have HP := Go.Lib.hid hp
      have HS := Go.Lib.hid hs
      clear hown hp hs
      go_wp2_with fail
      go_ret
      exact ⟨_, G, rfl, HOW.out, HS.out, HP.out, HB2.out⟩
theorem cfind_c {w : World} {d : Nat} {T : SlT} {es : List EnT} (h : CK w d T) (hf : Fits T es) {x : Nat} (hx : x < 18446744073709551616) (_hl : es.length ≤ 60) :
    Calls Try.prog 14 #[.pointer (some ⟨d, 0, none⟩), .int .u64 (x : Int)] w fun e w' => ∃ v F, e = .returned v ∧ KI.O w' w.heap.size v F ∧ F.Pairwise (· ≤ ·) ∧ F.Perm ((es.filter fun e => nearN x e.1).map Prod.snd) ∧ Below w.heap.size w w' := by
  refine (cfind_w h hx).mono ?_
  rintro e w' ⟨v, F, h1, h2, h3, h4, h5⟩
  exact ⟨v, F, h1, h2, h3, h4.trans (places_perm hf x), h5⟩
set_option maxRecDepth 100000 in
theorem cnil_find (x : Nat) (_hx : x < 18446744073709551616) (w : World) : Calls Try.prog 14 #[.pointer none, .int .u64 (x : Int)] w fun e w' => e = .returned (.slice none 0 0) ∧ Below w.heap.size w w' := by
  have PC := Go.Lib.hid (fun W => cplaces_nil x W)
  have SC := Go.Lib.hid (fun W => show Calls Try.prog 27 #[.slice none 0 0] W fun e w' => e = .returned (.tuple #[]) ∧ w' = W from AnyM.slices_Sort_int_none { sortIL with } none 0 W)
  have HB := Go.Lib.hid (Below.refl w.heap.size w)
  go_enter Try.func14, Try.ntmps14
  go_wp2_with fail
  refine (PC.out _).mono ?_
  rintro e w1 ⟨rfl, rfl⟩
  go_wp2_with fail
  go_loop [5, 12] (fun lv jv => lv = .slice none 0 0 ∧ jv = .int .i64 0) (fun _ _ => 0)
  case atStart => exact ⟨rfl, rfl⟩
  case round =>
    obtain ⟨rfl, rfl⟩ := hrel
    go_wp2_with fail
    refine (SC.out _).mono ?_
    rintro e w1 ⟨rfl, rfl⟩
    go_wp2_with fail
    go_ret
    exact ⟨rfl, HB.out⟩

end Go.Proofs.Ytgbaeipemlcbcaa
