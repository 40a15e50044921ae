/-
  Stage 17: slices.Sort of ints that the call made; Find.
  Mathematics of ways (of no code): the slots along which entries give way, one to the next.
  'append' to what the call itself owns, with one thing more than the library's law says: the row is the one it was, or a new one.
-/
import Derived.Test.YtkddleonmkhaiaaM15
import Derived.Test.YtkddleonmkhaiaaM16
import Derived.Sort.OwnSortedInts
import Derived.Test.YtkddleonmkhaiaaM10
import Derived.Test.YtkddleonmkhaiaaM01
namespace Go.Proofs.Ytkddleonmkhaiaa
open Go.RowKit Go.Sort Go.Shelf

theorem flatI (l : List Int) : KI.flat l = l.map (Value.int .i64) := by
  unfold Lay.flat
  induction l with
  | nil => rfl
  | cons x l ih => rw [List.flatMap_cons, ih]; rfl
theorem sortI_c (w : World) (B : Nat) (v : Value) (F : List Int) (hown : KI.O w B v F) (hl : F.length ≤ 100000) :
    Calls Try.prog 41 #[v] w fun e w' => e = .returned (.tuple #[]) ∧ ∃ G, G.Perm F ∧ G.Pairwise (· ≤ ·) ∧ KI.O w' B v G ∧ w.grownBy w' v.ownBlock := by
  have h0 := hown
  rcases hown with ⟨h1, ⟨rfl, hn⟩ | ⟨g, cap, cur, rfl, hB, h2, h3, h4, h5, h6⟩⟩
  · obtain rfl : F = [] := List.eq_nil_of_length_eq_zero hn
    have h := AnyM.slices_Sort_int_none { sortIL with } none 0 w
    change Calls Try.prog 41 _ _ _ at h
    refine h.mono ?_
    rintro e w' ⟨rfl, rfl⟩
    exact ⟨rfl, [], List.Perm.refl _, List.Pairwise.nil, h0, World.grownBy.refl _ _⟩
  · have hH : Holds (Value.int .i64) w g 0 F.toArray := fun j hj => by
      have hjl : j < F.length := by simpa using hj
      refine ⟨?_, frozen_of_row _ _ _ _ _ h2⟩
      have := Lay.O.cell h0 KI_ok j hjl 0 _ rfl
      rw [getElem!_pos F.toArray j hj]
      simpa [KI] using this
    have h := AnyM.slices_Sort_int sortIL g 0 cap F w hH (Array.getElem?_eq_some_iff.1 h2).1 (by omega)
    change Calls Try.prog 41 _ _ _ at h
    refine h.mono ?_
    rintro e w' ⟨rfl, n, os, rfl⟩
    have hp : (F.mergeSort fun x y => decide (x ≤ y)).Perm F := List.mergeSort_perm _ _
    have hs : (F.mergeSort fun x y => decide (x ≤ y)).Pairwise (· ≤ ·) := by
      have := List.pairwise_mergeSort (le := fun x y : Int => decide (x ≤ y)) (fun a b c h1 h2 => by simp at *; omega) (fun a b => by simp; omega) F
      exact this.imp fun h => by simpa using h
    generalize F.mergeSort (fun x y => decide (x ≤ y)) = G at *
    refine ⟨rfl, G, hp, hs, ?_, grownBy_sortedI _⟩
    have hlen := hp.length_eq
    have := ownsRow_sortedI (w := w) (base := B) (n := n) (e := 3) (os := os) (ss := F) (ts := G) hlen hB h2 h3 h4 (by simpa [KI] using h5)
    unfold Lay.O
    rw [flatI, hlen]
    exact this

/-! ### Whose numbers they are. -/
def qP (p : Nat × Nat) : Nat := 4 * p.1 + p.2
theorem hits_nodup (T : SlT) (t b k : Nat) : ((hitsT T t b k).map qP).Nodup := by
  unfold hitsT
  rw [List.map_map]
  unfold List.Nodup
  rw [List.pairwise_map]
  refine List.Pairwise.imp (R := fun a b : Nat => a ≠ b) (fun {a c} hac => ?_) (List.Pairwise.filter _ List.nodup_range)
  show 4 * b + a ≠ 4 * b + c
  omega
theorem places_nodup (T : SlT) (x : Nat) : ((placesT T x).map qP).Nodup := by
  show ((([] : List (Nat × Nat)) ++ hitsT T (tagN x) (bkX x 0) 4) ++ hitsT T (tagN x) (bkX x 1) 4).map qP |>.Nodup
  rw [List.nil_append, List.map_append, List.nodup_append]
  refine ⟨hits_nodup _ _ _ _, hits_nodup _ _ _ _, fun a ha b hb => ?_⟩
  obtain ⟨p, hp, rfl⟩ := List.mem_map.1 ha
  obtain ⟨q, hq, rfl⟩ := List.mem_map.1 hb
  obtain ⟨h1, h2, -⟩ := hits_mem.1 hp
  obtain ⟨h3, h4, -⟩ := hits_mem.1 hq
  have hne : othN (firstN x) (tagN x) ≠ firstN x := oth_ne _ (first_lt x)
  have e0 : bkX x 0 = firstN x := rfl
  have e1 : bkX x 1 = othN (firstN x) (tagN x) := rfl
  unfold qP
  omega
def hereT (T : SlT) (x q : Nat) : Bool := hitO (tagN x) (T q) && keyN (q / 4) (tagN x) == keyH x
theorem places_q (T : SlT) (x : Nat) : ((placesT T x).map qP).Perm ((List.range 32).filter (hereT T x)) := by
  rw [List.perm_ext_iff_of_nodup (places_nodup T x) (List.Pairwise.filter _ List.nodup_range)]
  intro q
  rw [List.mem_filter, List.mem_range]
  constructor
  · intro h
    obtain ⟨p, hp, rfl⟩ := List.mem_map.1 h
    obtain ⟨h1, h2, h3, h4⟩ := places_lt hp
    have e : qP p / 4 = p.1 := by unfold qP; omega
    refine ⟨by unfold qP; omega, ?_⟩
    unfold hereT
    have e5 : hitO (tagN x) (T (qP p)) = true := (places_mem.1 hp).2.2
    rw [e, h4, e5]
    simp
  · rintro ⟨hq, hh⟩
    unfold hereT at hh
    rw [Bool.and_eq_true, beq_iff_eq] at hh
    refine List.mem_map.2 ⟨(q / 4, q % 4), places_of (hitO_some hh.1) hq hh.2, ?_⟩
    unfold qP
    simp only []
    omega
theorem here_slots (T : SlT) (x : Nat) : (((slL T).map keyS).filter fun k => k.1 == keyH x).map Prod.snd = ((List.range 32).filter (hereT T x)).map fun q => idO (T q) := by
  unfold slL
  induction List.range 32 with
  | nil => rfl
  | cons q l ih =>
    rw [List.filterMap_cons, List.filter_cons]
    cases hT : T q with
    | none =>
      have e : hereT T x q = false := by unfold hereT; rw [hT]; rfl
      rw [e]
      simp only [Option.map_none]
      exact ih
    | some y =>
      simp only [Option.map_some, List.map_cons, List.filter_cons]
      by_cases hk : keyN (q / 4) y.1 = keyH x
      · have ht : y.1 = tagN x := by
          have := congrArg Prod.snd hk
          simpa [keyN, keyH] using this
        have e : hereT T x q = true := by unfold hereT; rw [hT, ← ht]; simp [hitO, hk]
        have e2 : (keyS (q / 4, y.1, y.2)).1 == keyH x := by rw [beq_iff_eq]; exact hk
        rw [e, if_pos e2, if_pos rfl, List.map_cons, List.map_cons, ih, hT]
        rfl
      · have e : hereT T x q = false := by
          unfold hereT
          rw [hT]
          by_cases ht : y.1 = tagN x
          · rw [← ht]; simp [hk]
          · simp [hitO, ht]
        have e2 : ¬ ((keyS (q / 4, y.1, y.2)).1 == keyH x) = true := by rw [beq_iff_eq]; exact hk
        rw [e, if_neg e2, if_neg (by simp)]
        exact ih
theorem places_perm {T : SlT} {es : List EnT} (h : Fits T es) (x : Nat) : ((placesT T x).map (idP T)).Perm ((es.filter fun e => nearN x e.1).map Prod.snd) := by
  have h1 : ((placesT T x).map (idP T)).Perm (((List.range 32).filter (hereT T x)).map fun q => idO (T q)) := by
    have := (places_q T x).map fun q => idO (T q)
    rw [List.map_map] at this
    exact this
  have h2 := (List.Perm.filter (fun k => k.1 == keyH x) h).map Prod.snd
  rw [here_slots] at h2
  refine h1.trans (h2.trans ?_)
  rw [List.filter_map, List.map_map]
  have e : ((fun k : (Nat × Nat) × Int => k.1 == keyH x) ∘ keyE) = fun e : EnT => nearN x e.1 := by
    funext e
    rw [Bool.eq_iff_iff, near_iff]
    show (keyH e.1 == keyH x) = true ↔ _
    rw [beq_iff_eq]
    exact eq_comm
  rw [e]
  exact List.Perm.refl _

theorem KI.one' (w : World) (z : Int) : KI.R (w.alloc (.cells #[.int .i64 z] 3)) (.slice (some ⟨w.heap.size, 0, none⟩) 1 1) [z] := Lay.R.one w KI_ok z 3 (0, 0)
def VFd (d g pb ps : Nat) (u : Value) (z : Int) : Nat → World → Value → Prop
  | 16, _, v => v = u
  | 17, _, v => v = .pointer (some ⟨d, 0, none⟩)
  | 18, _, v => v = .pointer (some ⟨g, 0, none⟩)
  | 19, _, v => v = .int .i64 (pb : Int)
  | 20, _, v => v = .pointer (some ⟨g, 1, none⟩)
  | 21, _, v => v = .int .i64 (ps : Int)
  | 22, _, v => v = .pointer (some ⟨d, 0, none⟩)
  | 23, _, v => v = .pointer (some ⟨d, 0, none⟩)
  | 24, _, v => v = .pointer (some ⟨d, 12 * pb, none⟩)
  | 25, _, v => v = .pointer (some ⟨d, 12 * pb + 3 * ps, none⟩)
  | 26, _, v => v = .pointer (some ⟨d, 12 * pb + 3 * ps + 2, none⟩)
  | 27, _, v => v = .int .i64 z
  | 28, w, v => KI.R w v [z]
  | _, _, _ => True

theorem VFd_below (d g pb ps : Nat) (u : Value) (z : Int) : ∀ (i : Nat) (w w' : World) (v : Value), VFd d g pb ps u z i w v → Below w.heap.size w w' → VFd d g pb ps u z i w' v := by
  intro i w w' v h hb
  unfold VFd at h ⊢
  split at h <;> first | exact h | trivial | exact Lay.R.below h hb

set_option maxHeartbeats 2000000 in
set_option maxRecDepth 100000 in
theorem cfind_w {w : World} {d : Nat} {T : SlT} (h : CK w d T) {x : Nat} (hx : x < 18446744073709551616) :
    Calls Try.prog 25 #[.pointer (some ⟨d, 0, none⟩), .int .u64 (x : Int)] w fun e w' => ∃ v F, e = .returned v ∧ KI.O w' w.heap.size v F ∧ F.Pairwise (· ≤ ·) ∧ F.Perm ((placesT T x).map (idP T)) ∧ Below w.heap.size w w' := by
  have HD := Go.Lib.hid fun W (hW : Below w.heap.size w W) => h.below hW
  have PC := Go.Lib.hid (cplaces_c h hx)
  have HPL := Go.Lib.hid fun (p : Nat × Nat) (hp : p ∈ placesT T x) => places_lt hp
  have HLN := Go.Lib.hid (show (placesT T x).length ≤ 8 from foundT_len T x 2)
  clear h hx
  generalize placesT T x = PL at *
  go_enter Try.func25, Try.ntmps25
  go_wp2_with fail
  refine PC.out.mono ?_
  rintro e w1 ⟨v, rfl, hown, hb1⟩
  obtain ⟨a, cap, rfl, hlm⟩ := hown.r.form
  have HR1 := Go.Lib.hid hown.r
  have HB1 := Go.Lib.hid hb1
  clear hown hb1 PC
  go_wp2_with fail
  go_loopw [5, 12] (fun lv jv wr => ∃ (j : Nat) (u : Value), u = lv ∧ j ≤ PL.length ∧ jv = .int .i64 (j : Int) ∧ KI.O wr w1.heap.size u ((PL.take j).map (idP T)) ∧ Below w1.heap.size w1 wr) (fun _ jv _ => PL.length - (intOf jv).toNat)
  case atStart => exact ⟨0, _, rfl, by omega, rfl, Lay.O.nil _ _, Below.refl _ _⟩
  case round =>
    obtain ⟨j, u, rfl, hj, rfl, hO, hbc⟩ := hrel
    by_cases hjl : j < PL.length
    · obtain ⟨b, o, rfl, -, hbs, c0, c1⟩ := KP.at' (HR1.out.below hbc) j hjl
      have hix := idxP b o PL.length cap j hjl wr
      obtain ⟨hp1, hp2, hp3, -⟩ := HPL.out PL[j] (List.getElem_mem hjl)
      have HTK := Go.Lib.hid (show (PL.take (j + 1)).map (idP T) = (PL.take j).map (idP T) ++ [idP T PL[j]] by rw [List.take_succ_eq_append_getElem hjl, List.map_append]; rfl)
      have HTL := Go.Lib.hid (show ((PL.take j).map (idP T)).length ≤ 8 by have := HLN.out; rw [List.length_map, List.length_take]; omega)
      have hidp : idP T PL[j] = idO (T (4 * PL[j].1 + PL[j].2)) := rfl
      generalize hpj : PL[j] = pj at *
      obtain ⟨pb, ps⟩ := pj
      simp only [] at c0 c1 hp1 hp2 hp3 hidp
      have hck := HD.out wr (HB1.out.trans (hbc.mono HB1.out.size))
      obtain ⟨d0, d1, d2⟩ := hck.at hp1 hp2
      have hd := hck.lt
      have h1 := fun W => idxB d pb hp1 W
      have h2 := fun W => idxS d (12 * pb) ps hp2 W
      rw [← hidp] at d2
      have hb2 := (Below.refl wr.heap.size wr).alloc (Nat.le_refl _) (.cells #[.int .i64 (pb : Int), .int .i64 (ps : Int)] 81)
      have HO3 := Go.Lib.hid (hO.below hb2)
      have HB3 := Go.Lib.hid (hbc.trans (hb2.mono hbc.size))
      have HD2 := Go.Lib.hid (keepC d2 hb2)
      have HG := Go.Lib.hid (heap_alloc_new wr (.cells #[.int .i64 (pb : Int), .int .i64 (ps : Int)] 81))
      clear hO hbc hck hp3 hidp hb2 hd d0 d1 d2 hpj
      generalize idP T (pb, ps) = z at *
      generalize (PL.take j).map (idP T) = F at *
      go_upto_region 5 with (fail)
      obtain ⟨g, hg⟩ : ∃ g, g = wr.heap.size := ⟨_, rfl⟩
      rw [← hg] at HG ⊢
      clear hg c0 c1 hix hbs
      generalize wr.alloc (.cells #[.int .i64 (pb : Int), .int .i64 (ps : Int)] 81) = w3 at *
      have B0 := Go.Lib.hid (show w3.cell? ⟨g, 0, none⟩ = some (.int .i64 (pb : Int)) from by rw [cell_of_row _ _ _ _ _ _ HG.out]; rfl)
      have B1 := Go.Lib.hid (show w3.cell? ⟨g, 1, none⟩ = some (.int .i64 (ps : Int)) from by rw [cell_of_row _ _ _ _ _ _ HG.out]; rfl)
      refine wp_region_head 13 (by decide) (by kernel_rfl) (VFd d g pb ps u z) (VFd_below d g pb ps u z) (by decide +kernel) (by rfl) [16, 17, 18, 19, 20, 21, 22, 23, 24, 25, 26, 27, 28] (by rfl) ?_ ?_
      · intro i o hin ho a w6 hb6 hlen hg
        have x0 := keepC B0.out hb6
        have x1 := keepC B1.out hb6
        have x2 := keepC HD2.out hb6
        match i, hin, ho with
        | 0, hin, ho =>
          obtain rfl := Option.some.inj ho
          have h5 := given_old hg 5 (by decide +kernel)
          clear hg
          exact st_yield ho (wanted_none rfl) (u) w6 (by simp [execOp, Act.eval, h5, go_sem]) ⟨_, rfl, Below.refl _ _, by rintro t' ⟨⟩; rfl⟩
        | 1, hin, ho =>
          obtain rfl := Option.some.inj ho
          have h0 := given_old hg 0 (by decide +kernel)
          clear hg
          exact st_yield ho (wanted_none rfl) (.pointer (some ⟨d, 0, none⟩)) w6 (by simp [execOp, Act.eval, h0, go_sem]) ⟨_, rfl, Below.refl _ _, by rintro t' ⟨⟩; rfl⟩
        | 2, hin, ho =>
          obtain rfl := Option.some.inj ho
          have h7 := given_old hg 7 (by decide +kernel)
          clear hg
          exact st_yield ho (wanted_none rfl) (.pointer (some ⟨g, 0, none⟩)) w6 (by simp [execOp, Act.eval, h7, go_sem]) ⟨_, rfl, Below.refl _ _, by rintro t' ⟨⟩; rfl⟩
        | 3, hin, ho =>
          obtain rfl := Option.some.inj ho
          obtain ⟨_, h18, rfl⟩ := given_fed hg 18 (by decide +kernel)
          clear hg
          exact st_yield ho (wanted_none rfl) (.int .i64 (pb : Int)) w6 (by simp [execOp, Act.eval, h18, go_sem, x0]) ⟨_, rfl, Below.refl _ _, by rintro t' ⟨⟩; rfl⟩
        | 4, hin, ho =>
          obtain rfl := Option.some.inj ho
          have h7 := given_old hg 7 (by decide +kernel)
          clear hg
          exact st_yield ho (wanted_none rfl) (.pointer (some ⟨g, 1, none⟩)) w6 (by simp [execOp, Act.eval, h7, go_sem]) ⟨_, rfl, Below.refl _ _, by rintro t' ⟨⟩; rfl⟩
        | 5, hin, ho =>
          obtain rfl := Option.some.inj ho
          obtain ⟨_, h20, rfl⟩ := given_fed hg 20 (by decide +kernel)
          clear hg
          exact st_yield ho (wanted_none rfl) (.int .i64 (ps : Int)) w6 (by simp [execOp, Act.eval, h20, go_sem, x1]) ⟨_, rfl, Below.refl _ _, by rintro t' ⟨⟩; rfl⟩
        | 6, hin, ho =>
          obtain rfl := Option.some.inj ho
          obtain ⟨_, h17, rfl⟩ := given_fed hg 17 (by decide +kernel)
          clear hg
          exact st_yield ho (wanted_none rfl) (.pointer (some ⟨d, 0, none⟩)) w6 (by simp [execOp, Act.eval, h17, go_sem]) ⟨_, rfl, Below.refl _ _, by rintro t' ⟨⟩; rfl⟩
        | 7, hin, ho =>
          obtain rfl := Option.some.inj ho
          obtain ⟨_, h22, rfl⟩ := given_fed hg 22 (by decide +kernel)
          clear hg
          exact st_yield ho (wanted_none rfl) (.pointer (some ⟨d, 0, none⟩)) w6 (by simp [execOp, Act.eval, h22, go_sem]) ⟨_, rfl, Below.refl _ _, by rintro t' ⟨⟩; rfl⟩
        | 8, hin, ho =>
          obtain rfl := Option.some.inj ho
          obtain ⟨_, h23, rfl⟩ := given_fed hg 23 (by decide +kernel)
          obtain ⟨_, h19, rfl⟩ := given_fed hg 19 (by decide +kernel)
          clear hg
          exact st_yield ho (wanted_none rfl) (.pointer (some ⟨d, 12 * pb, none⟩)) w6 (by simp [execOp, Act.eval, h23, h19, go_sem, h1]) ⟨_, rfl, Below.refl _ _, by rintro t' ⟨⟩; rfl⟩
        | 9, hin, ho =>
          obtain rfl := Option.some.inj ho
          obtain ⟨_, h24, rfl⟩ := given_fed hg 24 (by decide +kernel)
          obtain ⟨_, h21, rfl⟩ := given_fed hg 21 (by decide +kernel)
          clear hg
          exact st_yield ho (wanted_none rfl) (.pointer (some ⟨d, 12 * pb + 3 * ps, none⟩)) w6 (by simp [execOp, Act.eval, h24, h21, go_sem, h2]) ⟨_, rfl, Below.refl _ _, by rintro t' ⟨⟩; rfl⟩
        | 10, hin, ho =>
          obtain rfl := Option.some.inj ho
          obtain ⟨_, h25, rfl⟩ := given_fed hg 25 (by decide +kernel)
          clear hg
          exact st_yield ho (wanted_none rfl) (.pointer (some ⟨d, 12 * pb + 3 * ps + 2, none⟩)) w6 (by simp [execOp, Act.eval, h25, go_sem]) ⟨_, rfl, Below.refl _ _, by rintro t' ⟨⟩; rfl⟩
        | 11, hin, ho =>
          obtain rfl := Option.some.inj ho
          obtain ⟨_, h26, rfl⟩ := given_fed hg 26 (by decide +kernel)
          clear hg
          exact st_yield ho (wanted_none rfl) (.int .i64 z) w6 (by simp [execOp, Act.eval, h26, go_sem, x2]) ⟨_, rfl, Below.refl _ _, by rintro t' ⟨⟩; rfl⟩
        | 12, hin, ho =>
          obtain rfl := Option.some.inj ho
          obtain ⟨_, h27, rfl⟩ := given_fed hg 27 (by decide +kernel)
          clear hg
          exact st_yield ho (wanted_none rfl) (.slice (some ⟨w6.heap.size, 0, none⟩) 1 1) (w6.alloc (.cells #[.int .i64 z] 3)) (by simp [execOp, Act.eval, h27, go_sem]) ⟨_, rfl, (Below.refl _ _).alloc (Nat.le_refl _) _, by rintro t' ⟨⟩; exact KI.one' w6 z⟩
        | n + 13, hin, ho => omega
      · intro f w6 hb6 hv
        have h16 := hv 16 (by decide)
        have h28 := hv 28 (by decide)
        simp only [VFd] at h16 h28
        have HO6 := Go.Lib.hid (HO3.out.below hb6)
        have HB6 := Go.Lib.hid (HB3.out.trans (hb6.mono HB3.out.size))
        have HONE := Go.Lib.hid h28
        clear hv hb6 h28
        unfold putAll
        simp only [List.foldl, List.drop]
        simp only [h16]
        go_simp
        go_wp2_with (first
          | ((with_reducible show wpList _ _ _ (⟨some 29, _, _, _, _, _⟩ :: _) _ _); go_loud (refine KI_ok.append rfl (.tmp 16) (.tmp 28) rfl w1.heap.size u (f 28) F [z] rfl rfl HO6.out HONE.out (by have := HTL.out; simp; omega) HB6.out.size ?_); intro v7 w7 hown7 hg7; have HB7 := Go.Lib.hid (HB6.out.grown hg7 HB6.out.size HO6.out.row); have HO7 := Go.Lib.hid hown7; clear hown7 hg7)
          | fail)
        go_roundw
        case rel => exact ⟨j + 1, _, rfl, by omega, by go_num, by rw [HTK.out]; exact HO7.out, HB7.out⟩
        case measure => simp only [intOf]; omega
    · obtain rfl : j = PL.length := by omega
      rw [List.take_length] at hO
      have HO := Go.Lib.hid (hO.mono HB1.out.size)
      have HB := Go.Lib.hid (HB1.out.trans (hbc.mono HB1.out.size))
      have SC := Go.Lib.hid (sortI_c wr w.heap.size u (PL.map (idP T)) (hO.mono HB1.out.size) (by have := HLN.out; rw [List.length_map]; omega))
      clear hO hbc hjl
      go_wp2_with fail
      refine SC.out.mono ?_
      rintro e w2 ⟨rfl, G, hp, hs, hown, hg⟩
      have HB2 := Go.Lib.hid (HB.out.grown hg HB.out.size HO.out.row)
      clear hg
      have HOW := Go.Lib.hid hown
      have HP := Go.Lib.hid hp
      have HS := Go.Lib.hid hs
      clear hown hp hs
      go_wp2_with fail
      go_ret
      exact ⟨_, G, rfl, HOW.out, HS.out, HP.out, HB2.out⟩
theorem cfind_c {w : World} {d : Nat} {T : SlT} {es : List EnT} (h : CK w d T) (hf : Fits T es) {x : Nat} (hx : x < 18446744073709551616) (_hl : es.length ≤ 60) :
    Calls Try.prog 25 #[.pointer (some ⟨d, 0, none⟩), .int .u64 (x : Int)] w fun e w' => ∃ v F, e = .returned v ∧ KI.O w' w.heap.size v F ∧ F.Pairwise (· ≤ ·) ∧ F.Perm ((es.filter fun e => nearN x e.1).map Prod.snd) ∧ Below w.heap.size w w' := by
  refine (cfind_w h hx).mono ?_
  rintro e w' ⟨v, F, h1, h2, h3, h4, h5⟩
  exact ⟨v, F, h1, h2, h3, h4.trans (places_perm hf x), h5⟩
set_option maxRecDepth 100000 in
theorem cnil_find (x : Nat) (_hx : x < 18446744073709551616) (w : World) : Calls Try.prog 25 #[.pointer none, .int .u64 (x : Int)] w fun e w' => e = .returned (.slice none 0 0) ∧ Below w.heap.size w w' := by
  have PC := Go.Lib.hid (fun W => cplaces_nil x W)
  have SC := Go.Lib.hid (fun W => show Calls Try.prog 41 #[.slice none 0 0] W fun e w' => e = .returned (.tuple #[]) ∧ w' = W from AnyM.slices_Sort_int_none { sortIL with } none 0 W)
  have HB := Go.Lib.hid (Below.refl w.heap.size w)
  go_enter Try.func25, Try.ntmps25
  go_wp2_with fail
  refine (PC.out _).mono ?_
  rintro e w1 ⟨rfl, rfl⟩
  go_wp2_with fail
  go_loop [5, 12] (fun lv jv => lv = .slice none 0 0 ∧ jv = .int .i64 0) (fun _ _ => 0)
  case atStart => exact ⟨rfl, rfl⟩
  case round =>
    obtain ⟨rfl, rfl⟩ := hrel
    go_wp2_with fail
    refine (SC.out _).mono ?_
    rintro e w1 ⟨rfl, rfl⟩
    go_wp2_with fail
    go_ret
    exact ⟨rfl, HB.out⟩

end Go.Proofs.Ytkddleonmkhaiaa

namespace Go.Proofs.Ytkddleonmkhaiaa

/-- From bucket c on: each slot of the way is full, its entry can move to the next one's bucket, the last one's to bucket e. -/
def Chain (T : SlT) : Nat → List (Nat × Nat) → Nat → Prop
  | c, [], e => c = e
  | c, p :: P, e => p.1 = c ∧ p.2 < 4 ∧ ∃ x, T (4 * c + p.2) = some x ∧ Chain T (othN c x.1) P e
theorem Chain.snoc {T : SlT} {x : Nat × Int} {s : Nat} : ∀ {P : List (Nat × Nat)} {c e : Nat}, Chain T c P e → s < 4 → T (4 * e + s) = some x → Chain T c (P ++ [(e, s)]) (othN e x.1)
  | [], c, e, h, hs, hT => by
    have h : c = e := h
    subst h
    exact ⟨rfl, hs, x, hT, rfl⟩
  | p :: P, c, e, h, hs, hT => by
    obtain ⟨h1, h2, y, h3, h4⟩ := h
    exact ⟨h1, h2, y, h3, Chain.snoc h4 hs hT⟩

theorem chain_slot {T : SlT} : ∀ {P : List (Nat × Nat)} {c e : Nat}, Chain T c P e → ∀ p ∈ P, p.2 < 4
  | [], c, e, _, p, hp => by cases hp
  | q :: P, c, e, h, p, hp => by
    obtain ⟨h1, h2, y, h3, h4⟩ := h
    rcases List.mem_cons.1 hp with rfl | hp
    · exact h2
    · exact chain_slot h4 p hp

/-- What is held is put down at each slot, what lay there is taken up. -/
def shiftT : SlT → Option (Nat × Int) → List (Nat × Nat) → SlT × Option (Nat × Int)
  | U, x, [] => (U, x)
  | U, x, p :: P => shiftT (layT U (4 * p.1 + p.2) x) (U (4 * p.1 + p.2)) P
theorem shift_snoc (p : Nat × Nat) : ∀ (P : List (Nat × Nat)) (U : SlT) (x : Option (Nat × Int)), shiftT U x (P ++ [p]) = (layT (shiftT U x P).1 (4 * p.1 + p.2) (shiftT U x P).2, (shiftT U x P).1 (4 * p.1 + p.2))
  | [], _U, _x => rfl
  | q :: P, U, x => shift_snoc p P (layT U (4 * q.1 + q.2) x) (U (4 * q.1 + q.2))

theorem put_key (U : SlT) {q : Nat} (hq : q < 32) (x : Nat × Int) : ((keyS (q / 4, x.1, x.2) :: (slL U).map keyS).Perm (((U q).map fun y => keyS (q / 4, y.1, y.2)).toList ++ (slL (layT U q (some x))).map keyS)) := by
  obtain ⟨a, b, h1, h2⟩ := slL_split U hq
  rw [h1, h2]
  cases hU : U q with
  | none =>
    simp only [Option.map_none, Option.toList_none, List.nil_append, Option.map_some, Option.toList_some, List.map_append, List.map_cons, List.singleton_append]
    exact List.perm_middle.symm
  | some y =>
    simp only [Option.map_some, Option.toList_some, List.map_append, List.map_cons, List.singleton_append]
    refine (List.Perm.cons _ List.perm_middle).trans ((List.Perm.swap _ _ _).trans (List.Perm.cons _ List.perm_middle.symm))
theorem putT_other {U : SlT} {q k : Nat} {x : Option (Nat × Int)} (h : k ≠ q) : layT U q x k = U k := by unfold layT; rw [if_neg h]

/-- Along a way all go one further; what was held ahead lies with the others. -/
theorem shift_perm (T : SlT) {s e : Nat} (he : e < 8) (hs : s < 4) (hT : T (4 * e + s) = none) : ∀ (P : List (Nat × Nat)) (c : Nat) (U : SlT) (x : Nat × Int), Chain T c P e → (∀ p ∈ P, p.1 < 8) → (P.map Prod.fst ++ [e]).Nodup →
    (∀ b ∈ P.map Prod.fst ++ [e], ∀ k, k < 4 → U (4 * b + k) = T (4 * b + k)) → ((slL (shiftT U (some x) (P ++ [(e, s)])).1).map keyS).Perm (keyS (c, x.1, x.2) :: (slL U).map keyS)
  | [], c, U, x, h, _, _, hU => by
    have h : c = e := h
    subst h
    have hq : 4 * c + s < 32 := by omega
    have e4 : (4 * c + s) / 4 = c := by omega
    have h1 := put_key U hq x
    rw [hU c (by simp) s hs, hT, e4] at h1
    exact h1.symm
  | p :: P, c, U, x, h, h8, hn, hU => by
    obtain ⟨h1, h2, y, h3, h4⟩ := h
    subst h1
    have hp8 := h8 p (List.mem_cons_self ..)
    have hq : 4 * p.1 + p.2 < 32 := by omega
    have e4 : (4 * p.1 + p.2) / 4 = p.1 := by omega
    have hUp : U (4 * p.1 + p.2) = some y := (hU p.1 (by simp) p.2 h2).trans h3
    have hn' : p.1 ∉ P.map Prod.fst ++ [e] ∧ (P.map Prod.fst ++ [e]).Nodup := by
      have : (p.1 :: (P.map Prod.fst ++ [e])).Nodup := hn
      exact List.nodup_cons.1 this
    have ih := shift_perm T he hs hT P (othN p.1 y.1) (layT U (4 * p.1 + p.2) (some x)) y h4 (fun q hq => h8 q (List.mem_cons_of_mem _ hq)) hn'.2 (fun b hb k hk => by
      rw [putT_other (by
        intro hc
        have : b = p.1 := by omega
        exact hn'.1 (this ▸ hb))]
      exact hU b (List.mem_cons_of_mem _ hb) k hk)
    have h5 := put_key U hq x
    rw [hUp, e4] at h5
    simp only [Option.map_some, Option.toList_some, List.singleton_append] at h5
    have hk : keyS (othN p.1 y.1, y.1, y.2) = keyS (p.1, y.1, y.2) := by unfold keyS; simp only []; rw [keyN_oth _ hp8]
    rw [hk] at ih
    show ((slL (shiftT (layT U (4 * p.1 + p.2) (some x)) (U (4 * p.1 + p.2)) (P ++ [(e, s)])).1).map keyS).Perm _
    rw [hUp]
    exact ih.trans h5.symm
theorem shift_fits {T : SlT} {es : List EnT} (h : Fits T es) {s e c : Nat} (he : e < 8) (hs : s < 4) (hT : T (4 * e + s) = none) {P : List (Nat × Nat)} (hc : Chain T c P e) (h8 : ∀ p ∈ P, p.1 < 8) (hn : (P.map Prod.fst ++ [e]).Nodup) {x : Nat} {i : Int} (hk : keyN c (tagN x) = keyH x) :
    Fits (shiftT T (some (tagN x, i)) (P ++ [(e, s)])).1 (es ++ [(x, i)]) := by
  have h1 := shift_perm T he hs hT P c T (tagN x, i) hc h8 hn (fun _ _ _ _ => rfl)
  unfold Fits at *
  refine h1.trans ?_
  have e1 : keyS (c, tagN x, i) = keyE (x, i) := by unfold keyS keyE; simp only []; rw [hk]
  rw [show ((tagN x, i) : Nat × Int).1 = tagN x from rfl, show ((tagN x, i) : Nat × Int).2 = i from rfl, e1, List.map_append]
  exact (List.Perm.cons _ h).trans (List.perm_append_singleton _ _).symm

/-! ### Sets of buckets, as a number. -/
theorem mask_all : ∀ b0 b1 b2 b3 b4 b5 b6 b7 : Bool, ∃ S : Fin 256, bitN S.val 0 = b0.toNat ∧ bitN S.val 1 = b1.toNat ∧ bitN S.val 2 = b2.toNat ∧ bitN S.val 3 = b3.toNat ∧ bitN S.val 4 = b4.toNat ∧ bitN S.val 5 = b5.toNat ∧ bitN S.val 6 = b6.toNat ∧ bitN S.val 7 = b7.toNat := by
  intro b0 b1 b2 b3 b4 b5 b6 b7
  refine ⟨⟨b0.toNat + 2 * b1.toNat + 4 * b2.toNat + 8 * b3.toNat + 16 * b4.toNat + 32 * b5.toNat + 64 * b6.toNat + 128 * b7.toNat, ?_⟩, ?_⟩
  · cases b0 <;> cases b1 <;> cases b2 <;> cases b3 <;> cases b4 <;> cases b5 <;> cases b6 <;> cases b7 <;> decide
  · revert b0 b1 b2 b3 b4 b5 b6 b7
    decide +kernel
theorem mask_of (f : Nat → Bool) : ∃ S, S < 256 ∧ ∀ b, b < 8 → bitN S b = (f b).toNat := by
  obtain ⟨S, h0, h1, h2, h3, h4, h5, h6, h7⟩ := mask_all (f 0) (f 1) (f 2) (f 3) (f 4) (f 5) (f 6) (f 7)
  refine ⟨S.val, S.isLt, fun b hb => ?_⟩
  rcases (by omega : b = 0 ∨ b = 1 ∨ b = 2 ∨ b = 3 ∨ b = 4 ∨ b = 5 ∨ b = 6 ∨ b = 7) with rfl | rfl | rfl | rfl | rfl | rfl | rfl | rfl <;> assumption

/-! ### The buckets that are reached. -/
/-- A bucket and the way to it. -/
abbrev ReT := Nat × List (Nat × Nat)
def bks (L : List ReT) : List Nat := L.map Prod.fst
structure LineOk (T : SlT) (a b : Nat) (L : List ReT) : Prop where
  nodup : (bks L).Nodup
  lt : ∀ x ∈ L, x.1 < 8
  hasA : a ∈ bks L
  hasB : b ∈ bks L
  way : ∀ x ∈ L, ∃ c, (c = a ∨ c = b) ∧ Chain T c x.2 x.1 ∧ (x.2.map Prod.fst ++ [x.1]).Nodup ∧ ∀ p ∈ x.2, p.1 ∈ bks L
theorem LineOk.lt' {T : SlT} {a b : Nat} {L : List ReT} (h : LineOk T a b L) {c : Nat} (hc : c ∈ bks L) : c < 8 := by
  obtain ⟨x, hx, rfl⟩ := List.mem_map.1 hc
  exact h.lt x hx
theorem LineOk.start {T : SlT} {a b : Nat} (ha : a < 8) (hb : b < 8) (hab : a ≠ b) : LineOk T a b [(a, []), (b, [])] := by
  refine ⟨?_, ?_, by simp [bks], by simp [bks], ?_⟩
  · simp [bks, hab]
  · intro x hx
    simp only [List.mem_cons, List.not_mem_nil, or_false] at hx
    rcases hx with rfl | rfl
    · exact ha
    · exact hb
  · intro x hx
    simp only [List.mem_cons, List.not_mem_nil, or_false] at hx
    rcases hx with rfl | rfl
    · exact ⟨a, .inl rfl, rfl, by simp, by simp⟩
    · exact ⟨b, .inr rfl, rfl, by simp, by simp⟩
theorem nodup_le8 {l : List Nat} (hn : l.Nodup) (h8 : ∀ x ∈ l, x < 8) : l.length ≤ 8 := by
  have hp : l.Perm ((List.range 8).filter fun x => decide (x ∈ l)) := by
    rw [List.perm_ext_iff_of_nodup hn (List.Pairwise.filter _ List.nodup_range)]
    intro x
    rw [List.mem_filter, List.mem_range, decide_eq_true_eq]
    exact ⟨fun h => ⟨h8 x h, h⟩, fun h => h.2⟩
  rw [hp.length_eq]
  have := List.length_filter_le (fun x => decide (x ∈ l)) (List.range 8)
  rw [List.length_range] at this
  exact this
theorem LineOk.len {T : SlT} {a b : Nat} {L : List ReT} (h : LineOk T a b L) : L.length ≤ 8 := by
  have := nodup_le8 h.nodup (fun c hc => h.lt' hc)
  rw [bks, List.length_map] at this
  exact this
/-- One more bucket, reached by way of slot s of bucket i. -/
theorem LineOk.more {T : SlT} {a b : Nat} {L : List ReT} (h : LineOk T a b L) {i s : Nat} (hi : i < L.length) (hs : s < 4) {x : Nat × Int} (hT : T (4 * L[i].1 + s) = some x) (hnew : othN L[i].1 x.1 ∉ bks L) :
    LineOk T a b (L ++ [(othN L[i].1 x.1, L[i].2 ++ [(L[i].1, s)])]) := by
  have hm := List.getElem_mem hi
  have h8 := h.lt _ hm
  obtain ⟨c, hc, hch, hnd, hin⟩ := h.way _ hm
  have hb : ∀ L' : List ReT, ∀ c, c ∈ bks L → c ∈ bks (L ++ L') := fun L' c hc => by unfold bks at *; rw [List.map_append]; exact List.mem_append_left _ hc
  have hib : L[i].1 ∈ bks L := List.mem_map.2 ⟨_, hm, rfl⟩
  refine ⟨?_, ?_, hb _ _ h.hasA, hb _ _ h.hasB, ?_⟩
  · unfold bks at *
    rw [List.map_append, List.nodup_append]
    exact ⟨h.nodup, by simp, fun u hu v hv => by
      simp only [List.map_cons, List.map_nil, List.mem_singleton] at hv
      subst hv
      intro e
      exact hnew (e ▸ hu)⟩
  · intro y hy
    rcases List.mem_append.1 hy with hy | hy
    · exact h.lt y hy
    · rw [List.mem_singleton.1 hy]
      exact oth_lt _ h8
  · intro y hy
    rcases List.mem_append.1 hy with hy | hy
    · obtain ⟨c', h1, h2, h3, h4⟩ := h.way y hy
      exact ⟨c', h1, h2, h3, fun p hp => hb _ _ (h4 p hp)⟩
    · rw [List.mem_singleton.1 hy]
      refine ⟨c, hc, hch.snoc hs hT, ?_, fun p hp => ?_⟩
      · simp only [List.map_append, List.map_cons, List.map_nil]
        rw [List.nodup_append]
        refine ⟨hnd, by simp, fun u hu v hv => ?_⟩
        rw [List.mem_singleton.1 hv]
        intro e
        apply hnew
        rw [← e]
        rcases List.mem_append.1 hu with hu | hu
        · obtain ⟨p, hp, rfl⟩ := List.mem_map.1 hu
          exact hin p hp
        · rw [List.mem_singleton.1 hu]; exact hib
      · simp only [] at hp
        rcases List.mem_append.1 hp with hp | hp
        · exact hb _ _ (hin p hp)
        · rw [List.mem_singleton.1 hp]; exact hb _ _ hib
/-- What was looked at ahead of slot s of bucket i is full, and can move only to buckets that are reached. -/
def DoneT (T : SlT) (L : List ReT) (i s : Nat) : Prop := ∀ j, j ≤ i → ∀ (hj : j < L.length), ∀ k, k < 4 → (j < i ∨ k < s) → ∃ x, T (4 * L[j].1 + k) = some x ∧ othN L[j].1 x.1 ∈ bks L
theorem DoneT.zero (T : SlT) (L : List ReT) : DoneT T L 0 0 := fun j hj _ k _ h => by omega
theorem DoneT.next {T : SlT} {L : List ReT} {i : Nat} (h : DoneT T L i 4) : DoneT T L (i + 1) 0 := fun j hj hjl k hk hh => h j (by omega) hjl k hk (by omega)
theorem DoneT.step {T : SlT} {L : List ReT} {i s : Nat} (h : DoneT T L i s) (hi : i < L.length) {x : Nat × Int} (hT : T (4 * L[i].1 + s) = some x) (hin : othN L[i].1 x.1 ∈ bks L) : DoneT T L i (s + 1) := fun j hj hjl k hk hh => by
  by_cases hc : j < i ∨ k < s
  · exact h j hj hjl k hk hc
  · have h1 : j = i := by omega
    have h2 : k = s := by omega
    subst h1 h2
    exact ⟨x, hT, hin⟩
theorem DoneT.grow {T : SlT} {L : List ReT} {i s : Nat} (h : DoneT T L i s) (hi : i < L.length) (y : ReT) : DoneT T (L ++ [y]) i s := fun j hj hjl k hk hh => by
  have hjl' : j < L.length := by omega
  obtain ⟨x, h1, h2⟩ := h j hj hjl' k hk hh
  have e : (L ++ [y])[j] = L[j] := List.getElem_append_left hjl'
  refine ⟨x, by rw [e]; exact h1, ?_⟩
  rw [e]
  unfold bks at *
  rw [List.map_append]
  exact List.mem_append_left _ h2
/-- All looked at, no slot empty: one more finds no room. -/
theorem stuck {T : SlT} {es : List EnT} (hf : Fits T es) {x : Nat} {L : List ReT} (h : LineOk T (firstN x) (othN (firstN x) (tagN x)) L) (hd : DoneT T L L.length 0) : roomB (es.map Prod.fst ++ [x]) = false := by
  obtain ⟨S, hS, hbit⟩ := mask_of fun b => decide (b ∈ bks L)
  have hin : ∀ c, c ∈ bks L → bitN S c = 1 := fun c hc => by rw [hbit c (h.lt' hc), decide_eq_true hc]; rfl
  refine no_room hf hS ?_ ?_
  · unfold inS
    rw [hin _ h.hasA, hin _ h.hasB]
    rfl
  · intro q hq hb
    have hq8 : q / 4 < 8 := by omega
    rw [hbit _ hq8] at hb
    have hm : q / 4 ∈ bks L := by
      by_cases hc : q / 4 ∈ bks L
      · exact hc
      · rw [decide_eq_false hc] at hb; cases hb
    obtain ⟨y, hy, hye⟩ := List.mem_map.1 hm
    obtain ⟨j, hj, rfl⟩ := List.mem_iff_getElem.1 hy
    obtain ⟨z, h1, h2⟩ := hd j (Nat.le_of_lt hj) hj (q % 4) (Nat.mod_lt _ (by omega)) (.inl hj)
    rw [hye] at h1 h2
    rw [show 4 * (q / 4) + q % 4 = q by omega] at h1
    exact ⟨z, h1, hin _ h2⟩

end Go.Proofs.Ytkddleonmkhaiaa

namespace Go.Proofs.Ytkddleonmkhaiaa
open Go.RowKit

section
variable {P : Program} (w : World)

theorem run_append_where (base : Nat) (t ty e : TypeId) (i : TypeInfo) (z : Value) (size bytes : Nat) (ht : P.underlying t = some (.slice e)) (hi : P.info? e = some i) (hz : i.zero = some z)
    (hsize : i.size = size) (hby : i.bytes = bytes) (hzs : z.cells.size = size) (hsz : 0 < size)
    (v : Value) (n : Nat) (xs : List Value) (hown : w.ownsRow base e size v n xs)
    (a : Addr) (m c : Nat) (news : List Value) (hl : news.length = m * size) (hnews : ∀ j u, news[j]? = some u → w.cell? (a.add j) = some u) (h1 : ∀ u ∈ news, u.oneCell' = true)
    (h63 : n + m ≤ maxLen) (hbytes : (n + m) * bytes ≤ 140737488355328) (hbase : base ≤ w.heap.size) :
    ∃ v' w', (Builtin.append_ #[t, t] ty #[v, .slice (some a) m c]).run P w = .ok v' w' ∧ w'.ownsRow base e size v' (n + m) (xs ++ news) ∧ w.grownBy w' v.ownBlock ∧
      (v'.ownBlock = v.ownBlock ∨ ∀ k, v'.ownBlock = some k → w.heap.size ≤ k) := by
  obtain ⟨v', w', hr, h2, h3, -⟩ := run_append_own (P := P) w base t ty e i z size bytes ht hi hz hsize hby hzs hsz v n xs hown a m c news hl hnews h1 h63 hbytes hbase
  refine ⟨v', w', hr, h2, h3, ?_⟩
  rcases hown.2 with ⟨rfl, rfl⟩ | ⟨g, cap, cur, rfl, hbg, hg, hnc, hcm, hcs, htake⟩
  · right
    obtain ⟨v2, w2, hr2, k2, -, -⟩ := run_append_own (P := P) w w.heap.size t ty e i z size bytes ht hi hz hsize hby hzs hsz (.slice none 0 0) 0 xs ⟨hown.1, .inl ⟨rfl, rfl⟩⟩ a m c news hl hnews h1 h63 hbytes (Nat.le_refl _)
    rw [hr] at hr2
    cases hr2
    exact fun k hk => (World.ownsRow.lt k2 k hk).1
  · by_cases hroom : n + m ≤ cap
    · left
      obtain ⟨w2, hr2, -, -⟩ := run_append_fits (P := P) w base t ty e i size ht hi hsize g n cap xs hown a m c news hl hnews h1 hroom
      rw [hr] at hr2
      cases hr2
      rfl
    · right
      have hsmall : n + m ≤ 9223372036854775807 := by simp only [maxLen] at h63; omega
      have holds : ∀ j u, xs[j]? = some u → w.cell? ((⟨g, 0, none⟩ : Addr).add j) = some u := hown.cells (g := g) rfl
      subst hsize hby
      have hr2 := run_append_grow (P := P) w t ty e i z ht hi hz ⟨g, 0, none⟩ n cap xs hown.1 holds a m c news hl hnews (by omega) (by omega) (growslice_fits (by omega) hbytes)
      rw [hr] at hr2
      cases hr2
      intro k hk
      simp only [Value.ownBlock, Option.some.injEq] at hk
      omega

theorem wpList_append_where {ops : Array Oper} {rest : List Oper} {o : Oper} {a : Act} {Q : Exit → Act → World → Prop} (hgd : o.guard = none) (s x : Operand) (t : TypeId)
    (ho : o.op = .call { callee := .builtin .append, args := #[s, x], argTypes := #[t, t] })
    (base : Nat) (e : TypeId) (ht : P.underlying t = some (.slice e)) (z : Value) (size bytes : Nat) (hinfo : (P.info? e).map (fun i => (i.zero, i.size, i.bytes)) = some (some z, size, bytes)) (hzs : z.cells.size = size) (hsz : 0 < size)
    (v : Value) (n : Nat) (xs : List Value) (hs : a.eval s = v) (hown : w.ownsRow base e size v n xs)
    (ad : Addr) (m c : Nat) (news : List Value) (hx : a.eval x = .slice (some ad) m c) (hl : news.length = m * size) (hnews : ∀ j u, news[j]? = some u → w.cell? (ad.add j) = some u) (h1 : ∀ u ∈ news, u.oneCell' = true)
    (h63 : n + m ≤ maxLen) (hbytes : (n + m) * bytes ≤ 140737488355328) (hbase : base ≤ w.heap.size)
    (h : ∀ v' w', w'.ownsRow base e size v' (n + m) (xs ++ news) → w.grownBy w' v.ownBlock → (v'.ownBlock = v.ownBlock ∨ ∀ k, v'.ownBlock = some k → w.heap.size ≤ k) → wpList P ops Q rest (a.put o.dst v') w') : wpList P ops Q (o :: rest) a w := by
  obtain ⟨i, hi, hz, hsize, hby⟩ := info_parts hinfo
  obtain ⟨v', w', hr, h2, h3, h4⟩ := run_append_where (P := P) w base t o.type e i z size bytes ht hi hz hsize hby hzs hsz v n xs hown ad m c news hl hnews h1 h63 hbytes hbase
  refine wpList_gives hgd v' w' ?_ (h v' w' h2 h3 h4)
  unfold execOp
  simp only [ho, resolve, invoke, builtin, Sem.run_bind, Sem.run_pure, Result.andThen_ok, List.map_toArray, List.map_cons, List.map_nil, hs, hx, hr]

/-- One byte more. -/
theorem wpList_append_byte {ops : Array Oper} {rest : List Oper} {o : Oper} {a : Act} {Q : Exit → Act → World → Prop} (hgd : o.guard = none) (s x : Operand) (t : TypeId)
    (ho : o.op = .call { callee := .builtin .append, args := #[s, x], argTypes := #[t, t] })
    (B : Nat) (e : TypeId) (ht : P.underlying t = some (.slice e)) (hinfo : (P.info? e).map (fun i => (i.zero, i.size, i.bytes)) = some (some (.int .u8 0), 1, 1))
    (v : Value) (l : List UInt8) (g cap : Nat) (y : UInt8) (hs : a.eval s = v) (hx : a.eval x = .slice (some ⟨g, 0, none⟩) 1 cap) (hown : Own e w B v l) (hy : w.cell? ⟨g, 0, none⟩ = some (.int .u8 (y.toNat : Int)))
    (hlen : l.length < 140737488355328) (hbase : B ≤ w.heap.size)
    (h : ∀ v' w', Own e w' B v' (l ++ [y]) → w.grownBy w' v.ownBlock → (v'.ownBlock = v.ownBlock ∨ ∀ k, v'.ownBlock = some k → w.heap.size ≤ k) → wpList P ops Q rest (a.put o.dst v') w') : wpList P ops Q (o :: rest) a w := by
  refine wpList_append_where w hgd s x t ho B e ht (.int .u8 0) 1 1 hinfo rfl (by decide) v l.length (cells l) hs hown ⟨g, 0, none⟩ 1 cap [.int .u8 (y.toNat : Int)] hx rfl ?_ ?_ (by unfold maxLen; omega) (by omega) hbase ?_
  · intro j u hj
    match j, hj with
    | 0, hj => rw [show (⟨g, 0, none⟩ : Addr).add 0 = ⟨g, 0, none⟩ from rfl, hy]; exact hj
    | j + 1, hj => simp at hj
  · intro u hu
    simp only [List.mem_cons, List.not_mem_nil, or_false] at hu
    subst hu
    rfl
  · intro v' w' h2 h3 h4
    refine h v' w' ?_ h3 h4
    unfold Own
    rw [List.length_append, cells_append]
    exact h2
end

end Go.Proofs.Ytkddleonmkhaiaa
