/-
  Stage 18: Get, Slot, Reads, List.
  Stage 18: room for few; the law's begun.
  The reference's Find.
-/
import Derived.Test.YtkddleonmkhaiaaGreatM22
import Derived.Test.YtkddleonmkhaiaaGreatM26
import Derived.Test.YtkddleonmkhaiaaGreatM29
import Derived.Test.YtkddleonmkhaiaaGreatM27
import Derived.Test.YtkddleonmkhaiaaGreatM30
import Derived.Test.YtkddleonmkhaiaaGreatM12
import Derived.Test.YtkddleonmkhaiaaGreatM24
import Derived.Test.YtkddleonmkhaiaaGreatM21
import Derived.LoopTactic
namespace Go.Proofs.YtkddleonmkhaiaaGreat
open Go.RowKit

theorem ret_lget_at {w w0 : World} {tmps : Array Value} {key : ByteArray} {gone : Bool} {k n : Int} {s : ByteArray} {g : Nat} {fr : Nat × Nat} {b : Bool} {v : Value}
    (hp : tmps.getD 4 undef = .pointer (some ⟨g, 0, none⟩)) (hg : w.heap[g]? = some (.cells #[.string key, .bool gone, .int .i64 k, .int .i64 n, .string s] 33 fr)) (h3 : tmps.getD 5 undef = .bool b)
    (hr : v = .tuple #[.agg #[.string key, .bool gone, .int .i64 k, .int .i64 n, .string s], .bool b]) (hb : Below w0.heap.size w0 w) : bodyPost Tryz.prog Tryz.f14 (fun e w' => e = .returned v ∧ Below w0.heap.size w0 w') Exit.ret { tmps := tmps, defers := [] } w := by
  subst hr
  have h := results_row_one (P := Tryz.prog) (fn := Tryz.f14) (p := 4) (u := 5) (ty := 33) rfl tmps w g 33 #[.string key, .bool gone, .int .i64 k, .int .i64 n, .string s] fr _ hp hg Tryz.underlying33 rfl (by kernel_rfl)
  rw [h3] at h
  exact bodyPost_ret h rfl ⟨rfl, hb⟩
theorem ret_lslot_at {w w0 : World} {tmps : Array Value} {key : ByteArray} {gone : Bool} {k n : Int} {s : ByteArray} {g : Nat} {fr : Nat × Nat} {b : Bool} {v : Value}
    (hp : tmps.getD 6 undef = .pointer (some ⟨g, 0, none⟩)) (hg : w.heap[g]? = some (.cells #[.string key, .bool gone, .int .i64 k, .int .i64 n, .string s] 33 fr)) (h3 : tmps.getD 7 undef = .bool b)
    (hr : v = .tuple #[.agg #[.string key, .bool gone, .int .i64 k, .int .i64 n, .string s], .bool b]) (hb : Below w0.heap.size w0 w) : bodyPost Tryz.prog Tryz.f38 (fun e w' => e = .returned v ∧ Below w0.heap.size w0 w') Exit.ret { tmps := tmps, defers := [] } w := by
  subst hr
  have h := results_row_one (P := Tryz.prog) (fn := Tryz.f38) (p := 6) (u := 7) (ty := 33) rfl tmps w g 33 #[.string key, .bool gone, .int .i64 k, .int .i64 n, .string s] fr _ hp hg Tryz.underlying33 rfl (by kernel_rfl)
  rw [h3] at h
  exact bodyPost_ret h rfl ⟨rfl, hb⟩

set_option maxRecDepth 100000 in
theorem lnil_get (key : ByteArray) (w : World) : Calls Tryz.prog 14 #[.pointer none, .string key] w fun e w' => e = .returned (outR none) ∧ Below w.heap.size w w' := by
  go_enter Tryz.func14, Tryz.ntmps14
  go_wp2_with fail
  exact ret_lget_at rfl (heap_alloc_new w _) rfl rfl (below_one w _)
set_option maxRecDepth 100000 in
theorem lnil_slot (b s : Int) (w : World) : Calls Tryz.prog 38 #[.pointer none, .int .i64 b, .int .i64 s] w fun e w' => e = .returned (outR none) ∧ Below w.heap.size w w' := by
  go_enter Tryz.func38, Tryz.ntmps38
  go_wp2_with fail
  exact ret_lslot_at rfl (heap_alloc_new w _) rfl rfl (below_one w _)
set_option maxRecDepth 100000 in
theorem lnil_reads (key : ByteArray) (w : World) : Calls Tryz.prog 17 #[.pointer none, .string key] w fun e w' => e = .returned (.int .i64 0) ∧ Below w.heap.size w w' := by
  go_enter Tryz.func17, Tryz.ntmps17
  go_wp2_with fail
  go_ret
  exact ⟨rfl, Below.refl _ _⟩
set_option maxRecDepth 100000 in
theorem lnil_list (w : World) : Calls Tryz.prog 20 #[.pointer none] w fun e w' => e = .returned (.slice none 0 0) ∧ Below w.heap.size w w' := by
  go_enter Tryz.func20, Tryz.ntmps20
  go_wp2_with fail
  go_ret
  exact ⟨rfl, Below.refl _ _⟩

set_option maxRecDepth 100000 in
theorem llist_c {w : World} {B p d : Nat} {v : Value} {L : List RecT} (h : LG w B p d v L) : Calls Tryz.prog 20 #[.pointer (some ⟨p, 0, none⟩)] w fun e w' => ∃ v', e = .returned v' ∧ OwnRec w' w.heap.size v' (newestR L) ∧ Below w.heap.size w w' := by
  have hl := h.len
  have C := Go.Lib.hid (pnewest_c v L w h.own.rs (by omega) fun x hx => by have := mayT_short (h.may x hx); omega)
  obtain ⟨x0, x1⟩ := h.cells
  obtain ⟨a, cap, rfl, -⟩ := h.own.rs.form
  clear h hl
  go_enter Tryz.func20, Tryz.ntmps20
  go_wp2_with fail
  refine C.out.mono ?_
  rintro e w1 ⟨v', rfl, hown, hb⟩
  have HO := Go.Lib.hid hown
  have HB := Go.Lib.hid hb
  clear hown hb C
  go_wp2_with fail
  go_ret
  exact ⟨_, rfl, HO.out, HB.out⟩

set_option maxHeartbeats 1000000 in
set_option maxRecDepth 100000 in
theorem lget_c {w : World} {B p d : Nat} {v : Value} {L : List RecT} (h : LG w B p d v L) (key : ByteArray) (hk : key.size ≤ 1000000) :
    Calls Tryz.prog 14 #[.pointer (some ⟨p, 0, none⟩), .string key] w fun e w' => e = .returned (outR (findK keyR L key.toList)) ∧ Below w.heap.size w w' := by
  have hb1 := below_one w (.cells #[.string ⟨#[]⟩, .bool false, .int .i64 0, .int .i64 0, .string ⟨#[]⟩] 33)
  have hA := heap_alloc_new w (.cells #[.string ⟨#[]⟩, .bool false, .int .i64 0, .int .i64 0, .string ⟨#[]⟩] 33)
  have CF := Go.Lib.hid (lfind_c (h.below hb1) key hk)
  have H := Go.Lib.hid h
  clear h hk
  go_enter Tryz.func14, Tryz.ntmps14
  go_wp2_with fail
  refine CF.out.mono ?_
  rintro e w1 ⟨hor, hc⟩
  have hA := row_kept hA hc
  have hbb := hb1.trans (hc.mono hb1.size)
  have HA := Go.Lib.hid hA
  have HB := Go.Lib.hid hbb
  have H1 := Go.Lib.hid (H.out.below hbb)
  clear hA hbb hc hb1 CF
  rcases hor with ⟨i, hi, hik, rfl⟩ | ⟨hno, rfl⟩
  · have HE := Go.Lib.hid (show findK keyR L key.toList = some L[i] from (find_iff H.out.keys _ _).2 ⟨List.getElem_mem hi, keyR_eq.2 hik⟩)
    obtain ⟨x0, x1⟩ := H1.out.cells
    obtain ⟨g, cap, rfl, hglt⟩ := own_form H1.out.own (by intro e; rw [e] at hi; simp at hi)
    obtain ⟨b, o, hbo, -, -, c0, c1, c2, c3, c4⟩ := H1.out.own.rs.at i hi
    cases hbo
    have hix := run_idx5 g 0 L.length cap i hi
    simp only [Nat.zero_add] at hix c0 c1 c2 c3 c4
    have hsz := H1.out.sizes hi
    generalize L[i] = x at *
    obtain ⟨kx, gx, ax, nx, sx⟩ := x
    simp only [] at c0 c1 c2 c3 c4 hsz
    have CR := Go.Lib.hid fun W => frec_c kx gx ax nx sx W (by omega) (by omega)
    unfold recV at CR
    clear hsz hik
    go_wp2_with fail
    refine (CR.out _).mono ?_
    rintro e w2 ⟨rfl, hc⟩
    have HA2 := Go.Lib.hid (row_kept HA.out hc)
    have HB2 := Go.Lib.hid (HB.out.trans (hc.mono HB.out.size))
    clear hc c0 c1 c2 c3 c4 hix x0 x1 CR HA
    go_wp2_with (first
      | (with_reducible show wpList _ _ _ (⟨none, Op.store 33 (.tmp 4) (.tmp 23), _, _, _, _⟩ :: _) _ _; go_loud (refine wpList_store_row rfl 33 (.tmp 4) (.tmp 23) rfl w.heap.size #[.string kx, .bool gx, .int .i64 ax, .int .i64 nx, .string sx] rfl rfl 33 _ HA2.out (by kernel_rfl) rfl (rec_cells_one ..) ?_))
      | fail)
    refine ret_lget_at rfl (setRow_heap _ _ _ _ _ (0, 0) HA2.out) rfl ?_ (setRow_below _ HB2.out (Nat.le_refl _))
    rw [HE.out]
    rfl
  · have HE := Go.Lib.hid (show findK keyR L key.toList = none from (find_none _).2 fun x hx e => hno x hx (keyR_eq.1 e))
    clear hno
    go_wp2_with (first
      | (with_reducible show wpList _ _ _ (⟨none, Op.store 33 (.tmp 4) (.tmp 15), _, _, _, _⟩ :: _) _ _; go_loud (refine wpList_store_row rfl 33 (.tmp 4) (.tmp 15) rfl w.heap.size #[.string ⟨#[]⟩, .bool false, .int .i64 0, .int .i64 0, .string ⟨#[]⟩] rfl rfl 33 _ HA.out (by kernel_rfl) rfl (rec_cells_one ..) ?_))
      | fail)
    refine ret_lget_at rfl (setRow_heap _ _ _ _ _ (0, 0) HA.out) rfl ?_ (setRow_below _ HB.out (Nat.le_refl _))
    rw [HE.out]
    rfl

/-- The record of a slot. -/
def slotO (T : SlT) (L : List RecT) (q : Nat) : Option RecT := (T q).map fun y => L.getD y.2.toNat nullR
theorem slot_some {T : SlT} {L : List RecT} (hf : Fits T (esL L)) {q t : Nat} {z : Int} (hq : q < 32) (hT : T q = some (t, z)) : ∃ i, ∃ h : i < L.length, z = (i : Int) ∧ slotO T L q = some L[i] ∧ keyN (q / 4) t = keyH (hR L[i]) := by
  obtain ⟨k, hk, he⟩ := hf.entry hq hT
  have hk2 : k < L.length := by rw [esL_len] at hk; exact hk
  rw [esL_at hk2] at he
  unfold keyE at he
  simp only [Prod.mk.injEq] at he
  refine ⟨k, hk2, he.2.symm, ?_, he.1.symm⟩
  unfold slotO
  rw [hT]
  simp only [Option.map_some, Option.some.injEq, ← he.2, Int.toNat_natCast]
  rw [List.getD_eq_getElem?_getD, List.getElem?_eq_getElem hk2]
  rfl

set_option maxHeartbeats 1000000 in
set_option maxRecDepth 100000 in
theorem lslot_c {w : World} {B p d : Nat} {v : Value} {L : List RecT} (h : LG w B p d v L) {T : SlT} (hc : CK w d T) (hf : Fits T (esL L)) {b s : Nat} (hb : b < 8) (hs : s < 4) :
    Calls Tryz.prog 38 #[.pointer (some ⟨p, 0, none⟩), .int .i64 (b : Int), .int .i64 (s : Int)] w fun e w' => e = .returned (outR (slotO T L (4 * b + s))) ∧ Below w.heap.size w w' := by
  have hb1 := below_one w (.cells #[.string ⟨#[]⟩, .bool false, .int .i64 0, .int .i64 0, .string ⟨#[]⟩] 33)
  have hA := heap_alloc_new w (.cells #[.string ⟨#[]⟩, .bool false, .int .i64 0, .int .i64 0, .string ⟨#[]⟩] 33)
  have H0 := h.below hb1
  obtain ⟨x0, x1⟩ := H0.cells
  obtain ⟨av, cap, rfl, hlm⟩ := h.own.rs.form
  have H := Go.Lib.hid h
  cases hT : T (4 * b + s) with
  | none =>
    have C := Go.Lib.hid (cat_none (hc.below hb1) hb hs hT)
    have HE := Go.Lib.hid (show slotO T L (4 * b + s) = none from by unfold slotO; rw [hT]; rfl)
    clear hT hf hc H0 h
    go_enter Tryz.func38, Tryz.ntmps38
    go_wp2_with fail
    refine C.out.mono ?_
    rintro e w1 ⟨rfl, hc⟩
    have HA := Go.Lib.hid (row_kept hA hc)
    have HB := Go.Lib.hid (hb1.trans (hc.mono hb1.size))
    clear hA hc hb1 C x0 x1
    go_wp2_with (first
      | (with_reducible show wpList _ _ _ (⟨none, Op.store 33 (.tmp 6) (.tmp 27), _, _, _, _⟩ :: _) _ _; go_loud (refine wpList_store_row rfl 33 (.tmp 6) (.tmp 27) rfl w.heap.size #[.string ⟨#[]⟩, .bool false, .int .i64 0, .int .i64 0, .string ⟨#[]⟩] rfl rfl 33 _ HA.out (by kernel_rfl) rfl (rec_cells_one ..) ?_))
      | fail)
    refine ret_lslot_at rfl (setRow_heap _ _ _ _ _ (0, 0) HA.out) rfl ?_ (setRow_below _ HB.out (Nat.le_refl _))
    rw [HE.out]
    rfl
  | some y =>
    obtain ⟨t, z⟩ := y
    have C := Go.Lib.hid (cat_some (hc.below hb1) hb hs hT)
    obtain ⟨i, hi, rfl, hsl, -⟩ := slot_some hf (by omega) hT
    have HE := Go.Lib.hid hsl
    clear hT hf hc H0 h hsl
    go_enter Tryz.func38, Tryz.ntmps38
    go_wp2_with fail
    refine C.out.mono ?_
    rintro e w1 ⟨rfl, hc⟩
    have HA := Go.Lib.hid (row_kept hA hc)
    have HB := Go.Lib.hid (hb1.trans (hc.mono hb1.size))
    have H1 := Go.Lib.hid (H.out.below HB.out)
    clear hA hc hb1 C x0 x1
    obtain ⟨x0, x1⟩ := H1.out.cells
    obtain ⟨b2, o2, rfl, -, -, c0, c1, c2, c3, c4⟩ := H1.out.own.rs.at i hi
    have hix := run_idx5 b2 o2 L.length cap i hi
    have hsz := H1.out.sizes hi
    generalize L[i] = x at *
    obtain ⟨kx, gx, ax, nx, sx⟩ := x
    simp only [] at c0 c1 c2 c3 c4 hsz
    have CR := Go.Lib.hid fun W => frec_c kx gx ax nx sx W (by omega) (by omega)
    unfold recV at CR
    clear hsz
    go_wp2_with fail
    refine (CR.out _).mono ?_
    rintro e w2 ⟨rfl, hc⟩
    have HA2 := Go.Lib.hid (row_kept HA.out hc)
    have HB2 := Go.Lib.hid (HB.out.trans (hc.mono HB.out.size))
    clear hc c0 c1 c2 c3 c4 hix x0 x1 CR HA
    go_wp2_with (first
      | (with_reducible show wpList _ _ _ (⟨none, Op.store 33 (.tmp 6) (.tmp 35), _, _, _, _⟩ :: _) _ _; go_loud (refine wpList_store_row rfl 33 (.tmp 6) (.tmp 35) rfl w.heap.size #[.string kx, .bool gx, .int .i64 ax, .int .i64 nx, .string sx] rfl rfl 33 _ HA2.out (by kernel_rfl) rfl (rec_cells_one ..) ?_))
      | fail)
    refine ret_lslot_at rfl (setRow_heap _ _ _ _ _ (0, 0) HA2.out) rfl ?_ (setRow_below _ HB2.out (Nat.le_refl _))
    rw [HE.out]
    rfl

set_option maxHeartbeats 1000000 in
set_option maxRecDepth 100000 in
theorem lslot_out {w : World} {B p d : Nat} {v : Value} {L : List RecT} (h : LG w B p d v L) {b s : Int} (hb : b < 0 ∨ 8 ≤ b ∨ s < 0 ∨ 4 ≤ s) :
    Calls Tryz.prog 38 #[.pointer (some ⟨p, 0, none⟩), .int .i64 b, .int .i64 s] w fun e w' => e = .returned (outR none) ∧ Below w.heap.size w w' := by
  have hb1 := below_one w (.cells #[.string ⟨#[]⟩, .bool false, .int .i64 0, .int .i64 0, .string ⟨#[]⟩] 33)
  have hA := heap_alloc_new w (.cells #[.string ⟨#[]⟩, .bool false, .int .i64 0, .int .i64 0, .string ⟨#[]⟩] 33)
  have H0 := h.below hb1
  obtain ⟨x0, x1⟩ := H0.cells
  have C := Go.Lib.hid (cat_bad (some ⟨d, 0, none⟩) b s (w.alloc (.cells #[.string ⟨#[]⟩, .bool false, .int .i64 0, .int .i64 0, .string ⟨#[]⟩] 33)) (.inr hb))
  clear H0 h hb
  go_enter Tryz.func38, Tryz.ntmps38
  go_wp2_with fail
  refine C.out.mono ?_
  rintro e w1 ⟨rfl, hc⟩
  have HA := Go.Lib.hid (row_kept hA hc)
  have HB := Go.Lib.hid (hb1.trans (hc.mono hb1.size))
  clear hA hc hb1 C x0 x1
  go_wp2_with (first
    | (with_reducible show wpList _ _ _ (⟨none, Op.store 33 (.tmp 6) (.tmp 27), _, _, _, _⟩ :: _) _ _; go_loud (refine wpList_store_row rfl 33 (.tmp 6) (.tmp 27) rfl w.heap.size #[.string ⟨#[]⟩, .bool false, .int .i64 0, .int .i64 0, .string ⟨#[]⟩] rfl rfl 33 _ HA.out (by kernel_rfl) rfl (rec_cells_one ..) ?_))
    | fail)
  refine ret_lslot_at rfl (setRow_heap _ _ _ _ _ (0, 0) HA.out) rfl ?_ (setRow_below _ HB.out (Nat.le_refl _))
  rfl

def VLr (p d hk : Nat) (key : ByteArray) (F : List Int) : Nat → World → Value → Prop
  | 7, _, v => v = .pointer (some ⟨p, 0, none⟩)
  | 8, _, v => v = .pointer (some ⟨p, 0, none⟩)
  | 9, _, v => v = .pointer (some ⟨p, 0, none⟩)
  | 10, _, v => v = .pointer (some ⟨d, 0, none⟩)
  | 11, _, v => v = .string key
  | 12, _, v => v = .int .u64 (hk : Int)
  | 13, w, v => KI.R w v F
  | 14, _, v => v = .int .i64 (F.length : Int)
  | 4, _, v => v = .int .i64 (F.length : Int)
  | _, _, _ => True

theorem VLr_below (p d hk : Nat) (key : ByteArray) (F : List Int) : ∀ (i : Nat) (w w' : World) (v : Value), VLr p d hk key F i w v → Below w.heap.size w w' → VLr p d hk key F i w' v := by
  intro i w w' v h hb
  unfold VLr at h ⊢
  split at h <;> first | exact h | trivial | exact Lay.R.below h hb

set_option maxHeartbeats 1000000 in
set_option maxRecDepth 100000 in
theorem lreads_c {w : World} {B p d : Nat} {v : Value} {L : List RecT} (h : LG w B p d v L) (key : ByteArray) (hk : key.size ≤ 1000000) :
    Calls Tryz.prog 17 #[.pointer (some ⟨p, 0, none⟩), .string key] w fun e w' => e = .returned (.int .i64 (readsR L key : Int)) ∧ Below w.heap.size w w' := by
  have CH := Go.Lib.hid fun W => hof_k key (hashS key) rfl W hk
  have CF := Go.Lib.hid fun W (hb : Below w.heap.size w W) => lids_c (h.below hb) key
  have X0 := Go.Lib.hid h.cells.1
  have HN := Go.Lib.hid (ids_len L key)
  clear h hk
  generalize idsR L key = F at *
  generalize hashS key = hk at *
  go_enter Tryz.func17, Tryz.ntmps17
  go_upto_region 3 with (fail)
  refine wp_region_each (by kernel_rfl) (VLr p d hk key F) (VLr_below p d hk key F) (by decide +kernel) (by decide +kernel) (by rfl) [7, 8, 9, 10, 11, 12, 13, 14, 4] (by rfl) ?_ ?_
  · intro i o ho a w6 hb6 hlen hg
    have x0 := keepC X0.out hb6
    match i, ho with
    | 0, ho =>
      obtain rfl := Option.some.inj ho
      have h0 := given_old hg 0 (by decide +kernel)
      clear hg
      exact st_yield ho (wanted_none rfl) (.pointer (some ⟨p, 0, none⟩)) w6 (by simp [execOp, Act.eval, h0, go_sem]) ⟨_, rfl, Below.refl _ _, by rintro t' ⟨⟩; rfl⟩
    | 1, ho =>
      obtain rfl := Option.some.inj ho
      obtain ⟨_, h7, rfl⟩ := given_fed hg 7 (by decide +kernel)
      clear hg
      exact st_yield ho (wanted_none rfl) (.pointer (some ⟨p, 0, none⟩)) w6 (by simp [execOp, Act.eval, h7, go_sem]) ⟨_, rfl, Below.refl _ _, by rintro t' ⟨⟩; rfl⟩
    | 2, ho =>
      obtain rfl := Option.some.inj ho
      obtain ⟨_, h8, rfl⟩ := given_fed hg 8 (by decide +kernel)
      clear hg
      exact st_yield ho (wanted_none rfl) (.pointer (some ⟨p, 0, none⟩)) w6 (by simp [execOp, Act.eval, h8, go_sem]) ⟨_, rfl, Below.refl _ _, by rintro t' ⟨⟩; rfl⟩
    | 3, ho =>
      obtain rfl := Option.some.inj ho
      obtain ⟨_, h9, rfl⟩ := given_fed hg 9 (by decide +kernel)
      clear hg
      exact st_yield ho (wanted_none rfl) (.pointer (some ⟨d, 0, none⟩)) w6 (by simp [execOp, Act.eval, h9, go_sem, x0]) ⟨_, rfl, Below.refl _ _, by rintro t' ⟨⟩; rfl⟩
    | 4, ho =>
      obtain rfl := Option.some.inj ho
      have h1 := given_old hg 1 (by decide +kernel)
      clear hg
      exact st_yield ho (wanted_none rfl) (.string key) w6 (by simp [execOp, Act.eval, h1, go_sem]) ⟨_, rfl, Below.refl _ _, by rintro t' ⟨⟩; rfl⟩
    | 5, ho =>
      obtain rfl := Option.some.inj ho
      obtain ⟨_, h11, rfl⟩ := given_fed hg 11 (by decide +kernel)
      clear hg
      exact st_enter (w1 := w6) ho (wanted_none rfl) 33 #[.string key] (by simp [execOp, Act.eval, h11, resolve, go_sem]) ((CH.out _).mono (by rintro e w7 ⟨rfl, hb7⟩; exact ⟨_, rfl, _, rfl, hb7, by rintro t' ⟨⟩; rfl⟩))
    | 6, ho =>
      obtain rfl := Option.some.inj ho
      obtain ⟨_, h10, rfl⟩ := given_fed hg 10 (by decide +kernel)
      obtain ⟨_, h12, rfl⟩ := given_fed hg 12 (by decide +kernel)
      clear hg
      exact st_enter (w1 := w6) ho (wanted_none rfl) 35 #[.pointer (some ⟨d, 0, none⟩), .int .u64 (hk : Int)] (by simp [execOp, Act.eval, h10, h12, resolve, go_sem]) ((CF.out w6 hb6).mono (by rintro e w7 ⟨v', rfl, hown, hb7⟩; exact ⟨v', rfl, _, rfl, hb7, by rintro t' ⟨⟩; exact hown⟩))
    | 7, ho =>
      obtain rfl := Option.some.inj ho
      obtain ⟨v13, h13, p13⟩ := given_fed hg 13 (by decide +kernel)
      clear hg
      obtain ⟨a, cap, rfl, -⟩ := p13.form
      exact st_yield ho (wanted_none rfl) (.int .i64 (F.length : Int)) w6 (by simp [execOp, Act.eval, h13, resolve, go_sem]) ⟨_, rfl, Below.refl _ _, by rintro t' ⟨⟩; rfl⟩
    | 8, ho =>
      obtain rfl := Option.some.inj ho
      obtain ⟨_, h14, rfl⟩ := given_fed hg 14 (by decide +kernel)
      clear hg
      exact st_yield ho (wanted_none rfl) (.int .i64 (F.length : Int)) w6 (by simp [execOp, Act.eval, h14, go_sem]) ⟨_, rfl, Below.refl _ _, by rintro t' ⟨⟩; rfl⟩
    | n + 9, ho => simp at ho
  · intro f w6 hb6 hv
    have h4 := hv 4 (by decide)
    simp only [VLr] at h4
    have HB := Go.Lib.hid hb6
    clear hv CF CH hb6
    unfold putAll
    simp only [List.foldl]
    simp only [h4]
    go_simp
    clear h4
    go_wp2_with fail
    go_ret
    rw [← HN.out]
    exact ⟨rfl, HB.out⟩

end Go.Proofs.YtkddleonmkhaiaaGreat

namespace Go.Proofs.YtkddleonmkhaiaaGreat
open Go.RowKit

theorem room_two : ∀ S : Fin 256, ∀ b c : Fin 8, b ≠ c → bitN S.val b.val = 1 → bitN S.val c.val = 1 → 8 ≤ roomN S.val := by decide +kernel
/-- Eight find a place, whichever. -/
theorem room_small {hs : List Nat} (h : hs.length ≤ 8) : roomB hs = true := by
  refine room_all fun S hS => ?_
  by_cases hz : cntN S hs = 0
  · omega
  · obtain ⟨x, -, hx⟩ := List.countP_pos_iff.1 (show 0 < List.countP (inS S) hs from by unfold cntN at hz; omega)
    unfold inS at hx
    simp only [Bool.and_eq_true, beq_iff_eq] at hx
    have h8 := room_two ⟨S, hS⟩ ⟨firstN x, first_lt x⟩ ⟨othN (firstN x) (tagN x), oth_lt (tagN x) (first_lt x)⟩ (fun e => oth_ne (tagN x) (first_lt x) (by simpa using congrArg Fin.val e.symm)) hx.1 hx.2
    have := cnt_le S hs
    simp only [] at h8
    omega
theorem roomR_small {L : List RecT} (h : L.length ≤ 7) (k : ByteArray) : roomR L k = true := by
  unfold roomR
  rw [room_small (by simp; omega), Bool.or_true]
theorem putL_len (L : List RecT) (x : RecT) : (putL L x).length ≤ L.length + 1 := by
  unfold putL
  split <;> simp
/-- A log that stays where it is, behind a put. -/
structure Kept (B p d : Nat) (v : Value) (M : List RecT) (w w' : World) : Prop where
  lg : ∃ v', LG w' B p d v' M ∧ (v'.ownBlock = v.ownBlock ∨ ∀ k, v'.ownBlock = some k → w.heap.size ≤ k)
  off : Off3 p d v.ownBlock w w'
theorem lput_small {w : World} {B p d : Nat} {v : Value} {L : List RecT} (h : LG w B p d v L) (key : ByteArray) (gone : Bool) (k n : Int) (s : ByteArray) (hm : mayT (key, gone, k, n, s) = true) (hr : roomR L key = true) :
    Calls Tryz.prog 12 #[.pointer (some ⟨p, 0, none⟩), .agg #[.string key, .bool gone, .int .i64 k, .int .i64 n, .string s]] w fun e w' => e = .returned (.int .i64 0) ∧ (∃ v', LG w' B p d v' (putL L (key, gone, k, n, s)) ∧ (v'.ownBlock = v.ownBlock ∨ ∀ k, v'.ownBlock = some k → w.heap.size ≤ k)) ∧ Off3 p d v.ownBlock w w' := by
  have hz := mayT_short hm
  simp only [] at hz
  have C := lput_w h key gone k n s (by unfold maxLen; omega) (by unfold maxLen; omega)
  have h1 : putE L (key, gone, k, n, s) = 0 := by unfold putE; simp [hm, hr]
  have h2 : putN L (key, gone, k, n, s) = putL L (key, gone, k, n, s) := by unfold putN; simp [hm, hr]
  rw [h1, h2] at C
  exact C

def xb1 : RecT := (⟨#[98]⟩, false, 1, 1, ⟨#[]⟩)
def xa : RecT := (⟨#[97]⟩, true, 0, 0, ⟨#[]⟩)
def xb2 : RecT := (⟨#[98]⟩, false, 1, 2, ⟨#[]⟩)
theorem may_b1 : mayT xb1 = true := by unfold mayT mayRec mayK mayR xb1; simp; decide
theorem may_a : mayT xa = true := by unfold mayT mayRec mayK xa; simp; decide
theorem may_b2 : mayT xb2 = true := by unfold mayT mayRec mayK mayR xb2; simp; decide
theorem may_null : mayT nullR = false := by unfold mayT mayRec mayK mayR nullR; simp
theorem key_ab : keyR xa ≠ keyR xb1 := by unfold keyR; rw [ByteArray.toList_eq, ByteArray.toList_eq]; decide
theorem key_bb : keyR xb2 = keyR xb1 := rfl
theorem put1 : putL [] xb1 = [xb1] := rfl
theorem put2 : putL [xb1] xa = [xb1, xa] := putL_new fun y hy => by rw [List.mem_singleton.1 hy]; exact key_ab.symm
theorem keys2 : KeysOk [xb1, xa] := by unfold KeysOk; simp [key_ab.symm]
theorem put3 : putL [xb1, xa] xb2 = [xb2, xa] := putL_in keys2 (i := 0) (by simp) key_bb.symm
theorem new3 : newestR [xb2, xa] = [xa, xb2] := by
  refine (newestK_of ordR [xb2, xa] [xa, xb2] ?_ fun k => rfl).symm
  unfold Rising keyR
  rw [List.pairwise_cons]
  refine ⟨fun y hy => ?_, by simp⟩
  rw [List.mem_singleton.1 hy]
  rw [ByteArray.toList_eq, ByteArray.toList_eq]
  decide
theorem run3 : runP [] [xa, xb2] = (0, [xa, xb2]) := by
  have e1 : putE [] xa = 0 := by unfold putE; simp [may_a, roomR_small]
  have e2 : putN [] xa = [xa] := by unfold putN; simp [may_a, roomR_small, putL]
  have e3 : putE [xa] xb2 = 0 := by unfold putE; simp [may_b2, roomR_small]
  have e4 : putN [xa] xb2 = [xa, xb2] := by unfold putN; simp [may_b2, roomR_small]; exact putL_new fun y hy => by rw [List.mem_singleton.1 hy]; exact key_ab
  simp [runP, e1, e2, e3, e4]
theorem find3b : findK keyR [xb2, xa] (⟨#[98]⟩ : ByteArray).toList = some xb2 := by unfold findK; rw [List.find?_cons]; simp [keyR, xb2]
theorem find3c : findK keyR [xb2, xa] (⟨#[99]⟩ : ByteArray).toList = none := by
  rw [find_none]
  intro x hx
  simp only [List.mem_cons, List.not_mem_nil, or_false] at hx
  rw [Ne, keyR_eq]
  rcases hx with rfl | rfl <;> decide
theorem reads3 : 1 ≤ readsR [xb2, xa] ⟨#[98]⟩ := by
  unfold readsR
  rw [List.countP_cons]
  have : nearN (hashS ⟨#[98]⟩) (hR xb2) = true := near_self _
  rw [this]
  simp
theorem outR_b2 : outR (some xb2) = .tuple #[.agg #[.string ⟨#[98]⟩, .bool false, .int .i64 1, .int .i64 2, .string ⟨#[]⟩], .bool true] := rfl

set_option maxHeartbeats 4000000 in
set_option maxRecDepth 100000 in
theorem begun_c (w : World) : Calls Tryz.prog 6 #[] w fun e w' => e = .returned (.bool true) ∧ Below w.heap.size w w' := by
  have CN := Go.Lib.hid (lnew_c w)
  go_enter Tryz.func6, Tryz.ntmps6
  go_wp2_with fail
  refine CN.out.mono ?_
  rintro e w1 ⟨p, d, rfl, hl, hb⟩
  have HB := Go.Lib.hid hb
  have HL := Go.Lib.hid hl
  clear hb hl CN
  go_wp2_with fail
  refine (lput_small HL.out ⟨#[98]⟩ false 1 1 ⟨#[]⟩ may_b1 (roomR_small (by simp) _)).mono ?_
  rintro e w2 ⟨rfl, ⟨v2, hl, -⟩, ho⟩
  have HB2 := Go.Lib.hid (HB.out.trans (HL.out.offBelow ho))
  have HL2 : Hid (LG w2 w.heap.size p d v2 [xb1]) := hl
  clear hl ho HL HB
  go_wp2_with fail
  refine (lput_small HL2.out ⟨#[97]⟩ true 0 0 ⟨#[]⟩ may_a (roomR_small (by simp) _)).mono ?_
  rintro e w3 ⟨rfl, ⟨v3, hl, -⟩, ho⟩
  have HB3 := Go.Lib.hid (HB2.out.trans (HL2.out.offBelow ho))
  have HL3 : Hid (LG w3 w.heap.size p d v3 [xb1, xa]) := by rw [← put2]; exact hl
  clear hl ho HL2 HB2
  go_wp2_with fail
  refine (lput_small HL3.out ⟨#[98]⟩ false 1 2 ⟨#[]⟩ may_b2 (roomR_small (by simp) _)).mono ?_
  rintro e w4 ⟨rfl, ⟨v4, hl, -⟩, ho⟩
  have HB4 := Go.Lib.hid (HB3.out.trans (HL3.out.offBelow ho))
  have HL4 : Hid (LG w4 w.heap.size p d v4 [xb2, xa]) := by rw [← put3]; exact hl
  clear hl ho HL3 HB3
  have CG := lget_c HL4.out ⟨#[98]⟩ (by decide)
  rw [find3b, outR_b2] at CG
  have CG := Go.Lib.hid CG
  go_wp2_with fail
  refine CG.out.mono ?_
  rintro e w5 ⟨rfl, hc⟩
  have hc2 := hc.trans ((below_one w5 (.cells #[.string ⟨#[98]⟩, .bool false, .int .i64 1, .int .i64 2, .string ⟨#[]⟩] 33)).mono hc.size)
  have HB5 := Go.Lib.hid (HB4.out.trans (hc2.mono HB4.out.size))
  have HL5 := Go.Lib.hid (HL4.out.below hc2)
  have HX := Go.Lib.hid (heap_alloc_new w5 (.cells #[.string ⟨#[98]⟩, .bool false, .int .i64 1, .int .i64 2, .string ⟨#[]⟩] 33))
  clear hc hc2 CG HB4 HL4
  obtain ⟨g5, hg5⟩ : ∃ g, g = w5.heap.size := ⟨_, rfl⟩
  go_wp2_with fail
  rw [← hg5] at HX ⊢
  generalize w5.alloc (.cells #[.string ⟨#[98]⟩, .bool false, .int .i64 1, .int .i64 2, .string ⟨#[]⟩] 33) = w6 at *
  clear hg5
  have CG := lget_c HL5.out ⟨#[99]⟩ (by decide)
  rw [find3c, outR_none] at CG
  refine CG.mono ?_
  rintro e w7 ⟨rfl, hc⟩
  have hc2 := hc.trans ((below_one w7 (.cells #[.string ⟨#[]⟩, .bool false, .int .i64 0, .int .i64 0, .string ⟨#[]⟩] 33)).mono hc.size)
  have HB7 := Go.Lib.hid (HB5.out.trans (hc2.mono HB5.out.size))
  have HL7 := Go.Lib.hid (HL5.out.below hc2)
  have HX7 := Go.Lib.hid (row_kept HX.out hc2)
  clear hc hc2 CG HB5 HL5 HX
  go_wp2_with fail
  generalize w7.alloc (.cells #[.string ⟨#[]⟩, .bool false, .int .i64 0, .int .i64 0, .string ⟨#[]⟩] 33) = w8 at *
  refine (llist_c HL7.out).mono ?_
  rintro e w9 ⟨v9, rfl, ho9, hc⟩
  rw [new3] at ho9
  have HB9 := Go.Lib.hid (HB7.out.trans (hc.mono HB7.out.size))
  have HL9 := Go.Lib.hid (HL7.out.below hc)
  have HX9 := Go.Lib.hid (row_kept HX7.out hc)
  have HO9 := Go.Lib.hid ho9
  clear hc HB7 HL7 HX7
  have CO := Go.Lib.hid (lof_c v9 [xa, xb2] w9 ho9.rs (by intro x hx; simp only [List.mem_cons, List.not_mem_nil, or_false] at hx; rcases hx with rfl | rfl <;> decide))
  rw [run3] at CO
  obtain ⟨g9, c9, rfl, hg9⟩ := own_form ho9 (by simp)
  clear ho9 hg9
  go_wp2_with fail
  refine CO.out.mono ?_
  rintro e w10 ⟨⟨-, p2, d2, v2', rfl, hl2⟩ | ⟨h0, -⟩, hc⟩
  · have HB10 := Go.Lib.hid (HB9.out.trans (hc.mono HB9.out.size))
    have HL10 := Go.Lib.hid (HL9.out.below hc)
    have HX10 := Go.Lib.hid (row_kept HX9.out hc)
    have HM10 := Go.Lib.hid hl2
    have HO10 := Go.Lib.hid (HO9.out.below hc)
    clear hc hl2 CO HB9 HL9 HX9 HO9
    obtain ⟨y0, y1, y2, y3, y4⟩ := row5 HX10.out
    obtain ⟨b, o, hbo, -, -, c0, c1, c2, c3, c4⟩ := HO10.out.rs.at 0 (by simp)
    cases hbo
    have hix : ∀ W : World, (Instr.indexAt 22 (.slice (some ⟨g9, 0, none⟩) 2 c9) (.int .i64 0)).run Tryz.prog W = .ok (.pointer (some ⟨g9, 0, none⟩)) W := fun W => by simpa using run_idx5 g9 0 2 c9 0 (by omega) W
    simp only [Nat.zero_mul, Nat.add_zero, List.getElem_cons_zero, xa] at c0 c1 c2 c3 c4
    have hq97 : ((⟨#[97]⟩ : ByteArray).toList == (⟨#[97]⟩ : ByteArray).toList) = true := beq_iff_eq.2 rfl
    clear c1 c2 c3 c4 y0 y1 y2 y4
    go_wp2_with fail
    refine (llen_c HL10.out).mono ?_
    rintro e w11 ⟨rfl, rfl⟩
    go_wp2_with fail
    have hr3 := reads3
    refine (lreads_c HL10.out ⟨#[98]⟩ (by decide)).mono ?_
    rintro e w11 ⟨rfl, hc⟩
    have HB11 := Go.Lib.hid (HB10.out.trans (hc.mono HB10.out.size))
    have HL11 := Go.Lib.hid (HL10.out.below hc)
    have HM11 := Go.Lib.hid (HM10.out.below hc)
    clear hc HB10 HL10 HM10 y3 c0
    generalize readsR [xb2, xa] ⟨#[98]⟩ = n3 at *
    have hge : decide ((1 : Int) ≤ (n3 : Int)) = true := decide_eq_true (by omega)
    have hge2 : ((1 : Int) ≤ (n3 : Int)) := by omega
    go_wp2_with fail
    refine (llen_c HM11.out).mono ?_
    rintro e w12 ⟨rfl, rfl⟩
    have CP := lput_w HL11.out ⟨#[]⟩ false 0 0 ⟨#[]⟩ (by decide) (by decide)
    have hE : putE [xb2, xa] (⟨#[]⟩, false, 0, 0, ⟨#[]⟩) = 1 := by unfold putE; rw [show mayT (⟨#[]⟩, false, 0, 0, ⟨#[]⟩) = false from may_null]; rfl
    rw [hE] at CP
    unfold recV at CP
    have CP := Go.Lib.hid CP
    go_wp2_with fail
    refine CP.out.mono ?_
    rintro e w13 ⟨rfl, -, ho⟩
    have HB13 := Go.Lib.hid (HB11.out.trans (HL11.out.offBelow ho))
    clear ho CP
    go_wp2_with fail
    go_ret
    exact ⟨rfl, HB13.out⟩
  · exact absurd rfl h0

end Go.Proofs.YtkddleonmkhaiaaGreat

namespace Go.Proofs.YtkddleonmkhaiaaGreat
open Go.RowKit

theorem ret_rfind_at {w w0 : World} {tmps : Array Value} {key : ByteArray} {gone : Bool} {k n : Int} {s : ByteArray} {g : Nat} {fr : Nat × Nat} {b : Bool} {v : Value}
    (hp : tmps.getD 4 undef = .pointer (some ⟨g, 0, none⟩)) (hg : w.heap[g]? = some (.cells #[.string key, .bool gone, .int .i64 k, .int .i64 n, .string s] 33 fr)) (h3 : tmps.getD 5 undef = .bool b)
    (hr : v = .tuple #[.agg #[.string key, .bool gone, .int .i64 k, .int .i64 n, .string s], .bool b]) (hb : Below w0.heap.size w0 w) : bodyPost Tryz.prog Tryz.f15 (fun e w' => e = .returned v ∧ Below w0.heap.size w0 w') Exit.ret { tmps := tmps, defers := [] } w := by
  subst hr
  have h := results_row_one (P := Tryz.prog) (fn := Tryz.f15) (p := 4) (u := 5) (ty := 33) rfl tmps w g 33 #[.string key, .bool gone, .int .i64 k, .int .i64 n, .string s] fr _ hp hg Tryz.underlying33 rfl (by kernel_rfl)
  rw [h3] at h
  exact bodyPost_ret h rfl ⟨rfl, hb⟩

set_option maxHeartbeats 1000000 in
set_option maxRecDepth 100000 in
theorem rfind_c (v : Value) (l : List RecT) (key : ByteArray) (w : World) (hv : RS w v l) :
    Calls Tryz.prog 15 #[v, .string key] w fun e w' => e = .returned (outR (findK keyR l key.toList)) ∧ Below w.heap.size w w' := by
  obtain ⟨a, cap, rfl, hm⟩ := hv.form
  have hb1 := below_one w (.cells #[.string ⟨#[]⟩, .bool false, .int .i64 0, .int .i64 0, .string ⟨#[]⟩] 33)
  have HB1 := Go.Lib.hid hb1
  have HA := Go.Lib.hid (heap_alloc_new w (.cells #[.string ⟨#[]⟩, .bool false, .int .i64 0, .int .i64 0, .string ⟨#[]⟩] 33))
  have HR := Go.Lib.hid (hv.below hb1)
  clear hv hb1
  go_enter Tryz.func15, Tryz.ntmps15
  go_wp2_with fail
  generalize w.alloc (.cells #[.string ⟨#[]⟩, .bool false, .int .i64 0, .int .i64 0, .string ⟨#[]⟩] 33) = w1 at *
  go_loopw [6] (fun ki wr => ∃ k : Nat, k ≤ l.length ∧ ki = .int .i64 (k : Int) ∧ Hid (∀ x ∈ l.take k, keyR x ≠ key.toList) ∧ wr = w1) (fun ki _ => l.length - (intOf ki).toNat)
  case atStart => exact ⟨0, by omega, rfl, Go.Lib.hid (by simp), rfl⟩
  case round =>
    obtain ⟨k, hk, rfl, HNO, rfl⟩ := hrel
    by_cases hlt : k < l.length
    · obtain ⟨b, o, rfl, -, -, c0, c1, c2, c3, c4⟩ := HR.out.at k hlt
      have hix := run_idx5 b o l.length cap k hlt
      have HYES := Go.Lib.hid (fun (he : keyR l[k] = key.toList) => show findK keyR l key.toList = some l[k] from by
        unfold findK
        rw [List.find?_eq_some_iff_getElem]
        refine ⟨by simpa using he, k, hlt, rfl, fun j hj => ?_⟩
        simp only [Bool.not_eq_true', decide_eq_false_iff_not]
        exact HNO.out _ (List.mem_take_iff_getElem.2 ⟨j, by omega, rfl⟩))
      have HNEX := Go.Lib.hid (fun (he : keyR l[k] ≠ key.toList) => show ∀ x ∈ l.take (k + 1), keyR x ≠ key.toList from fun x hx => by
        rw [List.take_succ_eq_append_getElem hlt] at hx
        rcases List.mem_append.1 hx with h | h
        · exact HNO.out x h
        · rw [List.mem_singleton.1 h]; exact he)
      clear HNO
      generalize l[k] = x at *
      obtain ⟨kx, gx, ax, nx, sx⟩ := x
      simp only [] at c0 c1 c2 c3 c4
      by_cases hq : kx.toList = key.toList
      · have HE := Go.Lib.hid (HYES.out hq)
        have hqb : (kx.toList == key.toList) = true := beq_iff_eq.2 hq
        clear HYES HNEX
        go_wp2_with (first
          | (with_reducible show wpList _ _ _ (⟨none, Op.store 33 (.tmp 4) (.tmp 23), _, _, _, _⟩ :: _) _ _; go_loud (refine wpList_store_row rfl 33 (.tmp 4) (.tmp 23) rfl w.heap.size #[.string kx, .bool gx, .int .i64 ax, .int .i64 nx, .string sx] rfl rfl 33 _ HA.out (by kernel_rfl) rfl (rec_cells_one ..) ?_))
          | fail)
        refine ret_rfind_at rfl (setRow_heap _ _ _ _ _ (0, 0) HA.out) rfl ?_ (setRow_below _ HB1.out (Nat.le_refl _))
        rw [HE.out]
        rfl
      · have HS := Go.Lib.hid (HNEX.out hq)
        have hqb : (kx.toList == key.toList) = false := beq_eq_false_iff_ne.2 hq
        clear HYES HNEX
        go_wp2_with fail
        exact ⟨⟨k + 1, by omega, by go_num, HS, trivial⟩, by simp only [intOf]; omega⟩
    · obtain rfl : k = l.length := by omega
      have HE := Go.Lib.hid (show findK keyR l key.toList = none from (find_none _).2 (by have := HNO.out; rwa [List.take_length] at this))
      clear HNO
      go_wp2_with (first
        | (with_reducible show wpList _ _ _ (⟨none, Op.store 33 (.tmp 4) (.tmp 24), _, _, _, _⟩ :: _) _ _; go_loud (refine wpList_store_row rfl 33 (.tmp 4) (.tmp 24) rfl w.heap.size #[.string ⟨#[]⟩, .bool false, .int .i64 0, .int .i64 0, .string ⟨#[]⟩] rfl rfl 33 _ HA.out (by kernel_rfl) rfl (rec_cells_one ..) ?_))
        | fail)
      refine ret_rfind_at rfl (setRow_heap _ _ _ _ _ (0, 0) HA.out) rfl ?_ (setRow_below _ HB1.out (Nat.le_refl _))
      rw [HE.out]
      rfl

end Go.Proofs.YtkddleonmkhaiaaGreat
