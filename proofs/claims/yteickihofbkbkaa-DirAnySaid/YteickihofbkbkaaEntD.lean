/-
  Package dir: the reader: contract of entry.
-/
import Derived.Test.YteickihofbkbkaaEntR
namespace Go.Proofs.Yteickihofbkbkaa
open Go.RowKit

section
variable {g p : Nat} {w w' w2 : World} {l : List UInt8} {bad : Bool}
theorem RB.offRow {v : Value} {cs : Array Value} {t : TypeId} {fr : Nat × Nat} (h : RB w v l) (hg : w.heap[p]? = some (.cells cs t fr)) (hn : ∀ (j : Nat) (x : Int), cs[j]? ≠ some (.int .u8 x)) (k : Off1 p w w') : RB w' v l := by
  obtain ⟨a', cap, hv, h1, h2, h3, h4⟩ := h
  refine ⟨a', cap, hv, h1, h2, h3, fun hl => ?_⟩
  obtain ⟨q, o, ha, hc⟩ := h4 hl
  refine ⟨q, o, ha, fun i hi => ?_⟩
  have h5 := hc i hi
  have hne : q ≠ p := by
    rintro rfl
    rw [cell_of_row w q _ _ t fr hg] at h5
    exact hn _ _ h5
  exact (World.cell?_of_block (w := w) (k.block q (World.block_lt_of_cell? w _ h5) hne)).trans h5
theorem RD.offRow {cs : Array Value} {t : TypeId} {fr : Nat × Nat} (h : RD w g l bad) (hg : w.heap[p]? = some (.cells cs t fr)) (hn : ∀ (j : Nat) (x : Int), cs[j]? ≠ some (.int .u8 x)) (k : Off1 p w w') (hp : g ≠ p) : RD w' g l bad := by
  obtain ⟨a, n, c, h1, h2, h3⟩ := h
  exact ⟨a, n, c, (k.block g (Array.getElem?_eq_some_iff.1 h1).1 hp).trans h1, h2.offRow hg hn k, h3⟩
theorem Off1.over (h : Off1 g w w') (k : Off1 p w' w2) (hp : w.heap.size ≤ p) : Off1 g w w2 :=
  ⟨k.os.trans h.os, k.tape.trans h.tape, k.output.trans h.output, Nat.le_trans h.size k.size, fun i hi hn => (k.block i (Nat.lt_of_lt_of_le hi h.size) (by omega)).trans (h.block i hi hn)⟩
theorem Off1.setRow (p : Nat) (w : World) (cs : Array Value) : Off1 p w (w.setRow p cs) := ⟨rfl, rfl, rfl, by simp, fun k _ hn => setRow_other w p k cs hn⟩
theorem no8 {nm : ByteArray} {n a s : Int} : ∀ (j : Nat) (x : Int), (#[.string nm, .int .i64 n, .int .i64 a, .int .i64 s] : Array Value)[j]? ≠ some (.int .u8 x)
  | 0, x => by simp
  | 1, x => by simp
  | 2, x => by simp
  | 3, x => by simp
  | j + 4, x => by simp
theorem ent_cells_one (nm : ByteArray) (n a s : Int) : (#[.string nm, .int .i64 n, .int .i64 a, .int .i64 s] : Array Value).all (fun x => x.oneCell') = true := by simp [Value.oneCell']

/-- A box that the call made, behind a call of the reader's: one of its cells is stored. -/
theorem box_step {w0 : World} {nm nm' : ByteArray} {n a s n' a' s' : Int} {o : Nat} {u : Value} (hgp : g ≠ p) (hp : w0.heap.size ≤ p) (hb : w.heap[p]? = some (entO nm n a s)) (h0 : Off1 g w0 w) (hk : Off1 g w w') (hr : RD w' g l bad)
    (hset : (#[.string nm, .int .i64 n, .int .i64 a, .int .i64 s] : Array Value).setIfInBounds o u = #[.string nm', .int .i64 n', .int .i64 a', .int .i64 s']) :
    (w'.setCell ⟨p, o, none⟩ u).heap[p]? = some (entO nm' n' a' s') ∧ Off1 g w0 (w'.setCell ⟨p, o, none⟩ u) ∧ RD (w'.setCell ⟨p, o, none⟩ u) g l bad ∧ (∀ q x, q ≠ p → q ≠ g → w.heap[q]? = some x → (w'.setCell ⟨p, o, none⟩ u).heap[q]? = some x) := by
  have h1 : w'.heap[p]? = some (entO nm n a s) := (hk.block p (Array.getElem?_eq_some_iff.1 hb).1 (Ne.symm hgp)).trans hb
  have h2 : Off1 p w' (w'.setCell ⟨p, o, none⟩ u) := (Off1.refl p w').set o u
  unfold entO at h1 ⊢
  refine ⟨?_, (h0.trans hk).over h2 hp, hr.offRow h1 no8 h2 hgp, fun q x hqp hqg hx => (Below.heap_setCell _ _ _ _ hqp).trans ((hk.block q (Array.getElem?_eq_some_iff.1 hx).1 hqg).trans hx)⟩
  rw [heapSet h1, hset]
end

set_option maxHeartbeats 1000000 in
set_option maxRecDepth 100000 in
theorem rdentry_c {w : World} {g : Nat} {l : List UInt8} {bad : Bool} (h : RD w g l bad) :
    Calls Try.prog 23 #[.pointer (some ⟨g, 0, none⟩)] w fun e w' => ∃ nm n a s, (entR (l, bad)).1 = (nm, n, a, s) ∧ e = .returned (entV nm n a s) ∧ RD w' g (entR (l, bad)).2.1 (entR (l, bad)).2.2 ∧ Off1 g w w' := by
  have hgl := h.lt
  have hz1 := heap_alloc_new w (entO ⟨#[]⟩ 0 0 0)
  have hb1 := newB w (entO ⟨#[]⟩ 0 0 0)
  have hs1 : (w.alloc (entO ⟨#[]⟩ 0 0 0)).heap.size = w.heap.size + 1 := by simp
  generalize hwa : w.alloc (entO ⟨#[]⟩ 0 0 0) = wa at *
  have hz2 := heap_alloc_new wa (entO ⟨#[]⟩ 0 0 0)
  have hb2 := newB wa (entO ⟨#[]⟩ 0 0 0)
  have hz1 := keptR hz1 hb2
  rw [hs1] at hz2
  have hbb := hb1.trans (hb2.mono hb1.size)
  subst hwa
  have hr := h.below hbb
  have h0 := Off1.of_below (g := g) hbb
  have HZ1 := Go.Lib.hid hz1
  have HZ2 := Go.Lib.hid hz2
  have HR := Go.Lib.hid hr
  have H0 := Go.Lib.hid h0
  have hgp : g ≠ w.heap.size + 1 := by omega
  have hgq : g ≠ w.heap.size := by omega
  have hqp : w.heap.size ≠ w.heap.size + 1 := by omega
  have HGP := Go.Lib.hid hgp
  have HGQ := Go.Lib.hid hgq
  clear hz1 hz2 hr h0 hgp hgq hb1 hb2 hbb hs1 h
  unfold entR
  generalize hwb : (w.alloc (entO ⟨#[]⟩ 0 0 0)).alloc (entO ⟨#[]⟩ 0 0 0) = wb at *
  unfold entO at hwb
  rcases ht : textR (l, bad) with ⟨t1, l1, b1⟩
  rcases hn1 : numR (l1, b1) with ⟨n1, l2, b2⟩
  rcases hn2 : numR (l2, b2) with ⟨n2, l3, b3⟩
  rcases hn3 : numR (l3, b3) with ⟨n3, l4, b4⟩
  have C1 := Go.Lib.hid (fun W (h : RD W g l bad) => by have := rdtext_c h; rw [ht] at this; exact this)
  have C2 := Go.Lib.hid (fun W (h : RD W g l1 b1) => by have := rdnum_c h; rw [hn1] at this; exact this)
  have C3 := Go.Lib.hid (fun W (h : RD W g l2 b2) => by have := rdnum_c h; rw [hn2] at this; exact this)
  have C4 := Go.Lib.hid (fun W (h : RD W g l3 b3) => by have := rdnum_c h; rw [hn3] at this; exact this)
  simp only [hn1, hn2, hn3]
  clear ht hn1 hn2 hn3
  generalize str t1 = ts at *
  have HQP := Go.Lib.hid hqp
  have hpb : w.heap.size ≤ w.heap.size + 1 := by omega
  have HPB := Go.Lib.hid hpb
  have Hq := Go.Lib.hid (rfl : w.heap.size = w.heap.size)
  clear hqp hgl hz1 hpb
  go_enter Try.func23, Try.ntmps23
  go_wp2_with fail
  clear hwb
  refine (C1.out _ HR.out).mono ?_
  rintro e w5 ⟨rfl, hr5, hk5⟩
  obtain ⟨hB5, hO5, hR5, hT5⟩ := box_step (o := 0) (u := .string ts) (nm := ⟨#[]⟩) (n := 0) (a := 0) (s := 0) (nm' := ts) (n' := 0) (a' := 0) (s' := 0) HGP.out (HPB.out) HZ2.out H0.out hk5 hr5 (by simp)
  have hZ5 := hT5 _ _ HQP.out (Ne.symm HGQ.out) HZ1.out
  have hbx := (hk5.block (w.heap.size + 1) (Array.getElem?_eq_some_iff.1 HZ2.out).1 (Ne.symm HGP.out)).trans HZ2.out
  have f5 : w5.frozen? ⟨w.heap.size + 1, 0, none⟩ = false := frozen_of_row w5 (w.heap.size + 1) 0 _ _ hbx
  have x5 := cell_of_row w5 (w.heap.size + 1) 0 _ _ _ hbx
  simp only [List.getElem?_toArray, List.getElem?_cons_zero, List.getElem?_cons_succ] at x5
  have HB5 := Go.Lib.hid hB5
  have HO5 := Go.Lib.hid hO5
  have HR5 := Go.Lib.hid hR5
  have HZ5 := Go.Lib.hid hZ5
  clear hB5 hO5 hR5 hZ5 hT5 hk5 hr5 hbx
  go_wp2_with fail
  clear f5 x5
  refine (C2.out _ HR5.out).mono ?_
  rintro e w6 ⟨rfl, hr6, hk6⟩
  obtain ⟨hB6, hO6, hR6, hT6⟩ := box_step (o := 1) (u := .int .i64 n1) (nm := ts) (n := 0) (a := 0) (s := 0) (nm' := ts) (n' := n1) (a' := 0) (s' := 0) HGP.out (HPB.out) HB5.out HO5.out hk6 hr6 (by simp)
  have hZ6 := hT6 _ _ HQP.out (Ne.symm HGQ.out) HZ5.out
  have hbx := (hk6.block (w.heap.size + 1) (Array.getElem?_eq_some_iff.1 HB5.out).1 (Ne.symm HGP.out)).trans HB5.out
  have f6 : w6.frozen? ⟨w.heap.size + 1, 1, none⟩ = false := frozen_of_row w6 (w.heap.size + 1) 1 _ _ hbx
  have x6 := cell_of_row w6 (w.heap.size + 1) 1 _ _ _ hbx
  simp only [List.getElem?_toArray, List.getElem?_cons_zero, List.getElem?_cons_succ] at x6
  have HB6 := Go.Lib.hid hB6
  have HO6 := Go.Lib.hid hO6
  have HR6 := Go.Lib.hid hR6
  have HZ6 := Go.Lib.hid hZ6
  clear hB6 hO6 hR6 hZ6 hT6 hk6 hr6 hbx
  go_wp2_with fail
  clear f6 x6
  refine (C3.out _ HR6.out).mono ?_
  rintro e w7 ⟨rfl, hr7, hk7⟩
  obtain ⟨hB7, hO7, hR7, hT7⟩ := box_step (o := 2) (u := .int .i64 n2) (nm := ts) (n := n1) (a := 0) (s := 0) (nm' := ts) (n' := n1) (a' := n2) (s' := 0) HGP.out (HPB.out) HB6.out HO6.out hk7 hr7 (by simp)
  have hZ7 := hT7 _ _ HQP.out (Ne.symm HGQ.out) HZ6.out
  have hbx := (hk7.block (w.heap.size + 1) (Array.getElem?_eq_some_iff.1 HB6.out).1 (Ne.symm HGP.out)).trans HB6.out
  have f7 : w7.frozen? ⟨w.heap.size + 1, 2, none⟩ = false := frozen_of_row w7 (w.heap.size + 1) 2 _ _ hbx
  have x7 := cell_of_row w7 (w.heap.size + 1) 2 _ _ _ hbx
  simp only [List.getElem?_toArray, List.getElem?_cons_zero, List.getElem?_cons_succ] at x7
  have HB7 := Go.Lib.hid hB7
  have HO7 := Go.Lib.hid hO7
  have HR7 := Go.Lib.hid hR7
  have HZ7 := Go.Lib.hid hZ7
  clear hB7 hO7 hR7 hZ7 hT7 hk7 hr7 hbx
  go_wp2_with fail
  clear f7 x7
  refine (C4.out _ HR7.out).mono ?_
  rintro e w8 ⟨rfl, hr8, hk8⟩
  obtain ⟨hB8, hO8, hR8, hT8⟩ := box_step (o := 3) (u := .int .i64 n3) (nm := ts) (n := n1) (a := n2) (s := 0) (nm' := ts) (n' := n1) (a' := n2) (s' := n3) HGP.out (HPB.out) HB7.out HO7.out hk8 hr8 (by simp)
  have hZ8 := hT8 _ _ HQP.out (Ne.symm HGQ.out) HZ7.out
  have hbx := (hk8.block (w.heap.size + 1) (Array.getElem?_eq_some_iff.1 HB7.out).1 (Ne.symm HGP.out)).trans HB7.out
  have f8 : w8.frozen? ⟨w.heap.size + 1, 3, none⟩ = false := frozen_of_row w8 (w.heap.size + 1) 3 _ _ hbx
  have x8 := cell_of_row w8 (w.heap.size + 1) 3 _ _ _ hbx
  simp only [List.getElem?_toArray, List.getElem?_cons_zero, List.getElem?_cons_succ] at x8
  have HB8 := Go.Lib.hid hB8
  have HO8 := Go.Lib.hid hO8
  have HR8 := Go.Lib.hid hR8
  have HZ8 := Go.Lib.hid hZ8
  clear hB8 hO8 hR8 hZ8 hT8 hk8 hr8 hbx
  go_upto_region 6 with (fail)
  clear f8 x8
  generalize hws : w8.setCell ⟨w.heap.size + 1, 3, none⟩ (.int .i64 n3) = ws at *
  have Hws := Go.Lib.hid hws
  obtain ⟨y0, y1, y2, y3⟩ := row4 HB8.out
  have ho1 := Off1.setRow w.heap.size ws #[.string ts, .int .i64 n1, .int .i64 n2, .int .i64 n3]
  have hfin := setRow_heap ws w.heap.size _ #[.string ts, .int .i64 n1, .int .i64 n2, .int .i64 n3] _ (0, 0) HZ8.out
  have hrf := HR8.out.offRow HZ8.out no8 ho1 HGQ.out
  have hof := HO8.out.over ho1 (Nat.le_refl _)
  have HZ9 : Hid (ws.heap[w.heap.size]? = some (.cells #[.string ⟨#[]⟩, .int .i64 0, .int .i64 0, .int .i64 0] 32)) := HZ8
  have HF := Go.Lib.hid hfin
  have HRF := Go.Lib.hid hrf
  have HOF := Go.Lib.hid hof
  clear ho1 hfin hrf hof hws
  go_wp2_with (first
    | (with_reducible show wpList _ _ _ (⟨none, Op.store 32 (.tmp 2) (.tmp 18), _, _, _, _⟩ :: _) _ _; go_loud (refine wpList_store_row rfl 32 (.tmp 2) (.tmp 18) rfl w.heap.size #[.string ts, .int .i64 n1, .int .i64 n2, .int .i64 n3] rfl rfl 32 _ HZ9.out (by kernel_rfl) rfl (ent_cells_one ..) ?_))
    | fail)
  refine bodyPost_ret (results_cell_row rfl _ _ w.heap.size 32 #[.string ts, .int .i64 n1, .int .i64 n2, .int .i64 n3] (0, 0) _ rfl HF.out Try.underlying32 rfl (by kernel_rfl)) rfl ?_
  exact ⟨_, _, _, _, rfl, rfl, HRF.out, HOF.out⟩

end Go.Proofs.Yteickihofbkbkaa
