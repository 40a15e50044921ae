/-
  Package value: contracts of getOf, Get.
  Package record: contracts of getOf, Get.
  Stage 19: order.getEntry.
  A region whose order is open, whose operations read and make memory, and some of which CHANGE what stands (a call of a method that writes): beside the condition for each slot (XDraw) an invariant of the world that knows which operations have been carried out. Each operation is shown once.
  As XDrawI's wp_region_inv2, with an invariant that sees the slots too.
  A region whose order is open, but whose operations that change memory wait for one another, one by one (a chain: calls, appends, stores): all others only read, and what they yield is known ahead. The chain's values are a list; the condition C speaks of the values that there are so far.
  Stage 19: order.Decode.
  The reference's bits: Num.
-/
import Derived.Test.YtgalppnpmfpdbaaM09
import Derived.Test.YtgalppnpmfpdbaaM11
import Derived.BigRegion
import Derived.Test.YtgalppnpmfpdbaaM07
import Derived.Test.YtgalppnpmfpdbaaM10
import Derived.Test.YtgalppnpmfpdbaaM01
namespace Go.Proofs.Ytgalppnpmfpdbaa
open Go.RowKit

/-- What stands behind the kind. -/
def goR (k : Int) (l : List UInt8) : (Int × Int × List UInt8) × Nat × Int :=
  if k = 1 then ((1, (getB l).1, []), (getB l).2.1, (getB l).2.2) else if k = 2 then ((2, 0, (textB l).1), (textB l).2.1, (textB l).2.2) else ((0, 0, []), 0, 1)

theorem valB_go (l : List UInt8) (k : Int) (p : Nat) (h : getB l = (k, p, 0)) (r : Int × Int × List UInt8) (m : Nat) (e : Int) (g : goR k (l.drop p) = (r, m, e)) :
    valB l = if e = 0 then (if mayR r.1 r.2.1 (str r.2.2) then (r, p + m, 0) else ((0, 0, []), 0, 1)) else ((0, 0, []), 0, e) := by
  unfold goR at g
  split at g
  · rename_i hk
    subst hk
    rw [valB_num l p _ _ _ h rfl]
    simp only [Prod.mk.injEq] at g
    obtain ⟨rfl, rfl, rfl⟩ := g
    have : ∀ n, mayR 1 n (str []) = true := fun n => by unfold mayR; simp [str]
    simp only [this, if_true]
    rfl
  · split at g
    · rename_i hk
      subst hk
      rw [valB_text l _ p _ _ h rfl]
      simp only [Prod.mk.injEq] at g
      obtain ⟨rfl, rfl, rfl⟩ := g
      rfl
    · rename_i h1 h2
      rw [valB_else l k p h h1 h2]
      simp only [Prod.mk.injEq] at g
      obtain ⟨rfl, rfl, rfl⟩ := g
      simp

theorem goR_small {k : Int} {l : List UInt8} {r : Int × Int × List UInt8} {m : Nat} {e : Int} (h : goR k l = (r, m, e)) (he : e = 0) : r.2.2.length ≤ 65536 ∧ m ≤ 70000 := by
  unfold goR at h
  split at h
  · have := getB_fits l
    simp only [Prod.mk.injEq] at h
    obtain ⟨rfl, rfl, rfl⟩ := h
    simp
    omega
  · split at h
    · simp only [Prod.mk.injEq] at h
      obtain ⟨rfl, rfl, rfl⟩ := h
      exact textB_small (l := l) rfl he
    · simp only [Prod.mk.injEq] at h
      obtain ⟨rfl, rfl, rfl⟩ := h
      simp

theorem ret_gof_at {w w0 : World} {tmps : Array Value} {k n : Int} {s : ByteArray} {m : Nat} {e : Int} {g : Nat} {fr : Nat × Nat} {r : (Int × Int × List UInt8) × Nat × Int}
    (hp : tmps.getD 4 undef = .pointer (some ⟨g, 0, none⟩)) (hg : w.heap[g]? = some (.cells #[.int .i64 k, .int .i64 n, .string s] 26 fr)) (h3 : tmps.getD 5 undef = .int .i64 (m : Int)) (h4 : tmps.getD 6 undef = .int .i64 e)
    (hr : ((k, n, bl s), m, e) = r) (hb : Below w0.heap.size w0 w) : bodyPost Try.prog Try.f92 (fun e w' => e = .returned (vv r) ∧ Below w0.heap.size w0 w') Exit.ret { tmps := tmps, defers := [] } w := by
  subst hr
  have h := results_row_two (P := Try.prog) (fn := Try.f92) (p := 4) (u := 5) (v := 6) (ty := 26) rfl tmps w g 26 #[.int .i64 k, .int .i64 n, .string s] fr _ hp hg Try.underlying26 rfl (by kernel_rfl)
  rw [h3, h4] at h
  refine bodyPost_ret h rfl ⟨?_, hb⟩
  unfold vv rawV
  rw [str_bl]

theorem ret_vget_at {w w0 : World} {tmps : Array Value} {k n : Int} {s : ByteArray} {m : Nat} {e : Int} {g : Nat} {fr : Nat × Nat} {r : (Int × Int × List UInt8) × Nat × Int}
    (hp : tmps.getD 2 undef = .pointer (some ⟨g, 0, none⟩)) (hg : w.heap[g]? = some (.cells #[.int .i64 k, .int .i64 n, .string s] 26 fr)) (h3 : tmps.getD 3 undef = .int .i64 (m : Int)) (h4 : tmps.getD 4 undef = .int .i64 e)
    (hr : ((k, n, bl s), m, e) = r) (hb : Below w0.heap.size w0 w) : bodyPost Try.prog Try.f87 (fun e w' => e = .returned (vv r) ∧ Below w0.heap.size w0 w') Exit.ret { tmps := tmps, defers := [] } w := by
  subst hr
  have h := results_row_two (P := Try.prog) (fn := Try.f87) (p := 2) (u := 3) (v := 4) (ty := 26) rfl tmps w g 26 #[.int .i64 k, .int .i64 n, .string s] fr _ hp hg Try.underlying26 rfl (by kernel_rfl)
  rw [h3, h4] at h
  refine bodyPost_ret h rfl ⟨?_, hb⟩
  unfold vv rawV
  rw [str_bl]

set_option maxRecDepth 100000 in
theorem getOf_c (k : Int) (v : Value) (l : List UInt8) (w : World) (hv : RB w v l) :
    Calls Try.prog 92 #[.int .i64 k, v] w fun e w' => e = .returned (vv (goR k l)) ∧ Below w.heap.size w w' := by
  have hrb := hv
  obtain ⟨a, cap, rfl, -⟩ := hv
  have hR1 := Go.Lib.hid (hrb.below (below_one w (.cells #[.int .i64 0, .int .i64 0, .string ⟨#[]⟩] 26)))
  clear hrb
  by_cases h1 : k = 1
  · subst h1
    have C := Go.Lib.hid fun W h => get_c (.slice a l.length cap) l W h
    have hr : Hid (((1, (getB l).1, bl ⟨#[]⟩), (getB l).2.1, (getB l).2.2) = goR 1 l) := rfl
    unfold gv at C
    generalize (getB l).1 = n at *
    generalize (getB l).2.1 = p at *
    generalize (getB l).2.2 = er at *
    go_enter Try.func92, Try.ntmps92
    go_wp2_with fail
    refine (C.out _ hR1.out).mono ?_
    rintro e w1 ⟨rfl, rfl⟩
    go_wp2_with fail
    exact ret_gof_at rfl (heap_alloc_new ..) rfl rfl hr.out (below_one ..)
  · by_cases h2 : k = 2
    · subst h2
      have C := Go.Lib.hid fun W h => getText_c (.slice a l.length cap) l W h
      have hr : Hid (((2, 0, bl (str (textB l).1)), (textB l).2.1, (textB l).2.2) = goR 2 l) := by unfold Hid; rw [bl_str]; rfl
      unfold tv at C
      generalize str (textB l).1 = s at *
      generalize (textB l).2.1 = p at *
      generalize (textB l).2.2 = er at *
      go_enter Try.func92, Try.ntmps92
      go_wp2_with fail
      refine (C.out _ hR1.out).mono ?_
      rintro e w1 ⟨rfl, rfl⟩
      go_wp2_with fail
      exact ret_gof_at rfl (heap_alloc_new ..) rfl rfl hr.out (below_one ..)
    · have h1' : (k == 1) = false := by simp [h1]
      have h2' : (k == 2) = false := by simp [h2]
      have hr : Hid (((0, 0, bl ⟨#[]⟩), 0, 1) = goR k l) := by unfold Hid goR; rw [if_neg h1, if_neg h2]; rfl
      go_enter Try.func92, Try.ntmps92
      go_wp2_with fail
      exact ret_gof_at (m := 0) rfl (heap_alloc_new ..) rfl rfl hr.out (below_one ..)

set_option maxHeartbeats 2000000 in
set_option maxRecDepth 100000 in
theorem vget_c (v : Value) (l : List UInt8) (w : World) (hv : RB w v l) :
    Calls Try.prog 87 #[v] w fun e w' => e = .returned (vv (valB l)) ∧ Below w.heap.size w w' := by
  have hrb := hv
  obtain ⟨a, cap, rfl, h1, h2, h3, h4⟩ := hv
  have hm : l.length ≤ 9223372036854775807 := by unfold maxLen at h2; omega
  clear h4 h3 h1 h2
  have hfit := getB_fits l
  have c1 := fun W (h : RB W (.slice a l.length cap) l) => get_c (.slice a l.length cap) l W h
  rcases hr : getB l with ⟨k, p, er⟩
  rw [hr] at hfit c1
  unfold gv at c1
  simp only [] at hfit c1
  obtain ⟨f1, f2, f3, f4, f5, f6⟩ := hfit
  have C1 := Go.Lib.hid c1; clear c1
  have Hr := Go.Lib.hid hr; clear hr
  have hR1 := Go.Lib.hid (hrb.below (below_one w (.cells #[.int .i64 0, .int .i64 0, .string ⟨#[]⟩] 26)))
  clear hrb
  by_cases he : er = 0
  · subst he
    rcases hg : goR k (l.drop p) with ⟨⟨k1, n1, s1⟩, m, e⟩
    have hsm := Go.Lib.hid (goR_small hg)
    have hv := Go.Lib.hid (valB_go l k p Hr.out (k1, n1, s1) m e hg)
    have C2 := fun v' W (h : RB W v' (l.drop p)) => getOf_c k v' (l.drop p) W h
    rw [hg] at C2
    unfold vv rawV at C2
    simp only [] at C2
    have C2 := Go.Lib.hid C2
    clear hg f4 f5
    by_cases he : e = 0
    · subst he
      obtain ⟨hs1, hm1⟩ := hsm.out rfl
      have C3 := fun W => vof_c k1 n1 (str s1) W
      unfold ofV rawV VI.val at C3
      have hv2 := hv.out
      rw [if_pos rfl] at hv2
      have hv3 : Hid (valB l = if mayR k1 n1 (str s1) = true then ((k1, n1, bl (str s1)), p + m, 0) else ((0, 0, bl ⟨#[]⟩), 0, 1)) := by unfold Hid; rw [bl_str]; exact hv2
      clear hv2 hv hsm hs1
      generalize hmay : mayR k1 n1 (str s1) = may at C3 hv3
      generalize ofR k1 n1 (str s1) = x at C3
      have hst := store_vi x
      generalize str s1 = q at *
      obtain ⟨e3, he3⟩ : ∃ e3 : Int, (if may = true then (0 : Int) else 1) = e3 := ⟨_, rfl⟩
      rw [he3] at C3
      have he3 := Go.Lib.hid he3
      have C3 := Go.Lib.hid C3
      clear hmay f1 f2
      have hpm : IntKind.i64.wrap ((p : Int) + (m : Int)) = ((p + m : Nat) : Int) := by rw [IntKind.wrap_i64]; omega
      have Hpm := Go.Lib.hid hpm; clear hpm
      go_enter Try.func87, Try.ntmps87
      go_wp2_with fail
      refine (C1.out _ hR1.out).mono ?_
      rintro e w1 ⟨rfl, rfl⟩
      go_wp2_with (first
        | (with_reducible show wpList _ _ _ (⟨some 26, _, _, _, _, _⟩ :: _) _ _; go_loud (refine wpList_slice_l rfl (.tmp 24) (.tmp 25) 40 rfl 5 Try.underlying40 info8 (.slice a l.length cap) l .i64 _ p rfl rfl rfl hR1.out f3 ?_); intro v3 hv3)
        | fail)
      refine (C2.out _ _ hv3).mono ?_
      rintro e w2 ⟨rfl, hb2⟩
      have hlt0 := (Array.getElem?_eq_some_iff.1 (heap_alloc_new w (.cells #[.int .i64 0, .int .i64 0, .string ⟨#[]⟩] 26))).1
      have hA := (hb2.block _ hlt0).trans (heap_alloc_new w _)
      have hbb2 := (below_one w (.cells #[.int .i64 0, .int .i64 0, .string ⟨#[]⟩] 26)).trans (hb2.mono (below_one w _).size)
      clear hb2 hlt0 hv3 hR1 C1 C2
      have HA := Go.Lib.hid hA; clear hA
      have Hb2 := Go.Lib.hid hbb2; clear hbb2
      go_wp2_with fail
      refine (C3.out _).mono ?_
      rintro e w3 ⟨rfl, hb3⟩
      have hltA : w.heap.size < w2.heap.size := (Array.getElem?_eq_some_iff.1 HA.out).1
      have hB := heap_alloc_new w2 (.cells #[.int .i64 k1, .int .i64 n1, .string q] 26)
      have hltB := (Array.getElem?_eq_some_iff.1 hB).1
      have hA3 := (hb3.block w.heap.size (by omega)).trans ((_root_.Go.heap_alloc_old w2 _ hltA).trans HA.out)
      have hB3 := (hb3.block _ hltB).trans hB
      have hbb3 := (Hb2.out.trans ((below_one w2 (.cells #[.int .i64 k1, .int .i64 n1, .string q] 26)).mono Hb2.out.size)).trans (hb3.mono (Nat.le_trans Hb2.out.size (below_one w2 _).size))
      have hltA3 := (Array.getElem?_eq_some_iff.1 hA3).1
      have hltB3 := (Array.getElem?_eq_some_iff.1 hB3).1
      have hA4 := Go.Lib.hid ((_root_.Go.heap_alloc_old w3 (.cells #[x.v] 123) hltA3).trans hA3)
      have hB4 := (_root_.Go.heap_alloc_old w3 (.cells #[x.v] 123) hltB3).trans hB3
      have hbb4 := Go.Lib.hid (hbb3.trans ((below_one w3 (.cells #[x.v] 123)).mono hbb3.size))
      have x0 := cell_of_row _ w2.heap.size 0 _ _ _ hB4
      have x1 := cell_of_row _ w2.heap.size 1 _ _ _ hB4
      have x2 := cell_of_row _ w2.heap.size 2 _ _ _ hB4
      simp only [List.getElem?_toArray, List.getElem?_cons_zero, List.getElem?_cons_succ] at x0 x1 x2
      clear hB4 hltA3 hltB3 hbb3 hB3 hA3 hltB hB hltA hb3 HA Hb2 C3
      cases may with
      | true =>
        obtain rfl := he3.out
        rw [if_pos rfl]
        have hv4 := Go.Lib.hid (hv3.out.trans (if_pos rfl)).symm
        clear hv3
        have hpm := Hpm.out
        clear Hpm
        go_wp2_with (first
          | (with_reducible show wpList _ _ _ (⟨none, Op.store 26 (.tmp 2) (.tmp 44), _, _, _, _⟩ :: _) _ _; go_loud (refine wpList_store_row rfl 26 (.tmp 2) (.tmp 44) rfl w.heap.size #[.int .i64 k1, .int .i64 n1, .string q] rfl rfl 26 _ hA4.out (by kernel_rfl) rfl (raw_cells_one ..) ?_))
          | fail)
        refine ret_vget_at (m := p + m) rfl (setRow_heap _ _ _ _ _ (0, 0) hA4.out) rfl rfl hv4.out (setRow_below _ hbb4.out (Nat.le_refl _))
      | false =>
        obtain rfl := he3.out
        rw [if_neg (by decide)]
        have hv4 := Go.Lib.hid (hv3.out.trans (if_neg (by decide))).symm
        clear hv3 Hpm x0 x1 x2
        go_wp2_with (first
          | (with_reducible show wpList _ _ _ (⟨none, Op.store 26 (.tmp 2) (.tmp 42), _, _, _, _⟩ :: _) _ _; go_loud (refine wpList_store_row rfl 26 (.tmp 2) (.tmp 42) rfl w.heap.size #[.int .i64 0, .int .i64 0, .string ⟨#[]⟩] rfl rfl 26 _ hA4.out (by kernel_rfl) rfl (raw_cells_one ..) ?_))
          | fail)
        refine ret_vget_at (m := 0) rfl (setRow_heap _ _ _ _ _ (0, 0) hA4.out) rfl rfl hv4.out (setRow_below _ hbb4.out (Nat.le_refl _))
    · have hv2 := hv.out
      rw [if_neg he] at hv2
      have hv4 := Go.Lib.hid hv2.symm
      have heb : (e == 0) = false := by simp [he]
      clear hv2 hv he hsm f1 f2
      generalize str s1 = q at *
      generalize he1 : e = e1 at *
      clear he1
      go_enter Try.func87, Try.ntmps87
      go_wp2_with fail
      refine (C1.out _ hR1.out).mono ?_
      rintro e w1 ⟨rfl, rfl⟩
      go_wp2_with (first
        | (with_reducible show wpList _ _ _ (⟨some 26, _, _, _, _, _⟩ :: _) _ _; go_loud (refine wpList_slice_l rfl (.tmp 24) (.tmp 25) 40 rfl 5 Try.underlying40 info8 (.slice a l.length cap) l .i64 _ p rfl rfl rfl hR1.out f3 ?_); intro v3 hv3)
        | fail)
      refine (C2.out _ _ hv3).mono ?_
      rintro e w2 ⟨rfl, hb2⟩
      have hlt0 := (Array.getElem?_eq_some_iff.1 (heap_alloc_new w (.cells #[.int .i64 0, .int .i64 0, .string ⟨#[]⟩] 26))).1
      have hA := (hb2.block _ hlt0).trans (heap_alloc_new w _)
      have hbb2 := (below_one w (.cells #[.int .i64 0, .int .i64 0, .string ⟨#[]⟩] 26)).trans (hb2.mono (below_one w _).size)
      clear hb2 hlt0 hv3 hR1 C1 C2
      have hltA := (Array.getElem?_eq_some_iff.1 hA).1
      have hA4 := Go.Lib.hid ((_root_.Go.heap_alloc_old w2 (.cells #[.int .i64 k1, .int .i64 n1, .string q] 26) hltA).trans hA)
      have hbb4 := Go.Lib.hid (hbb2.trans ((below_one w2 (.cells #[.int .i64 k1, .int .i64 n1, .string q] 26)).mono hbb2.size))
      clear hA hbb2 hltA
      go_wp2_with (first
        | (with_reducible show wpList _ _ _ (⟨none, Op.store 26 (.tmp 2) (.tmp 33), _, _, _, _⟩ :: _) _ _; go_loud (refine wpList_store_row rfl 26 (.tmp 2) (.tmp 33) rfl w.heap.size #[.int .i64 0, .int .i64 0, .string ⟨#[]⟩] rfl rfl 26 _ hA4.out (by kernel_rfl) rfl (raw_cells_one ..) ?_))
        | fail)
      refine ret_vget_at (m := 0) rfl (setRow_heap _ _ _ _ _ (0, 0) hA4.out) rfl rfl hv4.out (setRow_below _ hbb4.out (Nat.le_refl _))
  · have hv := Go.Lib.hid (valB_err l k er p Hr.out he).symm
    have heb : (er == 0) = false := by simp [he]
    clear f4 f5 f6 he
    go_enter Try.func87, Try.ntmps87
    go_wp2_with fail
    refine (C1.out _ hR1.out).mono ?_
    rintro e w1 ⟨rfl, rfl⟩
    go_wp2_with fail
    refine ret_vget_at (m := 0) rfl (heap_alloc_new ..) rfl rfl hv.out (below_one ..)

end Go.Proofs.Ytgalppnpmfpdbaa

namespace Go.Proofs.Ytgalppnpmfpdbaa
open Go.RowKit
open Go.Lib (uvarint zigzag)

/-- What stands behind the key. -/
def gofR (key l : List UInt8) : RdT :=
  if (getB l).2.2 = 0 ∧ (getB l).1 = 0 then ((key, true, 0, 0, []), (getB l).2.1, 0) else ((key, false, (valB l).1), (valB l).2.1, (valB l).2.2)

theorem gof_gone {key l : List UInt8} {m : Nat} (g : getB l = (0, m, 0)) : gofR key l = ((key, true, 0, 0, []), m, 0) := by
  unfold gofR
  rw [g]
  simp
theorem gof_val {key l : List UInt8} {x : Int} {m : Nat} {e : Int} (g : getB l = (x, m, e)) (h : ¬ (e = 0 ∧ x = 0)) {v : Int × Int × List UInt8} {q : Nat} {e3 : Int} (u : valB l = (v, q, e3)) : gofR key l = ((key, false, v), q, e3) := by
  unfold gofR
  rw [g, u, if_neg h]

theorem readB_gof {l key : List UInt8} {p : Nat} (h : textB l = (key, p, 0)) (hk : mayK (str key) = true) {r : List UInt8 × Bool × Int × Int × List UInt8} {m : Nat} {e : Int} (g : gofR key (l.drop p) = (r, m, e)) :
    readB l = if e = 0 then (r, p + m, 0) else rdErr e := by
  rcases hr2 : getB (l.drop p) with ⟨x, m2, e2⟩
  by_cases he2 : e2 = 0
  · subst he2
    by_cases hx : x = 0
    · subst hx
      rw [gof_gone hr2] at g
      simp only [Prod.mk.injEq] at g
      obtain ⟨rfl, rfl, rfl⟩ := g
      rw [readB_gone h hk hr2, if_pos rfl]
    · rcases hr3 : valB (l.drop p) with ⟨v, q, e3⟩
      rw [gof_val hr2 (fun h => hx h.2) hr3] at g
      simp only [Prod.mk.injEq] at g
      obtain ⟨rfl, rfl, rfl⟩ := g
      by_cases he3 : e3 = 0
      · subst he3
        rw [readB_ok h hk hr2 hx hr3, if_pos rfl]
      · rw [readB_e4 h hk hr2 hx hr3 he3, if_neg he3]
  · have hv := valB_err (l.drop p) x e2 m2 hr2 he2
    rw [gof_val hr2 (fun h => he2 h.1) hv] at g
    simp only [Prod.mk.injEq] at g
    obtain ⟨rfl, rfl, rfl⟩ := g
    rw [readB_e3 h hk hr2 he2, if_neg he2]

theorem gofR_fits (key l : List UInt8) : (gofR key l).2.1 ≤ 70010 ∧ (gofR key l).2.1 ≤ l.length := by
  have h1 := getB_fits l
  have h2 := valB_fits l
  unfold gofR
  split
  · exact ⟨by show (getB l).2.1 ≤ 70010; omega, by show (getB l).2.1 ≤ l.length; omega⟩
  · exact ⟨by show (valB l).2.1 ≤ 70010; omega, by show (valB l).2.1 ≤ l.length; omega⟩

theorem ret_rgof_at {w w0 : World} {tmps : Array Value} {key : ByteArray} {gone : Bool} {k n : Int} {s : ByteArray} {m : Nat} {e : Int} {g : Nat} {fr : Nat × Nat} {r : RdT}
    (hp : tmps.getD 4 undef = .pointer (some ⟨g, 0, none⟩)) (hg : w.heap[g]? = some (.cells #[.string key, .bool gone, .int .i64 k, .int .i64 n, .string s] 28 fr)) (h3 : tmps.getD 5 undef = .int .i64 (m : Int)) (h4 : tmps.getD 6 undef = .int .i64 e)
    (hr : r = ((bl key, gone, k, n, bl s), m, e)) (hb : Below w0.heap.size w0 w) : bodyPost Try.prog Try.f76 (fun e w' => e = .returned (rr r) ∧ Below w0.heap.size w0 w') Exit.ret { tmps := tmps, defers := [] } w := by
  subst hr
  have h := results_row_two (P := Try.prog) (fn := Try.f76) (p := 4) (u := 5) (v := 6) (ty := 28) rfl tmps w g 28 #[.string key, .bool gone, .int .i64 k, .int .i64 n, .string s] fr _ hp hg Try.underlying28 rfl (by kernel_rfl)
  rw [h3, h4] at h
  refine bodyPost_ret h rfl ⟨?_, hb⟩
  unfold rr recV
  rw [str_bl, str_bl]

theorem ret_rget_at {w w0 : World} {tmps : Array Value} {key : ByteArray} {gone : Bool} {k n : Int} {s : ByteArray} {m : Nat} {e : Int} {g : Nat} {fr : Nat × Nat} {r : RdT}
    (hp : tmps.getD 2 undef = .pointer (some ⟨g, 0, none⟩)) (hg : w.heap[g]? = some (.cells #[.string key, .bool gone, .int .i64 k, .int .i64 n, .string s] 28 fr)) (h3 : tmps.getD 3 undef = .int .i64 (m : Int)) (h4 : tmps.getD 4 undef = .int .i64 e)
    (hr : r = ((bl key, gone, k, n, bl s), m, e)) (hb : Below w0.heap.size w0 w) : bodyPost Try.prog Try.f57 (fun e w' => e = .returned (rr r) ∧ Below w0.heap.size w0 w') Exit.ret { tmps := tmps, defers := [] } w := by
  subst hr
  have h := results_row_two (P := Try.prog) (fn := Try.f57) (p := 2) (u := 3) (v := 4) (ty := 28) rfl tmps w g 28 #[.string key, .bool gone, .int .i64 k, .int .i64 n, .string s] fr _ hp hg Try.underlying28 rfl (by kernel_rfl)
  rw [h3, h4] at h
  refine bodyPost_ret h rfl ⟨?_, hb⟩
  unfold rr recV
  rw [str_bl, str_bl]

set_option maxHeartbeats 2000000 in
set_option maxRecDepth 100000 in
theorem rgof_c (key : List UInt8) (v : Value) (l : List UInt8) (w : World) (hv : RB w v l) :
    Calls Try.prog 76 #[.string (str key), v] w fun e w' => e = .returned (rr (gofR key l)) ∧ Below w.heap.size w w' := by
  have hrb := hv
  obtain ⟨a, cap, rfl, -⟩ := hv
  have c1 := fun W (h : RB W (.slice a l.length cap) l) => get_c (.slice a l.length cap) l W h
  have c2 := fun W (h : RB W (.slice a l.length cap) l) => vget_c (.slice a l.length cap) l W h
  rcases hr : getB l with ⟨x, m, e2⟩
  rcases hr3 : valB l with ⟨⟨vk, vn, vs⟩, q, e3⟩
  rw [hr] at c1
  rw [hr3] at c2
  unfold gv at c1
  unfold vv rawV at c2
  simp only [] at c1 c2
  have C1 := Go.Lib.hid c1; clear c1
  have C2 := Go.Lib.hid c2; clear c2
  have hR1 := Go.Lib.hid fun o => hrb.below (below_one w o)
  have hnew := Go.Lib.hid fun o => heap_alloc_new w o
  have hkk := bl_str key
  have hvs := bl_str vs
  have Hkk := Go.Lib.hid hkk; clear hkk
  have Hvs := Go.Lib.hid hvs; clear hvs
  by_cases hc : e2 = 0 ∧ x = 0
  · obtain ⟨rfl, rfl⟩ := hc
    have hv := gof_gone (key := key) hr
    rw [← Hkk.out] at hv
    have Hv := Go.Lib.hid hv; clear hv hr hr3 C2 hrb
    rw [Hkk.out] at Hv
    generalize str key = ks at *
    go_enter Try.func76, Try.ntmps76
    go_wp2_with fail
    refine (C1.out _ (hR1.out _)).mono ?_
    rintro e w1 ⟨rfl, rfl⟩
    go_wp2_with fail
    refine ret_rgof_at (m := m) rfl (hnew.out _) rfl rfl ?_ (below_one _ _)
    rw [Hv.out, Hkk.out]
    rfl
  · have hv := gof_val (key := key) hr hc hr3
    have Hv := Go.Lib.hid hv; clear hv hr3 hrb
    have Hc := Go.Lib.hid hc; clear hc hr
    generalize str key = ks at *
    generalize str vs = ss at *
    by_cases he : e2 = 0
    · have hx : (x == 0) = false := by
        have := Hc.out
        simp only [beq_eq_false_iff_ne, ne_eq]
        intro h
        exact this ⟨he, h⟩
      subst he
      clear Hc
      go_enter Try.func76, Try.ntmps76
      go_wp2_with fail
      refine (C1.out _ (hR1.out _)).mono ?_
      rintro e w1 ⟨rfl, rfl⟩
      go_wp2_with fail
      refine (C2.out _ (hR1.out _)).mono ?_
      rintro e w1 ⟨rfl, hb1⟩
      obtain ⟨hh, -⟩ := rec_box _ _ _ _ _ hb1
      unfold recO at hh
      have hlt := (Array.getElem?_eq_some_iff.1 hh).1
      have hA := (heap_alloc_old w1 (.cells #[.int .i64 vk, .int .i64 vn, .string ss] 26) hlt).trans hh
      have hbb := (below_one w (.cells #[.string ⟨#[]⟩, .bool false, .int .i64 0, .int .i64 0, .string ⟨#[]⟩] 28)).trans (hb1.mono (below_one w _).size)
      have hbb2 := hbb.trans ((below_one w1 (.cells #[.int .i64 vk, .int .i64 vn, .string ss] 26)).mono hbb.size)
      have HA := Go.Lib.hid hA; clear hA hh hb1 hlt
      go_wp2_with (first
        | (with_reducible show wpList _ _ _ (⟨none, Op.store 28 (.tmp 4) (.tmp 36), _, _, _, _⟩ :: _) _ _; go_loud (refine wpList_store_row rfl 28 (.tmp 4) (.tmp 36) rfl w.heap.size #[.string ks, .bool false, .int .i64 vk, .int .i64 vn, .string ss] rfl rfl 28 _ HA.out (by kernel_rfl) rfl (rec_cells_one ..) ?_))
        | fail)
      refine ret_rgof_at (m := q) rfl (setRow_heap _ _ _ _ _ (0, 0) HA.out) rfl rfl ?_ (setRow_below _ hbb2 (Nat.le_refl _))
      rw [Hv.out, Hkk.out, Hvs.out]
    · have he2 : (e2 == 0) = false := by simp [he]
      clear Hc he
      go_enter Try.func76, Try.ntmps76
      go_wp2_with fail
      refine (C1.out _ (hR1.out _)).mono ?_
      rintro e w1 ⟨rfl, rfl⟩
      go_wp2_with fail
      refine (C2.out _ (hR1.out _)).mono ?_
      rintro e w1 ⟨rfl, hb1⟩
      obtain ⟨hh, -⟩ := rec_box _ _ _ _ _ hb1
      unfold recO at hh
      have hlt := (Array.getElem?_eq_some_iff.1 hh).1
      have hA := (heap_alloc_old w1 (.cells #[.int .i64 vk, .int .i64 vn, .string ss] 26) hlt).trans hh
      have hbb := (below_one w (.cells #[.string ⟨#[]⟩, .bool false, .int .i64 0, .int .i64 0, .string ⟨#[]⟩] 28)).trans (hb1.mono (below_one w _).size)
      have hbb2 := hbb.trans ((below_one w1 (.cells #[.int .i64 vk, .int .i64 vn, .string ss] 26)).mono hbb.size)
      have HA := Go.Lib.hid hA; clear hA hh hb1 hlt
      go_wp2_with (first
        | (with_reducible show wpList _ _ _ (⟨none, Op.store 28 (.tmp 4) (.tmp 36), _, _, _, _⟩ :: _) _ _; go_loud (refine wpList_store_row rfl 28 (.tmp 4) (.tmp 36) rfl w.heap.size #[.string ks, .bool false, .int .i64 vk, .int .i64 vn, .string ss] rfl rfl 28 _ HA.out (by kernel_rfl) rfl (rec_cells_one ..) ?_))
        | fail)
      refine ret_rgof_at (m := q) rfl (setRow_heap _ _ _ _ _ (0, 0) HA.out) rfl rfl ?_ (setRow_below _ hbb2 (Nat.le_refl _))
      rw [Hv.out, Hkk.out, Hvs.out]

set_option maxHeartbeats 2000000 in
set_option maxRecDepth 100000 in
theorem pget_c (v : Value) (l : List UInt8) (w : World) (hv : RB w v l) :
    Calls Try.prog 57 #[v] w fun e w' => e = .returned (rr (readB l)) ∧ Below w.heap.size w w' := by
  have hrb := hv
  obtain ⟨a, cap, rfl, h1, h2, h3, h4⟩ := hv
  have hm : l.length ≤ 9223372036854775807 := by unfold maxLen at h2; omega
  clear h4 h3 h1 h2
  have hfit := textB_fits l
  have c1 := fun W (h : RB W (.slice a l.length cap) l) => getText_c (.slice a l.length cap) l W h
  rcases hr : textB l with ⟨key, p, er⟩
  rw [hr] at hfit c1
  unfold tv at c1
  simp only [] at hfit c1
  obtain ⟨f1, f2, f3, f4⟩ := hfit
  have C1 := Go.Lib.hid c1; clear c1
  have Hr := Go.Lib.hid hr; clear hr
  have hR1 := Go.Lib.hid fun o => hrb.below (below_one w o)
  have hnew := Go.Lib.hid fun o => heap_alloc_new w o
  by_cases he : er = 0
  · subst he
    clear f4
    have C2 := Go.Lib.hid fun W => kmay_c (str key) W (by rw [str_size]; omega)
    cases hmk : mayK (str key) with
    | false =>
      rw [hmk] at C2
      have hv := Go.Lib.hid (readB_e2 Hr.out hmk)
      clear hmk f1 f2 f3
      go_enter Try.func57, Try.ntmps57
      go_wp2_with fail
      refine (C1.out _ (hR1.out _)).mono ?_
      rintro e w1 ⟨rfl, rfl⟩
      go_wp2_with fail
      refine (C2.out _).mono ?_
      rintro e w1 ⟨rfl, hb1⟩
      obtain ⟨hh, -⟩ := rec_box _ _ _ _ _ hb1
      unfold recO at hh
      have hbb := (below_one w (.cells #[.string ⟨#[]⟩, .bool false, .int .i64 0, .int .i64 0, .string ⟨#[]⟩] 28)).trans (hb1.mono (below_one w _).size)
      have HA := Go.Lib.hid hh; clear hh hb1
      go_wp2_with (first
        | (with_reducible show wpList _ _ _ (⟨none, Op.store 28 (.tmp 2) (.tmp 23), _, _, _, _⟩ :: _) _ _; go_loud (refine wpList_store_row rfl 28 (.tmp 2) (.tmp 23) rfl w.heap.size #[.string ⟨#[]⟩, .bool false, .int .i64 0, .int .i64 0, .string ⟨#[]⟩] rfl rfl 28 _ HA.out (by kernel_rfl) rfl (rec_cells_one ..) ?_))
        | fail)
      exact ret_rget_at (m := 0) rfl (setRow_heap _ _ _ _ _ (0, 0) HA.out) rfl rfl hv.out (setRow_below _ hbb (Nat.le_refl _))
    | true =>
      rw [hmk] at C2
      have Hmk := Go.Lib.hid hmk; clear hmk
      have hfit2 := gofR_fits key (l.drop p)
      have c3 := fun v' W (h : RB W v' (l.drop p)) => rgof_c key v' (l.drop p) W h
      rcases hr2 : gofR key (l.drop p) with ⟨⟨xk, xg, xa, xn, xs⟩, m, e2⟩
      rw [hr2] at c3 hfit2
      unfold rr recV at c3
      simp only [] at c3 hfit2
      obtain ⟨q1, -⟩ := hfit2
      have C3 := Go.Lib.hid c3; clear c3
      have hv := readB_gof Hr.out Hmk.out hr2
      clear hr2
      have Hkk := Go.Lib.hid (bl_str xk)
      have Hss := Go.Lib.hid (bl_str xs)
      have hadd : IntKind.i64.wrap ((p : Int) + (m : Int)) = ((p + m : Nat) : Int) := by rw [IntKind.wrap_i64]; omega
      by_cases he2 : e2 = 0
      · subst he2
        rw [if_pos rfl] at hv
        have Hv := Go.Lib.hid hv; clear hv
        have Hadd := Go.Lib.hid hadd; clear hadd q1
        generalize str xk = ks at *
        generalize str xs = ss at *
        go_enter Try.func57, Try.ntmps57
        go_wp2_with fail
        refine (C1.out _ (hR1.out _)).mono ?_
        rintro e w1 ⟨rfl, rfl⟩
        go_wp2_with fail
        refine (C2.out _).mono ?_
        rintro e w1 ⟨rfl, hb1⟩
        have hR2 := (hR1.out _).below hb1
        go_wp2_with (first
          | (with_reducible show wpList _ _ _ (⟨some 28, _, _, _, _, _⟩ :: _) _ _; go_loud (refine wpList_slice_l rfl (.tmp 26) (.tmp 27) 40 rfl 5 Try.underlying40 info8 (.slice a l.length cap) l .i64 _ p rfl rfl rfl hR2 f1 ?_); intro v3 hv3)
          | fail)
        refine (C3.out _ _ hv3).mono ?_
        rintro e w2 ⟨rfl, hb2⟩
        have hb1 := hb1.trans (hb2.mono hb1.size)
        obtain ⟨hh, -⟩ := rec_box _ _ _ _ _ hb1
        unfold recO at hh
        have hlt := (Array.getElem?_eq_some_iff.1 hh).1
        have hA := (heap_alloc_old w2 (.cells #[.string ks, .bool xg, .int .i64 xa, .int .i64 xn, .string ss] 28) hlt).trans hh
        have hbb := (below_one w (.cells #[.string ⟨#[]⟩, .bool false, .int .i64 0, .int .i64 0, .string ⟨#[]⟩] 28)).trans (hb1.mono (below_one w _).size)
        have hbb2 := hbb.trans ((below_one w2 (.cells #[.string ks, .bool xg, .int .i64 xa, .int .i64 xn, .string ss] 28)).mono hbb.size)
        have HA := Go.Lib.hid hA; clear hA hh hb1 hlt hb2 hv3 hR2
        have hadd := Hadd.out
        go_wp2_with (first
          | (with_reducible show wpList _ _ _ (⟨none, Op.store 28 (.tmp 2) (.tmp 37), _, _, _, _⟩ :: _) _ _; go_loud (refine wpList_store_row rfl 28 (.tmp 2) (.tmp 37) rfl w.heap.size #[.string ks, .bool xg, .int .i64 xa, .int .i64 xn, .string ss] rfl rfl 28 _ HA.out (by kernel_rfl) rfl (rec_cells_one ..) ?_))
          | fail)
        refine ret_rget_at (m := p + m) rfl (setRow_heap _ _ _ _ _ (0, 0) HA.out) rfl rfl ?_ (setRow_below _ hbb2 (Nat.le_refl _))
        rw [Hv.out, Hkk.out, Hss.out]
      · rw [if_neg he2] at hv
        have he2b : (e2 == 0) = false := by simp [he2]
        have Hv := Go.Lib.hid hv; clear hv hadd q1 he2
        generalize str xk = ks at *
        generalize str xs = ss at *
        go_enter Try.func57, Try.ntmps57
        go_wp2_with fail
        refine (C1.out _ (hR1.out _)).mono ?_
        rintro e w1 ⟨rfl, rfl⟩
        go_wp2_with fail
        refine (C2.out _).mono ?_
        rintro e w1 ⟨rfl, hb1⟩
        have hR2 := (hR1.out _).below hb1
        go_wp2_with (first
          | (with_reducible show wpList _ _ _ (⟨some 28, _, _, _, _, _⟩ :: _) _ _; go_loud (refine wpList_slice_l rfl (.tmp 26) (.tmp 27) 40 rfl 5 Try.underlying40 info8 (.slice a l.length cap) l .i64 _ p rfl rfl rfl hR2 f1 ?_); intro v3 hv3)
          | fail)
        refine (C3.out _ _ hv3).mono ?_
        rintro e w2 ⟨rfl, hb2⟩
        have hb1 := hb1.trans (hb2.mono hb1.size)
        obtain ⟨hh, -⟩ := rec_box _ _ _ _ _ hb1
        unfold recO at hh
        have hlt := (Array.getElem?_eq_some_iff.1 hh).1
        have hA := (heap_alloc_old w2 (.cells #[.string ks, .bool xg, .int .i64 xa, .int .i64 xn, .string ss] 28) hlt).trans hh
        have hbb := (below_one w (.cells #[.string ⟨#[]⟩, .bool false, .int .i64 0, .int .i64 0, .string ⟨#[]⟩] 28)).trans (hb1.mono (below_one w _).size)
        have hbb2 := hbb.trans ((below_one w2 (.cells #[.string ks, .bool xg, .int .i64 xa, .int .i64 xn, .string ss] 28)).mono hbb.size)
        have HA := Go.Lib.hid hA; clear hA hh hb1 hlt hb2 hv3 hR2
        go_wp2_with (first
          | (with_reducible show wpList _ _ _ (⟨none, Op.store 28 (.tmp 2) (.tmp 35), _, _, _, _⟩ :: _) _ _; go_loud (refine wpList_store_row rfl 28 (.tmp 2) (.tmp 35) rfl w.heap.size #[.string ⟨#[]⟩, .bool false, .int .i64 0, .int .i64 0, .string ⟨#[]⟩] rfl rfl 28 _ HA.out (by kernel_rfl) rfl (rec_cells_one ..) ?_))
          | fail)
        exact ret_rget_at (m := 0) rfl (setRow_heap _ _ _ _ _ (0, 0) HA.out) rfl rfl Hv.out (setRow_below _ hbb2 (Nat.le_refl _))
  · have hv := Go.Lib.hid (readB_e1 Hr.out he)
    have heb : (er == 0) = false := by simp [he]
    clear f1 f2 f3 he
    go_enter Try.func57, Try.ntmps57
    go_wp2_with fail
    refine (C1.out _ (hR1.out _)).mono ?_
    rintro e w1 ⟨rfl, rfl⟩
    go_wp2_with fail
    exact ret_rget_at (m := 0) rfl (hnew.out _) rfl rfl hv.out (below_one _ _)

end Go.Proofs.Ytgalppnpmfpdbaa

namespace Go.Proofs.Ytgalppnpmfpdbaa
open Go.RowKit

def outE (o : Option (RecT × Nat)) : Value := match o with
  | some (r, n) => .tuple #[recOf r, .int .i64 (n : Int), .bool true]
  | none => .tuple #[recOf nullR, .int .i64 0, .bool false]

theorem ret_gete_at {w w0 : World} {tmps : Array Value} {key : ByteArray} {gone : Bool} {k n : Int} {s : ByteArray} {m b v : Value} {g : Nat} {fr : Nat × Nat}
    (hp : tmps.getD 2 undef = .pointer (some ⟨g, 0, none⟩)) (hg : w.heap[g]? = some (.cells #[.string key, .bool gone, .int .i64 k, .int .i64 n, .string s] 28 fr)) (h3 : tmps.getD 3 undef = m) (h4 : tmps.getD 4 undef = b)
    (hr : v = .tuple #[.agg #[.string key, .bool gone, .int .i64 k, .int .i64 n, .string s], m, b]) (hb : Below w0.heap.size w0 w) : bodyPost Try.prog Try.f35 (fun e w' => e = .returned v ∧ Below w0.heap.size w0 w') Exit.ret { tmps := tmps, defers := [] } w := by
  subst hr
  have h := results_row_two (P := Try.prog) (fn := Try.f35) (p := 2) (u := 3) (v := 4) (ty := 28) rfl tmps w g 28 #[.string key, .bool gone, .int .i64 k, .int .i64 n, .string s] fr _ hp hg Try.underlying28 rfl (by kernel_rfl)
  rw [h3, h4] at h
  exact bodyPost_ret h rfl ⟨rfl, hb⟩

theorem or16 (a b : UInt8) : bits .or .i64 ((a.toNat : Int) * 256) (b.toNat : Int) = ((a.toNat * 256 + b.toNat : Nat) : Int) := by
  have ha := a.toNat_lt
  have hb := b.toNat_lt
  rw [bits_join .i64 16 (by decide) (fun n h0 h1 => by rw [IntKind.wrap_i64]; omega) 8 _ _ (by omega) (by omega) (by omega) (by omega) (by omega) (by omega)]
  simp

set_option maxHeartbeats 2000000 in
set_option maxRecDepth 100000 in
theorem getentry_c (v : Value) (l : List UInt8) (w : World) (hv : RB w v l) :
    Calls Try.prog 35 #[v] w fun e w' => e = .returned (outE (getE l)) ∧ Below w.heap.size w w' := by
  obtain ⟨OUT, hOUT⟩ : ∃ OUT, OUT = outE (getE l) := ⟨_, rfl⟩
  rw [← hOUT]
  obtain ⟨a, cap, rfl, hlc, hcm, -, -⟩ := id hv
  have hbb := below_one w (.cells #[.string ⟨#[]⟩, .bool false, .int .i64 0, .int .i64 0, .string ⟨#[]⟩] 28)
  have HA := Go.Lib.hid (heap_alloc_new w (.cells #[.string ⟨#[]⟩, .bool false, .int .i64 0, .int .i64 0, .string ⟨#[]⟩] 28))
  have HB := Go.Lib.hid hbb
  have HR := Go.Lib.hid (hv.below hbb)
  have hm : l.length ≤ 9223372036854775807 := by unfold maxLen at hcm; omega
  clear hbb hv hlc hcm
  by_cases h2 : l.length < 2
  · have h2I : (l.length : Int) < 2 := by omega
    have HE := Go.Lib.hid (show OUT = outE none by rw [hOUT]; unfold getE; rw [if_pos h2])
    clear hOUT h2
    go_enter Try.func35, Try.ntmps35
    go_wp2_with (first
      | (with_reducible show wpList _ _ _ (⟨none, Op.store 28 (.tmp 2) (.tmp 12), _, _, _, _⟩ :: _) _ _; go_loud (refine wpList_store_row rfl 28 (.tmp 2) (.tmp 12) rfl w.heap.size #[.string ⟨#[]⟩, .bool false, .int .i64 0, .int .i64 0, .string ⟨#[]⟩] rfl rfl 28 _ HA.out (by kernel_rfl) rfl (rec_cells_one ..) ?_))
      | fail)
    exact ret_gete_at rfl (setRow_heap _ _ _ _ _ (0, 0) HA.out) rfl rfl HE.out (setRow_below _ HB.out (Nat.le_refl _))
  · have h2I : ¬ (l.length : Int) < 2 := by omega
    obtain ⟨b, o, rfl, y0⟩ := HR.out.at 0 (by omega)
    obtain ⟨b', o', he, y1⟩ := HR.out.at 1 (by omega)
    simp only [Option.some.injEq, Addr.mk.injEq] at he
    obtain ⟨rfl, rfl, -⟩ := he
    rw [Nat.add_zero] at y0
    have hl0 : 0 < l.length := by omega
    have hl1 : 1 < l.length := by omega
    have hl1I : (1 : Int) < (l.length : Int) := by omega
    have HG0 := Go.Lib.hid (show l.getD 0 0 = l[0] by rw [List.getD_eq_getElem?_getD, List.getElem?_eq_getElem hl0]; rfl)
    have HG1 := Go.Lib.hid (show l.getD 1 0 = l[1] by rw [List.getD_eq_getElem?_getD, List.getElem?_eq_getElem hl1]; rfl)
    generalize l[0] = q0 at *
    generalize l[1] = q1 at *
    have hq0 := q0.toNat_lt
    have hq1 := q1.toNat_lt
    go_enter Try.func35, Try.ntmps35
    go_upto_region 3 with (fail)
    obtain ⟨g, hg⟩ : ∃ g, g = w.heap.size := ⟨_, rfl⟩
    rw [← hg] at HA ⊢
    generalize w.alloc (.cells #[.string ⟨#[]⟩, .bool false, .int .i64 0, .int .i64 0, .string ⟨#[]⟩] 28) = w1 at *
    go_region
    rw [or16 q0 q1]
    obtain ⟨T, hT⟩ : ∃ T, T = q0.toNat * 256 + q1.toNat := ⟨_, rfl⟩
    have HGE := Go.Lib.hid (show OUT = outE (if (readB (l.drop 2)).2.2 ≠ 0 ∨ T ≠ tagN (hR (unR (readB (l.drop 2)).1)) then none else some (unR (readB (l.drop 2)).1, 2 + (readB (l.drop 2)).2.1)) from by
      rw [hOUT]
      unfold getE
      rw [if_neg h2, HG0.out, HG1.out, ← hT])
    rw [← hT]
    have HT := Go.Lib.hid hT
    have hbd : Below w1.heap.size w1 w1.drew := below_drewN (Below.refl _ _) 1
    have HA2 := Go.Lib.hid (show w1.drew.heap[g]? = _ from HA.out)
    have HR2 := Go.Lib.hid (HR.out.below hbd)
    have HB2 := Go.Lib.hid (HB.out.trans (hbd.mono HB.out.size))
    have HGW := Go.Lib.hid (show w.heap.size ≤ g by omega)
    have HFIT := Go.Lib.hid (fun (h : (readB (l.drop 2)).2.2 = 0) => readB_canon (l := l.drop 2) (r := (readB (l.drop 2)).1) (m := (readB (l.drop 2)).2.1) (by rw [← h]))
    have HLL := Go.Lib.hid (show (l.drop 2).length = l.length - 2 from List.length_drop)
    clear hbd HA HR HB y0 y1 hg hT hOUT h2
    generalize w1.drew = w2 at *
    go_wp2_with (first
      | (with_reducible show wpList _ _ _ (⟨some 25, _, _, _, _, _⟩ :: _) _ _; go_loud (refine wpList_slice_l rfl (.tmp 24) (.const (.int .i64 2)) 40 rfl 5 Try.underlying40 info8 (.slice (some ⟨b, o, none⟩) l.length cap) l .i64 2 2 rfl rfl rfl HR2.out (by omega) ?_); intro v3 hr3)
      | fail)
    have CG := pget_c v3 (l.drop 2) w2 hr3
    unfold rr recV at CG
    generalize readB (l.drop 2) = rd at *
    obtain ⟨⟨key, gone, k, n, s⟩, m, e⟩ := rd
    simp only [] at CG HGE HFIT
    have CG := Go.Lib.hid CG
    have HUN := Go.Lib.hid (show unR (key, gone, k, n, s) = (str key, gone, k, n, str s) from rfl)
    rw [HUN.out] at HGE HFIT
    generalize str key = ky at *
    generalize str s = sy at *
    clear hr3 HR2
    refine CG.out.mono ?_
    rintro e2 w3 ⟨rfl, hc⟩
    have hb4 := below_one w3 (.cells #[.string ky, .bool gone, .int .i64 k, .int .i64 n, .string sy] 28)
    have HX4 := Go.Lib.hid (heap_alloc_new w3 (.cells #[.string ky, .bool gone, .int .i64 k, .int .i64 n, .string sy] 28))
    have hc4 := hc.trans (hb4.mono hc.size)
    have HA4 := Go.Lib.hid (row_kept HA2.out hc4)
    have HB4 := Go.Lib.hid (HB2.out.trans (hc4.mono HB2.out.size))
    clear hc hb4 hc4 HA2 HB2 CG
    by_cases he : e = 0
    · subst he
      obtain ⟨k1, k2, -, k4⟩ := HFIT.out rfl
      have hsz := (mayT_short k1).1
      simp only [] at hsz
      have CH := Go.Lib.hid fun W => hof_k ky (hashS ky) rfl W (by omega)
      have CT := Go.Lib.hid fun W => htag_c (hashS ky) W (hashS_lt ky)
      have HTG := Go.Lib.hid (show tagN (hR (ky, gone, k, n, sy)) = tagN (hashS ky) from rfl)
      rw [HTG.out] at HGE
      have hadd : IntKind.i64.wrap (2 + (m : Int)) = 2 + (m : Int) := by rw [IntKind.wrap_i64]; have := HLL.out; omega
      clear hsz k1 k2 k4 HFIT
      generalize tagN (hashS ky) = tg at *
      generalize hashS ky = hx at *
      go_upto_region 5 with (fail)
      obtain ⟨g4, hg4⟩ : ∃ g4, g4 = w3.heap.size := ⟨_, rfl⟩
      rw [← hg4] at HX4 ⊢
      clear hg4
      generalize w3.alloc (.cells #[.string ky, .bool gone, .int .i64 k, .int .i64 n, .string sy] 28) = w4 at *
      obtain ⟨x0, x1, x2, x3, x4⟩ := row5 HX4.out
      go_wp2_with fail
      refine (CH.out _).mono ?_
      rintro e2 w5 ⟨rfl, hc⟩
      have HX5 := Go.Lib.hid (row_kept HX4.out hc)
      have HA5 := Go.Lib.hid (row_kept HA4.out hc)
      have HB5 := Go.Lib.hid (HB4.out.trans (hc.mono HB4.out.size))
      clear hc CH HX4 HA4 HB4 x0 x1 x2 x3 x4
      obtain ⟨x0, x1, x2, x3, x4⟩ := row5 HX5.out
      go_wp2_with fail
      refine (CT.out _).mono ?_
      rintro e2 w6 ⟨rfl, rfl⟩
      clear CT
      by_cases ht : T = tg
      · have htI : ((T : Int) != (tg : Int)) = false := by rw [ht]; simp
        have HE := Go.Lib.hid (show OUT = outE (some ((ky, gone, k, n, sy), 2 + m)) from by rw [HGE.out, if_neg (by simp [ht])])
        clear HGE ht
        go_wp2_with (first
          | (with_reducible show wpList _ _ _ (⟨none, Op.store 28 (.tmp 2) (.tmp 41), _, _, _, _⟩ :: _) _ _; go_loud (refine wpList_store_row rfl 28 (.tmp 2) (.tmp 41) rfl g #[.string ky, .bool gone, .int .i64 k, .int .i64 n, .string sy] rfl rfl 28 _ HA5.out (by kernel_rfl) rfl (rec_cells_one ..) ?_))
          | fail)
        exact ret_gete_at rfl (setRow_heap _ _ _ _ _ (0, 0) HA5.out) rfl rfl (by rw [HE.out]; unfold outE recOf recV; simp only [Int.natCast_add]; rfl) (setRow_below _ HB5.out HGW.out)
      · have htI : ((T : Int) != (tg : Int)) = true := by simp only [bne_iff_ne]; omega
        have HE := Go.Lib.hid (show OUT = outE none from by rw [HGE.out, if_pos (.inr ht)])
        clear HGE ht
        go_wp2_with (first
          | (with_reducible show wpList _ _ _ (⟨none, Op.store 28 (.tmp 2) (.tmp 40), _, _, _, _⟩ :: _) _ _; go_loud (refine wpList_store_row rfl 28 (.tmp 2) (.tmp 40) rfl g #[.string ⟨#[]⟩, .bool false, .int .i64 0, .int .i64 0, .string ⟨#[]⟩] rfl rfl 28 _ HA5.out (by kernel_rfl) rfl (rec_cells_one ..) ?_))
          | fail)
        exact ret_gete_at rfl (setRow_heap _ _ _ _ _ (0, 0) HA5.out) rfl rfl HE.out (setRow_below _ HB5.out HGW.out)
    · have heI : ((e : Int) != 0) = true := by simp only [bne_iff_ne]; exact he
      have HE := Go.Lib.hid (show OUT = outE none from by rw [HGE.out, if_pos (.inl he)])
      clear HGE HFIT he
      go_upto_region 5 with (fail)
      generalize w3.alloc (.cells #[.string ky, .bool gone, .int .i64 k, .int .i64 n, .string sy] 28) = w4 at *
      go_wp2_with (first
        | (with_reducible show wpList _ _ _ (⟨none, Op.store 28 (.tmp 2) (.tmp 40), _, _, _, _⟩ :: _) _ _; go_loud (refine wpList_store_row rfl 28 (.tmp 2) (.tmp 40) rfl g #[.string ⟨#[]⟩, .bool false, .int .i64 0, .int .i64 0, .string ⟨#[]⟩] rfl rfl 28 _ HA4.out (by kernel_rfl) rfl (rec_cells_one ..) ?_))
        | fail)
      exact ret_gete_at rfl (setRow_heap _ _ _ _ _ (0, 0) HA4.out) rfl rfl HE.out (setRow_below _ HB4.out HGW.out)
end Go.Proofs.Ytgalppnpmfpdbaa

namespace Go.Proofs.Ytgalppnpmfpdbaa
open Go.RowKit

/-- Does operation i wait for operation j, by whatever way? -/
def aheadB (ops : Array Oper) (i j : Nat) : Bool := (reach ops ops.size (edges ops i)).contains j

section
variable {P : Program} {ops : Array Oper} {Q : Exit → Act → World → Prop}

structure HeldI (ops : Array Oper) (V : Nat → World → Value → Prop) (I : (Nat → Bool) → World → Prop) (a0 : Act) (listed : Array Bool) (a : Act) (w : World) : Prop where
  size : listed.size = ops.size
  inv : I (fun j => listed.getD j false) w
  defers : a.defers = a0.defers
  len : a.tmps.size = a0.tmps.size
  old : ∀ t : Nat, (∀ (i : Nat) (o : Oper), ops[i]? = some o → o.dst = some t → listed.getD i false = false) → a.tmps[t]? = a0.tmps[t]?
  new : ∀ (i : Nat) (o : Oper) (t : Nat), ops[i]? = some o → o.dst = some t → listed.getD i false = true → ∃ v, a.tmps[t]? = some v ∧ V t w v
  shut : ∀ (i : Nat) (o : Oper), ops[i]? = some o → listed.getD i false = true → ∀ e ∈ o.after, Region.binds .any e = true → listed.getD e.on false = true

/-- Operation i has been carried out too. -/
def doneToo (done : Nat → Bool) (i : Nat) : Nat → Bool := fun j => if j = i then true else done j
theorem doneToo_other {done : Nat → Bool} {i j : Nat} (h : j ≠ i) : doneToo done i j = done j := by unfold doneToo; rw [if_neg h]
theorem doneToo_self (done : Nat → Bool) (i : Nat) : doneToo done i i = true := by unfold doneToo; rw [if_pos rfl]

/-- Slot t has been written. -/
def Wrote (ops : Array Oper) (done : Nat → Bool) (t : Nat) : Prop := ∃ (j : Nat) (p : Oper), ops[j]? = some p ∧ p.dst = some t ∧ done j = true
/-- Operation i alone writes slot t. -/
def soleB (ops : Array Oper) (i t : Nat) : Bool := (List.range ops.size).all fun j => match ops[j]? with | some p => p.dst != some t || j == i | none => true
theorem not_wrote {ops : Array Oper} {done : Nat → Bool} {i t : Nat} (hs : soleB ops i t = true) (hn : done i = false) : ¬ Wrote ops done t := by
  rintro ⟨j, p, hj, hd, hdone⟩
  unfold soleB at hs
  rw [List.all_eq_true] at hs
  have h1 := hs j (by rw [List.mem_range]; exact (Array.getElem?_eq_some_iff.1 hj).1)
  rw [hj] at h1
  simp only [hd, bne_self_eq_false, Bool.false_or, beq_iff_eq] at h1
  rw [h1, hn] at hdone
  cases hdone

theorem wp_region_inv2 {id : Nat} {a0 : Act} {w0 : World} (hm : P.follows .mixedOrders = true) (V : Nat → World → Value → Prop) (I : (Nat → Bool) → World → Prop)
    (htidy : tidyB ops = true) (hlow : lowB ops = true) (hdst : (ops.toList.all fun o => match o.dst with | some t => decide (t < a0.tmps.size) | none => true) = true)
    (l : List Nat) (hl : dsts ops = l) (h0 : I (fun _ => false) w0.drew)
    (hstep : ∀ (i : Nat) (o : Oper), ops[i]? = some o → ∀ (a : Act) (w : World) (done : Nat → Bool), I done w → done i = false → (∀ j, aheadB ops i j = true → done j = true) → a.tmps.size = a0.tmps.size → Given ops V a0 o a w →
      wpOp P ops Q i (fun a' w' => ∃ v, a' = a.put o.dst v ∧ I (doneToo done i) w' ∧ (∀ t u, Wrote ops done t → V t w u → V t w' u) ∧ ∀ t, o.dst = some t → V t w' v) a w)
    (hend : ∀ (f : Nat → Value) (w : World) (done : Nat → Bool), (∀ i, i < ops.size → done i = true) → I done w → (∀ t, t ∈ l → V t w (f t)) → Q .normal (putAll a0 f l) w) :
    (Code.region id ops true).wp P Q a0 w0 := by
  have hdd : ∀ (i : Nat) (o : Oper) (t : Nat), ops[i]? = some o → o.dst = some t → t < a0.tmps.size := by
    intro i o t ho hod
    rw [List.all_eq_true] at hdst
    have h1 := hdst o (by obtain ⟨h, rfl⟩ := Array.getElem?_eq_some_iff.1 ho; simp)
    rw [hod] at h1
    exact of_decide_eq_true h1
  have hmem : ∀ t, t ∈ l ↔ ∃ (i : Nat) (o : Oper), ops[i]? = some o ∧ o.dst = some t := by
    intro t
    rw [← hl, dsts, List.mem_filterMap]
    constructor
    · rintro ⟨o, ho, hot⟩
      obtain ⟨i, hi, rfl⟩ := List.mem_iff_getElem.1 ho
      have hi' : i < ops.size := by simpa using hi
      exact ⟨i, ops[i], by simp [hi'], by simpa using hot⟩
    · rintro ⟨i, o, ho, hot⟩
      obtain ⟨h, rfl⟩ := Array.getElem?_eq_some_iff.1 ho
      exact ⟨ops[i], by simp, hot⟩
  refine wp_region_any hm ?_
  have hfin : ∀ (listed : Array Bool) (a : Act) (w : World), HeldI ops V I a0 listed a w → Region.ready .any ops listed = [] → Q .normal a w := by
    intro listed a w h hr
    have hall := listed_all hlow h.size hr
    have hf : ∀ t, t ∈ l → ∃ v, a.tmps[t]? = some v ∧ V t w v := fun t ht => by
      obtain ⟨i, o, ho, hot⟩ := (hmem t).1 ht
      exact h.new i o t ho hot (hall i o ho)
    have ha : a = putAll a0 (fun t => a.tmps.getD t undef) l := by
      have hdef := h.defers
      have hlen := h.len
      have hold := h.old
      obtain ⟨tm, df⟩ := a
      obtain ⟨h1, h2⟩ := putAll_size (fun t => tm.getD t undef) l a0
      have h3 : tm = (putAll a0 (fun t => tm.getD t undef) l).tmps := by
        apply Array.ext_getElem?
        intro t
        rw [putAll_tmps]
        by_cases ht : t ∈ l
        · obtain ⟨v, hv, -⟩ := hf t ht
          simp only [] at hv
          have hts : t < a0.tmps.size := by rw [← hlen]; exact (Array.getElem?_eq_some_iff.1 hv).1
          rw [if_pos ⟨ht, hts⟩, Array.getD_eq_getD_getElem?, hv]
          rfl
        · rw [if_neg (fun h => ht h.1)]
          exact hold t fun i o ho hot => absurd ((hmem t).2 ⟨i, o, ho, hot⟩) ht
      have h4 : df = (putAll a0 (fun t => tm.getD t undef) l).defers := by rw [h2]; exact hdef
      calc (⟨tm, df⟩ : Act) = ⟨(putAll a0 (fun t => tm.getD t undef) l).tmps, (putAll a0 (fun t => tm.getD t undef) l).defers⟩ := by rw [← h3, ← h4]
        _ = _ := rfl
    rw [ha]
    refine hend _ w _ (fun i hi => hall i ops[i] (by simp [hi])) h.inv fun t ht => ?_
    obtain ⟨v, hv, hVv⟩ := hf t ht
    rw [Array.getD_eq_getD_getElem?, hv]
    exact hVv
  have key : ∀ (fuel : Nat) (listed : Array Bool) (a : Act) (w : World), HeldI ops V I a0 listed a w →
      (List.range ops.size).countP (fun j => !listed.getD j true) ≤ fuel → wpAny P .any ops Q fuel listed a w := by
    intro fuel
    induction fuel with
    | zero =>
      intro listed a w h hcount
      have hr : Region.ready .any ops listed = [] := by
        cases hrr : Region.ready .any ops listed with
        | nil => rfl
        | cons x xs =>
          have hx : x ∈ Region.ready .any ops listed := by rw [hrr]; simp
          obtain ⟨hun, o, ho, -⟩ := mem_ready.1 hx
          have : 0 < (List.range ops.size).countP (fun j => !listed.getD j true) := List.countP_pos_iff.2 ⟨x, by rw [List.mem_range]; exact (Array.getElem?_eq_some_iff.1 ho).1, by rw [hun]; rfl⟩
          omega
      exact ⟨hr, hfin _ _ _ h hr⟩
    | succ fuel ih =>
      intro listed a w h hcount
      refine ⟨fun hr => hfin _ _ _ h hr, fun i hi => ?_⟩
      obtain ⟨hun, o, ho, hall⟩ := mem_ready.1 hi
      have hil : i < listed.size := by
        rw [h.size]
        exact (Array.getElem?_eq_some_iff.1 ho).1
      have hunf := getD_false_of hil hun
      have hgiven : Given ops V a0 o a w := by
        intro t ht
        refine ⟨fun hf => ?_, fun hf => ?_⟩
        · unfold fedB at hf
          rw [Array.any_eq_true] at hf
          obtain ⟨k, hk, hke⟩ := hf
          simp only [Bool.and_eq_true] at hke
          obtain ⟨hb, hw⟩ := hke
          have hl := hall o.after[k] (Array.getElem_mem hk) hb
          cases hp : ops[(o.after[k]).on]? with
          | none => rw [hp] at hw; cases hw
          | some p =>
            rw [hp] at hw
            exact h.new _ p t hp (by simpa using hw) hl
        · refine h.old t fun j p hj hd => ?_
          have hti := htidy
          unfold tidyB at hti
          rw [List.all_eq_true] at hti
          have h1 := hti i (by rw [List.mem_range]; exact (Array.getElem?_eq_some_iff.1 ho).1)
          rw [ho] at h1
          simp only [List.all_eq_true] at h1
          have h2 := h1 t ht
          rw [hf, Bool.false_or] at h2
          unfold lateB at h2
          rw [List.all_eq_true] at h2
          have h3 := h2 j (by rw [List.mem_range]; exact (Array.getElem?_eq_some_iff.1 hj).1)
          rw [hj] at h3
          simp only [hd, bne_self_eq_false, Bool.false_or, Array.any_eq_true, Bool.and_eq_true] at h3
          obtain ⟨k, hk, hb, hon⟩ := h3
          cases hlj : listed.getD j false with
          | false => rfl
          | true =>
            have := h.shut j p hj hlj p.after[k] (Array.getElem_mem hk) hb
            rw [show (p.after[k]).on = i from by simpa using hon, hunf] at this
            cases this
      have hreach : ∀ j, aheadB ops i j = true → listed.getD j false = true := fun j hj => by
        unfold aheadB at hj
        rw [List.contains_iff_mem] at hj
        refine reach_listed h.shut ops.size (edges ops i) (fun x hx => ?_) j hj
        obtain ⟨e, he, hb, rfl⟩ := edges_mem ho hx
        exact hall e he hb
      refine wpOp_mono ?_ (hstep i o ho a w _ h.inv hunf hreach h.len hgiven)
      rintro a' w' ⟨v, rfl, hI, hst, hv⟩
      have hpd : (a.put o.dst v).defers = a.defers := by unfold Act.put; split <;> rfl
      have hps : (a.put o.dst v).tmps.size = a.tmps.size := by unfold Act.put; split <;> simp
      have hpo : ∀ t : Nat, o.dst ≠ some t → (a.put o.dst v).tmps[t]? = a.tmps[t]? := by
        intro t ht
        unfold Act.put
        split
        · rename_i d hd
          exact Array.getElem?_setIfInBounds_ne (fun e => ht (by rw [hd, e]))
        · rfl
      have hpn : ∀ t : Nat, o.dst = some t → (a.put o.dst v).tmps[t]? = some v := by
        intro t ht
        have hts : t < a.tmps.size := by rw [h.len]; exact hdd i o t ho ht
        unfold Act.put
        rw [ht]
        simp [hts]
      have hset : ∀ j, (listed.setIfInBounds i true).getD j false = if j = i then true else listed.getD j false := by
        intro j
        by_cases hji : j = i
        · subst hji; simp [hil]
        · simp [hji, Array.getElem?_setIfInBounds_ne (Ne.symm hji), Array.getD_eq_getD_getElem?]
      have hdone : (fun j => (listed.setIfInBounds i true).getD j false) = doneToo (fun j => listed.getD j false) i := by
        funext j
        rw [hset]
        rfl
      refine ih _ _ _ ⟨by simpa using h.size, by rw [hdone]; exact hI, ?_, ?_, ?_, ?_, ?_⟩ ?_
      · rw [hpd]; exact h.defers
      · rw [hps]; exact h.len
      · intro t ht
        have hdt : o.dst ≠ some t := by
          intro e
          have := ht i o ho e
          rw [hset, if_pos rfl] at this
          cases this
        rw [hpo t hdt]
        refine h.old t fun j p hj hdj => ?_
        have := ht j p hj hdj
        rw [hset] at this
        split at this
        · cases this
        · exact this
      · intro j p t hj hdj hlj
        by_cases hdt : o.dst = some t
        · exact ⟨v, hpn t hdt, hv t hdt⟩
        · rw [hpo t hdt]
          rw [hset] at hlj
          split at hlj
          · rename_i hji
            subst hji
            rw [ho] at hj
            cases hj
            exact absurd hdj hdt
          · obtain ⟨u, hu, hVu⟩ := h.new j p t hj hdj hlj
            exact ⟨u, hu, hst _ _ ⟨j, p, hj, hdj, hlj⟩ hVu⟩
      · intro j p hj hlj e he hbe
        rw [hset] at hlj ⊢
        split
        · rfl
        · split at hlj
          · rename_i hji
            subst hji
            rw [ho] at hj
            cases hj
            exact hall e he hbe
          · exact h.shut j p hj hlj e he hbe
      · have : (List.range ops.size).countP (fun j => !(listed.setIfInBounds i true).getD j true) < (List.range ops.size).countP (fun j => !listed.getD j true) := by
          refine countP_lt (i := i) (fun j hj hq => ?_) (by rw [List.mem_range, ← h.size]; exact hil) (by rw [hun]; rfl) (by simp [hil])
          by_cases hji : j = i
          · subst hji; rw [hun]; rfl
          · simp only [Array.getD_eq_getD_getElem?] at hq ⊢
            rwa [Array.getElem?_setIfInBounds_ne (Ne.symm hji)] at hq
        omega
  refine key ops.size _ _ _ ⟨by simp, ?_, rfl, rfl, fun _ _ => rfl, fun i o t hi _ hl => ?_, fun i o hi hl => ?_⟩ ?_
  · have : (fun j => (Array.replicate ops.size false).getD j false) = fun _ => false := by
      funext j
      rw [Array.getD_eq_getD_getElem?, Array.getElem?_replicate]
      split <;> rfl
    rw [this]
    exact h0
  · rw [Array.getD_eq_getD_getElem?, Array.getElem?_replicate] at hl
    split at hl <;> cases hl
  · rw [Array.getD_eq_getD_getElem?, Array.getElem?_replicate] at hl
    split at hl <;> cases hl
  · exact Nat.le_trans List.countP_le_length (by simp)

theorem wp_region_inv {id : Nat} {a0 : Act} {w0 : World} (hm : P.follows .mixedOrders = true) (V : Nat → World → Value → Prop) (I : (Nat → Bool) → World → Prop)
    (htidy : tidyB ops = true) (hlow : lowB ops = true) (hdst : (ops.toList.all fun o => match o.dst with | some t => decide (t < a0.tmps.size) | none => true) = true)
    (l : List Nat) (hl : dsts ops = l) (h0 : I (fun _ => false) w0.drew)
    (hstep : ∀ (i : Nat) (o : Oper), ops[i]? = some o → ∀ (a : Act) (w : World) (done : Nat → Bool), I done w → done i = false → (∀ j, aheadB ops i j = true → done j = true) → a.tmps.size = a0.tmps.size → Given ops V a0 o a w →
      wpOp P ops Q i (fun a' w' => ∃ v, a' = a.put o.dst v ∧ I (doneToo done i) w' ∧ (∀ t u, V t w u → V t w' u) ∧ ∀ t, o.dst = some t → V t w' v) a w)
    (hend : ∀ (f : Nat → Value) (w : World) (done : Nat → Bool), (∀ i, i < ops.size → done i = true) → I done w → (∀ t, t ∈ l → V t w (f t)) → Q .normal (putAll a0 f l) w) :
    (Code.region id ops true).wp P Q a0 w0 :=
  wp_region_inv2 hm V I htidy hlow hdst l hl h0 (fun i o ho a w done hI hn hr hlen hg => wpOp_mono (by rintro a' w' ⟨v, h1, h2, h3, h4⟩; exact ⟨v, h1, h2, fun t u _ => h3 t u, h4⟩) (hstep i o ho a w done hI hn hr hlen hg)) hend

/-- A store, or whatever else yields nothing. -/
theorem st_done {K : Act → World → Prop} {i : Nat} {o : Oper} {a : Act} {w : World} (ho : ops[i]? = some o) (hw : Region.wanted o (yielded ops a.tmps) = true) (w' : World)
    (hrun : (execOp a.eval o).run P w = .ok .skip w') (h : K (a.put o.dst undef) w') : wpOp P ops Q i K a w := by
  unfold wpOp
  rw [ho]
  simp only [hw, if_true]
  refine .inl ?_
  unfold Oper.wp
  rw [hrun]
  exact h

end

attribute [irreducible] aheadB

end Go.Proofs.Ytgalppnpmfpdbaa

namespace Go.Proofs.Ytgalppnpmfpdbaa
open Go.RowKit

section
variable {P : Program} {ops : Array Oper} {Q : Exit → Act → World → Prop}

structure HeldT (ops : Array Oper) (V : Nat → World → Value → Prop) (I : (Nat → Bool) → Act → World → Prop) (a0 : Act) (listed : Array Bool) (a : Act) (w : World) : Prop where
  size : listed.size = ops.size
  inv : I (fun j => listed.getD j false) a w
  defers : a.defers = a0.defers
  len : a.tmps.size = a0.tmps.size
  old : ∀ t : Nat, (∀ (i : Nat) (o : Oper), ops[i]? = some o → o.dst = some t → listed.getD i false = false) → a.tmps[t]? = a0.tmps[t]?
  new : ∀ (i : Nat) (o : Oper) (t : Nat), ops[i]? = some o → o.dst = some t → listed.getD i false = true → ∃ v, a.tmps[t]? = some v ∧ V t w v
  shut : ∀ (i : Nat) (o : Oper), ops[i]? = some o → listed.getD i false = true → ∀ e ∈ o.after, Region.binds .any e = true → listed.getD e.on false = true

theorem wp_region_inv3 {id : Nat} {a0 : Act} {w0 : World} (hm : P.follows .mixedOrders = true) (V : Nat → World → Value → Prop) (I : (Nat → Bool) → Act → World → Prop)
    (htidy : tidyB ops = true) (hlow : lowB ops = true) (hdst : (ops.toList.all fun o => match o.dst with | some t => decide (t < a0.tmps.size) | none => true) = true)
    (l : List Nat) (hl : dsts ops = l) (h0 : I (fun _ => false) a0 w0.drew)
    (hstep : ∀ (i : Nat) (o : Oper), ops[i]? = some o → ∀ (a : Act) (w : World) (done : Nat → Bool), I done a w → done i = false → (∀ j, aheadB ops i j = true → done j = true) → (∀ i' j, done i' = true → aheadB ops i' j = true → done j = true) → a.tmps.size = a0.tmps.size → Given ops V a0 o a w →
      wpOp P ops Q i (fun a' w' => ∃ v, a' = a.put o.dst v ∧ I (doneToo done i) a' w' ∧ (∀ t u, Wrote ops done t → V t w u → V t w' u) ∧ ∀ t, o.dst = some t → V t w' v) a w)
    (hend : ∀ (f : Nat → Value) (w : World) (done : Nat → Bool), (∀ i, i < ops.size → done i = true) → I done (putAll a0 f l) w → (∀ t, t ∈ l → V t w (f t)) → Q .normal (putAll a0 f l) w) :
    (Code.region id ops true).wp P Q a0 w0 := by
  have hdd : ∀ (i : Nat) (o : Oper) (t : Nat), ops[i]? = some o → o.dst = some t → t < a0.tmps.size := by
    intro i o t ho hod
    rw [List.all_eq_true] at hdst
    have h1 := hdst o (by obtain ⟨h, rfl⟩ := Array.getElem?_eq_some_iff.1 ho; simp)
    rw [hod] at h1
    exact of_decide_eq_true h1
  have hmem : ∀ t, t ∈ l ↔ ∃ (i : Nat) (o : Oper), ops[i]? = some o ∧ o.dst = some t := by
    intro t
    rw [← hl, dsts, List.mem_filterMap]
    constructor
    · rintro ⟨o, ho, hot⟩
      obtain ⟨i, hi, rfl⟩ := List.mem_iff_getElem.1 ho
      have hi' : i < ops.size := by simpa using hi
      exact ⟨i, ops[i], by simp [hi'], by simpa using hot⟩
    · rintro ⟨i, o, ho, hot⟩
      obtain ⟨h, rfl⟩ := Array.getElem?_eq_some_iff.1 ho
      exact ⟨ops[i], by simp, hot⟩
  refine wp_region_any hm ?_
  have hfin : ∀ (listed : Array Bool) (a : Act) (w : World), HeldT ops V I a0 listed a w → Region.ready .any ops listed = [] → Q .normal a w := by
    intro listed a w h hr
    have hall := listed_all hlow h.size hr
    have hf : ∀ t, t ∈ l → ∃ v, a.tmps[t]? = some v ∧ V t w v := fun t ht => by
      obtain ⟨i, o, ho, hot⟩ := (hmem t).1 ht
      exact h.new i o t ho hot (hall i o ho)
    have ha : a = putAll a0 (fun t => a.tmps.getD t undef) l := by
      have hdef := h.defers
      have hlen := h.len
      have hold := h.old
      obtain ⟨tm, df⟩ := a
      obtain ⟨h1, h2⟩ := putAll_size (fun t => tm.getD t undef) l a0
      have h3 : tm = (putAll a0 (fun t => tm.getD t undef) l).tmps := by
        apply Array.ext_getElem?
        intro t
        rw [putAll_tmps]
        by_cases ht : t ∈ l
        · obtain ⟨v, hv, -⟩ := hf t ht
          simp only [] at hv
          have hts : t < a0.tmps.size := by rw [← hlen]; exact (Array.getElem?_eq_some_iff.1 hv).1
          rw [if_pos ⟨ht, hts⟩, Array.getD_eq_getD_getElem?, hv]
          rfl
        · rw [if_neg (fun h => ht h.1)]
          exact hold t fun i o ho hot => absurd ((hmem t).2 ⟨i, o, ho, hot⟩) ht
      have h4 : df = (putAll a0 (fun t => tm.getD t undef) l).defers := by rw [h2]; exact hdef
      calc (⟨tm, df⟩ : Act) = ⟨(putAll a0 (fun t => tm.getD t undef) l).tmps, (putAll a0 (fun t => tm.getD t undef) l).defers⟩ := by rw [← h3, ← h4]
        _ = _ := rfl
    have hinv := h.inv
    rw [ha] at hinv ⊢
    refine hend _ w _ (fun i hi => hall i ops[i] (by simp [hi])) hinv fun t ht => ?_
    obtain ⟨v, hv, hVv⟩ := hf t ht
    rw [Array.getD_eq_getD_getElem?, hv]
    exact hVv
  have key : ∀ (fuel : Nat) (listed : Array Bool) (a : Act) (w : World), HeldT ops V I a0 listed a w →
      (List.range ops.size).countP (fun j => !listed.getD j true) ≤ fuel → wpAny P .any ops Q fuel listed a w := by
    intro fuel
    induction fuel with
    | zero =>
      intro listed a w h hcount
      have hr : Region.ready .any ops listed = [] := by
        cases hrr : Region.ready .any ops listed with
        | nil => rfl
        | cons x xs =>
          have hx : x ∈ Region.ready .any ops listed := by rw [hrr]; simp
          obtain ⟨hun, o, ho, -⟩ := mem_ready.1 hx
          have : 0 < (List.range ops.size).countP (fun j => !listed.getD j true) := List.countP_pos_iff.2 ⟨x, by rw [List.mem_range]; exact (Array.getElem?_eq_some_iff.1 ho).1, by rw [hun]; rfl⟩
          omega
      exact ⟨hr, hfin _ _ _ h hr⟩
    | succ fuel ih =>
      intro listed a w h hcount
      refine ⟨fun hr => hfin _ _ _ h hr, fun i hi => ?_⟩
      obtain ⟨hun, o, ho, hall⟩ := mem_ready.1 hi
      have hil : i < listed.size := by
        rw [h.size]
        exact (Array.getElem?_eq_some_iff.1 ho).1
      have hunf := getD_false_of hil hun
      have hgiven : Given ops V a0 o a w := by
        intro t ht
        refine ⟨fun hf => ?_, fun hf => ?_⟩
        · unfold fedB at hf
          rw [Array.any_eq_true] at hf
          obtain ⟨k, hk, hke⟩ := hf
          simp only [Bool.and_eq_true] at hke
          obtain ⟨hb, hw⟩ := hke
          have hl := hall o.after[k] (Array.getElem_mem hk) hb
          cases hp : ops[(o.after[k]).on]? with
          | none => rw [hp] at hw; cases hw
          | some p =>
            rw [hp] at hw
            exact h.new _ p t hp (by simpa using hw) hl
        · refine h.old t fun j p hj hd => ?_
          have hti := htidy
          unfold tidyB at hti
          rw [List.all_eq_true] at hti
          have h1 := hti i (by rw [List.mem_range]; exact (Array.getElem?_eq_some_iff.1 ho).1)
          rw [ho] at h1
          simp only [List.all_eq_true] at h1
          have h2 := h1 t ht
          rw [hf, Bool.false_or] at h2
          unfold lateB at h2
          rw [List.all_eq_true] at h2
          have h3 := h2 j (by rw [List.mem_range]; exact (Array.getElem?_eq_some_iff.1 hj).1)
          rw [hj] at h3
          simp only [hd, bne_self_eq_false, Bool.false_or, Array.any_eq_true, Bool.and_eq_true] at h3
          obtain ⟨k, hk, hb, hon⟩ := h3
          cases hlj : listed.getD j false with
          | false => rfl
          | true =>
            have := h.shut j p hj hlj p.after[k] (Array.getElem_mem hk) hb
            rw [show (p.after[k]).on = i from by simpa using hon, hunf] at this
            cases this
      have hreach : ∀ j, aheadB ops i j = true → listed.getD j false = true := fun j hj => by
        unfold aheadB at hj
        rw [List.contains_iff_mem] at hj
        refine reach_listed h.shut ops.size (edges ops i) (fun x hx => ?_) j hj
        obtain ⟨e, he, hb, rfl⟩ := edges_mem ho hx
        exact hall e he hb
      have hsh : ∀ i' j, listed.getD i' false = true → aheadB ops i' j = true → listed.getD j false = true := fun i' j hi' hj => by
        unfold aheadB at hj
        rw [List.contains_iff_mem] at hj
        have hlt : i' < ops.size := by
          rw [← h.size]
          rcases Nat.lt_or_ge i' listed.size with h1 | h1
          · exact h1
          · rw [Array.getD_eq_getD_getElem?, Array.getElem?_eq_none h1] at hi'
            cases hi'
        have ho' : ops[i']? = some ops[i'] := by simp [hlt]
        refine reach_listed h.shut ops.size (edges ops i') (fun x hx => ?_) j hj
        obtain ⟨e, he, hb, rfl⟩ := edges_mem ho' hx
        exact h.shut i' ops[i'] ho' hi' e he hb
      refine wpOp_mono ?_ (hstep i o ho a w _ h.inv hunf hreach hsh h.len hgiven)
      rintro a' w' ⟨v, rfl, hI, hst, hv⟩
      have hpd : (a.put o.dst v).defers = a.defers := by unfold Act.put; split <;> rfl
      have hps : (a.put o.dst v).tmps.size = a.tmps.size := by unfold Act.put; split <;> simp
      have hpo : ∀ t : Nat, o.dst ≠ some t → (a.put o.dst v).tmps[t]? = a.tmps[t]? := by
        intro t ht
        unfold Act.put
        split
        · rename_i d hd
          exact Array.getElem?_setIfInBounds_ne (fun e => ht (by rw [hd, e]))
        · rfl
      have hpn : ∀ t : Nat, o.dst = some t → (a.put o.dst v).tmps[t]? = some v := by
        intro t ht
        have hts : t < a.tmps.size := by rw [h.len]; exact hdd i o t ho ht
        unfold Act.put
        rw [ht]
        simp [hts]
      have hset : ∀ j, (listed.setIfInBounds i true).getD j false = if j = i then true else listed.getD j false := by
        intro j
        by_cases hji : j = i
        · subst hji; simp [hil]
        · simp [hji, Array.getElem?_setIfInBounds_ne (Ne.symm hji), Array.getD_eq_getD_getElem?]
      have hdone : (fun j => (listed.setIfInBounds i true).getD j false) = doneToo (fun j => listed.getD j false) i := by
        funext j
        rw [hset]
        rfl
      refine ih _ _ _ ⟨by simpa using h.size, by rw [hdone]; exact hI, ?_, ?_, ?_, ?_, ?_⟩ ?_
      · rw [hpd]; exact h.defers
      · rw [hps]; exact h.len
      · intro t ht
        have hdt : o.dst ≠ some t := by
          intro e
          have := ht i o ho e
          rw [hset, if_pos rfl] at this
          cases this
        rw [hpo t hdt]
        refine h.old t fun j p hj hdj => ?_
        have := ht j p hj hdj
        rw [hset] at this
        split at this
        · cases this
        · exact this
      · intro j p t hj hdj hlj
        by_cases hdt : o.dst = some t
        · exact ⟨v, hpn t hdt, hv t hdt⟩
        · rw [hpo t hdt]
          rw [hset] at hlj
          split at hlj
          · rename_i hji
            subst hji
            rw [ho] at hj
            cases hj
            exact absurd hdj hdt
          · obtain ⟨u, hu, hVu⟩ := h.new j p t hj hdj hlj
            exact ⟨u, hu, hst _ _ ⟨j, p, hj, hdj, hlj⟩ hVu⟩
      · intro j p hj hlj e he hbe
        rw [hset] at hlj ⊢
        split
        · rfl
        · split at hlj
          · rename_i hji
            subst hji
            rw [ho] at hj
            cases hj
            exact hall e he hbe
          · exact h.shut j p hj hlj e he hbe
      · have : (List.range ops.size).countP (fun j => !(listed.setIfInBounds i true).getD j true) < (List.range ops.size).countP (fun j => !listed.getD j true) := by
          refine countP_lt (i := i) (fun j hj hq => ?_) (by rw [List.mem_range, ← h.size]; exact hil) (by rw [hun]; rfl) (by simp [hil])
          by_cases hji : j = i
          · subst hji; rw [hun]; rfl
          · simp only [Array.getD_eq_getD_getElem?] at hq ⊢
            rwa [Array.getElem?_setIfInBounds_ne (Ne.symm hji)] at hq
        omega
  refine key ops.size _ _ _ ⟨by simp, ?_, rfl, rfl, fun _ _ => rfl, fun i o t hi _ hl => ?_, fun i o hi hl => ?_⟩ ?_
  · have : (fun j => (Array.replicate ops.size false).getD j false) = fun _ => false := by
      funext j
      rw [Array.getD_eq_getD_getElem?, Array.getElem?_replicate]
      split <;> rfl
    rw [this]
    exact h0
  · rw [Array.getD_eq_getD_getElem?, Array.getElem?_replicate] at hl
    split at hl <;> cases hl
  · rw [Array.getD_eq_getD_getElem?, Array.getElem?_replicate] at hl
    split at hl <;> cases hl
  · exact Nat.le_trans List.countP_le_length (by simp)

end

end Go.Proofs.Ytgalppnpmfpdbaa

namespace Go.Proofs.Ytgalppnpmfpdbaa
open Go.RowKit

/-- The steps wait for one another; each is an operation, and alone writes its slot. -/
def chainB (ops : Array Oper) (steps : List Nat) : Bool :=
  (List.range steps.length).all fun j => match steps[j]? with
    | some i => (match ops[i]? with | some o => (match o.dst with | some t => soleB ops i t | none => true) | none => false) &&
      (List.range j).all fun k => match steps[k]? with | some i' => aheadB ops i i' && i' != i | none => true
    | none => true

section
variable {P : Program} {ops : Array Oper} {Q : Exit → Act → World → Prop}

/-- What the steps have yielded so far. -/
def SlotsC (ops : Array Oper) (steps : List Nat) (vs : List Value) (a : Act) : Prop :=
  ∀ (k i : Nat) (o : Oper) (t : Nat), k < vs.length → steps[k]? = some i → ops[i]? = some o → o.dst = some t → a.tmps[t]? = vs[k]?
structure InvC (ops : Array Oper) (steps : List Nat) (C : List Value → World → Prop) (done : Nat → Bool) (a : Act) (w : World) (vs : List Value) : Prop where
  so : ∀ k i, steps[k]? = some i → (done i = true ↔ k < vs.length)
  le : vs.length ≤ steps.length
  c : C vs w
  slots : SlotsC ops steps vs a

theorem chain_at {steps : List Nat} (h : chainB ops steps = true) {j i : Nat} (hj : steps[j]? = some i) :
    (∃ o, ops[i]? = some o ∧ ∀ t, o.dst = some t → soleB ops i t = true) ∧ ∀ k i', k < j → steps[k]? = some i' → aheadB ops i i' = true ∧ i' ≠ i := by
  unfold chainB at h
  rw [List.all_eq_true] at h
  have h1 := h j (by rw [List.mem_range]; exact (List.getElem?_eq_some_iff.1 hj).1)
  rw [hj] at h1
  simp only [Bool.and_eq_true, List.all_eq_true, List.mem_range] at h1
  obtain ⟨h1, h2⟩ := h1
  refine ⟨?_, fun k i' hk hi' => ?_⟩
  · cases ho : ops[i]? with
    | none => rw [ho] at h1; cases h1
    | some o =>
      rw [ho] at h1
      refine ⟨o, rfl, fun t ht => ?_⟩
      simp only [ht] at h1
      exact h1
  · have h3 := h2 k hk
    rw [hi'] at h3
    simp only [Bool.and_eq_true, bne_iff_ne, ne_eq] at h3
    exact h3

theorem put_tmps_other {a : Act} {t : Option Nat} {s : Nat} {v : Value} (h : t ≠ some s) : (a.put t v).tmps[s]? = a.tmps[s]? := by
  cases t with
  | none => rfl
  | some t => exact Array.getElem?_setIfInBounds_ne (fun e => h (by rw [e]))

theorem wp_region_chain {id : Nat} {a0 : Act} {w0 : World} (hm : P.follows .mixedOrders = true) (V : Nat → Value → Prop) (steps : List Nat) (C : List Value → World → Prop)
    (htidy : tidyB ops = true) (hlow : lowB ops = true) (hdst : (ops.toList.all fun o => match o.dst with | some t => decide (t < a0.tmps.size) | none => true) = true)
    (hchain : chainB ops steps = true) (l : List Nat) (hl : dsts ops = l) (h0 : C [] w0.drew)
    (hquiet : ∀ (i : Nat) (o : Oper), ops[i]? = some o → steps.contains i = false → ∀ (a : Act) (w : World) (vs : List Value), C vs w → a.tmps.size = a0.tmps.size → Given ops (fun t _ v => V t v) a0 o a w →
      wpOp P ops Q i (fun a' w' => ∃ v, a' = a.put o.dst v ∧ C vs w' ∧ ∀ t, o.dst = some t → V t v) a w)
    (hstep : ∀ (j i : Nat) (o : Oper), steps[j]? = some i → ops[i]? = some o → ∀ (a : Act) (w : World) (vs : List Value), vs.length = j → C vs w → SlotsC ops steps vs a → a.tmps.size = a0.tmps.size → Given ops (fun t _ v => V t v) a0 o a w →
      wpOp P ops Q i (fun a' w' => ∃ v, a' = a.put o.dst v ∧ C (vs ++ [v]) w' ∧ ∀ t, o.dst = some t → V t v) a w)
    (hend : ∀ (f : Nat → Value) (w : World) (vs : List Value), vs.length = steps.length → C vs w → (∀ (k i : Nat) (o : Oper) (t : Nat), k < vs.length → steps[k]? = some i → ops[i]? = some o → o.dst = some t → vs[k]? = some (f t)) → (∀ t, t ∈ l → V t (f t)) → Q .normal (putAll a0 f l) w) :
    (Code.region id ops true).wp P Q a0 w0 := by
  refine wp_region_inv3 hm (fun t _ v => V t v) (fun done a w => ∃ vs, InvC ops steps C done a w vs) htidy hlow hdst l hl ?_ ?_ ?_
  · exact ⟨[], fun k i _ => by simp, Nat.zero_le _, h0, fun k i o t hk => absurd hk (by simp)⟩
  · rintro i o ho a w done ⟨vs, hI⟩ hnot hr hsh hlen hg
    cases hc : steps.contains i with
    | false =>
      refine wpOp_mono ?_ (hquiet i o ho hc a w vs hI.c hlen hg)
      rintro a' w' ⟨v, rfl, hC, hV⟩
      refine ⟨v, rfl, ⟨vs, fun k i' hi' => ?_, hI.le, hC, fun k i' o' t hk hi' ho' ht => ?_⟩, fun _ _ _ h => h, hV⟩
      · have hne : i' ≠ i := by
          rintro rfl
          have : i' ∈ steps := List.mem_of_getElem? hi'
          rw [← List.contains_iff_mem, hc] at this
          cases this
        rw [doneToo_other hne]
        exact hI.so k i' hi'
      · rw [put_tmps_other]
        · exact hI.slots k i' o' t hk hi' ho' ht
        · intro e
          obtain ⟨⟨o2, h2, hs⟩, -⟩ := chain_at hchain hi'
          rw [ho'] at h2
          cases h2
          have h3 := hs t ht
          refine not_wrote (done := fun j => decide (j = i)) h3 ?_ ⟨i, o, ho, e, by simp⟩
          simp only [decide_eq_false_iff_not]
          rintro rfl
          have : i' ∈ steps := List.mem_of_getElem? hi'
          rw [← List.contains_iff_mem, hc] at this
          cases this
    | true =>
      obtain ⟨j, hj⟩ := List.getElem?_of_mem (List.contains_iff_mem.1 hc)
      obtain ⟨⟨o2, h2, hs⟩, hah⟩ := chain_at hchain hj
      rw [ho] at h2
      cases h2
      have hjl : vs.length = j := by
        rcases Nat.lt_trichotomy vs.length j with h | h | h
        · have hjs := (List.getElem?_eq_some_iff.1 hj).1
          obtain ⟨i', hi'⟩ : ∃ i', steps[vs.length]? = some i' := ⟨_, List.getElem?_eq_getElem (by omega)⟩
          have := (hI.so _ _ hi').1 (hr i' (hah _ _ h hi').1)
          omega
        · exact h
        · have := (hI.so j i hj).2 h
          rw [hnot] at this
          cases this
      refine wpOp_mono ?_ (hstep j i o hj ho a w vs hjl hI.c hI.slots hlen hg)
      rintro a' w' ⟨v, rfl, hC, hV⟩
      refine ⟨v, rfl, ⟨vs ++ [v], fun k i' hi' => ?_, ?_, hC, fun k i' o' t hk hi' ho' ht => ?_⟩, fun _ _ _ h => h, hV⟩
      · rw [List.length_append, List.length_singleton]
        rcases Nat.lt_trichotomy k j with h | h | h
        · have hne := (hah k i' h hi').2
          rw [doneToo_other hne, hI.so k i' hi']
          omega
        · subst h
          rw [hj] at hi'
          cases hi'
          rw [doneToo_self]
          simp; omega
        · have hne := ((chain_at hchain hi').2 j i h hj).2
          rw [doneToo_other (Ne.symm hne), hI.so k i' hi']
          omega
      · rw [List.length_append, List.length_singleton]
        have := (List.getElem?_eq_some_iff.1 hj).1
        omega
      · rw [List.length_append, List.length_singleton] at hk
        rcases Nat.lt_or_ge k j with h | h
        · have hne := (hah k i' h hi').2
          rw [put_tmps_other, List.getElem?_append_left (by omega)]
          · exact hI.slots k i' o' t (by omega) hi' ho' ht
          · intro e
            have h3 := hs t e
            refine not_wrote (done := fun j => decide (j = i')) h3 ?_ ⟨i', o', ho', ht, by simp⟩
            simp only [decide_eq_false_iff_not]
            exact fun e => hne e.symm
        · obtain rfl : k = j := by omega
          rw [hj] at hi'
          cases hi'
          rw [ho] at ho'
          cases ho'
          rw [List.getElem?_append_right (by omega), hjl, Nat.sub_self, ht]
          have hlt : t < a.tmps.size := by
            rw [hlen]
            rw [List.all_eq_true] at hdst
            have h1 := hdst o (by obtain ⟨h, rfl⟩ := Array.getElem?_eq_some_iff.1 ho; simp)
            rw [ht] at h1
            exact of_decide_eq_true h1
          simp [Act.put, hlt]
  · rintro f w done hall ⟨vs, hI⟩ hV
    have hlen : vs.length = steps.length := by
      rcases Nat.lt_or_ge vs.length steps.length with h | h
      · obtain ⟨i', hi'⟩ : ∃ i', steps[vs.length]? = some i' := ⟨_, List.getElem?_eq_getElem h⟩
        obtain ⟨⟨o2, h2, -⟩, -⟩ := chain_at hchain hi'
        have := (hI.so _ _ hi').1 (hall i' (Array.getElem?_eq_some_iff.1 h2).1)
        omega
      · have := hI.le; omega
    refine hend f w vs hlen hI.c (fun k i o t hk hi ho ht => ?_) hV
    rw [← hI.slots k i o t hk hi ho ht, putAll_tmps, if_pos]
    refine ⟨?_, ?_⟩
    · rw [← hl, dsts, List.mem_filterMap]
      exact ⟨o, by obtain ⟨h, rfl⟩ := Array.getElem?_eq_some_iff.1 ho; simp, ht⟩
    · rw [List.all_eq_true] at hdst
      have h1 := hdst o (by obtain ⟨h, rfl⟩ := Array.getElem?_eq_some_iff.1 ho; simp)
      rw [ht] at h1
      exact of_decide_eq_true h1
end

/-- An operation whose guard is met is as one that has none. -/
theorem wpList_met {P : Program} {ops : Array Oper} {Q : Exit → Act → World → Prop} {a : Act} {w : World} {rest : List Oper} {d : Option Tmp} {op : Op} {t : TypeId} {p : String} {af : Array Edge} {g : Option (Nat × Bool)}
    (hw : Region.wanted ⟨d, op, t, p, af, g⟩ (yielded ops a.tmps) = true) (h : wpList P ops Q (⟨d, op, t, p, af, none⟩ :: rest) a w) : wpList P ops Q (⟨d, op, t, p, af, g⟩ :: rest) a w := by
  unfold wpList at h ⊢
  rw [if_pos hw]
  rw [if_pos (by simp [Region.wanted])] at h
  exact h

end Go.Proofs.Ytgalppnpmfpdbaa

namespace Go.Proofs.Ytgalppnpmfpdbaa
open Go.RowKit

def outD (o : Option TabT) : Value := match o with
  | some TT => .tuple #[.agg (tabL TT 32).toArray, .int .i64 0]
  | none => .tuple #[.agg (tabL zeroT 32).toArray, .int .i64 8]
theorem ret_odec_at {w w0 : World} {tmps : Array Value} {TL : List Value} {g : Nat} {fr : Nat × Nat} {b v : Value}
    (hp : tmps.getD 2 undef = .pointer (some ⟨g, 0, none⟩)) (hg : w.heap[g]? = some (.cells TL.toArray 38 fr)) (hs : (Try.prog.info? 38).map (·.size) = some TL.length) (h3 : tmps.getD 3 undef = b)
    (hr : v = .tuple #[.agg TL.toArray, b]) (hb : Below w0.heap.size w0 w) : bodyPost Try.prog Try.f11 (fun e w' => e = .returned v ∧ Below w0.heap.size w0 w') Exit.ret { tmps := tmps, defers := [] } w := by
  subst hr
  have h := results_row_one (P := Try.prog) (fn := Try.f11) (p := 2) (u := 3) (ty := 38) rfl tmps w g 38 TL.toArray fr _ hp hg Try.underlying38 rfl (by rw [hs, List.size_toArray])
  rw [h3] at h
  exact bodyPost_ret h rfl ⟨rfl, hb⟩
theorem zero_tabZ (W : World) : (zeroValue 38).run Try.prog W = .ok (.agg (tabL zeroT 32).toArray) W := zero_tabO W
theorem build_zero (W : World) : (Instr.build 38 #[]).run Try.prog W = .ok (.agg (tabL zeroT 32).toArray) W := run_build W _ _ _ (by kernel_rfl)
theorem tabL_one (TT : TabT) : (tabL TT 32).toArray.all (fun x => x.oneCell') = true := by
  rw [Array.all_eq_true_iff_forall_mem]
  intro v hv
  rw [List.mem_toArray] at hv
  unfold tabL at hv
  obtain ⟨s, -, hv⟩ := List.mem_flatMap.1 hv
  exact enc6_one _ v hv
theorem six1 (hq : Bool) (kx : ByteArray) (gx : Bool) (ax nx : Int) (sx : ByteArray) : (#[.bool hq, .string kx, .bool gx, .int .i64 ax, .int .i64 nx, .string sx] : Array Value).all (fun x => x.oneCell') = true := by simp [Value.oneCell']
theorem build_oslot (hq : Bool) (kx : ByteArray) (gx : Bool) (ax nx : Int) (sx : ByteArray) (W : World) : (Instr.build 35 #[(0, .bool hq), (1, .agg #[.string kx, .bool gx, .int .i64 ax, .int .i64 nx, .string sx])]).run Try.prog W = .ok (.agg #[.bool hq, .string kx, .bool gx, .int .i64 ax, .int .i64 nx, .string sx]) W :=
  run_build W _ _ _ (by kernel_rfl)

def VDc (g i D R : Nat) (kx : ByteArray) (gx : Bool) (ax nx : Int) (sx : ByteArray) : Nat → World → Value → Prop
  | 42, _, v => v = .int .i64 (i : Int)
  | 43, _, v => v = .int .i64 (D : Int)
  | 44, _, v => v = .int .i64 (i : Int)
  | 45, _, v => v = .int .i64 (R : Int)
  | 46, _, v => v = .agg #[.string kx, .bool gx, .int .i64 ax, .int .i64 nx, .string sx]
  | 47, _, v => v = .agg #[.bool true, .string kx, .bool gx, .int .i64 ax, .int .i64 nx, .string sx]
  | 48, _, v => v = .pointer (some ⟨g, 24 * D, none⟩)
  | 49, _, v => v = .pointer (some ⟨g, 24 * D + 6 * R, none⟩)
  | _, _, _ => True
theorem VDc_below (g i D R : Nat) (kx : ByteArray) (gx : Bool) (ax nx : Int) (sx : ByteArray) : ∀ (i' : Nat) (w w' : World) (v : Value), VDc g i D R kx gx ax nx sx i' w v → Below w.heap.size w w' → VDc g i D R kx gx ax nx sx i' w' v := by
  intro i' w w' v h hb
  unfold VDc at h ⊢
  split at h <;> first | exact h | trivial | exact h

theorem setCells_gr : ∀ (vs : List Value) (w : World) (b o : Nat), w.grownBy (w.setCells b o vs) (some b)
  | [], w, b, o => World.grownBy.refl _ _
  | v :: r, w, b, o => by
    rw [World.setCells]
    have h1 : w.grownBy (w.setCell ⟨b, o, none⟩ v) (some b) := ⟨rfl, rfl, rfl, by simp [World.setCell], fun k hk hn => Below.heap_setCell _ _ _ _ (fun e => hn (by rw [e]))⟩
    exact h1.trans (setCells_gr r _ b (o + 1))
theorem own_notF {e t : TypeId} {w : World} {B b : Nat} {v : Value} {l : List UInt8} {cs : Array Value} {fr : Nat × Nat} (h : Own e w B v l) (hb : w.heap[b]? = some (.cells cs t fr)) (hne : e ≠ t) : v.ownBlock ≠ some b := by
  intro hv
  rcases h.2 with ⟨rfl, -⟩ | ⟨g, cap, cur, rfl, -, hg, -⟩
  · cases hv
  · simp only [Value.ownBlock, Option.some.injEq] at hv
    subst hv
    rw [hb] at hg
    simp only [Option.some.injEq, Obj.cells.injEq] at hg
    exact hne hg.2.1.symm

/-- What Decode has in hand. -/
structure DcI (bs : List Bool) (l : List UInt8) (g gt hb : Nat) (vb : Value) (ZA : Array Value) (i k : Nat) (TT : TabT) (w : World) : Prop where
  dec : decGo bs l i = some (TT, k)
  tab : TO w gt TT
  bt : BT w (g + 1) hb vb bs
  zero : w.heap[g]? = some (.cells ZA 38 (0, 0))
theorem DcI.below {bs : List Bool} {l : List UInt8} {g gt hb : Nat} {vb : Value} {ZA : Array Value} {i k : Nat} {TT : TabT} {w w' : World} (h : DcI bs l g gt hb vb ZA i k TT w) (hk : Below w.heap.size w w') : DcI bs l g gt hb vb ZA i k TT w' :=
  ⟨h.dec, h.tab.below hk, h.bt.below hk, (hk.block g (Array.getElem?_eq_some_iff.1 h.zero).1).trans h.zero⟩

set_option maxHeartbeats 8000000 in
set_option maxRecDepth 100000 in
theorem odecode_c (v : Value) (l : List UInt8) (w : World) (hv : RB w v l) :
    Calls Try.prog 11 #[v] w fun e w' => e = .returned (outD (decT l)) ∧ Below w.heap.size w w' := by
  obtain ⟨OUT, hOUT⟩ : ∃ OUT, OUT = outD (decT l) := ⟨_, rfl⟩
  rw [← hOUT]
  have HOUT := Go.Lib.hid hOUT
  clear hOUT
  have hm : l.length ≤ 9223372036854775807 := by obtain ⟨a, cap, -, h1, h2, -⟩ := id hv; unfold maxLen at h2; omega
  have hz := zero_tabZ
  have hbz := build_zero
  have HZS := Go.Lib.hid (sizeTabO zeroT)
  have HZL := Go.Lib.hid (tabL_one zeroT)
  have HON := Go.Lib.hid (show outD none = .tuple #[.agg (tabL zeroT 32).toArray, .int .i64 8] from rfl)
  have HT0 := Go.Lib.hid (fun W => TO.new W zeroT)
  generalize tabL zeroT 32 = ZL at *
  have hb1 := below_one w (.cells ZL.toArray 38)
  have HA := Go.Lib.hid (heap_alloc_new w (.cells ZL.toArray 38))
  have HB := Go.Lib.hid hb1
  have HR := Go.Lib.hid (hv.below hb1)
  have HR0 := Go.Lib.hid hv
  obtain ⟨a, cap, rfl, -, -, -, -⟩ := id hv
  clear hb1 hv
  obtain ⟨g, hg⟩ : ∃ g, g = w.heap.size := ⟨_, rfl⟩
  have HG := Go.Lib.hid (show w.heap.size ≤ g ∧ (w.alloc (.cells ZL.toArray 38)).heap.size = g + 1 by rw [hg]; exact ⟨Nat.le_refl _, Array.size_push _⟩)
  rw [← hg] at HA
  have hmin : min (4 : Int) (l.length : Int) = ((min 4 l.length : Nat) : Int) := by omega
  have HMT := Go.Lib.hid (show l.take (min 4 l.length) = l.take 4 from by
    rcases Nat.le_total 4 l.length with h | h
    · rw [Nat.min_eq_left h]
    · rw [Nat.min_eq_right h, List.take_length, List.take_of_length_le h])
  have HMIN := Go.Lib.hid hmin
  clear hmin
  go_enter Try.func11, Try.ntmps11
  go_upto_region 1 with (fail)
  rw [← hg]
  generalize w.alloc (.cells ZL.toArray 38) = w1 at *
  clear hg
  go_wp2_with (first
    | (with_reducible show wpList _ _ _ (⟨some 17, _, _, _, _, _⟩ :: _) _ _; go_loud (refine wpList_slice_h rfl (.tmp 13) (.tmp 16) 40 rfl 5 Try.underlying40 info8 (.slice a l.length cap) l .i64 (min 4 (l.length : Int)) (min 4 l.length) rfl rfl HMIN.out HR.out (Nat.min_le_right _ _) ?_); intro v2 hr2)
    | fail)
  rw [HMT.out] at hr2
  by_cases h4 : 4 ≤ l.length
  · have CB := Go.Lib.hid (bof_yes v2 32 w1 (l.take 4) hr2 (by decide) (okP4.2 h4))
    have HDT := Go.Lib.hid (show decT l = decR ((unpack (l.take 4)).take 32) l from by unfold decT; rw [if_pos h4])
    have HBL := Go.Lib.hid (show ((unpack (l.take 4)).take 32).length = 32 from (okP_pack (n := 32) (okP4.2 h4)).2)
    have HDI := Go.Lib.hid (fun n TT k => decGo_inv ((unpack (l.take 4)).take 32) l h4 n TT k)
    clear hr2 h4
    generalize (unpack (l.take 4)).take 32 = bs at *
    refine CB.out.mono ?_
    rintro e w2 ⟨hb, vb, rfl, hbt, hc⟩
    have HBT := Go.Lib.hid (hbt.mono (B' := g + 1) (by rw [HG.out.2]; exact Nat.le_refl _))
    have HA2 := Go.Lib.hid ((hc.block g (Array.getElem?_eq_some_iff.1 HA.out).1).trans HA.out)
    have HB2 := Go.Lib.hid (HB.out.trans (hc.mono HB.out.size))
    have HR2 := Go.Lib.hid (HR.out.below hc)
    have HG2 := Go.Lib.hid (show w.heap.size ≤ g ∧ g < w2.heap.size from ⟨HG.out.1, by have := hc.size; have := HG.out.2; omega⟩)
    clear hbt hc CB HA HB HR HG HMIN HMT
    go_upto_region 5 with (fail)
    have hb3 := below_one w2 (.cells ZL.toArray 38)
    have HT3 := Go.Lib.hid (HT0.out w2)
    have HBT3 := Go.Lib.hid (HBT.out.below hb3)
    have HA3 := Go.Lib.hid ((hb3.block g HG2.out.2).trans HA2.out)
    have HB3 := Go.Lib.hid (HB2.out.trans (hb3.mono HB2.out.size))
    have HR3 := Go.Lib.hid (HR2.out.below hb3)
    obtain ⟨gt, hgt⟩ : ∃ gt, gt = w2.heap.size := ⟨_, rfl⟩
    rw [← hgt] at HT3 ⊢
    have HGT := Go.Lib.hid (show w.heap.size ≤ g ∧ g < gt from ⟨HG2.out.1, by rw [hgt]; exact HG2.out.2⟩)
    clear hb3 HBT HA2 HB2 HR2 HG2 hgt HT0
    generalize w2.alloc (.cells ZL.toArray 38) = w3 at *
    have HI := Go.Lib.hid (show DcI bs l g gt hb vb ZL.toArray 0 4 zeroT w3 from ⟨rfl, HT3.out, HBT3.out, HA3.out⟩)
    clear HT3 HBT3 HA3
    go_wp2_with fail
    go_loopw [7, 24] (fun kv iv wr => ∃ (i k : Nat) (TT : TabT), kv = .int .i64 (k : Int) ∧ iv = .int .i64 (i : Int) ∧ i ≤ 32 ∧ Hid (DcI bs l g gt hb vb ZL.toArray i k TT wr) ∧ Hid (Below w.heap.size w wr)) (fun _ iv _ => 32 - (intOf iv).toNat)
    case atStart => exact ⟨0, 4, _, rfl, rfl, by omega, HI, HB3⟩
    case round =>
      clear HI
      obtain ⟨i, k, TT, rfl, rfl, hi, HI, HB⟩ := hrel
      have HRw := Go.Lib.hid (HR0.out.below HB.out)
      have HDX := Go.Lib.hid (HDI.out i TT k HI.out.dec)
      by_cases hlt : i < 32
      · have hltI : (i : Int) < 32 := by omega
        have ca := at_c (i : Int) wr (g + 1) hb vb bs HI.out.bt (by rw [HBL.out]; decide)
        rw [show atBit bs (i : Int) = bs.getD i false from by unfold atBit; simp] at ca
        have CA := Go.Lib.hid ca
        clear ca
        go_wp2_with fail
        refine CA.out.mono ?_
        rintro e w4 ⟨rfl, hc⟩
        have HI4 := Go.Lib.hid (HI.out.below hc)
        have HB4 := Go.Lib.hid (HB.out.trans (hc.mono HB.out.size))
        have HR4 := Go.Lib.hid (HR0.out.below HB4.out)
        clear hc CA HI HB HRw
        cases hbit : bs.getD i false with
        | false =>
          have HI5 := Go.Lib.hid (show DcI bs l g gt hb vb ZL.toArray (i + 1) k TT w4 from ⟨decGo_skip HI4.out.dec hbit, HI4.out.tab, HI4.out.bt, HI4.out.zero⟩)
          clear hbit
          go_wp2_with fail
          exact ⟨⟨i + 1, k, TT, rfl, by go_num, by omega, HI5, HB4⟩, by simp only [intOf]; omega⟩
        | true =>
          have HBIT := Go.Lib.hid hbit
          clear hbit
          go_wp2_with (first
            | (with_reducible show wpList _ _ _ (⟨some 34, _, _, _, _, _⟩ :: _) _ _; go_loud (refine wpList_slice_l rfl (.tmp 32) (.tmp 33) 40 rfl 5 Try.underlying40 info8 (.slice a l.length cap) l .i64 (k : Int) k rfl rfl rfl HR4.out HDX.out.le ?_); intro v5 hr5)
            | fail)
          have CG := Go.Lib.hid (getentry_c v5 (l.drop k) w4 hr5)
          clear hr5
          cases hge : getE (l.drop k) with
          | none =>
            have HE := Go.Lib.hid (show OUT = .tuple #[.agg ZL.toArray, .int .i64 8] from by rw [HOUT.out, HDT.out, decR_none (decGo_stop HI4.out.dec HBIT.out hge) (by omega), HON.out])
            rw [hge] at CG
            clear hge
            refine CG.out.mono ?_
            rintro e w6 ⟨rfl, hc⟩
            unfold outE recOf recV nullR
            simp only []
            have hb7 := below_one w6 (.cells #[.string ⟨#[]⟩, .bool false, .int .i64 0, .int .i64 0, .string ⟨#[]⟩] 28)
            have hc7 := hc.trans (hb7.mono hc.size)
            have HB7 := Go.Lib.hid (HB4.out.trans (hc7.mono HB4.out.size))
            have HA7 := Go.Lib.hid (HI4.out.below hc7).zero
            clear hc hb7 hc7 CG
            go_upto_region 11 with (fail)
            generalize w6.alloc (.cells #[.string ⟨#[]⟩, .bool false, .int .i64 0, .int .i64 0, .string ⟨#[]⟩] 28) = w7 at *
            go_wp2_with (first
              | (with_reducible show wpList _ _ _ (⟨none, Op.store 38 (.tmp 2) (.tmp 41), _, _, _, _⟩ :: _) _ _; go_loud (refine wpList_store_row rfl 38 (.tmp 2) (.tmp 41) rfl g ZL.toArray rfl rfl 38 _ HA7.out (by rw [HZS.out, List.size_toArray]) rfl HZL.out ?_))
              | fail)
            exact ret_odec_at rfl (setRow_heap _ _ _ _ _ (0, 0) HA7.out) HZS.out rfl HE.out (setRow_below _ HB7.out HGT.out.1)
          | some p =>
            obtain ⟨⟨kx, gx, ax, nx, sx⟩, m⟩ := p
            have HDN := Go.Lib.hid (decGo_more HI4.out.dec HBIT.out hge)
            have HKM := Go.Lib.hid (HDI.out _ _ _ HDN.out).le
            rw [hge] at CG
            clear hge
            refine CG.out.mono ?_
            rintro e w6 ⟨rfl, hc⟩
            unfold outE recOf recV
            simp only []
            have hb7 := below_one w6 (.cells #[.string kx, .bool gx, .int .i64 ax, .int .i64 nx, .string sx] 28)
            have HX7 := Go.Lib.hid (heap_alloc_new w6 (.cells #[.string kx, .bool gx, .int .i64 ax, .int .i64 nx, .string sx] 28))
            have hc7 := hc.trans (hb7.mono hc.size)
            have HB7 := Go.Lib.hid (HB4.out.trans (hc7.mono HB4.out.size))
            have HI7 := Go.Lib.hid (HI4.out.below hc7)
            clear hc hb7 hc7 CG HI4 HB4 HR4
            go_upto_region 13 with (fail)
            obtain ⟨g9, hg9⟩ : ∃ g9, g9 = w6.heap.size := ⟨_, rfl⟩
            rw [← hg9] at HX7 ⊢
            clear hg9
            generalize w6.alloc (.cells #[.string kx, .bool gx, .int .i64 ax, .int .i64 nx, .string sx] 28) = w7 at *
            obtain ⟨D, hD⟩ : ∃ D, D = i / 4 := ⟨_, rfl⟩
            obtain ⟨R, hR⟩ : ∃ R, R = i % 4 := ⟨_, rfl⟩
            have d1 : (i : Int).tdiv 4 = (D : Int) := by rw [Int.tdiv_eq_ediv_of_nonneg (by omega)]; omega
            have r1 : (i : Int).tmod 4 = (R : Int) := by rw [Int.tmod_eq_emod_of_nonneg (by omega)]; omega
            have hD8 : D < 8 := by omega
            have hR4 : R < 4 := by omega
            have HIE := Go.Lib.hid (show 4 * D + R = i by omega)
            have hwD : IntKind.i64.wrap (D : Int) = (D : Int) := by rw [IntKind.wrap_i64]; omega
            have hix1 := idxO gt D hD8
            have hix2 := idxO2 gt (24 * D) R hR4
            clear hD hR
            refine wp_region_head 8 (by decide) (by kernel_rfl) (VDc gt i D R kx gx ax nx sx) (VDc_below gt i D R kx gx ax nx sx) (by decide +kernel) (by rfl) [42, 43, 44, 45, 46, 47, 48, 49] (by rfl) ?_ ?_
            · intro i' o hin ho a w8 hb8 hlen hg
              obtain ⟨y0, y1, y2, y3, y4⟩ := row5 (row_kept HX7.out hb8)
              match i', hin, ho with
              | 0, hin, ho =>
                obtain rfl := Option.some.inj ho
                have h8 := given_old hg 8 (by decide +kernel)
                clear hg
                exact st_yield ho (wanted_none rfl) (.int .i64 (i : Int)) w8 (by simp [execOp, Act.eval, h8, go_sem]) ⟨_, rfl, Below.refl _ _, by rintro t' ⟨⟩; rfl⟩
              | 1, hin, ho =>
                obtain rfl := Option.some.inj ho
                obtain ⟨_, h42, rfl⟩ := given_fed hg 42 (by decide +kernel)
                clear hg
                exact st_yield ho (wanted_none rfl) (.int .i64 (D : Int)) w8 (by simp [execOp, Act.eval, h42, go_sem, d1, hwD]) ⟨_, rfl, Below.refl _ _, by rintro t' ⟨⟩; rfl⟩
              | 2, hin, ho =>
                obtain rfl := Option.some.inj ho
                have h8 := given_old hg 8 (by decide +kernel)
                clear hg
                exact st_yield ho (wanted_none rfl) (.int .i64 (i : Int)) w8 (by simp [execOp, Act.eval, h8, go_sem]) ⟨_, rfl, Below.refl _ _, by rintro t' ⟨⟩; rfl⟩
              | 3, hin, ho =>
                obtain rfl := Option.some.inj ho
                obtain ⟨_, h44, rfl⟩ := given_fed hg 44 (by decide +kernel)
                clear hg
                exact st_yield ho (wanted_none rfl) (.int .i64 (R : Int)) w8 (by simp [execOp, Act.eval, h44, go_sem, r1]) ⟨_, rfl, Below.refl _ _, by rintro t' ⟨⟩; rfl⟩
              | 4, hin, ho =>
                obtain rfl := Option.some.inj ho
                have h9 := given_old hg 9 (by decide +kernel)
                clear hg
                exact st_yield ho (wanted_none rfl) (.agg #[.string kx, .bool gx, .int .i64 ax, .int .i64 nx, .string sx]) w8 (by simp [execOp, Act.eval, h9, go_sem, y0, y1, y2, y3, y4]) ⟨_, rfl, Below.refl _ _, by rintro t' ⟨⟩; rfl⟩
              | 5, hin, ho =>
                obtain rfl := Option.some.inj ho
                obtain ⟨_, h46, rfl⟩ := given_fed hg 46 (by decide +kernel)
                clear hg
                exact st_yield ho (wanted_none rfl) (.agg #[.bool true, .string kx, .bool gx, .int .i64 ax, .int .i64 nx, .string sx]) w8 (by simp [execOp, Act.eval, h46, build_oslot true kx gx ax nx sx w8]) ⟨_, rfl, Below.refl _ _, by rintro t' ⟨⟩; rfl⟩
              | 6, hin, ho =>
                obtain rfl := Option.some.inj ho
                have h6 := given_old hg 6 (by decide +kernel)
                obtain ⟨_, h43, rfl⟩ := given_fed hg 43 (by decide +kernel)
                clear hg
                exact st_yield ho (wanted_none rfl) (.pointer (some ⟨gt, 24 * D, none⟩)) w8 (by simp [execOp, Act.eval, h6, h43, go_sem, hix1]) ⟨_, rfl, Below.refl _ _, by rintro t' ⟨⟩; rfl⟩
              | 7, hin, ho =>
                obtain rfl := Option.some.inj ho
                obtain ⟨_, h48, rfl⟩ := given_fed hg 48 (by decide +kernel)
                obtain ⟨_, h45, rfl⟩ := given_fed hg 45 (by decide +kernel)
                clear hg
                exact st_yield ho (wanted_none rfl) (.pointer (some ⟨gt, 24 * D + 6 * R, none⟩)) w8 (by simp [execOp, Act.eval, h48, h45, go_sem, hix2]) ⟨_, rfl, Below.refl _ _, by rintro t' ⟨⟩; rfl⟩
              | n + 8, hin, ho => omega
            · intro f w8 hb8 hv
              have h47 := hv 47 (by decide)
              have h49 := hv 49 (by decide)
              simp only [VDc] at h47 h49
              have HI8 := Go.Lib.hid (HI7.out.below hb8)
              have HB8 := Go.Lib.hid (HB7.out.trans (hb8.mono HB7.out.size))
              have HTH := Go.Lib.hid (show w8.there gt (24 * D + 6 * R) (#[.bool true, .string kx, .bool gx, .int .i64 ax, .int .i64 nx, .string sx] : Array Value).size from by rw [show 24 * D + 6 * R = 6 * i by have := HIE.out; omega]; exact HI8.out.tab.there (by omega))
              have hgr := setCells_gr (enc6 (true, kx, gx, ax, nx, sx)) w8 gt (24 * D + 6 * R)
              have HI9 := Go.Lib.hid (show DcI bs l g gt hb vb ZL.toArray (i + 1) (k + m) (setT TT i (true, (kx, gx, ax, nx, sx))) (w8.setCells gt (24 * D + 6 * R) (enc6 (true, kx, gx, ax, nx, sx))) from by
                obtain ⟨cs, fr, hrow⟩ := HI8.out.tab.row
                refine ⟨HDN.out, ?_, HI8.out.bt.grownKept hgr ?_ ?_, ?_⟩
                · have := HI8.out.tab.set (q := i) (by omega) (true, kx, gx, ax, nx, sx)
                  rw [show 6 * i = 24 * D + 6 * R by have := HIE.out; omega] at this
                  exact this
                · intro e
                  have h1 := HI8.out.bt.blk
                  rw [← Option.some.inj e, hrow] at h1
                  simp only [Option.some.injEq, Obj.cells.injEq] at h1
                  exact absurd h1.2.1 (by decide)
                · intro j e hv2
                  rw [← Option.some.inj e] at hv2
                  exact own_notF HI8.out.bt.row hrow (by decide) hv2
                · exact (hgr.block g (Array.getElem?_eq_some_iff.1 HI8.out.zero).1 (fun e => by have := HGT.out.2; have := Option.some.inj e; omega)).trans HI8.out.zero)
              have HB9 := Go.Lib.hid (HB8.out.grown hgr HB8.out.size (fun j e => by have := HGT.out; have := Option.some.inj e; omega))
              have hkm : IntKind.i64.wrap ((k : Int) + (m : Int)) = (k : Int) + (m : Int) := by rw [IntKind.wrap_i64]; have := HKM.out; omega
              clear hv hb8 hix1 hix2 HI7 HB7 HI8 HB8 hgr d1 r1 hwD
              unfold putAll
              simp only [List.foldl, List.drop]
              simp only [h47, h49]
              clear h47 h49
              go_simp
              go_wp2_with (first
                | (with_reducible show wpList _ _ _ (⟨none, _, _, _, _, _⟩ :: _) _ _; go_loud (refine wpList_store_mid rfl 35 (.tmp 49) (.tmp 47) rfl gt (24 * D + 6 * R) #[.bool true, .string kx, .bool gx, .int .i64 ax, .int .i64 nx, .string sx] rfl rfl HTH.out (by kernel_rfl) (six1 true kx gx ax nx sx) ?_))
                | fail)
              go_roundw
              case rel => exact ⟨i + 1, k + m, _, by go_num, by go_num, by omega, HI9, HB9⟩
              case measure => simp only [intOf]; omega
      · obtain rfl : i = 32 := by omega
        have HDR := Go.Lib.hid (show decR bs l = if k < l.length then none else if okTo TT 32 then some TT else none from by unfold decR; rw [HI.out.dec])
        by_cases hk : k < l.length
        · have hkI : (k : Int) < (l.length : Int) := by omega
          have HE := Go.Lib.hid (show OUT = .tuple #[.agg ZL.toArray, .int .i64 8] from by rw [HOUT.out, HDT.out, HDR.out, if_pos hk, HON.out])
          have HA9 := Go.Lib.hid HI.out.zero
          clear HI hk
          go_wp2_with (first
            | (with_reducible show wpList _ _ _ (⟨none, Op.store 38 (.tmp 2) (.tmp 63), _, _, _, _⟩ :: _) _ _; go_loud (refine wpList_store_row rfl 38 (.tmp 2) (.tmp 63) rfl g ZL.toArray rfl rfl 38 _ HA9.out (by rw [HZS.out, List.size_toArray]) rfl HZL.out ?_))
            | fail)
          exact ret_odec_at rfl (setRow_heap _ _ _ _ _ (0, 0) HA9.out) HZS.out rfl HE.out (setRow_below _ HB.out HGT.out.1)
        · have hkI : ¬ (k : Int) < (l.length : Int) := by omega
          rw [if_neg hk] at HDR
          have CM := Go.Lib.hid (omay_c TT wr (fun q _ => HDX.out.sizes q))
          have HRG := Go.Lib.hid (fun W (hb : Below wr.heap.size wr W) => (HI.out.tab.below hb).range)
          have HSZ := Go.Lib.hid (sizeTabO TT)
          have HTO := Go.Lib.hid (tabL_one TT)
          have HOS := Go.Lib.hid (show outD (some TT) = .tuple #[.agg (tabL TT 32).toArray, .int .i64 0] from rfl)
          have HZZ := Go.Lib.hid (show ZL.length = (tabL TT 32).length from by have h1 := HZS.out; have h2 := HSZ.out; rw [h1] at h2; exact Option.some.inj h2)
          generalize tabL TT 32 = TL at *
          clear hk
          go_wp2_with (first
            | (with_reducible show wpList _ _ _ (⟨some 59, _, _, _, _, _⟩ :: _) _ _; go_loud (refine wpList_met (by first | exact wanted_some rfl rfl rfl rfl | kernel_rfl | simp [Region.wanted, yielded]) (wpList_load_mid rfl 38 (.tmp 6) rfl gt 0 rfl TL _ (HRG.out wr (Below.refl _ _)) Try.underlying38 rfl HSZ.out ?_)))
            | fail)
          refine CM.out.mono ?_
          rintro e w9 ⟨rfl, hc⟩
          have HA9 := Go.Lib.hid (HI.out.below hc).zero
          have HR9 := Go.Lib.hid (HRG.out w9 hc)
          have HB9 := Go.Lib.hid (HB.out.trans (hc.mono HB.out.size))
          clear hc CM HRG HI HB
          cases hok : okTo TT 32 with
          | false =>
            have HE := Go.Lib.hid (show OUT = .tuple #[.agg ZL.toArray, .int .i64 8] from by rw [HOUT.out, HDT.out, HDR.out, hok, ← HON.out]; rfl)
            clear hok
            go_wp2_with (first
              | (with_reducible show wpList _ _ _ (⟨none, Op.store 38 (.tmp 2) (.tmp 63), _, _, _, _⟩ :: _) _ _; go_loud (refine wpList_store_row rfl 38 (.tmp 2) (.tmp 63) rfl g ZL.toArray rfl rfl 38 _ HA9.out (by rw [HZS.out, List.size_toArray]) rfl HZL.out ?_))
              | fail)
            exact ret_odec_at rfl (setRow_heap _ _ _ _ _ (0, 0) HA9.out) HZS.out rfl HE.out (setRow_below _ HB9.out HGT.out.1)
          | true =>
            have HE := Go.Lib.hid (show OUT = .tuple #[.agg TL.toArray, .int .i64 0] from by rw [HOUT.out, HDT.out, HDR.out, hok, ← HOS.out]; rfl)
            clear hok
            go_wp2_with (first
              | (with_reducible show wpList _ _ _ (⟨some 64, _, _, _, _, _⟩ :: _) _ _; go_loud (refine wpList_load_mid rfl 38 (.tmp 6) rfl gt 0 rfl TL _ HR9.out Try.underlying38 rfl HSZ.out ?_))
              | (with_reducible show wpList _ _ _ (⟨none, Op.store 38 (.tmp 2) (.tmp 64), _, _, _, _⟩ :: _) _ _; go_loud (refine wpList_store_row rfl 38 (.tmp 2) (.tmp 64) rfl g TL.toArray rfl rfl 38 _ HA9.out (by rw [HSZ.out, List.size_toArray]) (by rw [List.size_toArray, List.size_toArray]; exact HZZ.out) HTO.out ?_))
              | fail)
            exact ret_odec_at rfl (setRow_heap _ _ _ _ _ (0, 0) HA9.out) HSZ.out rfl HE.out (setRow_below _ HB9.out HGT.out.1)
  · have CB := Go.Lib.hid (bof_no v2 32 w1 (l.take 4) hr2 (by decide) (by rw [okP4]; exact h4))
    have HE := Go.Lib.hid (show OUT = .tuple #[.agg ZL.toArray, .int .i64 8] from by rw [HOUT.out, decT_none h4, HON.out])
    clear hr2 h4
    refine CB.out.mono ?_
    rintro e w2 ⟨rfl, rfl⟩
    go_wp2_with (first
      | (with_reducible show wpList _ _ _ (⟨none, Op.store 38 (.tmp 2) (.tmp 23), _, _, _, _⟩ :: _) _ _; go_loud (refine wpList_store_row rfl 38 (.tmp 2) (.tmp 23) rfl g ZL.toArray rfl rfl 38 _ HA.out (by rw [HZS.out, List.size_toArray]) rfl HZL.out ?_))
      | fail)
    exact ret_odec_at rfl (setRow_heap _ _ _ _ _ (0, 0) HA.out) HZS.out rfl HE.out (setRow_below _ HB.out HG.out.1)
end Go.Proofs.Ytgalppnpmfpdbaa

namespace Go.Proofs.Ytgalppnpmfpdbaa
open Go.RowKit

theorem val_next (l : List Bool) (a i : Nat) (h : a + i < l.length) : val ((l.drop a).take (i + 1)) = 2 * val ((l.drop a).take i) + bv l[a + i] := by
  have h1 : i < (l.drop a).length := by rw [List.length_drop]; omega
  rw [List.take_succ_eq_append_getElem h1, val_snoc, List.getElem_drop]

end Go.Proofs.Ytgalppnpmfpdbaa
