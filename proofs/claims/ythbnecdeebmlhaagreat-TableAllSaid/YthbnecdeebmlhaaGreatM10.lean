/-
  Records: contract of the reference's Read.
  Package value: contracts of getOf, Get.
  Package record: contracts of getOf, Get.
  Stage 19: order.getEntry.
  A region whose order is open, but whose operations that change memory wait for one another, one by one (a chain: calls, appends, stores): all others only read, and what they yield is known ahead. The chain's values are a list; the condition C speaks of the values that there are so far.
  Stage 19: order.Decode.
  Stage 20: hashstore.New.
  The contract of math/bits.Len64: it answers how many binary digits a number has; the world stays.
  The contracts of math/bits.LeadingZeros64 and of rank.placeInWord.
  The contract of sort.Search: the first place at which the function says yes, if it goes on saying yes behind it; the function may draw and make memory.
  The contract of Rank.Place.
-/
import Derived.Test.YthbnecdeebmlhaaGreatM07
import Derived.Test.YthbnecdeebmlhaaGreatM05
import Derived.Test.YthbnecdeebmlhaaGreatM06
import Derived.Test.YthbnecdeebmlhaaGreatM09
import Derived.BigRegion
import Derived.Test.YthbnecdeebmlhaaGreatM14
import Derived.Test.YthbnecdeebmlhaaGreatM01
import Derived.Test.YthbnecdeebmlhaaGreatM08
import Derived.Laws.BitsAllLaws
import Derived.Shelf.Abstract
import Derived.Deep.DeepMust
namespace Go.Proofs.YthbnecdeebmlhaaGreat
open Go.RowKit
open Go.Lib (uvarint zigzag)

def rr (r : RdT) : Value := .tuple #[recV (str r.1.1) r.1.2.1 r.1.2.2.1 r.1.2.2.2.1 (str r.1.2.2.2.2), .int .i64 (r.2.1 : Int), .int .i64 r.2.2]

end Go.Proofs.YthbnecdeebmlhaaGreat

namespace Go.Proofs.YthbnecdeebmlhaaGreat
open Go.RowKit

/-- What stands behind the kind. -/
def goR (k : Int) (l : List UInt8) : (Int × Int × List UInt8) × Nat × Int :=
  if k = 1 then ((1, (getB l).1, []), (getB l).2.1, (getB l).2.2) else if k = 2 then ((2, 0, (textB l).1), (textB l).2.1, (textB l).2.2) else ((0, 0, []), 0, 1)

theorem valB_go (l : List UInt8) (k : Int) (p : Nat) (h : getB l = (k, p, 0)) (r : Int × Int × List UInt8) (m : Nat) (e : Int) (g : goR k (l.drop p) = (r, m, e)) :
    valB l = if e = 0 then (if mayR r.1 r.2.1 (str r.2.2) then (r, p + m, 0) else ((0, 0, []), 0, 1)) else ((0, 0, []), 0, e) := by
  unfold goR at g
  split at g
  · rename_i hk
    subst hk
    rw [valB_num l p _ _ _ h rfl]
    simp only [Prod.mk.injEq] at g
    obtain ⟨rfl, rfl, rfl⟩ := g
    have : ∀ n, mayR 1 n (str []) = true := fun n => by unfold mayR; simp [str]
    simp only [this, if_true]
    rfl
  · split at g
    · rename_i hk
      subst hk
      rw [valB_text l _ p _ _ h rfl]
      simp only [Prod.mk.injEq] at g
      obtain ⟨rfl, rfl, rfl⟩ := g
      rfl
    · rename_i h1 h2
      rw [valB_else l k p h h1 h2]
      simp only [Prod.mk.injEq] at g
      obtain ⟨rfl, rfl, rfl⟩ := g
      simp

theorem goR_small {k : Int} {l : List UInt8} {r : Int × Int × List UInt8} {m : Nat} {e : Int} (h : goR k l = (r, m, e)) (he : e = 0) : r.2.2.length ≤ 65536 ∧ m ≤ 70000 := by
  unfold goR at h
  split at h
  · have := getB_fits l
    simp only [Prod.mk.injEq] at h
    obtain ⟨rfl, rfl, rfl⟩ := h
    simp
    omega
  · split at h
    · simp only [Prod.mk.injEq] at h
      obtain ⟨rfl, rfl, rfl⟩ := h
      exact textB_small (l := l) rfl he
    · simp only [Prod.mk.injEq] at h
      obtain ⟨rfl, rfl, rfl⟩ := h
      simp

theorem ret_gof_at {w w0 : World} {tmps : Array Value} {k n : Int} {s : ByteArray} {m : Nat} {e : Int} {g : Nat} {fr : Nat × Nat} {r : (Int × Int × List UInt8) × Nat × Int}
    (hp : tmps.getD 4 undef = .pointer (some ⟨g, 0, none⟩)) (hg : w.heap[g]? = some (.cells #[.int .i64 k, .int .i64 n, .string s] 26 fr)) (h3 : tmps.getD 5 undef = .int .i64 (m : Int)) (h4 : tmps.getD 6 undef = .int .i64 e)
    (hr : ((k, n, bl s), m, e) = r) (hb : Below w0.heap.size w0 w) : bodyPost Tryz.prog Tryz.f155 (fun e w' => e = .returned (vv r) ∧ Below w0.heap.size w0 w') Exit.ret { tmps := tmps, defers := [] } w := by
  subst hr
  have h := results_row_two (P := Tryz.prog) (fn := Tryz.f155) (p := 4) (u := 5) (v := 6) (ty := 26) rfl tmps w g 26 #[.int .i64 k, .int .i64 n, .string s] fr _ hp hg Tryz.underlying26 rfl (by kernel_rfl)
  rw [h3, h4] at h
  refine bodyPost_ret h rfl ⟨?_, hb⟩
  unfold vv rawV
  rw [str_bl]

theorem ret_vget_at {w w0 : World} {tmps : Array Value} {k n : Int} {s : ByteArray} {m : Nat} {e : Int} {g : Nat} {fr : Nat × Nat} {r : (Int × Int × List UInt8) × Nat × Int}
    (hp : tmps.getD 2 undef = .pointer (some ⟨g, 0, none⟩)) (hg : w.heap[g]? = some (.cells #[.int .i64 k, .int .i64 n, .string s] 26 fr)) (h3 : tmps.getD 3 undef = .int .i64 (m : Int)) (h4 : tmps.getD 4 undef = .int .i64 e)
    (hr : ((k, n, bl s), m, e) = r) (hb : Below w0.heap.size w0 w) : bodyPost Tryz.prog Tryz.f135 (fun e w' => e = .returned (vv r) ∧ Below w0.heap.size w0 w') Exit.ret { tmps := tmps, defers := [] } w := by
  subst hr
  have h := results_row_two (P := Tryz.prog) (fn := Tryz.f135) (p := 2) (u := 3) (v := 4) (ty := 26) rfl tmps w g 26 #[.int .i64 k, .int .i64 n, .string s] fr _ hp hg Tryz.underlying26 rfl (by kernel_rfl)
  rw [h3, h4] at h
  refine bodyPost_ret h rfl ⟨?_, hb⟩
  unfold vv rawV
  rw [str_bl]

set_option maxRecDepth 100000 in
theorem getOf_c (k : Int) (v : Value) (l : List UInt8) (w : World) (hv : RB w v l) :
    Calls Tryz.prog 155 #[.int .i64 k, v] w fun e w' => e = .returned (vv (goR k l)) ∧ Below w.heap.size w w' := by
  have hrb := hv
  obtain ⟨a, cap, rfl, -⟩ := hv
  have hR1 := Go.Lib.hid (hrb.below (below_one w (.cells #[.int .i64 0, .int .i64 0, .string ⟨#[]⟩] 26)))
  clear hrb
  by_cases h1 : k = 1
  · subst h1
    have C := Go.Lib.hid fun W h => get_c (.slice a l.length cap) l W h
    have hr : Hid (((1, (getB l).1, bl ⟨#[]⟩), (getB l).2.1, (getB l).2.2) = goR 1 l) := rfl
    unfold gv at C
    generalize (getB l).1 = n at *
    generalize (getB l).2.1 = p at *
    generalize (getB l).2.2 = er at *
    go_enter Tryz.func155, Tryz.ntmps155
    go_wp2_with fail
    refine (C.out _ hR1.out).mono ?_
    rintro e w1 ⟨rfl, rfl⟩
    go_wp2_with fail
    exact ret_gof_at rfl (heap_alloc_new ..) rfl rfl hr.out (below_one ..)
  · by_cases h2 : k = 2
    · subst h2
      have C := Go.Lib.hid fun W h => getText_c (.slice a l.length cap) l W h
      have hr : Hid (((2, 0, bl (str (textB l).1)), (textB l).2.1, (textB l).2.2) = goR 2 l) := by unfold Hid; rw [bl_str]; rfl
      unfold tv at C
      generalize str (textB l).1 = s at *
      generalize (textB l).2.1 = p at *
      generalize (textB l).2.2 = er at *
      go_enter Tryz.func155, Tryz.ntmps155
      go_wp2_with fail
      refine (C.out _ hR1.out).mono ?_
      rintro e w1 ⟨rfl, rfl⟩
      go_wp2_with fail
      exact ret_gof_at rfl (heap_alloc_new ..) rfl rfl hr.out (below_one ..)
    · have h1' : (k == 1) = false := by simp [h1]
      have h2' : (k == 2) = false := by simp [h2]
      have hr : Hid (((0, 0, bl ⟨#[]⟩), 0, 1) = goR k l) := by unfold Hid goR; rw [if_neg h1, if_neg h2]; rfl
      go_enter Tryz.func155, Tryz.ntmps155
      go_wp2_with fail
      exact ret_gof_at (m := 0) rfl (heap_alloc_new ..) rfl rfl hr.out (below_one ..)

set_option maxHeartbeats 2000000 in
set_option maxRecDepth 100000 in
theorem vget_c (v : Value) (l : List UInt8) (w : World) (hv : RB w v l) :
    Calls Tryz.prog 135 #[v] w fun e w' => e = .returned (vv (valB l)) ∧ Below w.heap.size w w' := by
  have hrb := hv
  obtain ⟨a, cap, rfl, h1, h2, h3, h4⟩ := hv
  have hm : l.length ≤ 9223372036854775807 := by unfold maxLen at h2; omega
  clear h4 h3 h1 h2
  have hfit := getB_fits l
  have c1 := fun W (h : RB W (.slice a l.length cap) l) => get_c (.slice a l.length cap) l W h
  rcases hr : getB l with ⟨k, p, er⟩
  rw [hr] at hfit c1
  unfold gv at c1
  simp only [] at hfit c1
  obtain ⟨f1, f2, f3, f4, f5, f6⟩ := hfit
  have C1 := Go.Lib.hid c1; clear c1
  have Hr := Go.Lib.hid hr; clear hr
  have hR1 := Go.Lib.hid (hrb.below (below_one w (.cells #[.int .i64 0, .int .i64 0, .string ⟨#[]⟩] 26)))
  clear hrb
  by_cases he : er = 0
  · subst he
    rcases hg : goR k (l.drop p) with ⟨⟨k1, n1, s1⟩, m, e⟩
    have hsm := Go.Lib.hid (goR_small hg)
    have hv := Go.Lib.hid (valB_go l k p Hr.out (k1, n1, s1) m e hg)
    have C2 := fun v' W (h : RB W v' (l.drop p)) => getOf_c k v' (l.drop p) W h
    rw [hg] at C2
    unfold vv rawV at C2
    simp only [] at C2
    have C2 := Go.Lib.hid C2
    clear hg f4 f5
    by_cases he : e = 0
    · subst he
      obtain ⟨hs1, hm1⟩ := hsm.out rfl
      have C3 := fun W => vof_c k1 n1 (str s1) W
      unfold ofV rawV VI.val at C3
      have hv2 := hv.out
      rw [if_pos rfl] at hv2
      have hv3 : Hid (valB l = if mayR k1 n1 (str s1) = true then ((k1, n1, bl (str s1)), p + m, 0) else ((0, 0, bl ⟨#[]⟩), 0, 1)) := by unfold Hid; rw [bl_str]; exact hv2
      clear hv2 hv hsm hs1
      generalize hmay : mayR k1 n1 (str s1) = may at C3 hv3
      generalize ofR k1 n1 (str s1) = x at C3
      have hst := store_vi x
      generalize str s1 = q at *
      obtain ⟨e3, he3⟩ : ∃ e3 : Int, (if may = true then (0 : Int) else 1) = e3 := ⟨_, rfl⟩
      rw [he3] at C3
      have he3 := Go.Lib.hid he3
      have C3 := Go.Lib.hid C3
      clear hmay f1 f2
      have hpm : IntKind.i64.wrap ((p : Int) + (m : Int)) = ((p + m : Nat) : Int) := by rw [IntKind.wrap_i64]; omega
      have Hpm := Go.Lib.hid hpm; clear hpm
      go_enter Tryz.func135, Tryz.ntmps135
      go_wp2_with fail
      refine (C1.out _ hR1.out).mono ?_
      rintro e w1 ⟨rfl, rfl⟩
      go_wp2_with (first
        | (with_reducible show wpList _ _ _ (⟨some 26, _, _, _, _, _⟩ :: _) _ _; go_loud (refine wpList_slice_l rfl (.tmp 24) (.tmp 25) 47 rfl 5 Tryz.underlying47 info8 (.slice a l.length cap) l .i64 _ p rfl rfl rfl hR1.out f3 ?_); intro v3 hv3)
        | fail)
      refine (C2.out _ _ hv3).mono ?_
      rintro e w2 ⟨rfl, hb2⟩
      have hlt0 := (Array.getElem?_eq_some_iff.1 (heap_alloc_new w (.cells #[.int .i64 0, .int .i64 0, .string ⟨#[]⟩] 26))).1
      have hA := (hb2.block _ hlt0).trans (heap_alloc_new w _)
      have hbb2 := (below_one w (.cells #[.int .i64 0, .int .i64 0, .string ⟨#[]⟩] 26)).trans (hb2.mono (below_one w _).size)
      clear hb2 hlt0 hv3 hR1 C1 C2
      have HA := Go.Lib.hid hA; clear hA
      have Hb2 := Go.Lib.hid hbb2; clear hbb2
      go_wp2_with fail
      refine (C3.out _).mono ?_
      rintro e w3 ⟨rfl, hb3⟩
      have hltA : w.heap.size < w2.heap.size := (Array.getElem?_eq_some_iff.1 HA.out).1
      have hB := heap_alloc_new w2 (.cells #[.int .i64 k1, .int .i64 n1, .string q] 26)
      have hltB := (Array.getElem?_eq_some_iff.1 hB).1
      have hA3 := (hb3.block w.heap.size (by omega)).trans ((_root_.Go.heap_alloc_old w2 _ hltA).trans HA.out)
      have hB3 := (hb3.block _ hltB).trans hB
      have hbb3 := (Hb2.out.trans ((below_one w2 (.cells #[.int .i64 k1, .int .i64 n1, .string q] 26)).mono Hb2.out.size)).trans (hb3.mono (Nat.le_trans Hb2.out.size (below_one w2 _).size))
      have hltA3 := (Array.getElem?_eq_some_iff.1 hA3).1
      have hltB3 := (Array.getElem?_eq_some_iff.1 hB3).1
      have hA4 := Go.Lib.hid ((_root_.Go.heap_alloc_old w3 (.cells #[x.v] 174) hltA3).trans hA3)
      have hB4 := (_root_.Go.heap_alloc_old w3 (.cells #[x.v] 174) hltB3).trans hB3
      have hbb4 := Go.Lib.hid (hbb3.trans ((below_one w3 (.cells #[x.v] 174)).mono hbb3.size))
      have x0 := cell_of_row _ w2.heap.size 0 _ _ _ hB4
      have x1 := cell_of_row _ w2.heap.size 1 _ _ _ hB4
      have x2 := cell_of_row _ w2.heap.size 2 _ _ _ hB4
      simp only [List.getElem?_toArray, List.getElem?_cons_zero, List.getElem?_cons_succ] at x0 x1 x2
      clear hB4 hltA3 hltB3 hbb3 hB3 hA3 hltB hB hltA hb3 HA Hb2 C3
      cases may with
      | true =>
        obtain rfl := he3.out
        rw [if_pos rfl]
        have hv4 := Go.Lib.hid (hv3.out.trans (if_pos rfl)).symm
        clear hv3
        have hpm := Hpm.out
        clear Hpm
        go_wp2_with (first
          | (with_reducible show wpList _ _ _ (⟨none, Op.store 26 (.tmp 2) (.tmp 44), _, _, _, _⟩ :: _) _ _; go_loud (refine wpList_store_row rfl 26 (.tmp 2) (.tmp 44) rfl w.heap.size #[.int .i64 k1, .int .i64 n1, .string q] rfl rfl 26 _ hA4.out (by kernel_rfl) rfl (raw_cells_one ..) ?_))
          | fail)
        refine ret_vget_at (m := p + m) rfl (setRow_heap _ _ _ _ _ (0, 0) hA4.out) rfl rfl hv4.out (setRow_below _ hbb4.out (Nat.le_refl _))
      | false =>
        obtain rfl := he3.out
        rw [if_neg (by decide)]
        have hv4 := Go.Lib.hid (hv3.out.trans (if_neg (by decide))).symm
        clear hv3 Hpm x0 x1 x2
        go_wp2_with (first
          | (with_reducible show wpList _ _ _ (⟨none, Op.store 26 (.tmp 2) (.tmp 42), _, _, _, _⟩ :: _) _ _; go_loud (refine wpList_store_row rfl 26 (.tmp 2) (.tmp 42) rfl w.heap.size #[.int .i64 0, .int .i64 0, .string ⟨#[]⟩] rfl rfl 26 _ hA4.out (by kernel_rfl) rfl (raw_cells_one ..) ?_))
          | fail)
        refine ret_vget_at (m := 0) rfl (setRow_heap _ _ _ _ _ (0, 0) hA4.out) rfl rfl hv4.out (setRow_below _ hbb4.out (Nat.le_refl _))
    · have hv2 := hv.out
      rw [if_neg he] at hv2
      have hv4 := Go.Lib.hid hv2.symm
      have heb : (e == 0) = false := by simp [he]
      clear hv2 hv he hsm f1 f2
      generalize str s1 = q at *
      generalize he1 : e = e1 at *
      clear he1
      go_enter Tryz.func135, Tryz.ntmps135
      go_wp2_with fail
      refine (C1.out _ hR1.out).mono ?_
      rintro e w1 ⟨rfl, rfl⟩
      go_wp2_with (first
        | (with_reducible show wpList _ _ _ (⟨some 26, _, _, _, _, _⟩ :: _) _ _; go_loud (refine wpList_slice_l rfl (.tmp 24) (.tmp 25) 47 rfl 5 Tryz.underlying47 info8 (.slice a l.length cap) l .i64 _ p rfl rfl rfl hR1.out f3 ?_); intro v3 hv3)
        | fail)
      refine (C2.out _ _ hv3).mono ?_
      rintro e w2 ⟨rfl, hb2⟩
      have hlt0 := (Array.getElem?_eq_some_iff.1 (heap_alloc_new w (.cells #[.int .i64 0, .int .i64 0, .string ⟨#[]⟩] 26))).1
      have hA := (hb2.block _ hlt0).trans (heap_alloc_new w _)
      have hbb2 := (below_one w (.cells #[.int .i64 0, .int .i64 0, .string ⟨#[]⟩] 26)).trans (hb2.mono (below_one w _).size)
      clear hb2 hlt0 hv3 hR1 C1 C2
      have hltA := (Array.getElem?_eq_some_iff.1 hA).1
      have hA4 := Go.Lib.hid ((_root_.Go.heap_alloc_old w2 (.cells #[.int .i64 k1, .int .i64 n1, .string q] 26) hltA).trans hA)
      have hbb4 := Go.Lib.hid (hbb2.trans ((below_one w2 (.cells #[.int .i64 k1, .int .i64 n1, .string q] 26)).mono hbb2.size))
      clear hA hbb2 hltA
      go_wp2_with (first
        | (with_reducible show wpList _ _ _ (⟨none, Op.store 26 (.tmp 2) (.tmp 33), _, _, _, _⟩ :: _) _ _; go_loud (refine wpList_store_row rfl 26 (.tmp 2) (.tmp 33) rfl w.heap.size #[.int .i64 0, .int .i64 0, .string ⟨#[]⟩] rfl rfl 26 _ hA4.out (by kernel_rfl) rfl (raw_cells_one ..) ?_))
        | fail)
      refine ret_vget_at (m := 0) rfl (setRow_heap _ _ _ _ _ (0, 0) hA4.out) rfl rfl hv4.out (setRow_below _ hbb4.out (Nat.le_refl _))
  · have hv := Go.Lib.hid (valB_err l k er p Hr.out he).symm
    have heb : (er == 0) = false := by simp [he]
    clear f4 f5 f6 he
    go_enter Tryz.func135, Tryz.ntmps135
    go_wp2_with fail
    refine (C1.out _ hR1.out).mono ?_
    rintro e w1 ⟨rfl, rfl⟩
    go_wp2_with fail
    refine ret_vget_at (m := 0) rfl (heap_alloc_new ..) rfl rfl hv.out (below_one ..)

end Go.Proofs.YthbnecdeebmlhaaGreat

namespace Go.Proofs.YthbnecdeebmlhaaGreat
open Go.RowKit
open Go.Lib (uvarint zigzag)

/-- What stands behind the key. -/
def gofR (key l : List UInt8) : RdT :=
  if (getB l).2.2 = 0 ∧ (getB l).1 = 0 then ((key, true, 0, 0, []), (getB l).2.1, 0) else ((key, false, (valB l).1), (valB l).2.1, (valB l).2.2)

theorem gof_gone {key l : List UInt8} {m : Nat} (g : getB l = (0, m, 0)) : gofR key l = ((key, true, 0, 0, []), m, 0) := by
  unfold gofR
  rw [g]
  simp
theorem gof_val {key l : List UInt8} {x : Int} {m : Nat} {e : Int} (g : getB l = (x, m, e)) (h : ¬ (e = 0 ∧ x = 0)) {v : Int × Int × List UInt8} {q : Nat} {e3 : Int} (u : valB l = (v, q, e3)) : gofR key l = ((key, false, v), q, e3) := by
  unfold gofR
  rw [g, u, if_neg h]

theorem readB_gof {l key : List UInt8} {p : Nat} (h : textB l = (key, p, 0)) (hk : mayK (str key) = true) {r : List UInt8 × Bool × Int × Int × List UInt8} {m : Nat} {e : Int} (g : gofR key (l.drop p) = (r, m, e)) :
    readB l = if e = 0 then (r, p + m, 0) else rdErr e := by
  rcases hr2 : getB (l.drop p) with ⟨x, m2, e2⟩
  by_cases he2 : e2 = 0
  · subst he2
    by_cases hx : x = 0
    · subst hx
      rw [gof_gone hr2] at g
      simp only [Prod.mk.injEq] at g
      obtain ⟨rfl, rfl, rfl⟩ := g
      rw [readB_gone h hk hr2, if_pos rfl]
    · rcases hr3 : valB (l.drop p) with ⟨v, q, e3⟩
      rw [gof_val hr2 (fun h => hx h.2) hr3] at g
      simp only [Prod.mk.injEq] at g
      obtain ⟨rfl, rfl, rfl⟩ := g
      by_cases he3 : e3 = 0
      · subst he3
        rw [readB_ok h hk hr2 hx hr3, if_pos rfl]
      · rw [readB_e4 h hk hr2 hx hr3 he3, if_neg he3]
  · have hv := valB_err (l.drop p) x e2 m2 hr2 he2
    rw [gof_val hr2 (fun h => he2 h.1) hv] at g
    simp only [Prod.mk.injEq] at g
    obtain ⟨rfl, rfl, rfl⟩ := g
    rw [readB_e3 h hk hr2 he2, if_neg he2]

theorem gofR_fits (key l : List UInt8) : (gofR key l).2.1 ≤ 70010 ∧ (gofR key l).2.1 ≤ l.length := by
  have h1 := getB_fits l
  have h2 := valB_fits l
  unfold gofR
  split
  · exact ⟨by show (getB l).2.1 ≤ 70010; omega, by show (getB l).2.1 ≤ l.length; omega⟩
  · exact ⟨by show (valB l).2.1 ≤ 70010; omega, by show (valB l).2.1 ≤ l.length; omega⟩

theorem ret_rgof_at {w w0 : World} {tmps : Array Value} {key : ByteArray} {gone : Bool} {k n : Int} {s : ByteArray} {m : Nat} {e : Int} {g : Nat} {fr : Nat × Nat} {r : RdT}
    (hp : tmps.getD 4 undef = .pointer (some ⟨g, 0, none⟩)) (hg : w.heap[g]? = some (.cells #[.string key, .bool gone, .int .i64 k, .int .i64 n, .string s] 28 fr)) (h3 : tmps.getD 5 undef = .int .i64 (m : Int)) (h4 : tmps.getD 6 undef = .int .i64 e)
    (hr : r = ((bl key, gone, k, n, bl s), m, e)) (hb : Below w0.heap.size w0 w) : bodyPost Tryz.prog Tryz.f118 (fun e w' => e = .returned (rr r) ∧ Below w0.heap.size w0 w') Exit.ret { tmps := tmps, defers := [] } w := by
  subst hr
  have h := results_row_two (P := Tryz.prog) (fn := Tryz.f118) (p := 4) (u := 5) (v := 6) (ty := 28) rfl tmps w g 28 #[.string key, .bool gone, .int .i64 k, .int .i64 n, .string s] fr _ hp hg Tryz.underlying28 rfl (by kernel_rfl)
  rw [h3, h4] at h
  refine bodyPost_ret h rfl ⟨?_, hb⟩
  unfold rr recV
  rw [str_bl, str_bl]

theorem ret_rget_at {w w0 : World} {tmps : Array Value} {key : ByteArray} {gone : Bool} {k n : Int} {s : ByteArray} {m : Nat} {e : Int} {g : Nat} {fr : Nat × Nat} {r : RdT}
    (hp : tmps.getD 2 undef = .pointer (some ⟨g, 0, none⟩)) (hg : w.heap[g]? = some (.cells #[.string key, .bool gone, .int .i64 k, .int .i64 n, .string s] 28 fr)) (h3 : tmps.getD 3 undef = .int .i64 (m : Int)) (h4 : tmps.getD 4 undef = .int .i64 e)
    (hr : r = ((bl key, gone, k, n, bl s), m, e)) (hb : Below w0.heap.size w0 w) : bodyPost Tryz.prog Tryz.f85 (fun e w' => e = .returned (rr r) ∧ Below w0.heap.size w0 w') Exit.ret { tmps := tmps, defers := [] } w := by
  subst hr
  have h := results_row_two (P := Tryz.prog) (fn := Tryz.f85) (p := 2) (u := 3) (v := 4) (ty := 28) rfl tmps w g 28 #[.string key, .bool gone, .int .i64 k, .int .i64 n, .string s] fr _ hp hg Tryz.underlying28 rfl (by kernel_rfl)
  rw [h3, h4] at h
  refine bodyPost_ret h rfl ⟨?_, hb⟩
  unfold rr recV
  rw [str_bl, str_bl]

set_option maxHeartbeats 2000000 in
set_option maxRecDepth 100000 in
theorem rgof_c (key : List UInt8) (v : Value) (l : List UInt8) (w : World) (hv : RB w v l) :
    Calls Tryz.prog 118 #[.string (str key), v] w fun e w' => e = .returned (rr (gofR key l)) ∧ Below w.heap.size w w' := by
  have hrb := hv
  obtain ⟨a, cap, rfl, -⟩ := hv
  have c1 := fun W (h : RB W (.slice a l.length cap) l) => get_c (.slice a l.length cap) l W h
  have c2 := fun W (h : RB W (.slice a l.length cap) l) => vget_c (.slice a l.length cap) l W h
  rcases hr : getB l with ⟨x, m, e2⟩
  rcases hr3 : valB l with ⟨⟨vk, vn, vs⟩, q, e3⟩
  rw [hr] at c1
  rw [hr3] at c2
  unfold gv at c1
  unfold vv rawV at c2
  simp only [] at c1 c2
  have C1 := Go.Lib.hid c1; clear c1
  have C2 := Go.Lib.hid c2; clear c2
  have hR1 := Go.Lib.hid fun o => hrb.below (below_one w o)
  have hnew := Go.Lib.hid fun o => heap_alloc_new w o
  have hkk := bl_str key
  have hvs := bl_str vs
  have Hkk := Go.Lib.hid hkk; clear hkk
  have Hvs := Go.Lib.hid hvs; clear hvs
  by_cases hc : e2 = 0 ∧ x = 0
  · obtain ⟨rfl, rfl⟩ := hc
    have hv := gof_gone (key := key) hr
    rw [← Hkk.out] at hv
    have Hv := Go.Lib.hid hv; clear hv hr hr3 C2 hrb
    rw [Hkk.out] at Hv
    generalize str key = ks at *
    go_enter Tryz.func118, Tryz.ntmps118
    go_wp2_with fail
    refine (C1.out _ (hR1.out _)).mono ?_
    rintro e w1 ⟨rfl, rfl⟩
    go_wp2_with fail
    refine ret_rgof_at (m := m) rfl (hnew.out _) rfl rfl ?_ (below_one _ _)
    rw [Hv.out, Hkk.out]
    rfl
  · have hv := gof_val (key := key) hr hc hr3
    have Hv := Go.Lib.hid hv; clear hv hr3 hrb
    have Hc := Go.Lib.hid hc; clear hc hr
    generalize str key = ks at *
    generalize str vs = ss at *
    by_cases he : e2 = 0
    · have hx : (x == 0) = false := by
        have := Hc.out
        simp only [beq_eq_false_iff_ne, ne_eq]
        intro h
        exact this ⟨he, h⟩
      subst he
      clear Hc
      go_enter Tryz.func118, Tryz.ntmps118
      go_wp2_with fail
      refine (C1.out _ (hR1.out _)).mono ?_
      rintro e w1 ⟨rfl, rfl⟩
      go_wp2_with fail
      refine (C2.out _ (hR1.out _)).mono ?_
      rintro e w1 ⟨rfl, hb1⟩
      obtain ⟨hh, -⟩ := rec_box _ _ _ _ _ hb1
      unfold recO at hh
      have hlt := (Array.getElem?_eq_some_iff.1 hh).1
      have hA := (heap_alloc_old w1 (.cells #[.int .i64 vk, .int .i64 vn, .string ss] 26) hlt).trans hh
      have hbb := (below_one w (.cells #[.string ⟨#[]⟩, .bool false, .int .i64 0, .int .i64 0, .string ⟨#[]⟩] 28)).trans (hb1.mono (below_one w _).size)
      have hbb2 := hbb.trans ((below_one w1 (.cells #[.int .i64 vk, .int .i64 vn, .string ss] 26)).mono hbb.size)
      have HA := Go.Lib.hid hA; clear hA hh hb1 hlt
      go_wp2_with (first
        | (with_reducible show wpList _ _ _ (⟨none, Op.store 28 (.tmp 4) (.tmp 36), _, _, _, _⟩ :: _) _ _; go_loud (refine wpList_store_row rfl 28 (.tmp 4) (.tmp 36) rfl w.heap.size #[.string ks, .bool false, .int .i64 vk, .int .i64 vn, .string ss] rfl rfl 28 _ HA.out (by kernel_rfl) rfl (rec_cells_one ..) ?_))
        | fail)
      refine ret_rgof_at (m := q) rfl (setRow_heap _ _ _ _ _ (0, 0) HA.out) rfl rfl ?_ (setRow_below _ hbb2 (Nat.le_refl _))
      rw [Hv.out, Hkk.out, Hvs.out]
    · have he2 : (e2 == 0) = false := by simp [he]
      clear Hc he
      go_enter Tryz.func118, Tryz.ntmps118
      go_wp2_with fail
      refine (C1.out _ (hR1.out _)).mono ?_
      rintro e w1 ⟨rfl, rfl⟩
      go_wp2_with fail
      refine (C2.out _ (hR1.out _)).mono ?_
      rintro e w1 ⟨rfl, hb1⟩
      obtain ⟨hh, -⟩ := rec_box _ _ _ _ _ hb1
      unfold recO at hh
      have hlt := (Array.getElem?_eq_some_iff.1 hh).1
      have hA := (heap_alloc_old w1 (.cells #[.int .i64 vk, .int .i64 vn, .string ss] 26) hlt).trans hh
      have hbb := (below_one w (.cells #[.string ⟨#[]⟩, .bool false, .int .i64 0, .int .i64 0, .string ⟨#[]⟩] 28)).trans (hb1.mono (below_one w _).size)
      have hbb2 := hbb.trans ((below_one w1 (.cells #[.int .i64 vk, .int .i64 vn, .string ss] 26)).mono hbb.size)
      have HA := Go.Lib.hid hA; clear hA hh hb1 hlt
      go_wp2_with (first
        | (with_reducible show wpList _ _ _ (⟨none, Op.store 28 (.tmp 4) (.tmp 36), _, _, _, _⟩ :: _) _ _; go_loud (refine wpList_store_row rfl 28 (.tmp 4) (.tmp 36) rfl w.heap.size #[.string ks, .bool false, .int .i64 vk, .int .i64 vn, .string ss] rfl rfl 28 _ HA.out (by kernel_rfl) rfl (rec_cells_one ..) ?_))
        | fail)
      refine ret_rgof_at (m := q) rfl (setRow_heap _ _ _ _ _ (0, 0) HA.out) rfl rfl ?_ (setRow_below _ hbb2 (Nat.le_refl _))
      rw [Hv.out, Hkk.out, Hvs.out]

set_option maxHeartbeats 2000000 in
set_option maxRecDepth 100000 in
theorem pget_c (v : Value) (l : List UInt8) (w : World) (hv : RB w v l) :
    Calls Tryz.prog 85 #[v] w fun e w' => e = .returned (rr (readB l)) ∧ Below w.heap.size w w' := by
  have hrb := hv
  obtain ⟨a, cap, rfl, h1, h2, h3, h4⟩ := hv
  have hm : l.length ≤ 9223372036854775807 := by unfold maxLen at h2; omega
  clear h4 h3 h1 h2
  have hfit := textB_fits l
  have c1 := fun W (h : RB W (.slice a l.length cap) l) => getText_c (.slice a l.length cap) l W h
  rcases hr : textB l with ⟨key, p, er⟩
  rw [hr] at hfit c1
  unfold tv at c1
  simp only [] at hfit c1
  obtain ⟨f1, f2, f3, f4⟩ := hfit
  have C1 := Go.Lib.hid c1; clear c1
  have Hr := Go.Lib.hid hr; clear hr
  have hR1 := Go.Lib.hid fun o => hrb.below (below_one w o)
  have hnew := Go.Lib.hid fun o => heap_alloc_new w o
  by_cases he : er = 0
  · subst he
    clear f4
    have C2 := Go.Lib.hid fun W => kmay_c (str key) W (by rw [str_size]; omega)
    cases hmk : mayK (str key) with
    | false =>
      rw [hmk] at C2
      have hv := Go.Lib.hid (readB_e2 Hr.out hmk)
      clear hmk f1 f2 f3
      go_enter Tryz.func85, Tryz.ntmps85
      go_wp2_with fail
      refine (C1.out _ (hR1.out _)).mono ?_
      rintro e w1 ⟨rfl, rfl⟩
      go_wp2_with fail
      refine (C2.out _).mono ?_
      rintro e w1 ⟨rfl, hb1⟩
      obtain ⟨hh, -⟩ := rec_box _ _ _ _ _ hb1
      unfold recO at hh
      have hbb := (below_one w (.cells #[.string ⟨#[]⟩, .bool false, .int .i64 0, .int .i64 0, .string ⟨#[]⟩] 28)).trans (hb1.mono (below_one w _).size)
      have HA := Go.Lib.hid hh; clear hh hb1
      go_wp2_with (first
        | (with_reducible show wpList _ _ _ (⟨none, Op.store 28 (.tmp 2) (.tmp 23), _, _, _, _⟩ :: _) _ _; go_loud (refine wpList_store_row rfl 28 (.tmp 2) (.tmp 23) rfl w.heap.size #[.string ⟨#[]⟩, .bool false, .int .i64 0, .int .i64 0, .string ⟨#[]⟩] rfl rfl 28 _ HA.out (by kernel_rfl) rfl (rec_cells_one ..) ?_))
        | fail)
      exact ret_rget_at (m := 0) rfl (setRow_heap _ _ _ _ _ (0, 0) HA.out) rfl rfl hv.out (setRow_below _ hbb (Nat.le_refl _))
    | true =>
      rw [hmk] at C2
      have Hmk := Go.Lib.hid hmk; clear hmk
      have hfit2 := gofR_fits key (l.drop p)
      have c3 := fun v' W (h : RB W v' (l.drop p)) => rgof_c key v' (l.drop p) W h
      rcases hr2 : gofR key (l.drop p) with ⟨⟨xk, xg, xa, xn, xs⟩, m, e2⟩
      rw [hr2] at c3 hfit2
      unfold rr recV at c3
      simp only [] at c3 hfit2
      obtain ⟨q1, -⟩ := hfit2
      have C3 := Go.Lib.hid c3; clear c3
      have hv := readB_gof Hr.out Hmk.out hr2
      clear hr2
      have Hkk := Go.Lib.hid (bl_str xk)
      have Hss := Go.Lib.hid (bl_str xs)
      have hadd : IntKind.i64.wrap ((p : Int) + (m : Int)) = ((p + m : Nat) : Int) := by rw [IntKind.wrap_i64]; omega
      by_cases he2 : e2 = 0
      · subst he2
        rw [if_pos rfl] at hv
        have Hv := Go.Lib.hid hv; clear hv
        have Hadd := Go.Lib.hid hadd; clear hadd q1
        generalize str xk = ks at *
        generalize str xs = ss at *
        go_enter Tryz.func85, Tryz.ntmps85
        go_wp2_with fail
        refine (C1.out _ (hR1.out _)).mono ?_
        rintro e w1 ⟨rfl, rfl⟩
        go_wp2_with fail
        refine (C2.out _).mono ?_
        rintro e w1 ⟨rfl, hb1⟩
        have hR2 := (hR1.out _).below hb1
        go_wp2_with (first
          | (with_reducible show wpList _ _ _ (⟨some 28, _, _, _, _, _⟩ :: _) _ _; go_loud (refine wpList_slice_l rfl (.tmp 26) (.tmp 27) 47 rfl 5 Tryz.underlying47 info8 (.slice a l.length cap) l .i64 _ p rfl rfl rfl hR2 f1 ?_); intro v3 hv3)
          | fail)
        refine (C3.out _ _ hv3).mono ?_
        rintro e w2 ⟨rfl, hb2⟩
        have hb1 := hb1.trans (hb2.mono hb1.size)
        obtain ⟨hh, -⟩ := rec_box _ _ _ _ _ hb1
        unfold recO at hh
        have hlt := (Array.getElem?_eq_some_iff.1 hh).1
        have hA := (heap_alloc_old w2 (.cells #[.string ks, .bool xg, .int .i64 xa, .int .i64 xn, .string ss] 28) hlt).trans hh
        have hbb := (below_one w (.cells #[.string ⟨#[]⟩, .bool false, .int .i64 0, .int .i64 0, .string ⟨#[]⟩] 28)).trans (hb1.mono (below_one w _).size)
        have hbb2 := hbb.trans ((below_one w2 (.cells #[.string ks, .bool xg, .int .i64 xa, .int .i64 xn, .string ss] 28)).mono hbb.size)
        have HA := Go.Lib.hid hA; clear hA hh hb1 hlt hb2 hv3 hR2
        have hadd := Hadd.out
        go_wp2_with (first
          | (with_reducible show wpList _ _ _ (⟨none, Op.store 28 (.tmp 2) (.tmp 37), _, _, _, _⟩ :: _) _ _; go_loud (refine wpList_store_row rfl 28 (.tmp 2) (.tmp 37) rfl w.heap.size #[.string ks, .bool xg, .int .i64 xa, .int .i64 xn, .string ss] rfl rfl 28 _ HA.out (by kernel_rfl) rfl (rec_cells_one ..) ?_))
          | fail)
        refine ret_rget_at (m := p + m) rfl (setRow_heap _ _ _ _ _ (0, 0) HA.out) rfl rfl ?_ (setRow_below _ hbb2 (Nat.le_refl _))
        rw [Hv.out, Hkk.out, Hss.out]
      · rw [if_neg he2] at hv
        have he2b : (e2 == 0) = false := by simp [he2]
        have Hv := Go.Lib.hid hv; clear hv hadd q1 he2
        generalize str xk = ks at *
        generalize str xs = ss at *
        go_enter Tryz.func85, Tryz.ntmps85
        go_wp2_with fail
        refine (C1.out _ (hR1.out _)).mono ?_
        rintro e w1 ⟨rfl, rfl⟩
        go_wp2_with fail
        refine (C2.out _).mono ?_
        rintro e w1 ⟨rfl, hb1⟩
        have hR2 := (hR1.out _).below hb1
        go_wp2_with (first
          | (with_reducible show wpList _ _ _ (⟨some 28, _, _, _, _, _⟩ :: _) _ _; go_loud (refine wpList_slice_l rfl (.tmp 26) (.tmp 27) 47 rfl 5 Tryz.underlying47 info8 (.slice a l.length cap) l .i64 _ p rfl rfl rfl hR2 f1 ?_); intro v3 hv3)
          | fail)
        refine (C3.out _ _ hv3).mono ?_
        rintro e w2 ⟨rfl, hb2⟩
        have hb1 := hb1.trans (hb2.mono hb1.size)
        obtain ⟨hh, -⟩ := rec_box _ _ _ _ _ hb1
        unfold recO at hh
        have hlt := (Array.getElem?_eq_some_iff.1 hh).1
        have hA := (heap_alloc_old w2 (.cells #[.string ks, .bool xg, .int .i64 xa, .int .i64 xn, .string ss] 28) hlt).trans hh
        have hbb := (below_one w (.cells #[.string ⟨#[]⟩, .bool false, .int .i64 0, .int .i64 0, .string ⟨#[]⟩] 28)).trans (hb1.mono (below_one w _).size)
        have hbb2 := hbb.trans ((below_one w2 (.cells #[.string ks, .bool xg, .int .i64 xa, .int .i64 xn, .string ss] 28)).mono hbb.size)
        have HA := Go.Lib.hid hA; clear hA hh hb1 hlt hb2 hv3 hR2
        go_wp2_with (first
          | (with_reducible show wpList _ _ _ (⟨none, Op.store 28 (.tmp 2) (.tmp 35), _, _, _, _⟩ :: _) _ _; go_loud (refine wpList_store_row rfl 28 (.tmp 2) (.tmp 35) rfl w.heap.size #[.string ⟨#[]⟩, .bool false, .int .i64 0, .int .i64 0, .string ⟨#[]⟩] rfl rfl 28 _ HA.out (by kernel_rfl) rfl (rec_cells_one ..) ?_))
          | fail)
        exact ret_rget_at (m := 0) rfl (setRow_heap _ _ _ _ _ (0, 0) HA.out) rfl rfl Hv.out (setRow_below _ hbb2 (Nat.le_refl _))
  · have hv := Go.Lib.hid (readB_e1 Hr.out he)
    have heb : (er == 0) = false := by simp [he]
    clear f1 f2 f3 he
    go_enter Tryz.func85, Tryz.ntmps85
    go_wp2_with fail
    refine (C1.out _ (hR1.out _)).mono ?_
    rintro e w1 ⟨rfl, rfl⟩
    go_wp2_with fail
    exact ret_rget_at (m := 0) rfl (hnew.out _) rfl rfl hv.out (below_one _ _)

end Go.Proofs.YthbnecdeebmlhaaGreat

namespace Go.Proofs.YthbnecdeebmlhaaGreat
open Go.RowKit

def outE (o : Option (RecT × Nat)) : Value := match o with
  | some (r, n) => .tuple #[recOf r, .int .i64 (n : Int), .bool true]
  | none => .tuple #[recOf nullR, .int .i64 0, .bool false]

theorem ret_gete_at {w w0 : World} {tmps : Array Value} {key : ByteArray} {gone : Bool} {k n : Int} {s : ByteArray} {m b v : Value} {g : Nat} {fr : Nat × Nat}
    (hp : tmps.getD 2 undef = .pointer (some ⟨g, 0, none⟩)) (hg : w.heap[g]? = some (.cells #[.string key, .bool gone, .int .i64 k, .int .i64 n, .string s] 28 fr)) (h3 : tmps.getD 3 undef = m) (h4 : tmps.getD 4 undef = b)
    (hr : v = .tuple #[.agg #[.string key, .bool gone, .int .i64 k, .int .i64 n, .string s], m, b]) (hb : Below w0.heap.size w0 w) : bodyPost Tryz.prog Tryz.f52 (fun e w' => e = .returned v ∧ Below w0.heap.size w0 w') Exit.ret { tmps := tmps, defers := [] } w := by
  subst hr
  have h := results_row_two (P := Tryz.prog) (fn := Tryz.f52) (p := 2) (u := 3) (v := 4) (ty := 28) rfl tmps w g 28 #[.string key, .bool gone, .int .i64 k, .int .i64 n, .string s] fr _ hp hg Tryz.underlying28 rfl (by kernel_rfl)
  rw [h3, h4] at h
  exact bodyPost_ret h rfl ⟨rfl, hb⟩

theorem or16 (a b : UInt8) : bits .or .i64 ((a.toNat : Int) * 256) (b.toNat : Int) = ((a.toNat * 256 + b.toNat : Nat) : Int) := by
  have ha := a.toNat_lt
  have hb := b.toNat_lt
  rw [bits_join .i64 16 (by decide) (fun n h0 h1 => by rw [IntKind.wrap_i64]; omega) 8 _ _ (by omega) (by omega) (by omega) (by omega) (by omega) (by omega)]
  simp

set_option maxHeartbeats 2000000 in
set_option maxRecDepth 100000 in
theorem getentry_c (v : Value) (l : List UInt8) (w : World) (hv : RB w v l) :
    Calls Tryz.prog 52 #[v] w fun e w' => e = .returned (outE (getE l)) ∧ Below w.heap.size w w' := by
  obtain ⟨OUT, hOUT⟩ : ∃ OUT, OUT = outE (getE l) := ⟨_, rfl⟩
  rw [← hOUT]
  obtain ⟨a, cap, rfl, hlc, hcm, -, -⟩ := id hv
  have hbb := below_one w (.cells #[.string ⟨#[]⟩, .bool false, .int .i64 0, .int .i64 0, .string ⟨#[]⟩] 28)
  have HA := Go.Lib.hid (heap_alloc_new w (.cells #[.string ⟨#[]⟩, .bool false, .int .i64 0, .int .i64 0, .string ⟨#[]⟩] 28))
  have HB := Go.Lib.hid hbb
  have HR := Go.Lib.hid (hv.below hbb)
  have hm : l.length ≤ 9223372036854775807 := by unfold maxLen at hcm; omega
  clear hbb hv hlc hcm
  by_cases h2 : l.length < 2
  · have h2I : (l.length : Int) < 2 := by omega
    have HE := Go.Lib.hid (show OUT = outE none by rw [hOUT]; unfold getE; rw [if_pos h2])
    clear hOUT h2
    go_enter Tryz.func52, Tryz.ntmps52
    go_wp2_with (first
      | (with_reducible show wpList _ _ _ (⟨none, Op.store 28 (.tmp 2) (.tmp 12), _, _, _, _⟩ :: _) _ _; go_loud (refine wpList_store_row rfl 28 (.tmp 2) (.tmp 12) rfl w.heap.size #[.string ⟨#[]⟩, .bool false, .int .i64 0, .int .i64 0, .string ⟨#[]⟩] rfl rfl 28 _ HA.out (by kernel_rfl) rfl (rec_cells_one ..) ?_))
      | fail)
    exact ret_gete_at rfl (setRow_heap _ _ _ _ _ (0, 0) HA.out) rfl rfl HE.out (setRow_below _ HB.out (Nat.le_refl _))
  · have h2I : ¬ (l.length : Int) < 2 := by omega
    obtain ⟨b, o, rfl, y0⟩ := HR.out.at 0 (by omega)
    obtain ⟨b', o', he, y1⟩ := HR.out.at 1 (by omega)
    simp only [Option.some.injEq, Addr.mk.injEq] at he
    obtain ⟨rfl, rfl, -⟩ := he
    rw [Nat.add_zero] at y0
    have hl0 : 0 < l.length := by omega
    have hl1 : 1 < l.length := by omega
    have hl1I : (1 : Int) < (l.length : Int) := by omega
    have HG0 := Go.Lib.hid (show l.getD 0 0 = l[0] by rw [List.getD_eq_getElem?_getD, List.getElem?_eq_getElem hl0]; rfl)
    have HG1 := Go.Lib.hid (show l.getD 1 0 = l[1] by rw [List.getD_eq_getElem?_getD, List.getElem?_eq_getElem hl1]; rfl)
    generalize l[0] = q0 at *
    generalize l[1] = q1 at *
    have hq0 := q0.toNat_lt
    have hq1 := q1.toNat_lt
    go_enter Tryz.func52, Tryz.ntmps52
    go_upto_region 3 with (fail)
    obtain ⟨g, hg⟩ : ∃ g, g = w.heap.size := ⟨_, rfl⟩
    rw [← hg] at HA ⊢
    generalize w.alloc (.cells #[.string ⟨#[]⟩, .bool false, .int .i64 0, .int .i64 0, .string ⟨#[]⟩] 28) = w1 at *
    go_region
    rw [or16 q0 q1]
    obtain ⟨T, hT⟩ : ∃ T, T = q0.toNat * 256 + q1.toNat := ⟨_, rfl⟩
    have HGE := Go.Lib.hid (show OUT = outE (if (readB (l.drop 2)).2.2 ≠ 0 ∨ T ≠ tagN (hR (unR (readB (l.drop 2)).1)) then none else some (unR (readB (l.drop 2)).1, 2 + (readB (l.drop 2)).2.1)) from by
      rw [hOUT]
      unfold getE
      rw [if_neg h2, HG0.out, HG1.out, ← hT])
    rw [← hT]
    have HT := Go.Lib.hid hT
    have hbd : Below w1.heap.size w1 w1.drew := below_drewN (Below.refl _ _) 1
    have HA2 := Go.Lib.hid (show w1.drew.heap[g]? = _ from HA.out)
    have HR2 := Go.Lib.hid (HR.out.below hbd)
    have HB2 := Go.Lib.hid (HB.out.trans (hbd.mono HB.out.size))
    have HGW := Go.Lib.hid (show w.heap.size ≤ g by omega)
    have HFIT := Go.Lib.hid (fun (h : (readB (l.drop 2)).2.2 = 0) => readB_canon (l := l.drop 2) (r := (readB (l.drop 2)).1) (m := (readB (l.drop 2)).2.1) (by rw [← h]))
    have HLL := Go.Lib.hid (show (l.drop 2).length = l.length - 2 from List.length_drop)
    clear hbd HA HR HB y0 y1 hg hT hOUT h2
    generalize w1.drew = w2 at *
    go_wp2_with (first
      | (with_reducible show wpList _ _ _ (⟨some 25, _, _, _, _, _⟩ :: _) _ _; go_loud (refine wpList_slice_l rfl (.tmp 24) (.const (.int .i64 2)) 47 rfl 5 Tryz.underlying47 info8 (.slice (some ⟨b, o, none⟩) l.length cap) l .i64 2 2 rfl rfl rfl HR2.out (by omega) ?_); intro v3 hr3)
      | fail)
    have CG := pget_c v3 (l.drop 2) w2 hr3
    unfold rr recV at CG
    generalize readB (l.drop 2) = rd at *
    obtain ⟨⟨key, gone, k, n, s⟩, m, e⟩ := rd
    simp only [] at CG HGE HFIT
    have CG := Go.Lib.hid CG
    have HUN := Go.Lib.hid (show unR (key, gone, k, n, s) = (str key, gone, k, n, str s) from rfl)
    rw [HUN.out] at HGE HFIT
    generalize str key = ky at *
    generalize str s = sy at *
    clear hr3 HR2
    refine CG.out.mono ?_
    rintro e2 w3 ⟨rfl, hc⟩
    have hb4 := below_one w3 (.cells #[.string ky, .bool gone, .int .i64 k, .int .i64 n, .string sy] 28)
    have HX4 := Go.Lib.hid (heap_alloc_new w3 (.cells #[.string ky, .bool gone, .int .i64 k, .int .i64 n, .string sy] 28))
    have hc4 := hc.trans (hb4.mono hc.size)
    have HA4 := Go.Lib.hid (row_kept HA2.out hc4)
    have HB4 := Go.Lib.hid (HB2.out.trans (hc4.mono HB2.out.size))
    clear hc hb4 hc4 HA2 HB2 CG
    by_cases he : e = 0
    · subst he
      obtain ⟨k1, k2, -, k4⟩ := HFIT.out rfl
      have hsz := (mayT_short k1).1
      simp only [] at hsz
      have CH := Go.Lib.hid fun W => hof_k ky (hashS ky) rfl W (by omega)
      have CT := Go.Lib.hid fun W => htag_c (hashS ky) W (hashS_lt ky)
      have HTG := Go.Lib.hid (show tagN (hR (ky, gone, k, n, sy)) = tagN (hashS ky) from rfl)
      rw [HTG.out] at HGE
      have hadd : IntKind.i64.wrap (2 + (m : Int)) = 2 + (m : Int) := by rw [IntKind.wrap_i64]; have := HLL.out; omega
      clear hsz k1 k2 k4 HFIT
      generalize tagN (hashS ky) = tg at *
      generalize hashS ky = hx at *
      go_upto_region 5 with (fail)
      obtain ⟨g4, hg4⟩ : ∃ g4, g4 = w3.heap.size := ⟨_, rfl⟩
      rw [← hg4] at HX4 ⊢
      clear hg4
      generalize w3.alloc (.cells #[.string ky, .bool gone, .int .i64 k, .int .i64 n, .string sy] 28) = w4 at *
      obtain ⟨x0, x1, x2, x3, x4⟩ := row5 HX4.out
      go_wp2_with fail
      refine (CH.out _).mono ?_
      rintro e2 w5 ⟨rfl, hc⟩
      have HX5 := Go.Lib.hid (row_kept HX4.out hc)
      have HA5 := Go.Lib.hid (row_kept HA4.out hc)
      have HB5 := Go.Lib.hid (HB4.out.trans (hc.mono HB4.out.size))
      clear hc CH HX4 HA4 HB4 x0 x1 x2 x3 x4
      obtain ⟨x0, x1, x2, x3, x4⟩ := row5 HX5.out
      go_wp2_with fail
      refine (CT.out _).mono ?_
      rintro e2 w6 ⟨rfl, rfl⟩
      clear CT
      by_cases ht : T = tg
      · have htI : ((T : Int) != (tg : Int)) = false := by rw [ht]; simp
        have HE := Go.Lib.hid (show OUT = outE (some ((ky, gone, k, n, sy), 2 + m)) from by rw [HGE.out, if_neg (by simp [ht])])
        clear HGE ht
        go_wp2_with (first
          | (with_reducible show wpList _ _ _ (⟨none, Op.store 28 (.tmp 2) (.tmp 41), _, _, _, _⟩ :: _) _ _; go_loud (refine wpList_store_row rfl 28 (.tmp 2) (.tmp 41) rfl g #[.string ky, .bool gone, .int .i64 k, .int .i64 n, .string sy] rfl rfl 28 _ HA5.out (by kernel_rfl) rfl (rec_cells_one ..) ?_))
          | fail)
        exact ret_gete_at rfl (setRow_heap _ _ _ _ _ (0, 0) HA5.out) rfl rfl (by rw [HE.out]; unfold outE recOf recV; simp only [Int.natCast_add]; rfl) (setRow_below _ HB5.out HGW.out)
      · have htI : ((T : Int) != (tg : Int)) = true := by simp only [bne_iff_ne]; omega
        have HE := Go.Lib.hid (show OUT = outE none from by rw [HGE.out, if_pos (.inr ht)])
        clear HGE ht
        go_wp2_with (first
          | (with_reducible show wpList _ _ _ (⟨none, Op.store 28 (.tmp 2) (.tmp 40), _, _, _, _⟩ :: _) _ _; go_loud (refine wpList_store_row rfl 28 (.tmp 2) (.tmp 40) rfl g #[.string ⟨#[]⟩, .bool false, .int .i64 0, .int .i64 0, .string ⟨#[]⟩] rfl rfl 28 _ HA5.out (by kernel_rfl) rfl (rec_cells_one ..) ?_))
          | fail)
        exact ret_gete_at rfl (setRow_heap _ _ _ _ _ (0, 0) HA5.out) rfl rfl HE.out (setRow_below _ HB5.out HGW.out)
    · have heI : ((e : Int) != 0) = true := by simp only [bne_iff_ne]; exact he
      have HE := Go.Lib.hid (show OUT = outE none from by rw [HGE.out, if_pos (.inl he)])
      clear HGE HFIT he
      go_upto_region 5 with (fail)
      generalize w3.alloc (.cells #[.string ky, .bool gone, .int .i64 k, .int .i64 n, .string sy] 28) = w4 at *
      go_wp2_with (first
        | (with_reducible show wpList _ _ _ (⟨none, Op.store 28 (.tmp 2) (.tmp 40), _, _, _, _⟩ :: _) _ _; go_loud (refine wpList_store_row rfl 28 (.tmp 2) (.tmp 40) rfl g #[.string ⟨#[]⟩, .bool false, .int .i64 0, .int .i64 0, .string ⟨#[]⟩] rfl rfl 28 _ HA4.out (by kernel_rfl) rfl (rec_cells_one ..) ?_))
        | fail)
      exact ret_gete_at rfl (setRow_heap _ _ _ _ _ (0, 0) HA4.out) rfl rfl HE.out (setRow_below _ HB4.out HGW.out)
end Go.Proofs.YthbnecdeebmlhaaGreat

namespace Go.Proofs.YthbnecdeebmlhaaGreat
open Go.RowKit

/-- The steps wait for one another; each is an operation, and alone writes its slot. -/
def chainB (ops : Array Oper) (steps : List Nat) : Bool :=
  (List.range steps.length).all fun j => match steps[j]? with
    | some i => (match ops[i]? with | some o => (match o.dst with | some t => soleB ops i t | none => true) | none => false) &&
      (List.range j).all fun k => match steps[k]? with | some i' => aheadB ops i i' && i' != i | none => true
    | none => true

section
variable {P : Program} {ops : Array Oper} {Q : Exit → Act → World → Prop}

/-- What the steps have yielded so far. -/
def SlotsC (ops : Array Oper) (steps : List Nat) (vs : List Value) (a : Act) : Prop :=
  ∀ (k i : Nat) (o : Oper) (t : Nat), k < vs.length → steps[k]? = some i → ops[i]? = some o → o.dst = some t → a.tmps[t]? = vs[k]?
structure InvC (ops : Array Oper) (steps : List Nat) (C : List Value → World → Prop) (done : Nat → Bool) (a : Act) (w : World) (vs : List Value) : Prop where
  so : ∀ k i, steps[k]? = some i → (done i = true ↔ k < vs.length)
  le : vs.length ≤ steps.length
  c : C vs w
  slots : SlotsC ops steps vs a

theorem chain_at {steps : List Nat} (h : chainB ops steps = true) {j i : Nat} (hj : steps[j]? = some i) :
    (∃ o, ops[i]? = some o ∧ ∀ t, o.dst = some t → soleB ops i t = true) ∧ ∀ k i', k < j → steps[k]? = some i' → aheadB ops i i' = true ∧ i' ≠ i := by
  unfold chainB at h
  rw [List.all_eq_true] at h
  have h1 := h j (by rw [List.mem_range]; exact (List.getElem?_eq_some_iff.1 hj).1)
  rw [hj] at h1
  simp only [Bool.and_eq_true, List.all_eq_true, List.mem_range] at h1
  obtain ⟨h1, h2⟩ := h1
  refine ⟨?_, fun k i' hk hi' => ?_⟩
  · cases ho : ops[i]? with
    | none => rw [ho] at h1; cases h1
    | some o =>
      rw [ho] at h1
      refine ⟨o, rfl, fun t ht => ?_⟩
      simp only [ht] at h1
      exact h1
  · have h3 := h2 k hk
    rw [hi'] at h3
    simp only [Bool.and_eq_true, bne_iff_ne, ne_eq] at h3
    exact h3

theorem put_tmps_other {a : Act} {t : Option Nat} {s : Nat} {v : Value} (h : t ≠ some s) : (a.put t v).tmps[s]? = a.tmps[s]? := by
  cases t with
  | none => rfl
  | some t => exact Array.getElem?_setIfInBounds_ne (fun e => h (by rw [e]))

theorem wp_region_chain {id : Nat} {a0 : Act} {w0 : World} (hm : P.follows .mixedOrders = true) (V : Nat → Value → Prop) (steps : List Nat) (C : List Value → World → Prop)
    (htidy : tidyB ops = true) (hlow : lowB ops = true) (hdst : (ops.toList.all fun o => match o.dst with | some t => decide (t < a0.tmps.size) | none => true) = true)
    (hchain : chainB ops steps = true) (l : List Nat) (hl : dsts ops = l) (h0 : C [] w0.drew)
    (hquiet : ∀ (i : Nat) (o : Oper), ops[i]? = some o → steps.contains i = false → ∀ (a : Act) (w : World) (vs : List Value), C vs w → a.tmps.size = a0.tmps.size → Given ops (fun t _ v => V t v) a0 o a w →
      wpOp P ops Q i (fun a' w' => ∃ v, a' = a.put o.dst v ∧ C vs w' ∧ ∀ t, o.dst = some t → V t v) a w)
    (hstep : ∀ (j i : Nat) (o : Oper), steps[j]? = some i → ops[i]? = some o → ∀ (a : Act) (w : World) (vs : List Value), vs.length = j → C vs w → SlotsC ops steps vs a → a.tmps.size = a0.tmps.size → Given ops (fun t _ v => V t v) a0 o a w →
      wpOp P ops Q i (fun a' w' => ∃ v, a' = a.put o.dst v ∧ C (vs ++ [v]) w' ∧ ∀ t, o.dst = some t → V t v) a w)
    (hend : ∀ (f : Nat → Value) (w : World) (vs : List Value), vs.length = steps.length → C vs w → (∀ (k i : Nat) (o : Oper) (t : Nat), k < vs.length → steps[k]? = some i → ops[i]? = some o → o.dst = some t → vs[k]? = some (f t)) → (∀ t, t ∈ l → V t (f t)) → Q .normal (putAll a0 f l) w) :
    (Code.region id ops true).wp P Q a0 w0 := by
  refine wp_region_inv3 hm (fun t _ v => V t v) (fun done a w => ∃ vs, InvC ops steps C done a w vs) htidy hlow hdst l hl ?_ ?_ ?_
  · exact ⟨[], fun k i _ => by simp, Nat.zero_le _, h0, fun k i o t hk => absurd hk (by simp)⟩
  · rintro i o ho a w done ⟨vs, hI⟩ hnot hr hsh hlen hg
    cases hc : steps.contains i with
    | false =>
      refine wpOp_mono ?_ (hquiet i o ho hc a w vs hI.c hlen hg)
      rintro a' w' ⟨v, rfl, hC, hV⟩
      refine ⟨v, rfl, ⟨vs, fun k i' hi' => ?_, hI.le, hC, fun k i' o' t hk hi' ho' ht => ?_⟩, fun _ _ _ h => h, hV⟩
      · have hne : i' ≠ i := by
          rintro rfl
          have : i' ∈ steps := List.mem_of_getElem? hi'
          rw [← List.contains_iff_mem, hc] at this
          cases this
        rw [doneToo_other hne]
        exact hI.so k i' hi'
      · rw [put_tmps_other]
        · exact hI.slots k i' o' t hk hi' ho' ht
        · intro e
          obtain ⟨⟨o2, h2, hs⟩, -⟩ := chain_at hchain hi'
          rw [ho'] at h2
          cases h2
          have h3 := hs t ht
          refine not_wrote (done := fun j => decide (j = i)) h3 ?_ ⟨i, o, ho, e, by simp⟩
          simp only [decide_eq_false_iff_not]
          rintro rfl
          have : i' ∈ steps := List.mem_of_getElem? hi'
          rw [← List.contains_iff_mem, hc] at this
          cases this
    | true =>
      obtain ⟨j, hj⟩ := List.getElem?_of_mem (List.contains_iff_mem.1 hc)
      obtain ⟨⟨o2, h2, hs⟩, hah⟩ := chain_at hchain hj
      rw [ho] at h2
      cases h2
      have hjl : vs.length = j := by
        rcases Nat.lt_trichotomy vs.length j with h | h | h
        · have hjs := (List.getElem?_eq_some_iff.1 hj).1
          obtain ⟨i', hi'⟩ : ∃ i', steps[vs.length]? = some i' := ⟨_, List.getElem?_eq_getElem (by omega)⟩
          have := (hI.so _ _ hi').1 (hr i' (hah _ _ h hi').1)
          omega
        · exact h
        · have := (hI.so j i hj).2 h
          rw [hnot] at this
          cases this
      refine wpOp_mono ?_ (hstep j i o hj ho a w vs hjl hI.c hI.slots hlen hg)
      rintro a' w' ⟨v, rfl, hC, hV⟩
      refine ⟨v, rfl, ⟨vs ++ [v], fun k i' hi' => ?_, ?_, hC, fun k i' o' t hk hi' ho' ht => ?_⟩, fun _ _ _ h => h, hV⟩
      · rw [List.length_append, List.length_singleton]
        rcases Nat.lt_trichotomy k j with h | h | h
        · have hne := (hah k i' h hi').2
          rw [doneToo_other hne, hI.so k i' hi']
          omega
        · subst h
          rw [hj] at hi'
          cases hi'
          rw [doneToo_self]
          simp; omega
        · have hne := ((chain_at hchain hi').2 j i h hj).2
          rw [doneToo_other (Ne.symm hne), hI.so k i' hi']
          omega
      · rw [List.length_append, List.length_singleton]
        have := (List.getElem?_eq_some_iff.1 hj).1
        omega
      · rw [List.length_append, List.length_singleton] at hk
        rcases Nat.lt_or_ge k j with h | h
        · have hne := (hah k i' h hi').2
          rw [put_tmps_other, List.getElem?_append_left (by omega)]
          · exact hI.slots k i' o' t (by omega) hi' ho' ht
          · intro e
            have h3 := hs t e
            refine not_wrote (done := fun j => decide (j = i')) h3 ?_ ⟨i', o', ho', ht, by simp⟩
            simp only [decide_eq_false_iff_not]
            exact fun e => hne e.symm
        · obtain rfl : k = j := by omega
          rw [hj] at hi'
          cases hi'
          rw [ho] at ho'
          cases ho'
          rw [List.getElem?_append_right (by omega), hjl, Nat.sub_self, ht]
          have hlt : t < a.tmps.size := by
            rw [hlen]
            rw [List.all_eq_true] at hdst
            have h1 := hdst o (by obtain ⟨h, rfl⟩ := Array.getElem?_eq_some_iff.1 ho; simp)
            rw [ht] at h1
            exact of_decide_eq_true h1
          simp [Act.put, hlt]
  · rintro f w done hall ⟨vs, hI⟩ hV
    have hlen : vs.length = steps.length := by
      rcases Nat.lt_or_ge vs.length steps.length with h | h
      · obtain ⟨i', hi'⟩ : ∃ i', steps[vs.length]? = some i' := ⟨_, List.getElem?_eq_getElem h⟩
        obtain ⟨⟨o2, h2, -⟩, -⟩ := chain_at hchain hi'
        have := (hI.so _ _ hi').1 (hall i' (Array.getElem?_eq_some_iff.1 h2).1)
        omega
      · have := hI.le; omega
    refine hend f w vs hlen hI.c (fun k i o t hk hi ho ht => ?_) hV
    rw [← hI.slots k i o t hk hi ho ht, putAll_tmps, if_pos]
    refine ⟨?_, ?_⟩
    · rw [← hl, dsts, List.mem_filterMap]
      exact ⟨o, by obtain ⟨h, rfl⟩ := Array.getElem?_eq_some_iff.1 ho; simp, ht⟩
    · rw [List.all_eq_true] at hdst
      have h1 := hdst o (by obtain ⟨h, rfl⟩ := Array.getElem?_eq_some_iff.1 ho; simp)
      rw [ht] at h1
      exact of_decide_eq_true h1
end

/-- An operation whose guard is met is as one that has none. -/
theorem wpList_met {P : Program} {ops : Array Oper} {Q : Exit → Act → World → Prop} {a : Act} {w : World} {rest : List Oper} {d : Option Tmp} {op : Op} {t : TypeId} {p : String} {af : Array Edge} {g : Option (Nat × Bool)}
    (hw : Region.wanted ⟨d, op, t, p, af, g⟩ (yielded ops a.tmps) = true) (h : wpList P ops Q (⟨d, op, t, p, af, none⟩ :: rest) a w) : wpList P ops Q (⟨d, op, t, p, af, g⟩ :: rest) a w := by
  unfold wpList at h ⊢
  rw [if_pos hw]
  rw [if_pos (by simp [Region.wanted])] at h
  exact h

end Go.Proofs.YthbnecdeebmlhaaGreat

namespace Go.Proofs.YthbnecdeebmlhaaGreat
open Go.RowKit

def outD (o : Option TabT) : Value := match o with
  | some TT => .tuple #[.agg (tabL TT 32).toArray, .int .i64 0]
  | none => .tuple #[.agg (tabL zeroT 32).toArray, .int .i64 8]
theorem ret_odec_at {w w0 : World} {tmps : Array Value} {TL : List Value} {g : Nat} {fr : Nat × Nat} {b v : Value}
    (hp : tmps.getD 2 undef = .pointer (some ⟨g, 0, none⟩)) (hg : w.heap[g]? = some (.cells TL.toArray 43 fr)) (hs : (Tryz.prog.info? 43).map (·.size) = some TL.length) (h3 : tmps.getD 3 undef = b)
    (hr : v = .tuple #[.agg TL.toArray, b]) (hb : Below w0.heap.size w0 w) : bodyPost Tryz.prog Tryz.f18 (fun e w' => e = .returned v ∧ Below w0.heap.size w0 w') Exit.ret { tmps := tmps, defers := [] } w := by
  subst hr
  have h := results_row_one (P := Tryz.prog) (fn := Tryz.f18) (p := 2) (u := 3) (ty := 43) rfl tmps w g 43 TL.toArray fr _ hp hg Tryz.underlying43 rfl (by rw [hs, List.size_toArray])
  rw [h3] at h
  exact bodyPost_ret h rfl ⟨rfl, hb⟩
theorem zero_tabZ (W : World) : (zeroValue 43).run Tryz.prog W = .ok (.agg (tabL zeroT 32).toArray) W := zero_tabO W
theorem build_zero (W : World) : (Instr.build 43 #[]).run Tryz.prog W = .ok (.agg (tabL zeroT 32).toArray) W := run_build W _ _ _ (by kernel_rfl)
theorem tabL_one (TT : TabT) : (tabL TT 32).toArray.all (fun x => x.oneCell') = true := by
  rw [Array.all_eq_true_iff_forall_mem]
  intro v hv
  rw [List.mem_toArray] at hv
  unfold tabL at hv
  obtain ⟨s, -, hv⟩ := List.mem_flatMap.1 hv
  exact enc6_one _ v hv
theorem six1 (hq : Bool) (kx : ByteArray) (gx : Bool) (ax nx : Int) (sx : ByteArray) : (#[.bool hq, .string kx, .bool gx, .int .i64 ax, .int .i64 nx, .string sx] : Array Value).all (fun x => x.oneCell') = true := by simp [Value.oneCell']
theorem build_oslot (hq : Bool) (kx : ByteArray) (gx : Bool) (ax nx : Int) (sx : ByteArray) (W : World) : (Instr.build 40 #[(0, .bool hq), (1, .agg #[.string kx, .bool gx, .int .i64 ax, .int .i64 nx, .string sx])]).run Tryz.prog W = .ok (.agg #[.bool hq, .string kx, .bool gx, .int .i64 ax, .int .i64 nx, .string sx]) W :=
  run_build W _ _ _ (by kernel_rfl)

def VDc (g i D R : Nat) (kx : ByteArray) (gx : Bool) (ax nx : Int) (sx : ByteArray) : Nat → World → Value → Prop
  | 42, _, v => v = .int .i64 (i : Int)
  | 43, _, v => v = .int .i64 (D : Int)
  | 44, _, v => v = .int .i64 (i : Int)
  | 45, _, v => v = .int .i64 (R : Int)
  | 46, _, v => v = .agg #[.string kx, .bool gx, .int .i64 ax, .int .i64 nx, .string sx]
  | 47, _, v => v = .agg #[.bool true, .string kx, .bool gx, .int .i64 ax, .int .i64 nx, .string sx]
  | 48, _, v => v = .pointer (some ⟨g, 24 * D, none⟩)
  | 49, _, v => v = .pointer (some ⟨g, 24 * D + 6 * R, none⟩)
  | _, _, _ => True
theorem VDc_below (g i D R : Nat) (kx : ByteArray) (gx : Bool) (ax nx : Int) (sx : ByteArray) : ∀ (i' : Nat) (w w' : World) (v : Value), VDc g i D R kx gx ax nx sx i' w v → Below w.heap.size w w' → VDc g i D R kx gx ax nx sx i' w' v := by
  intro i' w w' v h hb
  unfold VDc at h ⊢
  split at h <;> first | exact h | trivial | exact h

theorem setCells_gr : ∀ (vs : List Value) (w : World) (b o : Nat), w.grownBy (w.setCells b o vs) (some b)
  | [], w, b, o => World.grownBy.refl _ _
  | v :: r, w, b, o => by
    rw [World.setCells]
    have h1 : w.grownBy (w.setCell ⟨b, o, none⟩ v) (some b) := ⟨rfl, rfl, rfl, by simp [World.setCell], fun k hk hn => Below.heap_setCell _ _ _ _ (fun e => hn (by rw [e]))⟩
    exact h1.trans (setCells_gr r _ b (o + 1))
theorem own_notF {e t : TypeId} {w : World} {B b : Nat} {v : Value} {l : List UInt8} {cs : Array Value} {fr : Nat × Nat} (h : Own e w B v l) (hb : w.heap[b]? = some (.cells cs t fr)) (hne : e ≠ t) : v.ownBlock ≠ some b := by
  intro hv
  rcases h.2 with ⟨rfl, -⟩ | ⟨g, cap, cur, rfl, -, hg, -⟩
  · cases hv
  · simp only [Value.ownBlock, Option.some.injEq] at hv
    subst hv
    rw [hb] at hg
    simp only [Option.some.injEq, Obj.cells.injEq] at hg
    exact hne hg.2.1.symm

/-- What Decode has in hand. -/
structure DcI (bs : List Bool) (l : List UInt8) (g gt hb : Nat) (vb : Value) (ZA : Array Value) (i k : Nat) (TT : TabT) (w : World) : Prop where
  dec : decGo bs l i = some (TT, k)
  tab : TO w gt TT
  bt : BT w (g + 1) hb vb bs
  zero : w.heap[g]? = some (.cells ZA 43 (0, 0))
theorem DcI.below {bs : List Bool} {l : List UInt8} {g gt hb : Nat} {vb : Value} {ZA : Array Value} {i k : Nat} {TT : TabT} {w w' : World} (h : DcI bs l g gt hb vb ZA i k TT w) (hk : Below w.heap.size w w') : DcI bs l g gt hb vb ZA i k TT w' :=
  ⟨h.dec, h.tab.below hk, h.bt.below hk, (hk.block g (Array.getElem?_eq_some_iff.1 h.zero).1).trans h.zero⟩

set_option maxHeartbeats 8000000 in
set_option maxRecDepth 100000 in
theorem odecode_c (v : Value) (l : List UInt8) (w : World) (hv : RB w v l) :
    Calls Tryz.prog 18 #[v] w fun e w' => e = .returned (outD (decT l)) ∧ Below w.heap.size w w' := by
  obtain ⟨OUT, hOUT⟩ : ∃ OUT, OUT = outD (decT l) := ⟨_, rfl⟩
  rw [← hOUT]
  have HOUT := Go.Lib.hid hOUT
  clear hOUT
  have hm : l.length ≤ 9223372036854775807 := by obtain ⟨a, cap, -, h1, h2, -⟩ := id hv; unfold maxLen at h2; omega
  have hz := zero_tabZ
  have hbz := build_zero
  have HZS := Go.Lib.hid (sizeTabO zeroT)
  have HZL := Go.Lib.hid (tabL_one zeroT)
  have HON := Go.Lib.hid (show outD none = .tuple #[.agg (tabL zeroT 32).toArray, .int .i64 8] from rfl)
  have HT0 := Go.Lib.hid (fun W => TO.new W zeroT)
  generalize tabL zeroT 32 = ZL at *
  have hb1 := below_one w (.cells ZL.toArray 43)
  have HA := Go.Lib.hid (heap_alloc_new w (.cells ZL.toArray 43))
  have HB := Go.Lib.hid hb1
  have HR := Go.Lib.hid (hv.below hb1)
  have HR0 := Go.Lib.hid hv
  obtain ⟨a, cap, rfl, -, -, -, -⟩ := id hv
  clear hb1 hv
  obtain ⟨g, hg⟩ : ∃ g, g = w.heap.size := ⟨_, rfl⟩
  have HG := Go.Lib.hid (show w.heap.size ≤ g ∧ (w.alloc (.cells ZL.toArray 43)).heap.size = g + 1 by rw [hg]; exact ⟨Nat.le_refl _, Array.size_push _⟩)
  rw [← hg] at HA
  have hmin : min (4 : Int) (l.length : Int) = ((min 4 l.length : Nat) : Int) := by omega
  have HMT := Go.Lib.hid (show l.take (min 4 l.length) = l.take 4 from by
    rcases Nat.le_total 4 l.length with h | h
    · rw [Nat.min_eq_left h]
    · rw [Nat.min_eq_right h, List.take_length, List.take_of_length_le h])
  have HMIN := Go.Lib.hid hmin
  clear hmin
  go_enter Tryz.func18, Tryz.ntmps18
  go_upto_region 1 with (fail)
  rw [← hg]
  generalize w.alloc (.cells ZL.toArray 43) = w1 at *
  clear hg
  go_wp2_with (first
    | (with_reducible show wpList _ _ _ (⟨some 17, _, _, _, _, _⟩ :: _) _ _; go_loud (refine wpList_slice_h rfl (.tmp 13) (.tmp 16) 47 rfl 5 Tryz.underlying47 info8 (.slice a l.length cap) l .i64 (min 4 (l.length : Int)) (min 4 l.length) rfl rfl HMIN.out HR.out (Nat.min_le_right _ _) ?_); intro v2 hr2)
    | fail)
  rw [HMT.out] at hr2
  by_cases h4 : 4 ≤ l.length
  · have CB := Go.Lib.hid (bof_yes v2 32 w1 (l.take 4) hr2 (by decide) (okP4.2 h4))
    have HDT := Go.Lib.hid (show decT l = decR ((unpack (l.take 4)).take 32) l from by unfold decT; rw [if_pos h4])
    have HBL := Go.Lib.hid (show ((unpack (l.take 4)).take 32).length = 32 from (okP_pack (n := 32) (okP4.2 h4)).2)
    have HDI := Go.Lib.hid (fun n TT k => decGo_inv ((unpack (l.take 4)).take 32) l h4 n TT k)
    clear hr2 h4
    generalize (unpack (l.take 4)).take 32 = bs at *
    refine CB.out.mono ?_
    rintro e w2 ⟨hb, vb, rfl, hbt, hc⟩
    have HBT := Go.Lib.hid (hbt.mono (B' := g + 1) (by rw [HG.out.2]; exact Nat.le_refl _))
    have HA2 := Go.Lib.hid ((hc.block g (Array.getElem?_eq_some_iff.1 HA.out).1).trans HA.out)
    have HB2 := Go.Lib.hid (HB.out.trans (hc.mono HB.out.size))
    have HR2 := Go.Lib.hid (HR.out.below hc)
    have HG2 := Go.Lib.hid (show w.heap.size ≤ g ∧ g < w2.heap.size from ⟨HG.out.1, by have := hc.size; have := HG.out.2; omega⟩)
    clear hbt hc CB HA HB HR HG HMIN HMT
    go_upto_region 5 with (fail)
    have hb3 := below_one w2 (.cells ZL.toArray 43)
    have HT3 := Go.Lib.hid (HT0.out w2)
    have HBT3 := Go.Lib.hid (HBT.out.below hb3)
    have HA3 := Go.Lib.hid ((hb3.block g HG2.out.2).trans HA2.out)
    have HB3 := Go.Lib.hid (HB2.out.trans (hb3.mono HB2.out.size))
    have HR3 := Go.Lib.hid (HR2.out.below hb3)
    obtain ⟨gt, hgt⟩ : ∃ gt, gt = w2.heap.size := ⟨_, rfl⟩
    rw [← hgt] at HT3 ⊢
    have HGT := Go.Lib.hid (show w.heap.size ≤ g ∧ g < gt from ⟨HG2.out.1, by rw [hgt]; exact HG2.out.2⟩)
    clear hb3 HBT HA2 HB2 HR2 HG2 hgt HT0
    generalize w2.alloc (.cells ZL.toArray 43) = w3 at *
    have HI := Go.Lib.hid (show DcI bs l g gt hb vb ZL.toArray 0 4 zeroT w3 from ⟨rfl, HT3.out, HBT3.out, HA3.out⟩)
    clear HT3 HBT3 HA3
    go_wp2_with fail
    go_loopw [7, 24] (fun kv iv wr => ∃ (i k : Nat) (TT : TabT), kv = .int .i64 (k : Int) ∧ iv = .int .i64 (i : Int) ∧ i ≤ 32 ∧ Hid (DcI bs l g gt hb vb ZL.toArray i k TT wr) ∧ Hid (Below w.heap.size w wr)) (fun _ iv _ => 32 - (intOf iv).toNat)
    case atStart => exact ⟨0, 4, _, rfl, rfl, by omega, HI, HB3⟩
    case round =>
      clear HI
      obtain ⟨i, k, TT, rfl, rfl, hi, HI, HB⟩ := hrel
      have HRw := Go.Lib.hid (HR0.out.below HB.out)
      have HDX := Go.Lib.hid (HDI.out i TT k HI.out.dec)
      by_cases hlt : i < 32
      · have hltI : (i : Int) < 32 := by omega
        have ca := at_c (i : Int) wr (g + 1) hb vb bs HI.out.bt (by rw [HBL.out]; decide)
        rw [show atBit bs (i : Int) = bs.getD i false from by unfold atBit; simp] at ca
        have CA := Go.Lib.hid ca
        clear ca
        go_wp2_with fail
        refine CA.out.mono ?_
        rintro e w4 ⟨rfl, hc⟩
        have HI4 := Go.Lib.hid (HI.out.below hc)
        have HB4 := Go.Lib.hid (HB.out.trans (hc.mono HB.out.size))
        have HR4 := Go.Lib.hid (HR0.out.below HB4.out)
        clear hc CA HI HB HRw
        cases hbit : bs.getD i false with
        | false =>
          have HI5 := Go.Lib.hid (show DcI bs l g gt hb vb ZL.toArray (i + 1) k TT w4 from ⟨decGo_skip HI4.out.dec hbit, HI4.out.tab, HI4.out.bt, HI4.out.zero⟩)
          clear hbit
          go_wp2_with fail
          exact ⟨⟨i + 1, k, TT, rfl, by go_num, by omega, HI5, HB4⟩, by simp only [intOf]; omega⟩
        | true =>
          have HBIT := Go.Lib.hid hbit
          clear hbit
          go_wp2_with (first
            | (with_reducible show wpList _ _ _ (⟨some 34, _, _, _, _, _⟩ :: _) _ _; go_loud (refine wpList_slice_l rfl (.tmp 32) (.tmp 33) 47 rfl 5 Tryz.underlying47 info8 (.slice a l.length cap) l .i64 (k : Int) k rfl rfl rfl HR4.out HDX.out.le ?_); intro v5 hr5)
            | fail)
          have CG := Go.Lib.hid (getentry_c v5 (l.drop k) w4 hr5)
          clear hr5
          cases hge : getE (l.drop k) with
          | none =>
            have HE := Go.Lib.hid (show OUT = .tuple #[.agg ZL.toArray, .int .i64 8] from by rw [HOUT.out, HDT.out, decR_none (decGo_stop HI4.out.dec HBIT.out hge) (by omega), HON.out])
            rw [hge] at CG
            clear hge
            refine CG.out.mono ?_
            rintro e w6 ⟨rfl, hc⟩
            unfold outE recOf recV nullR
            simp only []
            have hb7 := below_one w6 (.cells #[.string ⟨#[]⟩, .bool false, .int .i64 0, .int .i64 0, .string ⟨#[]⟩] 28)
            have hc7 := hc.trans (hb7.mono hc.size)
            have HB7 := Go.Lib.hid (HB4.out.trans (hc7.mono HB4.out.size))
            have HA7 := Go.Lib.hid (HI4.out.below hc7).zero
            clear hc hb7 hc7 CG
            go_upto_region 11 with (fail)
            generalize w6.alloc (.cells #[.string ⟨#[]⟩, .bool false, .int .i64 0, .int .i64 0, .string ⟨#[]⟩] 28) = w7 at *
            go_wp2_with (first
              | (with_reducible show wpList _ _ _ (⟨none, Op.store 43 (.tmp 2) (.tmp 41), _, _, _, _⟩ :: _) _ _; go_loud (refine wpList_store_row rfl 43 (.tmp 2) (.tmp 41) rfl g ZL.toArray rfl rfl 43 _ HA7.out (by rw [HZS.out, List.size_toArray]) rfl HZL.out ?_))
              | fail)
            exact ret_odec_at rfl (setRow_heap _ _ _ _ _ (0, 0) HA7.out) HZS.out rfl HE.out (setRow_below _ HB7.out HGT.out.1)
          | some p =>
            obtain ⟨⟨kx, gx, ax, nx, sx⟩, m⟩ := p
            have HDN := Go.Lib.hid (decGo_more HI4.out.dec HBIT.out hge)
            have HKM := Go.Lib.hid (HDI.out _ _ _ HDN.out).le
            rw [hge] at CG
            clear hge
            refine CG.out.mono ?_
            rintro e w6 ⟨rfl, hc⟩
            unfold outE recOf recV
            simp only []
            have hb7 := below_one w6 (.cells #[.string kx, .bool gx, .int .i64 ax, .int .i64 nx, .string sx] 28)
            have HX7 := Go.Lib.hid (heap_alloc_new w6 (.cells #[.string kx, .bool gx, .int .i64 ax, .int .i64 nx, .string sx] 28))
            have hc7 := hc.trans (hb7.mono hc.size)
            have HB7 := Go.Lib.hid (HB4.out.trans (hc7.mono HB4.out.size))
            have HI7 := Go.Lib.hid (HI4.out.below hc7)
            clear hc hb7 hc7 CG HI4 HB4 HR4
            go_upto_region 13 with (fail)
            obtain ⟨g9, hg9⟩ : ∃ g9, g9 = w6.heap.size := ⟨_, rfl⟩
            rw [← hg9] at HX7 ⊢
            clear hg9
            generalize w6.alloc (.cells #[.string kx, .bool gx, .int .i64 ax, .int .i64 nx, .string sx] 28) = w7 at *
            obtain ⟨D, hD⟩ : ∃ D, D = i / 4 := ⟨_, rfl⟩
            obtain ⟨R, hR⟩ : ∃ R, R = i % 4 := ⟨_, rfl⟩
            have d1 : (i : Int).tdiv 4 = (D : Int) := by rw [Int.tdiv_eq_ediv_of_nonneg (by omega)]; omega
            have r1 : (i : Int).tmod 4 = (R : Int) := by rw [Int.tmod_eq_emod_of_nonneg (by omega)]; omega
            have hD8 : D < 8 := by omega
            have hR4 : R < 4 := by omega
            have HIE := Go.Lib.hid (show 4 * D + R = i by omega)
            have hwD : IntKind.i64.wrap (D : Int) = (D : Int) := by rw [IntKind.wrap_i64]; omega
            have hix1 := idxO gt D hD8
            have hix2 := idxO2 gt (24 * D) R hR4
            clear hD hR
            refine wp_region_head 8 (by decide) (by kernel_rfl) (VDc gt i D R kx gx ax nx sx) (VDc_below gt i D R kx gx ax nx sx) (by decide +kernel) (by rfl) [42, 43, 44, 45, 46, 47, 48, 49] (by rfl) ?_ ?_
            · intro i' o hin ho a w8 hb8 hlen hg
              obtain ⟨y0, y1, y2, y3, y4⟩ := row5 (row_kept HX7.out hb8)
              match i', hin, ho with
              | 0, hin, ho =>
                obtain rfl := Option.some.inj ho
                have h8 := given_old hg 8 (by decide +kernel)
                clear hg
                exact st_yield ho (wanted_none rfl) (.int .i64 (i : Int)) w8 (by simp [execOp, Act.eval, h8, go_sem]) ⟨_, rfl, Below.refl _ _, by rintro t' ⟨⟩; rfl⟩
              | 1, hin, ho =>
                obtain rfl := Option.some.inj ho
                obtain ⟨_, h42, rfl⟩ := given_fed hg 42 (by decide +kernel)
                clear hg
                exact st_yield ho (wanted_none rfl) (.int .i64 (D : Int)) w8 (by simp [execOp, Act.eval, h42, go_sem, d1, hwD]) ⟨_, rfl, Below.refl _ _, by rintro t' ⟨⟩; rfl⟩
              | 2, hin, ho =>
                obtain rfl := Option.some.inj ho
                have h8 := given_old hg 8 (by decide +kernel)
                clear hg
                exact st_yield ho (wanted_none rfl) (.int .i64 (i : Int)) w8 (by simp [execOp, Act.eval, h8, go_sem]) ⟨_, rfl, Below.refl _ _, by rintro t' ⟨⟩; rfl⟩
              | 3, hin, ho =>
                obtain rfl := Option.some.inj ho
                obtain ⟨_, h44, rfl⟩ := given_fed hg 44 (by decide +kernel)
                clear hg
                exact st_yield ho (wanted_none rfl) (.int .i64 (R : Int)) w8 (by simp [execOp, Act.eval, h44, go_sem, r1]) ⟨_, rfl, Below.refl _ _, by rintro t' ⟨⟩; rfl⟩
              | 4, hin, ho =>
                obtain rfl := Option.some.inj ho
                have h9 := given_old hg 9 (by decide +kernel)
                clear hg
                exact st_yield ho (wanted_none rfl) (.agg #[.string kx, .bool gx, .int .i64 ax, .int .i64 nx, .string sx]) w8 (by simp [execOp, Act.eval, h9, go_sem, y0, y1, y2, y3, y4]) ⟨_, rfl, Below.refl _ _, by rintro t' ⟨⟩; rfl⟩
              | 5, hin, ho =>
                obtain rfl := Option.some.inj ho
                obtain ⟨_, h46, rfl⟩ := given_fed hg 46 (by decide +kernel)
                clear hg
                exact st_yield ho (wanted_none rfl) (.agg #[.bool true, .string kx, .bool gx, .int .i64 ax, .int .i64 nx, .string sx]) w8 (by simp [execOp, Act.eval, h46, build_oslot true kx gx ax nx sx w8]) ⟨_, rfl, Below.refl _ _, by rintro t' ⟨⟩; rfl⟩
              | 6, hin, ho =>
                obtain rfl := Option.some.inj ho
                have h6 := given_old hg 6 (by decide +kernel)
                obtain ⟨_, h43, rfl⟩ := given_fed hg 43 (by decide +kernel)
                clear hg
                exact st_yield ho (wanted_none rfl) (.pointer (some ⟨gt, 24 * D, none⟩)) w8 (by simp [execOp, Act.eval, h6, h43, go_sem, hix1]) ⟨_, rfl, Below.refl _ _, by rintro t' ⟨⟩; rfl⟩
              | 7, hin, ho =>
                obtain rfl := Option.some.inj ho
                obtain ⟨_, h48, rfl⟩ := given_fed hg 48 (by decide +kernel)
                obtain ⟨_, h45, rfl⟩ := given_fed hg 45 (by decide +kernel)
                clear hg
                exact st_yield ho (wanted_none rfl) (.pointer (some ⟨gt, 24 * D + 6 * R, none⟩)) w8 (by simp [execOp, Act.eval, h48, h45, go_sem, hix2]) ⟨_, rfl, Below.refl _ _, by rintro t' ⟨⟩; rfl⟩
              | n + 8, hin, ho => omega
            · intro f w8 hb8 hv
              have h47 := hv 47 (by decide)
              have h49 := hv 49 (by decide)
              simp only [VDc] at h47 h49
              have HI8 := Go.Lib.hid (HI7.out.below hb8)
              have HB8 := Go.Lib.hid (HB7.out.trans (hb8.mono HB7.out.size))
              have HTH := Go.Lib.hid (show w8.there gt (24 * D + 6 * R) (#[.bool true, .string kx, .bool gx, .int .i64 ax, .int .i64 nx, .string sx] : Array Value).size from by rw [show 24 * D + 6 * R = 6 * i by have := HIE.out; omega]; exact HI8.out.tab.there (by omega))
              have hgr := setCells_gr (enc6 (true, kx, gx, ax, nx, sx)) w8 gt (24 * D + 6 * R)
              have HI9 := Go.Lib.hid (show DcI bs l g gt hb vb ZL.toArray (i + 1) (k + m) (setT TT i (true, (kx, gx, ax, nx, sx))) (w8.setCells gt (24 * D + 6 * R) (enc6 (true, kx, gx, ax, nx, sx))) from by
                obtain ⟨cs, fr, hrow⟩ := HI8.out.tab.row
                refine ⟨HDN.out, ?_, HI8.out.bt.grownKept hgr ?_ ?_, ?_⟩
                · have := HI8.out.tab.set (q := i) (by omega) (true, kx, gx, ax, nx, sx)
                  rw [show 6 * i = 24 * D + 6 * R by have := HIE.out; omega] at this
                  exact this
                · intro e
                  have h1 := HI8.out.bt.blk
                  rw [← Option.some.inj e, hrow] at h1
                  simp only [Option.some.injEq, Obj.cells.injEq] at h1
                  exact absurd h1.2.1 (by decide)
                · intro j e hv2
                  rw [← Option.some.inj e] at hv2
                  exact own_notF HI8.out.bt.row hrow (by decide) hv2
                · exact (hgr.block g (Array.getElem?_eq_some_iff.1 HI8.out.zero).1 (fun e => by have := HGT.out.2; have := Option.some.inj e; omega)).trans HI8.out.zero)
              have HB9 := Go.Lib.hid (HB8.out.grown hgr HB8.out.size (fun j e => by have := HGT.out; have := Option.some.inj e; omega))
              have hkm : IntKind.i64.wrap ((k : Int) + (m : Int)) = (k : Int) + (m : Int) := by rw [IntKind.wrap_i64]; have := HKM.out; omega
              clear hv hb8 hix1 hix2 HI7 HB7 HI8 HB8 hgr d1 r1 hwD
              unfold putAll
              simp only [List.foldl, List.drop]
              simp only [h47, h49]
              clear h47 h49
              go_simp
              go_wp2_with (first
                | (with_reducible show wpList _ _ _ (⟨none, _, _, _, _, _⟩ :: _) _ _; go_loud (refine wpList_store_mid rfl 40 (.tmp 49) (.tmp 47) rfl gt (24 * D + 6 * R) #[.bool true, .string kx, .bool gx, .int .i64 ax, .int .i64 nx, .string sx] rfl rfl HTH.out (by kernel_rfl) (six1 true kx gx ax nx sx) ?_))
                | fail)
              go_roundw
              case rel => exact ⟨i + 1, k + m, _, by go_num, by go_num, by omega, HI9, HB9⟩
              case measure => simp only [intOf]; omega
      · obtain rfl : i = 32 := by omega
        have HDR := Go.Lib.hid (show decR bs l = if k < l.length then none else if okTo TT 32 then some TT else none from by unfold decR; rw [HI.out.dec])
        by_cases hk : k < l.length
        · have hkI : (k : Int) < (l.length : Int) := by omega
          have HE := Go.Lib.hid (show OUT = .tuple #[.agg ZL.toArray, .int .i64 8] from by rw [HOUT.out, HDT.out, HDR.out, if_pos hk, HON.out])
          have HA9 := Go.Lib.hid HI.out.zero
          clear HI hk
          go_wp2_with (first
            | (with_reducible show wpList _ _ _ (⟨none, Op.store 43 (.tmp 2) (.tmp 63), _, _, _, _⟩ :: _) _ _; go_loud (refine wpList_store_row rfl 43 (.tmp 2) (.tmp 63) rfl g ZL.toArray rfl rfl 43 _ HA9.out (by rw [HZS.out, List.size_toArray]) rfl HZL.out ?_))
            | fail)
          exact ret_odec_at rfl (setRow_heap _ _ _ _ _ (0, 0) HA9.out) HZS.out rfl HE.out (setRow_below _ HB.out HGT.out.1)
        · have hkI : ¬ (k : Int) < (l.length : Int) := by omega
          rw [if_neg hk] at HDR
          have CM := Go.Lib.hid (omay_c TT wr (fun q _ => HDX.out.sizes q))
          have HRG := Go.Lib.hid (fun W (hb : Below wr.heap.size wr W) => (HI.out.tab.below hb).range)
          have HSZ := Go.Lib.hid (sizeTabO TT)
          have HTO := Go.Lib.hid (tabL_one TT)
          have HOS := Go.Lib.hid (show outD (some TT) = .tuple #[.agg (tabL TT 32).toArray, .int .i64 0] from rfl)
          have HZZ := Go.Lib.hid (show ZL.length = (tabL TT 32).length from by have h1 := HZS.out; have h2 := HSZ.out; rw [h1] at h2; exact Option.some.inj h2)
          generalize tabL TT 32 = TL at *
          clear hk
          go_wp2_with (first
            | (with_reducible show wpList _ _ _ (⟨some 59, _, _, _, _, _⟩ :: _) _ _; go_loud (refine wpList_met (by first | exact wanted_some rfl rfl rfl rfl | kernel_rfl | simp [Region.wanted, yielded]) (wpList_load_mid rfl 43 (.tmp 6) rfl gt 0 rfl TL _ (HRG.out wr (Below.refl _ _)) Tryz.underlying43 rfl HSZ.out ?_)))
            | fail)
          refine CM.out.mono ?_
          rintro e w9 ⟨rfl, hc⟩
          have HA9 := Go.Lib.hid (HI.out.below hc).zero
          have HR9 := Go.Lib.hid (HRG.out w9 hc)
          have HB9 := Go.Lib.hid (HB.out.trans (hc.mono HB.out.size))
          clear hc CM HRG HI HB
          cases hok : okTo TT 32 with
          | false =>
            have HE := Go.Lib.hid (show OUT = .tuple #[.agg ZL.toArray, .int .i64 8] from by rw [HOUT.out, HDT.out, HDR.out, hok, ← HON.out]; rfl)
            clear hok
            go_wp2_with (first
              | (with_reducible show wpList _ _ _ (⟨none, Op.store 43 (.tmp 2) (.tmp 63), _, _, _, _⟩ :: _) _ _; go_loud (refine wpList_store_row rfl 43 (.tmp 2) (.tmp 63) rfl g ZL.toArray rfl rfl 43 _ HA9.out (by rw [HZS.out, List.size_toArray]) rfl HZL.out ?_))
              | fail)
            exact ret_odec_at rfl (setRow_heap _ _ _ _ _ (0, 0) HA9.out) HZS.out rfl HE.out (setRow_below _ HB9.out HGT.out.1)
          | true =>
            have HE := Go.Lib.hid (show OUT = .tuple #[.agg TL.toArray, .int .i64 0] from by rw [HOUT.out, HDT.out, HDR.out, hok, ← HOS.out]; rfl)
            clear hok
            go_wp2_with (first
              | (with_reducible show wpList _ _ _ (⟨some 64, _, _, _, _, _⟩ :: _) _ _; go_loud (refine wpList_load_mid rfl 43 (.tmp 6) rfl gt 0 rfl TL _ HR9.out Tryz.underlying43 rfl HSZ.out ?_))
              | (with_reducible show wpList _ _ _ (⟨none, Op.store 43 (.tmp 2) (.tmp 64), _, _, _, _⟩ :: _) _ _; go_loud (refine wpList_store_row rfl 43 (.tmp 2) (.tmp 64) rfl g TL.toArray rfl rfl 43 _ HA9.out (by rw [HSZ.out, List.size_toArray]) (by rw [List.size_toArray, List.size_toArray]; exact HZZ.out) HTO.out ?_))
              | fail)
            exact ret_odec_at rfl (setRow_heap _ _ _ _ _ (0, 0) HA9.out) HSZ.out rfl HE.out (setRow_below _ HB9.out HGT.out.1)
  · have CB := Go.Lib.hid (bof_no v2 32 w1 (l.take 4) hr2 (by decide) (by rw [okP4]; exact h4))
    have HE := Go.Lib.hid (show OUT = .tuple #[.agg ZL.toArray, .int .i64 8] from by rw [HOUT.out, decT_none h4, HON.out])
    clear hr2 h4
    refine CB.out.mono ?_
    rintro e w2 ⟨rfl, rfl⟩
    go_wp2_with (first
      | (with_reducible show wpList _ _ _ (⟨none, Op.store 43 (.tmp 2) (.tmp 23), _, _, _, _⟩ :: _) _ _; go_loud (refine wpList_store_row rfl 43 (.tmp 2) (.tmp 23) rfl g ZL.toArray rfl rfl 43 _ HA.out (by rw [HZS.out, List.size_toArray]) rfl HZL.out ?_))
      | fail)
    exact ret_odec_at rfl (setRow_heap _ _ _ _ _ (0, 0) HA.out) HZS.out rfl HE.out (setRow_below _ HB.out HG.out.1)
end Go.Proofs.YthbnecdeebmlhaaGreat

namespace Go.Proofs.YthbnecdeebmlhaaGreat
open Go.RowKit

/-- The head's bits and the records, while New goes through the slots. -/
structure NewI (TT : TabT) (g hb n : Nat) (u : Value) (w : World) : Prop where
  bt : ∃ vb, BT w g hb vb (hasL TT n)
  own : OwnRec w g u (recsT TT n)
theorem NewI.below {TT : TabT} {g hb n : Nat} {u : Value} {w w' : World} (h : NewI TT g hb n u w) (hk : Below w.heap.size w w') : NewI TT g hb n u w' := by
  obtain ⟨vb, h1⟩ := h.bt
  exact ⟨⟨vb, h1.below hk⟩, h.own.below hk⟩
theorem rec_not_bits {w : World} {B B' b : Nat} {u vb : Value} {L : List RecT} {l : List Bool} (h : OwnRec w B u L) (hb : BT w B' b vb l) : u.ownBlock ≠ some b := by
  intro e
  obtain ⟨cs, fr, hr⟩ := rec_type h e
  rw [hb.blk] at hr
  simp only [Option.some.injEq, Obj.cells.injEq] at hr
  exact absurd hr.2.1 (by decide)
theorem rec_not_row {w : World} {B B' b : Nat} {u vb : Value} {L : List RecT} {l : List Bool} (h : OwnRec w B u L) (hb : BT w B' b vb l) : ∀ k, u.ownBlock = some k → vb.ownBlock ≠ some k := by
  intro k hk
  obtain ⟨cs, fr, hr⟩ := rec_type h hk
  exact own_notF hb.row hr (by decide)
theorem rec_two {w w' : World} {B b : Nat} {r : Option Nat} {u : Value} {L : List RecT} (h : OwnRec w B u L) (hk : Two b r w w') (h1 : u.ownBlock ≠ some b) (h2 : ∀ k, u.ownBlock = some k → r ≠ some k) : OwnRec w' B u L :=
  own_same h fun g cs fr hg hug => hk.block g (Array.getElem?_eq_some_iff.1 hg).1 (fun e => h1 (by rw [← e]; exact hug)) (fun e => h2 g hug e.symm)

/-- What New comes to. -/
def NewTo (TT : TabT) (w0 : World) (e : Ending) (w' : World) : Prop :=
  Below w0.heap.size w0 w' ∧ ((okTo TT 32 = true ∧ ∃ p u r, e = .returned (.tuple #[.pointer (some ⟨p, 0, none⟩), .int .i64 0]) ∧ HW w' w0.heap.size p u r TT) ∨ (okTo TT 32 = false ∧ e = .returned (.tuple #[.pointer none, .int .i64 1])))

set_option maxHeartbeats 4000000 in
set_option maxRecDepth 100000 in
theorem hnew_c (TT : TabT) (w : World) (hs : ∀ q, q < 32 → (TT q).2.1.size ≤ 1000 ∧ (TT q).2.2.2.2.2.size ≤ 1000) (htab : TabOk TT) :
    Calls Tryz.prog 11 #[.agg (tabL TT 32).toArray] w fun e w' => NewTo TT w e w' := by
  have HRG := Go.Lib.hid (TO.new w TT)
  have HB := Go.Lib.hid (below_one w (.cells (tabL TT 32).toArray 43))
  have HV := Go.Lib.hid (tabV TT)
  have HS := Go.Lib.hid hs
  have HTO := Go.Lib.hid htab
  have HRA := Go.Lib.hid (fun (W : World) g (h : TO W g TT) => h.range)
  have CM := Go.Lib.hid fun W => omay_c TT W hs
  generalize tabL TT 32 = TL at *
  generalize (fun b => (rowL TT b).toArray) = RL at *
  generalize (rowL (fun _ => (false, nullR)) 0).toArray = Z at *
  clear hs htab
  obtain ⟨g, hg⟩ : ∃ g, g = w.heap.size := ⟨_, rfl⟩
  have HG := Go.Lib.hid hg
  rw [← hg] at HRG HB
  clear hg
  have hz := HV.out.zero
  go_enter Tryz.func11, Tryz.ntmps11
  go_upto_region 1 with (fail)
  rw [← HG.out]
  generalize w.alloc (.cells TL.toArray 43) = w1 at *
  have HRX := Go.Lib.hid (HRA.out _ _ HRG.out)
  go_wp2_with (first
    | (with_reducible show wpList _ _ _ (⟨some 10, _, _, _, _, _⟩ :: _) _ _; go_loud (refine wpList_load_mid rfl 43 (.tmp 1) rfl g 0 rfl TL _ HRX.out Tryz.underlying43 rfl HV.out.size ?_))
    | fail)
  refine (CM.out _).mono ?_
  rintro e w2 ⟨rfl, hc⟩
  have HT2 := Go.Lib.hid (HRG.out.below hc)
  have HB2 := Go.Lib.hid (HB.out.trans (hc.mono (by have := HB.out.size; have := HG.out; omega)))
  clear hc CM HRG HB HRX
  by_cases hok : okTo TT 32 = true
  · have HOK := Go.Lib.hid hok
    rw [hok]
    clear hok
    go_upto_region 5 with (fail)
    have hb3 := below_one w2 (.cells #[.slice none 0 0, .int .i64 0] 80)
    have HBT := Go.Lib.hid ((BT.new w2).mono (B' := g) (by have := HB2.out.size; have := HG.out; omega))
    have HT3 := Go.Lib.hid (HT2.out.below hb3)
    have HB3 := Go.Lib.hid (HB2.out.trans (hb3.mono (by have := HB2.out.size; have := HG.out; omega)))
    have HHB := Go.Lib.hid (show g ≤ w2.heap.size by have := HB2.out.size; have := HG.out; omega)
    clear hb3 HT2 HB2
    obtain ⟨hb, hhb⟩ : ∃ h, h = w2.heap.size := ⟨_, rfl⟩
    rw [← hhb] at HBT HHB ⊢
    clear hhb
    generalize w2.alloc (.cells #[.slice none 0 0, .int .i64 0] 80) = w3 at *
    have HRX := Go.Lib.hid (HRA.out _ _ HT3.out)
    have HI := Go.Lib.hid (show NewI TT g hb 0 (.slice none 0 0) w3 from ⟨⟨_, HBT.out⟩, OwnRec.nil _ _⟩)
    clear HT3 HBT HRA
    go_wp2_with (first
      | (with_reducible show wpList _ _ _ (⟨some 13, _, _, _, _, _⟩ :: _) _ _; go_loud (refine wpList_load_mid rfl 43 (.tmp 1) rfl g 0 rfl TL _ HRX.out Tryz.underlying43 rfl HV.out.size ?_))
      | fail)
    go_loopw [4, 14] (fun lv bv wr => ∃ (b : Nat) (u : Value), u = lv ∧ b ≤ 8 ∧ bv = .int .i64 (b : Int) ∧ Hid (NewI TT g hb (4 * b) u wr) ∧ Hid (Below g w wr)) (fun _ bv _ => 8 - (intOf bv).toNat)
    case atStart => exact ⟨0, _, rfl, by omega, rfl, HI, HB3⟩
    case round =>
      clear HI HRX HB3
      obtain ⟨b, u, rfl, hb8, rfl, HI, HB⟩ := hrel
      by_cases hlt : b < 8
      · have hltI : (b : Int) < 8 := by omega
        have hix := HV.out.row b hlt
        have hgw : g ≤ wr.heap.size := by have := HB.out.size; have := HG.out; omega
        have hb2 := below_one wr (.cells Z 41)
        have HZ := Go.Lib.hid (heap_alloc_new wr (.cells Z 41))
        have HX := Go.Lib.hid (setRow_heap _ wr.heap.size _ (RL b) 41 (0, 0) HZ.out)
        have hb3 := setRow_below (RL b) hb2 (Nat.le_refl _)
        have HB2 := Go.Lib.hid (HB.out.trans (hb3.mono hgw))
        have HI2 := Go.Lib.hid (HI.out.below hb3)
        clear hb2 hb3 HB HI
        go_upto_region 8 with (first
          | (with_reducible show wpList _ _ _ (⟨none, Op.store 41 (.tmp 7) (.tmp 16), _, _, _, _⟩ :: _) _ _; go_loud (refine wpList_store_row rfl 41 (.tmp 7) (.tmp 16) rfl wr.heap.size (RL b) rfl rfl 41 Z HZ.out (HV.out.rsize b) (HV.out.zsize b) (HV.out.rone b) ?_))
          | fail)
        obtain ⟨g2, hg2⟩ : ∃ g2, g2 = wr.heap.size := ⟨_, rfl⟩
        rw [← hg2] at HX HI2 HB2 ⊢
        clear hg2 HZ hix hz hgw
        generalize (wr.alloc (.cells Z 41)).setRow g2 (RL b) = w4 at *
        go_wp2_with (first
          | (with_reducible show wpList _ _ _ (⟨some 17, _, _, _, _, _⟩ :: _) _ _; go_loud (refine wpList_load_row rfl 41 (.tmp 7) rfl g2 rfl 41 (RL b) (0, 0) _ HX.out Tryz.underlying41 rfl (HV.out.rsize b) ?_))
          | fail)
        go_loopw [4, 18] (fun lv sv wr => ∃ (s : Nat) (u : Value), u = lv ∧ s ≤ 4 ∧ sv = .int .i64 (s : Int) ∧ Hid (NewI TT g hb (4 * b + s) u wr) ∧ Hid (Below g w wr)) (fun _ sv _ => 4 - (intOf sv).toNat)
        case atStart => exact ⟨0, _, rfl, by omega, rfl, HI2, HB2⟩
        case round =>
          clear HI2 HB2 HX
          obtain ⟨s, u, rfl, hs4, rfl, HI, HB⟩ := hrel
          by_cases hslt : s < 4
          · have hsI : (s : Int) < 4 := by omega
            have hgw : g ≤ wr.heap.size := by have := HB.out.size; have := HG.out; omega
            have hix2 := HV.out.slot b s hslt
            rw [slot6] at hix2
            have HN := Go.Lib.hid (show 4 * b + s < 32 by omega)
            have hsz := HS.out (4 * b + s) HN.out
            have HHN := Go.Lib.hid (show hasL TT (4 * b + (s + 1)) = hasL TT (4 * b + s) ++ [(TT (4 * b + s)).1] from hasL_succ TT (4 * b + s))
            have HRN := Go.Lib.hid (show recsT TT (4 * b + (s + 1)) = recsT TT (4 * b + s) ++ (if (TT (4 * b + s)).1 then [(TT (4 * b + s)).2] else []) from recsT_succ TT (4 * b + s))
            have HRL := Go.Lib.hid (show (recsT TT (4 * b + s)).length ≤ 32 from by have := recsT_len TT (4 * b + s); omega)
            obtain ⟨vb, hbt⟩ := HI.out.bt
            have HBT := Go.Lib.hid hbt
            have HOW := Go.Lib.hid HI.out.own
            have HHL := Go.Lib.hid (hasL_len TT (4 * b + s))
            clear HI hbt
            generalize hasL TT (4 * b + s) = HL at *
            generalize recsT TT (4 * b + s) = RO at *
            generalize TT (4 * b + s) = y at *
            obtain ⟨hq, kx, gx, ax, nx, sx⟩ := y
            simp only [] at hix2 hsz HHN HRN
            have CF := fun W => frec_c kx gx ax nx sx W (by omega) (by omega)
            unfold recV at CF
            have CF := Go.Lib.hid CF
            have hbA := below_one wr (.cells #[.bool hq, .string kx, .bool gx, .int .i64 ax, .int .i64 nx, .string sx] 40)
            have HX := Go.Lib.hid (heap_alloc_new wr (.cells #[.bool hq, .string kx, .bool gx, .int .i64 ax, .int .i64 nx, .string sx] 40))
            have HBT2 := Go.Lib.hid (HBT.out.below hbA)
            have HOW2 := Go.Lib.hid (HOW.out.below hbA)
            have HB2 := Go.Lib.hid (HB.out.trans (hbA.mono hgw))
            clear hbA HBT HOW HB hsz
            go_upto_region 11 with (fail)
            obtain ⟨g3, hg3⟩ : ∃ g, g = wr.heap.size := ⟨_, rfl⟩
            rw [← hg3] at HX ⊢
            clear hix2 hg3
            generalize wr.alloc (.cells #[.bool hq, .string kx, .bool gx, .int .i64 ax, .int .i64 nx, .string sx] 40) = w5 at *
            obtain ⟨x0, x1, x2, x3, x4, x5⟩ := row6 HX.out
            have CP := Go.Lib.hid (bitput_c hq w5 g hb vb HL HBT2.out (by have := HHL.out; have := HN.out; omega))
            go_wp2_with fail
            refine CP.out.mono ?_
            rintro e w6 ⟨rfl, vb6, hbt, htw, hnw⟩
            have HBT6 := Go.Lib.hid hbt
            have HOW6 := Go.Lib.hid (rec_two HOW2.out htw (rec_not_bits HOW2.out HBT2.out) (rec_not_row HOW2.out HBT2.out))
            have hw5 : g ≤ w5.heap.size := by have := HB2.out.size; have := HG.out; omega
            have HB6 := Go.Lib.hid (HB2.out.trans (htw.below HHB.out HBT2.out.rows hw5))
            have HX6 := Go.Lib.hid ((htw.block g3 (row_lt HX.out) (fun e => by have h1 := HX.out; rw [e, HBT2.out.blk] at h1; simp at h1) (fun e => own_not HBT2.out.row HX.out (by decide) e.symm)).trans HX.out)
            clear hbt htw hnw CP HBT2 HOW2 HB2 HX x0 x1 x2 x3 x4 x5 hw5
            obtain ⟨x0, x1, x2, x3, x4, x5⟩ := row6 HX6.out
            cases hq with
            | false =>
              simp only [Bool.false_eq_true, if_false, List.append_nil] at HRN
              have HI8 := Go.Lib.hid (show NewI TT g hb (4 * b + (s + 1)) u w6 from ⟨⟨vb6, by rw [HHN.out]; exact HBT6.out⟩, by rw [HRN.out]; exact HOW6.out⟩)
              go_wp2_with fail
              exact ⟨⟨s + 1, _, rfl, by omega, by go_num, HI8, HB6⟩, by simp only [intOf]; omega⟩
            | true =>
              simp only [if_true] at HRN
              go_wp2_with fail
              refine (CF.out _).mono ?_
              rintro e w7 ⟨rfl, hc⟩
              have hb5 := below_one w7 (.cells #[.string kx, .bool gx, .int .i64 ax, .int .i64 nx, .string sx] 28)
              have hc5 := hc.trans (hb5.mono hc.size)
              have hw6 : g ≤ w6.heap.size := by have := HB6.out.size; have := HG.out; omega
              have HBT7 := Go.Lib.hid (HBT6.out.below hc5)
              have HOW7 := Go.Lib.hid (HOW6.out.below hc5)
              have HB7 := Go.Lib.hid (HB6.out.trans (hc5.mono hw6))
              have HON := Go.Lib.hid (RS.one w7 (kx, gx, ax, nx, sx))
              simp only [] at HON
              clear hc hb5 hc5 CF HBT6 HOW6 HB6 hw6 x0 x1 x2 x3 x4 x5 HX6
              go_wp2_with (first
                | (with_reducible show wpList _ _ _ (⟨some 31, _, _, _, _, _⟩ :: _) _ _; go_loud (refine wpList_append_recs rfl (.tmp 26) (.tmp 30) rfl g u (.slice (some ⟨w7.heap.size, 0, none⟩) 1 1) RO [(kx, gx, ax, nx, sx)] rfl rfl HOW7.out HON.out (by have := HRL.out; simp; omega) (by have := HB7.out.size; have := HG.out; omega) ?_); intro v8 w8 ho8 hg8)
                | fail)
              have HI8 := Go.Lib.hid (show NewI TT g hb (4 * b + (s + 1)) v8 w8 from by
                refine ⟨⟨vb6, ?_⟩, by rw [HRN.out]; exact ho8⟩
                rw [HHN.out]
                exact HBT7.out.grownKept hg8 (rec_not_bits HOW7.out HBT7.out) (rec_not_row HOW7.out HBT7.out))
              have HB8 := Go.Lib.hid (HB7.out.grown hg8 (by have := HB7.out.size; have := HG.out; omega) (fun j hj => HOW7.out.row j hj))
              clear ho8 hg8
              go_wp2_with fail
              exact ⟨⟨s + 1, _, rfl, by omega, by go_num, HI8, HB8⟩, by simp only [intOf]; omega⟩
          · obtain rfl : s = 4 := by omega
            go_wp2_with fail
            exact ⟨⟨b + 1, _, rfl, by omega, by go_num, HI, HB⟩, by simp only [intOf]; omega⟩
      · obtain rfl : b = 8 := by omega
        obtain ⟨vb, hbt⟩ := HI.out.bt
        have hbt : BT wr g hb vb (hasL TT 32) := hbt
        have CB := Go.Lib.hid (rnew_c wr g hb vb _ hbt (by rw [hasL_len]; omega))
        have HOW := Go.Lib.hid (show OwnRec wr g u (recsT TT 32) from HI.out.own)
        clear HI hbt
        go_wp2_with fail
        refine CB.out.mono ?_
        rintro e w4 ⟨r4, rfl, hrk, hc⟩
        have hgw : g ≤ wr.heap.size := by have := HB.out.size; have := HG.out; omega
        have hb5 := below_one w4 (.cells #[u, .pointer (some r4)] 86)
        have hb6 : Below wr.heap.size wr (w4.alloc (.cells #[u, .pointer (some r4)] 86)) := hc.trans (hb5.mono hc.size)
        have HF := Go.Lib.hid (show NewTo TT w (.returned (.tuple #[.pointer (some ⟨w4.heap.size, 0, none⟩), .int .i64 0])) (w4.alloc (.cells #[u, .pointer (some r4)] 86)) from by
          refine ⟨by rw [← HG.out]; exact HB.out.trans (hb6.mono hgw), .inl ⟨HOK.out, w4.heap.size, u, some r4, rfl, ?_⟩⟩
          rw [← HG.out]
          exact ⟨by have := hc.size; omega, heap_alloc_new w4 _, HOW.out.below hb6, (hrk.below hb5).mono hgw, ⟨HOK.out, HTO.out⟩⟩)
        obtain ⟨au, capu, rfl, -⟩ := HOW.out.rs.form
        clear hrk hc CB hgw hb5 hb6 HOW HB
        go_wp2_with fail
        go_ret2
        exact HF.out
  · have HF := Go.Lib.hid (show NewTo TT w (.returned (.tuple #[.pointer none, .int .i64 1])) w2 from ⟨by rw [← HG.out]; exact HB2.out, .inr ⟨by simpa using hok, rfl⟩⟩)
    have hok : okTo TT 32 = false := by simpa using hok
    rw [hok]
    go_wp2_with fail
    go_ret2
    exact HF.out
end Go.Proofs.YthbnecdeebmlhaaGreat

namespace Go.Proofs.YthbnecdeebmlhaaGreat
open Go.RowKit

theorem aux_digits : ∀ (f x : Nat), x < 2 ^ f → Lib.bitLenAux f x = digits x
  | 0, x, h => by
    have : x = 0 := by rw [Nat.pow_zero] at h; omega
    subst this
    rfl
  | f + 1, x, h => by
    rw [Lib.bitLenAux]
    by_cases hx : x = 0
    · rw [if_pos hx, hx, digits_zero]
    · rw [if_neg hx, digits_half x hx, aux_digits f (x / 2) (by rw [Nat.pow_succ] at h; omega)]
      omega
theorem len64_c (x : Nat) (w : World) (hx : x < 18446744073709551616) :
    Calls Tryz.prog 132 #[.int .u64 (x : Int)] w fun e w' => e = .returned (.int .i64 (digits x : Int)) ∧ w = w' := by
  have h := len64_i x w (by omega) (by omega)
  rw [Int.toNat_natCast, Lib.bitLen, aux_digits 64 x (Nat.lt_of_lt_of_eq hx (by decide))] at h
  exact h

end Go.Proofs.YthbnecdeebmlhaaGreat

namespace Go.Proofs.YthbnecdeebmlhaaGreat
open Go.RowKit

set_option maxRecDepth 100000 in
theorem lead64_c (x : Nat) (w : World) (hx : x < 18446744073709551616) :
    Calls Tryz.prog 133 #[.int .u64 (x : Int)] w fun e w' => e = .returned (.int .i64 ((64 - digits x : Nat) : Int)) ∧ w = w' := by
  have h := digits_64 x hx
  have hc : ((64 - digits x : Nat) : Int) = 64 - (digits x : Int) := by omega
  rw [hc]
  have C := Go.Lib.hid (len64_c x w hx)
  generalize digits x = d at *
  clear hc
  go_enter Tryz.func133, Tryz.ntmps133
  go_wp2_with fail
  refine C.out.mono ?_
  rintro e w1 ⟨rfl, rfl⟩
  go_wp2_with fail
  go_ret
  exact ⟨rfl, rfl⟩

set_option maxHeartbeats 1000000 in
set_option maxRecDepth 100000 in
/-- Where the n-th one of 64 bits stands. -/
theorem placew_c (m : List Bool) (n p : Nat) (w : World) (h64 : m.length = 64) (hp : place m n = some p) :
    Calls Tryz.prog 116 #[.int .u64 (val m : Int), .int .i64 (n : Int)] w fun e w' => e = .returned (.int .i64 (p : Int)) ∧ w = w' := by
  have hcnt : n < m.count true := by
    rcases Nat.lt_or_ge n (m.count true) with h | h
    · exact h
    · rw [(place_none m n).2 h] at hp; cases hp
  have hn64 : n < 64 := by
    have : m.count true ≤ m.length := List.count_le_length
    omega
  have HP := Go.Lib.hid hp
  have HC := Go.Lib.hid hcnt
  have H64 := Go.Lib.hid h64
  clear hp hcnt h64
  go_enter Tryz.func116, Tryz.ntmps116
  go_wp2_with fail
  go_loopw [0, 6] (fun xv iv wr => wr = w ∧ ∃ (k q : Nat), k ≤ n ∧ iv = .int .i64 (k : Int) ∧ xv = .int .u64 (val (m.drop q) : Int) ∧ Hid (ones m q = k)) (fun _ iv _ => n - (intOf iv).toNat)
  case atStart => exact ⟨rfl, 0, 0, by omega, rfl, rfl, Go.Lib.hid rfl⟩
  case round =>
    obtain ⟨rfl, k, q, hk, rfl, rfl, ho⟩ := hrel
    obtain ⟨p', h1, h2, h3, h4, h5, h6, h7⟩ := next_one m q k ho.out (by have := HC.out; omega)
    have hx64 : val (m.drop q) < 18446744073709551616 := by
      have := val_lt (m.drop q)
      exact Nat.lt_of_lt_of_le this (Nat.le_trans (Nat.pow_le_pow_right (by omega) (show (m.drop q).length ≤ 64 by rw [List.length_drop, H64.out]; omega)) (by decide))
    rw [H64.out] at h2 h5 h6 h7
    by_cases hlt : k < n
    · have C := len64_c (val (m.drop q)) wr hx64
      rw [h7] at C
      have hxt := xor_top _ _ h6
      rw [← h5] at hxt
      have hpow : 2 ^ (64 - (p' + 1)) ≤ 9223372036854775808 := Nat.le_trans (Nat.pow_le_pow_right (by omega) (show 64 - (p' + 1) ≤ 63 by omega)) (by decide)
      have hxr := u64_xor_nat (val (m.drop q)) (2 ^ (64 - (p' + 1))) hx64 (by omega)
      rw [hxt] at hxr
      obtain ⟨t, ht⟩ : ∃ t, t = 64 - (p' + 1) := ⟨_, rfl⟩
      rw [← ht] at hxr hpow
      have htz : ((64 - p' : Nat) : Int) - 1 = (t : Int) := by omega
      have hd : (64 - p' : Nat) = t + 1 := by omega
      rw [hd] at C
      have hpz : ((2 : Int) ^ t) = ((2 ^ t : Nat) : Int) := by simp
      have hsh : IntKind.u64.wrap ((2 : Int) ^ t) = (2 : Int) ^ t := by
        rw [IntKind.wrap_u64, hpz]
        clear hpz hxr h5 hxt
        generalize 2 ^ t = z at *
        omega
      rw [← hpz] at hxr
      have ht63 : t ≤ 63 := by omega
      have Hs := Go.Lib.hid h4
      have C := Go.Lib.hid C
      generalize val (m.drop q) = x at *
      clear h1 h3 h5 h6 h7 hxt hpow ht hd htz hpz h4
      go_wp2_with fail
      refine C.out.mono ?_
      rintro e w1 ⟨rfl, rfl⟩
      go_wp2_with fail
      go_roundw
      case rel => exact ⟨trivial, k + 1, p' + 1, by omega, by go_num, rfl, Hs⟩
      case measure => simp only [intOf]; omega
    · obtain rfl : k = n := by omega
      obtain rfl : p' = p := by have := HP.out; rw [h3] at this; exact Option.some.inj this
      have C := lead64_c (val (m.drop q)) wr hx64
      rw [h7, show 64 - (64 - p') = p' from by omega] at C
      have C := Go.Lib.hid C
      generalize val (m.drop q) = x at *
      clear h1 h2 h3 h4 h5 h6 h7
      go_wp2_with fail
      refine C.out.mono ?_
      rintro e w1 ⟨rfl, rfl⟩
      go_wp2_with fail
      go_ret
      exact ⟨rfl, rfl⟩

end Go.Proofs.YthbnecdeebmlhaaGreat

namespace Go.Proofs.YthbnecdeebmlhaaGreat
open Go.RowKit

set_option maxHeartbeats 1000000 in
set_option maxRecDepth 100000 in
theorem search_c (g : Nat) (cb : Array Value) (n : Nat) (p : Nat → Bool) (w : World) (hn : n < 4611686018427387904) (eg : ∀ args w, (callFunc g args).run Tryz.prog w = .ok (.enter g args) w)
    (hf : ∀ (i : Nat) (W : World), i < n → Below w.heap.size w W → Calls Tryz.prog g (#[.int .i64 (i : Int)] ++ cb) W fun e w' => e = .returned (.bool (p i)) ∧ Below W.heap.size W w')
    (hmono : ∀ a b, a ≤ b → b < n → p a = true → p b = true) :
    Calls Tryz.prog 114 #[.int .i64 (n : Int), .func (.func g) #[] cb] w fun e w' => ∃ s : Nat, e = .returned (.int .i64 (s : Int)) ∧ s ≤ n ∧ (∀ t, t < s → p t = false) ∧ (∀ t, s ≤ t → t < n → p t = true) ∧ Below w.heap.size w w' := by
  have HF := Go.Lib.hid hf
  have M := Go.Lib.hid hmono
  clear hf hmono
  go_enter Tryz.func114, Tryz.ntmps114
  go_wp2_with fail
  go_loopw [5, 6] (fun s5 s6 wr => ∃ (lo hi : Nat), s5 = .int .i64 (lo : Int) ∧ s6 = .int .i64 (hi : Int) ∧ lo ≤ hi ∧ hi ≤ n ∧ Below w.heap.size w wr ∧ Hid ((∀ t, t < lo → p t = false) ∧ (∀ t, hi ≤ t → t < n → p t = true))) (fun s5 s6 _ => (intOf s6 - intOf s5).toNat)
  case atStart => exact ⟨0, n, rfl, rfl, Nat.zero_le _, Nat.le_refl _, Below.refl _ _, Go.Lib.hid ⟨fun t ht => absurd ht (Nat.not_lt_zero _), fun t h1 h2 => by omega⟩⟩
  case round =>
    obtain ⟨lo, hi, rfl, rfl, hlh, hin, hb, I⟩ := hrel
    by_cases hlt : lo < hi
    · have hc := HF.out ((lo + hi) / 2) wr (by omega) hb
      rw [show (((lo + hi) / 2 : Nat) : Int) = ((lo : Int) + (hi : Int)) / 2 by omega] at hc
      have hsz := hb.size
      cases hp : p ((lo + hi) / 2) <;> rw [hp] at hc
      · have HP := Go.Lib.hid hp
        have HC := Go.Lib.hid hc
        clear hp hc
        go_wp2_with (go_at_fn g; refine HC.out.mono ?_; rintro e w2 ⟨rfl, hb2⟩)
        go_roundw
        case rel =>
          exact ⟨(lo + hi) / 2 + 1, hi, by rw [show ((lo : Int) + (hi : Int)) / 2 + 1 = (((lo + hi) / 2 + 1 : Nat) : Int) by omega], rfl, by omega, hin, hb.trans (hb2.mono hsz), Go.Lib.hid ⟨fun t ht => (by
            cases h : p t with
            | false => rfl
            | true => have := M.out t ((lo + hi) / 2) (by omega) (by omega) h; rw [HP.out] at this; cases this), I.out.2⟩⟩
        case measure => simp only [intOf]; omega
      · have HP := Go.Lib.hid hp
        have HC := Go.Lib.hid hc
        clear hp hc
        go_wp2_with (go_at_fn g; refine HC.out.mono ?_; rintro e w2 ⟨rfl, hb2⟩)
        go_roundw
        case rel => exact ⟨lo, (lo + hi) / 2, rfl, by rw [show ((lo : Int) + (hi : Int)) / 2 = (((lo + hi) / 2 : Nat) : Int) by omega], by omega, by omega, hb.trans (hb2.mono hsz), Go.Lib.hid ⟨I.out.1, fun t ht htn => M.out ((lo + hi) / 2) t ht htn HP.out⟩⟩
        case measure => simp only [intOf]; omega
    · obtain rfl : hi = lo := by omega
      go_wp2_with fail
      go_ret
      exact ⟨hi, rfl, hin, I.out.1, I.out.2, hb⟩

end Go.Proofs.YthbnecdeebmlhaaGreat

namespace Go.Proofs.YthbnecdeebmlhaaGreat
open Go.RowKit

set_option maxRecDepth 100000 in
/-- The function that Place hands to sort.Search. -/
theorem place1_c (i : Nat) (b1 b2 rb g cap n : Nat) (av : Nat) (nI : Int) (w : World) (hi : i < n) (h1 : w.cell? ⟨b1, 0, none⟩ = some (.pointer (some ⟨rb, 0, none⟩))) (h2 : w.cell? ⟨b2, 0, none⟩ = some (.int .i64 nI))
    (h3 : w.cell? ⟨rb, 1, none⟩ = some (.slice (some ⟨g, 0, none⟩) n cap)) (h4 : w.cell? ⟨g, i, none⟩ = some (.int .i64 (av : Int))) :
    Calls Tryz.prog 115 (#[.int .i64 (i : Int)] ++ #[.pointer (some ⟨b1, 0, none⟩), .pointer (some ⟨b2, 0, none⟩)]) w fun e w' => e = .returned (.bool (decide (nI < (av : Int)))) ∧ Below w.heap.size w w' := by
  have hix := run_idxA g n cap i hi
  go_enter Tryz.func115, Tryz.ntmps115
  go_wp2_with fail
  go_quiet (fail)
  go_wp2_with fail
  go_ret
  exact ⟨rfl, below_drewN (Below.refl _ _) _⟩

set_option maxHeartbeats 1000000 in
set_option maxRecDepth 100000 in
theorem rplace_c (n : Int) (w : World) (B : Nat) (r : Option Addr) (l : List Bool) (h : RK w B r l) (h0 : -9223372036854775808 ≤ n) (h1 : n ≤ 9223372036854775807) :
    Calls Tryz.prog 82 #[.pointer r, .int .i64 n] w fun e w' => e = .returned (.int .i64 (placeI l n)) ∧ Below w.heap.size w w' := by
  obtain ⟨b1, hb1⟩ : ∃ b, b = w.heap.size := ⟨_, rfl⟩
  obtain ⟨W0, hW0⟩ : ∃ W, W = (w.alloc (.cells #[.pointer r] 82)).alloc (.cells #[.int .i64 n] 3) := ⟨_, rfl⟩
  have c1 : W0.cell? ⟨b1, 0, none⟩ = some (.pointer r) := by
    rw [hW0, hb1, World.cell?_alloc_past _ _ _ (by simp)]
    rw [World.cell?_alloc_at _ _ _ _ (by simp)]
    rfl
  have c2 : W0.cell? ⟨b1 + 1, 0, none⟩ = some (.int .i64 n) := by
    rw [hW0, hb1, World.cell?_alloc_at _ _ _ _ (by simp)]
    rfl
  have hb0 : Below w.heap.size w W0 := by rw [hW0]; exact ((Below.refl _ w).alloc (Nat.le_refl _) _).alloc (by simp) _
  have HK := Go.Lib.hid (h.below hb0)
  have hl := h.1
  have HB1 := Go.Lib.hid hb1
  have HW0 := Go.Lib.hid hW0
  clear h hb1 hW0
  by_cases hn : n < 0
  · rw [placeI_neg hn]
    go_enter Tryz.func82, Tryz.ntmps82
    go_upto_region 1 with (fail)
    rw [← HW0.out, ← HB1.out]
    go_quiet (fail)
    go_wp2_with fail
    go_ret
    exact ⟨rfl, hb0.trans (below_drewN (Below.refl _ _) _)⟩
  · obtain ⟨k, rfl⟩ : ∃ k : Nat, n = (k : Int) := ⟨n.toNat, by omega⟩
    have hones := ones_le l l.length
    have hL := fun (W : World) (h : RK W B r l) => rlen_w W B r l h
    have hO := fun (W : World) (h : RK W B r l) => rones_d (l.length : Int) W B r l h (by omega) (by omega)
    rw [onesI_nat, ones_len] at hO
    rw [ones_len] at hones
    have HL : Hid (∀ m, Calls Tryz.prog 113 #[.pointer r] (W0.drewN m) fun e w' => e = .returned (.int .i64 (l.length : Int)) ∧ ∃ k, w' = W0.drewN k) := Go.Lib.hid fun m => Calls.quiet_of_same ((hL _ (HK.out.below (below_drewN (Below.refl _ _) m))).mono fun _ _ ⟨h, hw⟩ => ⟨h, hw.symm⟩)
    have HO : Hid (∀ m, Calls Tryz.prog 112 #[.pointer r, .int .i64 (l.length : Int)] (W0.drewN m) fun e w' => e = .returned (.int .i64 (l.count true : Int)) ∧ ∃ k, w' = W0.drewN k) := Go.Lib.hid fun m => Calls.quiet_of (hO _ (HK.out.below (below_drewN (Below.refl _ _) m)))
    clear hL hO
    by_cases hk : l.count true ≤ k
    · rw [placeI_none ((place_none l k).2 hk)]
      generalize l.count true = c at *
      generalize l.length = len at *
      go_enter Tryz.func82, Tryz.ntmps82
      go_upto_region 1 with (fail)
      rw [← HW0.out, ← HB1.out]
      go_quiet (first
        | (go_at_call 113; exact HL.out _)
        | (go_at_call 112; exact HO.out _))
      go_wp2_with fail
      go_ret
      exact ⟨rfl, hb0.trans (below_drewN (Below.refl _ _) _)⟩
    · have hk : k < l.count true := by omega
      obtain ⟨P, hP⟩ : ∃ P, place l k = some P := by
        cases h : place l k with
        | some P => exact ⟨P, rfl⟩
        | none => have := (place_none l k).1 h; omega
      rw [placeI_some hP]
      have HP := Go.Lib.hid hP
      clear hP
      rcases HK.out.2 with ⟨rfl, rfl⟩ | ⟨rb, v1, v2, rfl, hrw⟩
      · simp at hk
      have hlen : 0 < l.length := by omega
      have Hnw := Go.Lib.hid (show nw l = (l.length + 63) / 64 from rfl)
      have hnw0 : 0 < nw l := by rw [Hnw.out]; omega
      have hnwb : nw l ≤ 15626 := by rw [Hnw.out]; omega
      obtain ⟨g1, p1, e1, l1, -, d1⟩ := hrw.ws.open (by rw [zi_length, words_length]; exact hnw0)
      obtain ⟨g2, p2, e2, l2, -, d2⟩ := hrw.hs.open (by rw [zi_length, aheads_length]; exact hnw0)
      rw [zi_length, words_length] at e1
      rw [zi_length, aheads_length] at e2
      subst e1 e2
      have D1 : ∀ q, q < nw l → W0.cell? ⟨g1, q, none⟩ = some (.int .u64 (val (wbits l q) : Int)) := fun q hq => by
        have := d1 q (by rw [zi_length, words_length]; exact hq)
        rwa [zi_at _ _ _ (by rw [words_length]; exact hq), words_at l _ _ hq] at this
      have D2 : ∀ q, q < nw l → W0.cell? ⟨g2, q, none⟩ = some (.int .i64 (ones l (64 * q) : Int)) := fun q hq => by
        have := d2 q (by rw [zi_length, aheads_length]; exact hq)
        rwa [zi_at _ _ _ (by rw [aheads_length]; exact hq), aheads_at l _ _ hq] at this
      clear d1 d2
      have r0 := hrw.c0
      have r1 := hrw.c1
      have hrbl := hrw.lt
      have hb1l := World.block_lt_of_cell? _ _ c1
      have hb2l := World.block_lt_of_cell? _ _ c2
      have CS := fun (m : Nat) => search_c 115 #[.pointer (some ⟨b1, 0, none⟩), .pointer (some ⟨b1 + 1, 0, none⟩)] (nw l) (fun i => decide ((k : Int) < (ones l (64 * i) : Int))) (W0.drewN m) (by omega) (enters_of Tryz.func115 (by kernel_rfl) rfl)
        (fun i W hi hW => by
          have hW2 : Below W0.heap.size W0 W := (below_drewN (Below.refl _ W0) m).trans hW
          exact place1_c i b1 (b1 + 1) rb g2 p2 (nw l) (ones l (64 * i)) (k : Int) W hi ((hW2.cell (p := ⟨b1, 0, none⟩) hb1l).trans c1) ((hW2.cell (p := ⟨b1 + 1, 0, none⟩) hb2l).trans c2) ((hW2.cell (p := ⟨rb, 1, none⟩) hrbl).trans r1) ((hW2.cell (p := ⟨g2, i, none⟩) l2).trans (D2 i hi)))
        (fun a b hab _ ha => by
          have := ones_mono l (show 64 * a ≤ 64 * b by omega)
          simp only [decide_eq_true_eq] at ha ⊢
          omega)
      have CS := Go.Lib.hid CS
      have HD1 := Go.Lib.hid D1
      have HD2 := Go.Lib.hid D2
      have HRW := Go.Lib.hid hrw
      have HKc := Go.Lib.hid hk
      clear D1 D2 hrw
      have hcn := hk
      generalize hcc : l.count true = c at *
      have Hcc := Go.Lib.hid hcc
      generalize hln : l.length = len at *
      have Hln := Go.Lib.hid hln
      clear hcc hln
      generalize hnn : nw l = nn at *
      have Hnn := Go.Lib.hid hnn
      clear hnn hk
      go_enter Tryz.func82, Tryz.ntmps82
      go_upto_region 1 with (fail)
      rw [← HW0.out, ← HB1.out]
      go_quiet (first
        | (go_at_call 113; exact HL.out _)
        | (go_at_call 112; exact HO.out _))
      go_wp2_with fail
      refine (CS.out _).mono ?_
      rintro e w5 ⟨s, rfl, hs, hlo, hhi, hbs⟩
      have hW5 : Below W0.heap.size W0 w5 := (below_drewN (Below.refl _ W0) _).trans hbs
      have hs0 : 0 < s := by
        rcases Nat.eq_zero_or_pos s with h | h
        · subst h
          have := hhi 0 (Nat.le_refl _) hnw0
          rw [decide_eq_true_eq, show 64 * 0 = 0 from rfl, ones_zero] at this
          omega
        · exact h
      obtain ⟨q, rfl⟩ : ∃ q, s = q + 1 := ⟨s - 1, by omega⟩
      have hq1 : ones l (64 * q) ≤ k := by
        have := hlo q (by omega)
        simp only [decide_eq_false_iff_not] at this
        omega
      have hq2 : k < ones l (64 * (q + 1)) := by
        rcases Nat.lt_or_ge (q + 1) nn with h | h
        · have := hhi (q + 1) (Nat.le_refl _) h
          simp only [decide_eq_true_eq] at this
          omega
        · rw [ones_all l _ (by rw [Hln.out]; have := Hnw.out; omega), Hcc.out]
          exact hcn
      have hqn : q < nn := by omega
      have hall := ones_word_all l q
      obtain ⟨p, hp⟩ : ∃ p, place (wbits l q) (k - ones l (64 * q)) = some p := by
        cases h : place (wbits l q) (k - ones l (64 * q)) with
        | some p => exact ⟨p, rfl⟩
        | none => have := (place_none _ _).1 h; omega
      obtain rfl : P = 64 * q + p := by
        have := place_word l k q p hq1 hp
        rw [HP.out] at this
        exact Option.some.inj this
      have hp64 := (place_some hp).1
      rw [wbits_length] at hp64
      have CW := fun m => Go.Lib.hid (placew_c (wbits l q) (k - ones l (64 * q)) p (w5.drewN m) (wbits_length l q) hp)
      have x1 := (hW5.cell (p := ⟨g1, q, none⟩) l1).trans (HD1.out q hqn)
      have x2 := (hW5.cell (p := ⟨g2, q, none⟩) l2).trans (HD2.out q hqn)
      have y1 := (hW5.cell (p := ⟨rb, 0, none⟩) hrbl).trans r0
      have y2 := (hW5.cell (p := ⟨rb, 1, none⟩) hrbl).trans r1
      have z1 := (hW5.cell (p := ⟨b1, 0, none⟩) hb1l).trans c1
      have z2 := (hW5.cell (p := ⟨b1 + 1, 0, none⟩) hb2l).trans c2
      have ix1 := run_idxW g1 nn p1 q hqn
      have ix2 := run_idxA g2 nn p2 q hqn
      have hbb5 := hb0.trans (hW5.mono hb0.size)
      have hsub : (k : Int) - (ones l (64 * q) : Int) = ((k - ones l (64 * q) : Nat) : Int) := by omega
      have hres : IntKind.i64.wrap ((q : Int) * 64 + (p : Int)) = ((64 * q + p : Nat) : Int) := by rw [IntKind.wrap_i64]; omega
      generalize val (wbits l q) = x at *
      generalize k - ones l (64 * q) = j at *
      generalize ones l (64 * q) = o at *
      clear hlo hhi hall hp HP HK HO HL CS HD1 HD2 HRW hq2 c1 c2 r0 r1 hbs hW5 hb0
      go_wp2_with fail
      go_quiet ((go_at_call 116; exact Calls.quiet_of_same ((CW _).out.mono fun _ _ ⟨h, hw⟩ => ⟨h, hw.symm⟩)))
      go_wp2_with fail
      go_ret
      exact ⟨rfl, hbb5.trans (below_drewN (Below.refl _ _) _)⟩

end Go.Proofs.YthbnecdeebmlhaaGreat
