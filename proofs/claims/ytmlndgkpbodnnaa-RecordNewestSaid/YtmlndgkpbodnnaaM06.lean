/-
  Package value: contracts of getOf, Get.
  Package record: contracts of getOf, Get.
  Package record: contract of fresh.
  Package fresh: contract of Rec.
  Mathematics: the order of bytes is an order of keys (of no code).
  Slices of records: contract of the reference's Set.
  Records: the newest ones, by rising keys (mathematics).
  Slices of records: contract of the reference's Newest.
-/
import Derived.Test.YtmlndgkpbodnnaaM04
import Derived.Test.YtmlndgkpbodnnaaM05
import Derived.Test.YtmlndgkpbodnnaaM03
import Derived.Deep.QuietTactic
import Derived.BigQuiet
import Derived.Deep.DeepCutAuto
import Derived.LoopTactic
namespace Go.Proofs.Ytmlndgkpbodnnaa
open Go.RowKit

/-- What stands behind the kind. -/
def goR (k : Int) (l : List UInt8) : (Int × Int × List UInt8) × Nat × Int :=
  if k = 1 then ((1, (getB l).1, []), (getB l).2.1, (getB l).2.2) else if k = 2 then ((2, 0, (textB l).1), (textB l).2.1, (textB l).2.2) else ((0, 0, []), 0, 1)

theorem valB_go (l : List UInt8) (k : Int) (p : Nat) (h : getB l = (k, p, 0)) (r : Int × Int × List UInt8) (m : Nat) (e : Int) (g : goR k (l.drop p) = (r, m, e)) :
    valB l = if e = 0 then (if mayR r.1 r.2.1 (str r.2.2) then (r, p + m, 0) else ((0, 0, []), 0, 1)) else ((0, 0, []), 0, e) := by
  unfold goR at g
  split at g
  · rename_i hk
    subst hk
    rw [valB_num l p _ _ _ h rfl]
    simp only [Prod.mk.injEq] at g
    obtain ⟨rfl, rfl, rfl⟩ := g
    have : ∀ n, mayR 1 n (str []) = true := fun n => by unfold mayR; simp [str]
    simp only [this, if_true]
    rfl
  · split at g
    · rename_i hk
      subst hk
      rw [valB_text l _ p _ _ h rfl]
      simp only [Prod.mk.injEq] at g
      obtain ⟨rfl, rfl, rfl⟩ := g
      rfl
    · rename_i h1 h2
      rw [valB_else l k p h h1 h2]
      simp only [Prod.mk.injEq] at g
      obtain ⟨rfl, rfl, rfl⟩ := g
      simp

theorem goR_small {k : Int} {l : List UInt8} {r : Int × Int × List UInt8} {m : Nat} {e : Int} (h : goR k l = (r, m, e)) (he : e = 0) : r.2.2.length ≤ 65536 ∧ m ≤ 70000 := by
  unfold goR at h
  split at h
  · have := getB_fits l
    simp only [Prod.mk.injEq] at h
    obtain ⟨rfl, rfl, rfl⟩ := h
    simp
    omega
  · split at h
    · simp only [Prod.mk.injEq] at h
      obtain ⟨rfl, rfl, rfl⟩ := h
      exact textB_small (l := l) rfl he
    · simp only [Prod.mk.injEq] at h
      obtain ⟨rfl, rfl, rfl⟩ := h
      simp

theorem ret_gof_at {w w0 : World} {tmps : Array Value} {k n : Int} {s : ByteArray} {m : Nat} {e : Int} {g : Nat} {fr : Nat × Nat} {r : (Int × Int × List UInt8) × Nat × Int}
    (hp : tmps.getD 4 undef = .pointer (some ⟨g, 0, none⟩)) (hg : w.heap[g]? = some (.cells #[.int .i64 k, .int .i64 n, .string s] 23 fr)) (h3 : tmps.getD 5 undef = .int .i64 (m : Int)) (h4 : tmps.getD 6 undef = .int .i64 e)
    (hr : ((k, n, bl s), m, e) = r) (hb : Below w0.heap.size w0 w) : bodyPost Try.prog Try.f61 (fun e w' => e = .returned (vv r) ∧ Below w0.heap.size w0 w') Exit.ret { tmps := tmps, defers := [] } w := by
  subst hr
  have h := results_row_two (P := Try.prog) (fn := Try.f61) (p := 4) (u := 5) (v := 6) (ty := 23) rfl tmps w g 23 #[.int .i64 k, .int .i64 n, .string s] fr _ hp hg Try.underlying23 rfl (by kernel_rfl)
  rw [h3, h4] at h
  refine bodyPost_ret h rfl ⟨?_, hb⟩
  unfold vv rawV
  rw [str_bl]

theorem ret_vget_at {w w0 : World} {tmps : Array Value} {k n : Int} {s : ByteArray} {m : Nat} {e : Int} {g : Nat} {fr : Nat × Nat} {r : (Int × Int × List UInt8) × Nat × Int}
    (hp : tmps.getD 2 undef = .pointer (some ⟨g, 0, none⟩)) (hg : w.heap[g]? = some (.cells #[.int .i64 k, .int .i64 n, .string s] 23 fr)) (h3 : tmps.getD 3 undef = .int .i64 (m : Int)) (h4 : tmps.getD 4 undef = .int .i64 e)
    (hr : ((k, n, bl s), m, e) = r) (hb : Below w0.heap.size w0 w) : bodyPost Try.prog Try.f49 (fun e w' => e = .returned (vv r) ∧ Below w0.heap.size w0 w') Exit.ret { tmps := tmps, defers := [] } w := by
  subst hr
  have h := results_row_two (P := Try.prog) (fn := Try.f49) (p := 2) (u := 3) (v := 4) (ty := 23) rfl tmps w g 23 #[.int .i64 k, .int .i64 n, .string s] fr _ hp hg Try.underlying23 rfl (by kernel_rfl)
  rw [h3, h4] at h
  refine bodyPost_ret h rfl ⟨?_, hb⟩
  unfold vv rawV
  rw [str_bl]

set_option maxRecDepth 100000 in
theorem getOf_c (k : Int) (v : Value) (l : List UInt8) (w : World) (hv : RB w v l) :
    Calls Try.prog 61 #[.int .i64 k, v] w fun e w' => e = .returned (vv (goR k l)) ∧ Below w.heap.size w w' := by
  have hrb := hv
  obtain ⟨a, cap, rfl, -⟩ := hv
  have hR1 := Go.Lib.hid (hrb.below (below_one w (.cells #[.int .i64 0, .int .i64 0, .string ⟨#[]⟩] 23)))
  clear hrb
  by_cases h1 : k = 1
  · subst h1
    have C := Go.Lib.hid fun W h => get_c (.slice a l.length cap) l W h
    have hr : Hid (((1, (getB l).1, bl ⟨#[]⟩), (getB l).2.1, (getB l).2.2) = goR 1 l) := rfl
    unfold gv at C
    generalize (getB l).1 = n at *
    generalize (getB l).2.1 = p at *
    generalize (getB l).2.2 = er at *
    go_enter Try.func61, Try.ntmps61
    go_wp2_with fail
    refine (C.out _ hR1.out).mono ?_
    rintro e w1 ⟨rfl, rfl⟩
    go_wp2_with fail
    exact ret_gof_at rfl (heap_alloc_new ..) rfl rfl hr.out (below_one ..)
  · by_cases h2 : k = 2
    · subst h2
      have C := Go.Lib.hid fun W h => getText_c (.slice a l.length cap) l W h
      have hr : Hid (((2, 0, bl (str (textB l).1)), (textB l).2.1, (textB l).2.2) = goR 2 l) := by unfold Hid; rw [bl_str]; rfl
      unfold tv at C
      generalize str (textB l).1 = s at *
      generalize (textB l).2.1 = p at *
      generalize (textB l).2.2 = er at *
      go_enter Try.func61, Try.ntmps61
      go_wp2_with fail
      refine (C.out _ hR1.out).mono ?_
      rintro e w1 ⟨rfl, rfl⟩
      go_wp2_with fail
      exact ret_gof_at rfl (heap_alloc_new ..) rfl rfl hr.out (below_one ..)
    · have h1' : (k == 1) = false := by simp [h1]
      have h2' : (k == 2) = false := by simp [h2]
      have hr : Hid (((0, 0, bl ⟨#[]⟩), 0, 1) = goR k l) := by unfold Hid goR; rw [if_neg h1, if_neg h2]; rfl
      go_enter Try.func61, Try.ntmps61
      go_wp2_with fail
      exact ret_gof_at (m := 0) rfl (heap_alloc_new ..) rfl rfl hr.out (below_one ..)

set_option maxHeartbeats 2000000 in
set_option maxRecDepth 100000 in
theorem vget_c (v : Value) (l : List UInt8) (w : World) (hv : RB w v l) :
    Calls Try.prog 49 #[v] w fun e w' => e = .returned (vv (valB l)) ∧ Below w.heap.size w w' := by
  have hrb := hv
  obtain ⟨a, cap, rfl, h1, h2, h3, h4⟩ := hv
  have hm : l.length ≤ 9223372036854775807 := by unfold maxLen at h2; omega
  clear h4 h3 h1 h2
  have hfit := getB_fits l
  have c1 := fun W (h : RB W (.slice a l.length cap) l) => get_c (.slice a l.length cap) l W h
  rcases hr : getB l with ⟨k, p, er⟩
  rw [hr] at hfit c1
  unfold gv at c1
  simp only [] at hfit c1
  obtain ⟨f1, f2, f3, f4, f5, f6⟩ := hfit
  have C1 := Go.Lib.hid c1; clear c1
  have Hr := Go.Lib.hid hr; clear hr
  have hR1 := Go.Lib.hid (hrb.below (below_one w (.cells #[.int .i64 0, .int .i64 0, .string ⟨#[]⟩] 23)))
  clear hrb
  by_cases he : er = 0
  · subst he
    rcases hg : goR k (l.drop p) with ⟨⟨k1, n1, s1⟩, m, e⟩
    have hsm := Go.Lib.hid (goR_small hg)
    have hv := Go.Lib.hid (valB_go l k p Hr.out (k1, n1, s1) m e hg)
    have C2 := fun v' W (h : RB W v' (l.drop p)) => getOf_c k v' (l.drop p) W h
    rw [hg] at C2
    unfold vv rawV at C2
    simp only [] at C2
    have C2 := Go.Lib.hid C2
    clear hg f4 f5
    by_cases he : e = 0
    · subst he
      obtain ⟨hs1, hm1⟩ := hsm.out rfl
      have C3 := fun W => vof_c k1 n1 (str s1) W
      unfold ofV rawV VI.val at C3
      have hv2 := hv.out
      rw [if_pos rfl] at hv2
      have hv3 : Hid (valB l = if mayR k1 n1 (str s1) = true then ((k1, n1, bl (str s1)), p + m, 0) else ((0, 0, bl ⟨#[]⟩), 0, 1)) := by unfold Hid; rw [bl_str]; exact hv2
      clear hv2 hv hsm hs1
      generalize hmay : mayR k1 n1 (str s1) = may at C3 hv3
      generalize ofR k1 n1 (str s1) = x at C3
      have hst := store_vi x
      generalize str s1 = q at *
      obtain ⟨e3, he3⟩ : ∃ e3 : Int, (if may = true then (0 : Int) else 1) = e3 := ⟨_, rfl⟩
      rw [he3] at C3
      have he3 := Go.Lib.hid he3
      have C3 := Go.Lib.hid C3
      clear hmay f1 f2
      have hpm : IntKind.i64.wrap ((p : Int) + (m : Int)) = ((p + m : Nat) : Int) := by rw [IntKind.wrap_i64]; omega
      have Hpm := Go.Lib.hid hpm; clear hpm
      go_enter Try.func49, Try.ntmps49
      go_wp2_with fail
      refine (C1.out _ hR1.out).mono ?_
      rintro e w1 ⟨rfl, rfl⟩
      go_wp2_with (first
        | (with_reducible show wpList _ _ _ (⟨some 26, _, _, _, _, _⟩ :: _) _ _; go_loud (refine wpList_slice_l rfl (.tmp 24) (.tmp 25) 26 rfl 5 Try.underlying26 info8 (.slice a l.length cap) l .i64 _ p rfl rfl rfl hR1.out f3 ?_); intro v3 hv3)
        | fail)
      refine (C2.out _ _ hv3).mono ?_
      rintro e w2 ⟨rfl, hb2⟩
      have hlt0 := (Array.getElem?_eq_some_iff.1 (heap_alloc_new w (.cells #[.int .i64 0, .int .i64 0, .string ⟨#[]⟩] 23))).1
      have hA := (hb2.block _ hlt0).trans (heap_alloc_new w _)
      have hbb2 := (below_one w (.cells #[.int .i64 0, .int .i64 0, .string ⟨#[]⟩] 23)).trans (hb2.mono (below_one w _).size)
      clear hb2 hlt0 hv3 hR1 C1 C2
      have HA := Go.Lib.hid hA; clear hA
      have Hb2 := Go.Lib.hid hbb2; clear hbb2
      go_wp2_with fail
      refine (C3.out _).mono ?_
      rintro e w3 ⟨rfl, hb3⟩
      have hltA : w.heap.size < w2.heap.size := (Array.getElem?_eq_some_iff.1 HA.out).1
      have hB := heap_alloc_new w2 (.cells #[.int .i64 k1, .int .i64 n1, .string q] 23)
      have hltB := (Array.getElem?_eq_some_iff.1 hB).1
      have hA3 := (hb3.block w.heap.size (by omega)).trans ((_root_.Go.heap_alloc_old w2 _ hltA).trans HA.out)
      have hB3 := (hb3.block _ hltB).trans hB
      have hbb3 := (Hb2.out.trans ((below_one w2 (.cells #[.int .i64 k1, .int .i64 n1, .string q] 23)).mono Hb2.out.size)).trans (hb3.mono (Nat.le_trans Hb2.out.size (below_one w2 _).size))
      have hltA3 := (Array.getElem?_eq_some_iff.1 hA3).1
      have hltB3 := (Array.getElem?_eq_some_iff.1 hB3).1
      have hA4 := Go.Lib.hid ((_root_.Go.heap_alloc_old w3 (.cells #[x.v] 68) hltA3).trans hA3)
      have hB4 := (_root_.Go.heap_alloc_old w3 (.cells #[x.v] 68) hltB3).trans hB3
      have hbb4 := Go.Lib.hid (hbb3.trans ((below_one w3 (.cells #[x.v] 68)).mono hbb3.size))
      have x0 := cell_of_row _ w2.heap.size 0 _ _ _ hB4
      have x1 := cell_of_row _ w2.heap.size 1 _ _ _ hB4
      have x2 := cell_of_row _ w2.heap.size 2 _ _ _ hB4
      simp only [List.getElem?_toArray, List.getElem?_cons_zero, List.getElem?_cons_succ] at x0 x1 x2
      clear hB4 hltA3 hltB3 hbb3 hB3 hA3 hltB hB hltA hb3 HA Hb2 C3
      cases may with
      | true =>
        obtain rfl := he3.out
        rw [if_pos rfl]
        have hv4 := Go.Lib.hid (hv3.out.trans (if_pos rfl)).symm
        clear hv3
        have hpm := Hpm.out
        clear Hpm
        go_wp2_with (first
          | (with_reducible show wpList _ _ _ (⟨none, Op.store 23 (.tmp 2) (.tmp 44), _, _, _, _⟩ :: _) _ _; go_loud (refine wpList_store_row rfl 23 (.tmp 2) (.tmp 44) rfl w.heap.size #[.int .i64 k1, .int .i64 n1, .string q] rfl rfl 23 _ hA4.out (by kernel_rfl) rfl (raw_cells_one ..) ?_))
          | fail)
        refine ret_vget_at (m := p + m) rfl (setRow_heap _ _ _ _ _ (0, 0) hA4.out) rfl rfl hv4.out (setRow_below _ hbb4.out (Nat.le_refl _))
      | false =>
        obtain rfl := he3.out
        rw [if_neg (by decide)]
        have hv4 := Go.Lib.hid (hv3.out.trans (if_neg (by decide))).symm
        clear hv3 Hpm x0 x1 x2
        go_wp2_with (first
          | (with_reducible show wpList _ _ _ (⟨none, Op.store 23 (.tmp 2) (.tmp 42), _, _, _, _⟩ :: _) _ _; go_loud (refine wpList_store_row rfl 23 (.tmp 2) (.tmp 42) rfl w.heap.size #[.int .i64 0, .int .i64 0, .string ⟨#[]⟩] rfl rfl 23 _ hA4.out (by kernel_rfl) rfl (raw_cells_one ..) ?_))
          | fail)
        refine ret_vget_at (m := 0) rfl (setRow_heap _ _ _ _ _ (0, 0) hA4.out) rfl rfl hv4.out (setRow_below _ hbb4.out (Nat.le_refl _))
    · have hv2 := hv.out
      rw [if_neg he] at hv2
      have hv4 := Go.Lib.hid hv2.symm
      have heb : (e == 0) = false := by simp [he]
      clear hv2 hv he hsm f1 f2
      generalize str s1 = q at *
      generalize he1 : e = e1 at *
      clear he1
      go_enter Try.func49, Try.ntmps49
      go_wp2_with fail
      refine (C1.out _ hR1.out).mono ?_
      rintro e w1 ⟨rfl, rfl⟩
      go_wp2_with (first
        | (with_reducible show wpList _ _ _ (⟨some 26, _, _, _, _, _⟩ :: _) _ _; go_loud (refine wpList_slice_l rfl (.tmp 24) (.tmp 25) 26 rfl 5 Try.underlying26 info8 (.slice a l.length cap) l .i64 _ p rfl rfl rfl hR1.out f3 ?_); intro v3 hv3)
        | fail)
      refine (C2.out _ _ hv3).mono ?_
      rintro e w2 ⟨rfl, hb2⟩
      have hlt0 := (Array.getElem?_eq_some_iff.1 (heap_alloc_new w (.cells #[.int .i64 0, .int .i64 0, .string ⟨#[]⟩] 23))).1
      have hA := (hb2.block _ hlt0).trans (heap_alloc_new w _)
      have hbb2 := (below_one w (.cells #[.int .i64 0, .int .i64 0, .string ⟨#[]⟩] 23)).trans (hb2.mono (below_one w _).size)
      clear hb2 hlt0 hv3 hR1 C1 C2
      have hltA := (Array.getElem?_eq_some_iff.1 hA).1
      have hA4 := Go.Lib.hid ((_root_.Go.heap_alloc_old w2 (.cells #[.int .i64 k1, .int .i64 n1, .string q] 23) hltA).trans hA)
      have hbb4 := Go.Lib.hid (hbb2.trans ((below_one w2 (.cells #[.int .i64 k1, .int .i64 n1, .string q] 23)).mono hbb2.size))
      clear hA hbb2 hltA
      go_wp2_with (first
        | (with_reducible show wpList _ _ _ (⟨none, Op.store 23 (.tmp 2) (.tmp 33), _, _, _, _⟩ :: _) _ _; go_loud (refine wpList_store_row rfl 23 (.tmp 2) (.tmp 33) rfl w.heap.size #[.int .i64 0, .int .i64 0, .string ⟨#[]⟩] rfl rfl 23 _ hA4.out (by kernel_rfl) rfl (raw_cells_one ..) ?_))
        | fail)
      refine ret_vget_at (m := 0) rfl (setRow_heap _ _ _ _ _ (0, 0) hA4.out) rfl rfl hv4.out (setRow_below _ hbb4.out (Nat.le_refl _))
  · have hv := Go.Lib.hid (valB_err l k er p Hr.out he).symm
    have heb : (er == 0) = false := by simp [he]
    clear f4 f5 f6 he
    go_enter Try.func49, Try.ntmps49
    go_wp2_with fail
    refine (C1.out _ hR1.out).mono ?_
    rintro e w1 ⟨rfl, rfl⟩
    go_wp2_with fail
    refine ret_vget_at (m := 0) rfl (heap_alloc_new ..) rfl rfl hv.out (below_one ..)

end Go.Proofs.Ytmlndgkpbodnnaa

namespace Go.Proofs.Ytmlndgkpbodnnaa
open Go.RowKit
open Go.Lib (uvarint zigzag)

/-- What stands behind the key. -/
def gofR (key l : List UInt8) : RdT :=
  if (getB l).2.2 = 0 ∧ (getB l).1 = 0 then ((key, true, 0, 0, []), (getB l).2.1, 0) else ((key, false, (valB l).1), (valB l).2.1, (valB l).2.2)

theorem gof_gone {key l : List UInt8} {m : Nat} (g : getB l = (0, m, 0)) : gofR key l = ((key, true, 0, 0, []), m, 0) := by
  unfold gofR
  rw [g]
  simp
theorem gof_val {key l : List UInt8} {x : Int} {m : Nat} {e : Int} (g : getB l = (x, m, e)) (h : ¬ (e = 0 ∧ x = 0)) {v : Int × Int × List UInt8} {q : Nat} {e3 : Int} (u : valB l = (v, q, e3)) : gofR key l = ((key, false, v), q, e3) := by
  unfold gofR
  rw [g, u, if_neg h]

theorem readB_gof {l key : List UInt8} {p : Nat} (h : textB l = (key, p, 0)) (hk : mayK (str key) = true) {r : List UInt8 × Bool × Int × Int × List UInt8} {m : Nat} {e : Int} (g : gofR key (l.drop p) = (r, m, e)) :
    readB l = if e = 0 then (r, p + m, 0) else rdErr e := by
  rcases hr2 : getB (l.drop p) with ⟨x, m2, e2⟩
  by_cases he2 : e2 = 0
  · subst he2
    by_cases hx : x = 0
    · subst hx
      rw [gof_gone hr2] at g
      simp only [Prod.mk.injEq] at g
      obtain ⟨rfl, rfl, rfl⟩ := g
      rw [readB_gone h hk hr2, if_pos rfl]
    · rcases hr3 : valB (l.drop p) with ⟨v, q, e3⟩
      rw [gof_val hr2 (fun h => hx h.2) hr3] at g
      simp only [Prod.mk.injEq] at g
      obtain ⟨rfl, rfl, rfl⟩ := g
      by_cases he3 : e3 = 0
      · subst he3
        rw [readB_ok h hk hr2 hx hr3, if_pos rfl]
      · rw [readB_e4 h hk hr2 hx hr3 he3, if_neg he3]
  · have hv := valB_err (l.drop p) x e2 m2 hr2 he2
    rw [gof_val hr2 (fun h => he2 h.1) hv] at g
    simp only [Prod.mk.injEq] at g
    obtain ⟨rfl, rfl, rfl⟩ := g
    rw [readB_e3 h hk hr2 he2, if_neg he2]

theorem gofR_fits (key l : List UInt8) : (gofR key l).2.1 ≤ 70010 ∧ (gofR key l).2.1 ≤ l.length := by
  have h1 := getB_fits l
  have h2 := valB_fits l
  unfold gofR
  split
  · exact ⟨by show (getB l).2.1 ≤ 70010; omega, by show (getB l).2.1 ≤ l.length; omega⟩
  · exact ⟨by show (valB l).2.1 ≤ 70010; omega, by show (valB l).2.1 ≤ l.length; omega⟩

theorem ret_rgof_at {w w0 : World} {tmps : Array Value} {key : ByteArray} {gone : Bool} {k n : Int} {s : ByteArray} {m : Nat} {e : Int} {g : Nat} {fr : Nat × Nat} {r : RdT}
    (hp : tmps.getD 4 undef = .pointer (some ⟨g, 0, none⟩)) (hg : w.heap[g]? = some (.cells #[.string key, .bool gone, .int .i64 k, .int .i64 n, .string s] 25 fr)) (h3 : tmps.getD 5 undef = .int .i64 (m : Int)) (h4 : tmps.getD 6 undef = .int .i64 e)
    (hr : r = ((bl key, gone, k, n, bl s), m, e)) (hb : Below w0.heap.size w0 w) : bodyPost Try.prog Try.f38 (fun e w' => e = .returned (rr r) ∧ Below w0.heap.size w0 w') Exit.ret { tmps := tmps, defers := [] } w := by
  subst hr
  have h := results_row_two (P := Try.prog) (fn := Try.f38) (p := 4) (u := 5) (v := 6) (ty := 25) rfl tmps w g 25 #[.string key, .bool gone, .int .i64 k, .int .i64 n, .string s] fr _ hp hg Try.underlying25 rfl (by kernel_rfl)
  rw [h3, h4] at h
  refine bodyPost_ret h rfl ⟨?_, hb⟩
  unfold rr recV
  rw [str_bl, str_bl]

theorem ret_rget_at {w w0 : World} {tmps : Array Value} {key : ByteArray} {gone : Bool} {k n : Int} {s : ByteArray} {m : Nat} {e : Int} {g : Nat} {fr : Nat × Nat} {r : RdT}
    (hp : tmps.getD 2 undef = .pointer (some ⟨g, 0, none⟩)) (hg : w.heap[g]? = some (.cells #[.string key, .bool gone, .int .i64 k, .int .i64 n, .string s] 25 fr)) (h3 : tmps.getD 3 undef = .int .i64 (m : Int)) (h4 : tmps.getD 4 undef = .int .i64 e)
    (hr : r = ((bl key, gone, k, n, bl s), m, e)) (hb : Below w0.heap.size w0 w) : bodyPost Try.prog Try.f17 (fun e w' => e = .returned (rr r) ∧ Below w0.heap.size w0 w') Exit.ret { tmps := tmps, defers := [] } w := by
  subst hr
  have h := results_row_two (P := Try.prog) (fn := Try.f17) (p := 2) (u := 3) (v := 4) (ty := 25) rfl tmps w g 25 #[.string key, .bool gone, .int .i64 k, .int .i64 n, .string s] fr _ hp hg Try.underlying25 rfl (by kernel_rfl)
  rw [h3, h4] at h
  refine bodyPost_ret h rfl ⟨?_, hb⟩
  unfold rr recV
  rw [str_bl, str_bl]

set_option maxHeartbeats 2000000 in
set_option maxRecDepth 100000 in
theorem rgof_c (key : List UInt8) (v : Value) (l : List UInt8) (w : World) (hv : RB w v l) :
    Calls Try.prog 38 #[.string (str key), v] w fun e w' => e = .returned (rr (gofR key l)) ∧ Below w.heap.size w w' := by
  have hrb := hv
  obtain ⟨a, cap, rfl, -⟩ := hv
  have c1 := fun W (h : RB W (.slice a l.length cap) l) => get_c (.slice a l.length cap) l W h
  have c2 := fun W (h : RB W (.slice a l.length cap) l) => vget_c (.slice a l.length cap) l W h
  rcases hr : getB l with ⟨x, m, e2⟩
  rcases hr3 : valB l with ⟨⟨vk, vn, vs⟩, q, e3⟩
  rw [hr] at c1
  rw [hr3] at c2
  unfold gv at c1
  unfold vv rawV at c2
  simp only [] at c1 c2
  have C1 := Go.Lib.hid c1; clear c1
  have C2 := Go.Lib.hid c2; clear c2
  have hR1 := Go.Lib.hid fun o => hrb.below (below_one w o)
  have hnew := Go.Lib.hid fun o => heap_alloc_new w o
  have hkk := bl_str key
  have hvs := bl_str vs
  have Hkk := Go.Lib.hid hkk; clear hkk
  have Hvs := Go.Lib.hid hvs; clear hvs
  by_cases hc : e2 = 0 ∧ x = 0
  · obtain ⟨rfl, rfl⟩ := hc
    have hv := gof_gone (key := key) hr
    rw [← Hkk.out] at hv
    have Hv := Go.Lib.hid hv; clear hv hr hr3 C2 hrb
    rw [Hkk.out] at Hv
    generalize str key = ks at *
    go_enter Try.func38, Try.ntmps38
    go_wp2_with fail
    refine (C1.out _ (hR1.out _)).mono ?_
    rintro e w1 ⟨rfl, rfl⟩
    go_wp2_with fail
    refine ret_rgof_at (m := m) rfl (hnew.out _) rfl rfl ?_ (below_one _ _)
    rw [Hv.out, Hkk.out]
    rfl
  · have hv := gof_val (key := key) hr hc hr3
    have Hv := Go.Lib.hid hv; clear hv hr3 hrb
    have Hc := Go.Lib.hid hc; clear hc hr
    generalize str key = ks at *
    generalize str vs = ss at *
    by_cases he : e2 = 0
    · have hx : (x == 0) = false := by
        have := Hc.out
        simp only [beq_eq_false_iff_ne, ne_eq]
        intro h
        exact this ⟨he, h⟩
      subst he
      clear Hc
      go_enter Try.func38, Try.ntmps38
      go_wp2_with fail
      refine (C1.out _ (hR1.out _)).mono ?_
      rintro e w1 ⟨rfl, rfl⟩
      go_wp2_with fail
      refine (C2.out _ (hR1.out _)).mono ?_
      rintro e w1 ⟨rfl, hb1⟩
      obtain ⟨hh, -⟩ := rec_box _ _ _ _ _ hb1
      unfold recO at hh
      have hlt := (Array.getElem?_eq_some_iff.1 hh).1
      have hA := (heap_alloc_old w1 (.cells #[.int .i64 vk, .int .i64 vn, .string ss] 23) hlt).trans hh
      have hbb := (below_one w (.cells #[.string ⟨#[]⟩, .bool false, .int .i64 0, .int .i64 0, .string ⟨#[]⟩] 25)).trans (hb1.mono (below_one w _).size)
      have hbb2 := hbb.trans ((below_one w1 (.cells #[.int .i64 vk, .int .i64 vn, .string ss] 23)).mono hbb.size)
      have HA := Go.Lib.hid hA; clear hA hh hb1 hlt
      go_wp2_with (first
        | (with_reducible show wpList _ _ _ (⟨none, Op.store 25 (.tmp 4) (.tmp 36), _, _, _, _⟩ :: _) _ _; go_loud (refine wpList_store_row rfl 25 (.tmp 4) (.tmp 36) rfl w.heap.size #[.string ks, .bool false, .int .i64 vk, .int .i64 vn, .string ss] rfl rfl 25 _ HA.out (by kernel_rfl) rfl (rec_cells_one ..) ?_))
        | fail)
      refine ret_rgof_at (m := q) rfl (setRow_heap _ _ _ _ _ (0, 0) HA.out) rfl rfl ?_ (setRow_below _ hbb2 (Nat.le_refl _))
      rw [Hv.out, Hkk.out, Hvs.out]
    · have he2 : (e2 == 0) = false := by simp [he]
      clear Hc he
      go_enter Try.func38, Try.ntmps38
      go_wp2_with fail
      refine (C1.out _ (hR1.out _)).mono ?_
      rintro e w1 ⟨rfl, rfl⟩
      go_wp2_with fail
      refine (C2.out _ (hR1.out _)).mono ?_
      rintro e w1 ⟨rfl, hb1⟩
      obtain ⟨hh, -⟩ := rec_box _ _ _ _ _ hb1
      unfold recO at hh
      have hlt := (Array.getElem?_eq_some_iff.1 hh).1
      have hA := (heap_alloc_old w1 (.cells #[.int .i64 vk, .int .i64 vn, .string ss] 23) hlt).trans hh
      have hbb := (below_one w (.cells #[.string ⟨#[]⟩, .bool false, .int .i64 0, .int .i64 0, .string ⟨#[]⟩] 25)).trans (hb1.mono (below_one w _).size)
      have hbb2 := hbb.trans ((below_one w1 (.cells #[.int .i64 vk, .int .i64 vn, .string ss] 23)).mono hbb.size)
      have HA := Go.Lib.hid hA; clear hA hh hb1 hlt
      go_wp2_with (first
        | (with_reducible show wpList _ _ _ (⟨none, Op.store 25 (.tmp 4) (.tmp 36), _, _, _, _⟩ :: _) _ _; go_loud (refine wpList_store_row rfl 25 (.tmp 4) (.tmp 36) rfl w.heap.size #[.string ks, .bool false, .int .i64 vk, .int .i64 vn, .string ss] rfl rfl 25 _ HA.out (by kernel_rfl) rfl (rec_cells_one ..) ?_))
        | fail)
      refine ret_rgof_at (m := q) rfl (setRow_heap _ _ _ _ _ (0, 0) HA.out) rfl rfl ?_ (setRow_below _ hbb2 (Nat.le_refl _))
      rw [Hv.out, Hkk.out, Hvs.out]

set_option maxHeartbeats 2000000 in
set_option maxRecDepth 100000 in
theorem pget_c (v : Value) (l : List UInt8) (w : World) (hv : RB w v l) :
    Calls Try.prog 17 #[v] w fun e w' => e = .returned (rr (readB l)) ∧ Below w.heap.size w w' := by
  have hrb := hv
  obtain ⟨a, cap, rfl, h1, h2, h3, h4⟩ := hv
  have hm : l.length ≤ 9223372036854775807 := by unfold maxLen at h2; omega
  clear h4 h3 h1 h2
  have hfit := textB_fits l
  have c1 := fun W (h : RB W (.slice a l.length cap) l) => getText_c (.slice a l.length cap) l W h
  rcases hr : textB l with ⟨key, p, er⟩
  rw [hr] at hfit c1
  unfold tv at c1
  simp only [] at hfit c1
  obtain ⟨f1, f2, f3, f4⟩ := hfit
  have C1 := Go.Lib.hid c1; clear c1
  have Hr := Go.Lib.hid hr; clear hr
  have hR1 := Go.Lib.hid fun o => hrb.below (below_one w o)
  have hnew := Go.Lib.hid fun o => heap_alloc_new w o
  by_cases he : er = 0
  · subst he
    clear f4
    have C2 := Go.Lib.hid fun W => kmay_c (str key) W (by rw [str_size]; omega)
    cases hmk : mayK (str key) with
    | false =>
      rw [hmk] at C2
      have hv := Go.Lib.hid (readB_e2 Hr.out hmk)
      clear hmk f1 f2 f3
      go_enter Try.func17, Try.ntmps17
      go_wp2_with fail
      refine (C1.out _ (hR1.out _)).mono ?_
      rintro e w1 ⟨rfl, rfl⟩
      go_wp2_with fail
      refine (C2.out _).mono ?_
      rintro e w1 ⟨rfl, hb1⟩
      obtain ⟨hh, -⟩ := rec_box _ _ _ _ _ hb1
      unfold recO at hh
      have hbb := (below_one w (.cells #[.string ⟨#[]⟩, .bool false, .int .i64 0, .int .i64 0, .string ⟨#[]⟩] 25)).trans (hb1.mono (below_one w _).size)
      have HA := Go.Lib.hid hh; clear hh hb1
      go_wp2_with (first
        | (with_reducible show wpList _ _ _ (⟨none, Op.store 25 (.tmp 2) (.tmp 23), _, _, _, _⟩ :: _) _ _; go_loud (refine wpList_store_row rfl 25 (.tmp 2) (.tmp 23) rfl w.heap.size #[.string ⟨#[]⟩, .bool false, .int .i64 0, .int .i64 0, .string ⟨#[]⟩] rfl rfl 25 _ HA.out (by kernel_rfl) rfl (rec_cells_one ..) ?_))
        | fail)
      exact ret_rget_at (m := 0) rfl (setRow_heap _ _ _ _ _ (0, 0) HA.out) rfl rfl hv.out (setRow_below _ hbb (Nat.le_refl _))
    | true =>
      rw [hmk] at C2
      have Hmk := Go.Lib.hid hmk; clear hmk
      have hfit2 := gofR_fits key (l.drop p)
      have c3 := fun v' W (h : RB W v' (l.drop p)) => rgof_c key v' (l.drop p) W h
      rcases hr2 : gofR key (l.drop p) with ⟨⟨xk, xg, xa, xn, xs⟩, m, e2⟩
      rw [hr2] at c3 hfit2
      unfold rr recV at c3
      simp only [] at c3 hfit2
      obtain ⟨q1, -⟩ := hfit2
      have C3 := Go.Lib.hid c3; clear c3
      have hv := readB_gof Hr.out Hmk.out hr2
      clear hr2
      have Hkk := Go.Lib.hid (bl_str xk)
      have Hss := Go.Lib.hid (bl_str xs)
      have hadd : IntKind.i64.wrap ((p : Int) + (m : Int)) = ((p + m : Nat) : Int) := by rw [IntKind.wrap_i64]; omega
      by_cases he2 : e2 = 0
      · subst he2
        rw [if_pos rfl] at hv
        have Hv := Go.Lib.hid hv; clear hv
        have Hadd := Go.Lib.hid hadd; clear hadd q1
        generalize str xk = ks at *
        generalize str xs = ss at *
        go_enter Try.func17, Try.ntmps17
        go_wp2_with fail
        refine (C1.out _ (hR1.out _)).mono ?_
        rintro e w1 ⟨rfl, rfl⟩
        go_wp2_with fail
        refine (C2.out _).mono ?_
        rintro e w1 ⟨rfl, hb1⟩
        have hR2 := (hR1.out _).below hb1
        go_wp2_with (first
          | (with_reducible show wpList _ _ _ (⟨some 28, _, _, _, _, _⟩ :: _) _ _; go_loud (refine wpList_slice_l rfl (.tmp 26) (.tmp 27) 26 rfl 5 Try.underlying26 info8 (.slice a l.length cap) l .i64 _ p rfl rfl rfl hR2 f1 ?_); intro v3 hv3)
          | fail)
        refine (C3.out _ _ hv3).mono ?_
        rintro e w2 ⟨rfl, hb2⟩
        have hb1 := hb1.trans (hb2.mono hb1.size)
        obtain ⟨hh, -⟩ := rec_box _ _ _ _ _ hb1
        unfold recO at hh
        have hlt := (Array.getElem?_eq_some_iff.1 hh).1
        have hA := (heap_alloc_old w2 (.cells #[.string ks, .bool xg, .int .i64 xa, .int .i64 xn, .string ss] 25) hlt).trans hh
        have hbb := (below_one w (.cells #[.string ⟨#[]⟩, .bool false, .int .i64 0, .int .i64 0, .string ⟨#[]⟩] 25)).trans (hb1.mono (below_one w _).size)
        have hbb2 := hbb.trans ((below_one w2 (.cells #[.string ks, .bool xg, .int .i64 xa, .int .i64 xn, .string ss] 25)).mono hbb.size)
        have HA := Go.Lib.hid hA; clear hA hh hb1 hlt hb2 hv3 hR2
        have hadd := Hadd.out
        go_wp2_with (first
          | (with_reducible show wpList _ _ _ (⟨none, Op.store 25 (.tmp 2) (.tmp 37), _, _, _, _⟩ :: _) _ _; go_loud (refine wpList_store_row rfl 25 (.tmp 2) (.tmp 37) rfl w.heap.size #[.string ks, .bool xg, .int .i64 xa, .int .i64 xn, .string ss] rfl rfl 25 _ HA.out (by kernel_rfl) rfl (rec_cells_one ..) ?_))
          | fail)
        refine ret_rget_at (m := p + m) rfl (setRow_heap _ _ _ _ _ (0, 0) HA.out) rfl rfl ?_ (setRow_below _ hbb2 (Nat.le_refl _))
        rw [Hv.out, Hkk.out, Hss.out]
      · rw [if_neg he2] at hv
        have he2b : (e2 == 0) = false := by simp [he2]
        have Hv := Go.Lib.hid hv; clear hv hadd q1 he2
        generalize str xk = ks at *
        generalize str xs = ss at *
        go_enter Try.func17, Try.ntmps17
        go_wp2_with fail
        refine (C1.out _ (hR1.out _)).mono ?_
        rintro e w1 ⟨rfl, rfl⟩
        go_wp2_with fail
        refine (C2.out _).mono ?_
        rintro e w1 ⟨rfl, hb1⟩
        have hR2 := (hR1.out _).below hb1
        go_wp2_with (first
          | (with_reducible show wpList _ _ _ (⟨some 28, _, _, _, _, _⟩ :: _) _ _; go_loud (refine wpList_slice_l rfl (.tmp 26) (.tmp 27) 26 rfl 5 Try.underlying26 info8 (.slice a l.length cap) l .i64 _ p rfl rfl rfl hR2 f1 ?_); intro v3 hv3)
          | fail)
        refine (C3.out _ _ hv3).mono ?_
        rintro e w2 ⟨rfl, hb2⟩
        have hb1 := hb1.trans (hb2.mono hb1.size)
        obtain ⟨hh, -⟩ := rec_box _ _ _ _ _ hb1
        unfold recO at hh
        have hlt := (Array.getElem?_eq_some_iff.1 hh).1
        have hA := (heap_alloc_old w2 (.cells #[.string ks, .bool xg, .int .i64 xa, .int .i64 xn, .string ss] 25) hlt).trans hh
        have hbb := (below_one w (.cells #[.string ⟨#[]⟩, .bool false, .int .i64 0, .int .i64 0, .string ⟨#[]⟩] 25)).trans (hb1.mono (below_one w _).size)
        have hbb2 := hbb.trans ((below_one w2 (.cells #[.string ks, .bool xg, .int .i64 xa, .int .i64 xn, .string ss] 25)).mono hbb.size)
        have HA := Go.Lib.hid hA; clear hA hh hb1 hlt hb2 hv3 hR2
        go_wp2_with (first
          | (with_reducible show wpList _ _ _ (⟨none, Op.store 25 (.tmp 2) (.tmp 35), _, _, _, _⟩ :: _) _ _; go_loud (refine wpList_store_row rfl 25 (.tmp 2) (.tmp 35) rfl w.heap.size #[.string ⟨#[]⟩, .bool false, .int .i64 0, .int .i64 0, .string ⟨#[]⟩] rfl rfl 25 _ HA.out (by kernel_rfl) rfl (rec_cells_one ..) ?_))
          | fail)
        exact ret_rget_at (m := 0) rfl (setRow_heap _ _ _ _ _ (0, 0) HA.out) rfl rfl Hv.out (setRow_below _ hbb2 (Nat.le_refl _))
  · have hv := Go.Lib.hid (readB_e1 Hr.out he)
    have heb : (er == 0) = false := by simp [he]
    clear f1 f2 f3 he
    go_enter Try.func17, Try.ntmps17
    go_wp2_with fail
    refine (C1.out _ (hR1.out _)).mono ?_
    rintro e w1 ⟨rfl, rfl⟩
    go_wp2_with fail
    exact ret_rget_at (m := 0) rfl (hnew.out _) rfl rfl hv.out (below_one _ _)

end Go.Proofs.Ytmlndgkpbodnnaa

namespace Go.Proofs.Ytmlndgkpbodnnaa
open Go.RowKit Go.Op

/-- Storing what stands there already leaves the world as it is. -/
theorem setCell_id {w : World} {b o : Nat} {cs : Array Value} {t : TypeId} {fr : Nat × Nat} {v : Value} (hg : w.heap[b]? = some (.cells cs t fr)) (hv : cs[o]? = some v) : w.setCell ⟨b, o, none⟩ v = w := by
  obtain ⟨hb, hg⟩ := Array.getElem?_eq_some_iff.1 hg
  obtain ⟨ho, hv⟩ := Array.getElem?_eq_some_iff.1 hv
  have hset : cs.setIfInBounds o v = cs := by
    rw [← hv]
    apply Array.ext
    · simp
    · intro i h1 h2
      rw [Array.getElem_setIfInBounds]
      split
      · rename_i h; subst h; rfl
      · rfl
  have : (w.setCell ⟨b, o, none⟩ v).heap = w.heap := by
    unfold World.setCell
    apply Array.ext
    · simp
    · intro i h1 h2
      simp only [Array.getElem_modify]
      by_cases hi : b = i
      · subst hi
        rw [if_pos rfl, hg]
        simp [hset]
      · rw [if_neg hi]
  have e : w.setCell ⟨b, o, none⟩ v = { w with heap := (w.setCell ⟨b, o, none⟩ v).heap } := rfl
  rw [e, this]

end Go.Proofs.Ytmlndgkpbodnnaa

namespace Go.Proofs.Ytmlndgkpbodnnaa
open Go.RowKit Go.Op

theorem ret_frec_at {w w0 : World} {tmps : Array Value} {key : ByteArray} {gone : Bool} {k n : Int} {s : ByteArray} {g : Nat} {fr : Nat × Nat}
    (hp : tmps.getD 2 undef = .pointer (some ⟨g, 0, none⟩)) (hg : w.heap[g]? = some (.cells #[.string key, .bool gone, .int .i64 k, .int .i64 n, .string s] 25 fr)) (hb : Below w0.heap.size w0 w) :
    bodyPost Try.prog Try.f42 (fun e w' => e = .returned (.agg #[.string key, .bool gone, .int .i64 k, .int .i64 n, .string s]) ∧ Below w0.heap.size w0 w') Exit.ret { tmps := tmps, defers := [] } w :=
  bodyPost_ret (results_cell_row (P := Try.prog) (fn := Try.f42) (p := 2) (ty := 25) rfl tmps w g 25 #[.string key, .bool gone, .int .i64 k, .int .i64 n, .string s] fr _ hp hg Try.underlying25 rfl (by kernel_rfl)) rfl ⟨rfl, hb⟩

set_option maxRecDepth 100000 in
theorem frec_c (key : ByteArray) (gone : Bool) (k n : Int) (s : ByteArray) (w : World) (hk : key.size ≤ 1000000) (hs : s.size ≤ 1000000) :
    Calls Try.prog 42 #[recV key gone k n s] w fun e w' => e = .returned (recV key gone k n s) ∧ Below w.heap.size w w' := by
  have C1 := Go.Lib.hid fun W => clone_c key W (by omega)
  have C2 := Go.Lib.hid fun W => clone_c s W (by omega)
  clear hk hs
  unfold recV
  have hbb := below_two w (.cells #[.string key, .bool gone, .int .i64 k, .int .i64 n, .string s] 25) (.cells #[.string ⟨#[]⟩, .bool false, .int .i64 0, .int .i64 0, .string ⟨#[]⟩] 25)
  have hA := two_first w (.cells #[.string key, .bool gone, .int .i64 k, .int .i64 n, .string s] 25) (.cells #[.string ⟨#[]⟩, .bool false, .int .i64 0, .int .i64 0, .string ⟨#[]⟩] 25)
  have hB := heap_alloc2_new w (.cells #[.string key, .bool gone, .int .i64 k, .int .i64 n, .string s] 25) (.cells #[.string ⟨#[]⟩, .bool false, .int .i64 0, .int .i64 0, .string ⟨#[]⟩] 25)
  go_enter Try.func42, Try.ntmps42
  go_wp2_with fail
  refine (C1.out _).mono ?_
  rintro e w1 ⟨rfl, hc⟩
  have hA := row_kept hA hc
  have hB := row_kept hB hc
  have hbb := hbb.trans (hc.mono hbb.size)
  obtain ⟨x0, x1, x2, x3, x4⟩ := row5 hA
  have hf := fun o => frozen_of_row w1 w.heap.size o _ _ hA
  have hi0 := setCell_id (o := 0) (v := .string key) hA rfl
  have hi4 := setCell_id (o := 4) (v := .string s) hA rfl
  clear C1 hc
  go_wp2_with fail
  refine (C2.out _).mono ?_
  rintro e w2 ⟨rfl, hc⟩
  have hA := row_kept hA hc
  have hB := row_kept hB hc
  have hbb := hbb.trans (hc.mono hbb.size)
  clear x0 x1 x2 x3 x4 hf hi0 hi4 C2
  obtain ⟨x0, x1, x2, x3, x4⟩ := row5 hA
  have hf := fun o => frozen_of_row w2 w.heap.size o _ _ hA
  have hi0 := setCell_id (o := 0) (v := .string key) hA rfl
  have hi4 := setCell_id (o := 4) (v := .string s) hA rfl
  have HB := Go.Lib.hid hB
  clear hB
  go_wp2_with (first
    | (with_reducible show wpList _ _ _ (⟨none, Op.store 25 (.tmp 2) (.tmp 13), _, _, _, _⟩ :: _) _ _; go_loud (refine wpList_store_row rfl 25 (.tmp 2) (.tmp 13) rfl (w.heap.size + 1) #[.string key, .bool gone, .int .i64 k, .int .i64 n, .string s] rfl rfl 25 _ HB.out (by kernel_rfl) rfl (rec_cells_one ..) ?_))
    | fail)
  exact ret_frec_at rfl (setRow_heap _ _ _ _ _ (0, 0) HB.out) (setRow_below _ hbb (by omega))

end Go.Proofs.Ytmlndgkpbodnnaa

namespace Go.Proofs.Ytmlndgkpbodnnaa
open Go.Op

theorem less_irr : ∀ x, bytesLess x x = false
  | [] => rfl
  | a :: x => by simp [bytesLess, less_irr x]
theorem less_trans : ∀ x y z, bytesLess x y = true → bytesLess y z = true → bytesLess x z = true
  | [], [], _, h, _ => by cases h
  | [], _ :: _, [], _, h => by cases h
  | [], _ :: _, _ :: _, _, _ => rfl
  | _ :: _, [], _, h, _ => by cases h
  | _ :: _, _ :: _, [], _, h => by cases h
  | a :: x, b :: y, c :: z, h, g => by
    simp only [bytesLess, Bool.or_eq_true, decide_eq_true_eq, Bool.and_eq_true, beq_iff_eq] at h g ⊢
    rcases h with h | ⟨rfl, h⟩
    · rcases g with g | ⟨rfl, -⟩
      · exact .inl (UInt8.lt_trans h g)
      · exact .inl h
    · rcases g with g | ⟨rfl, g⟩
      · exact .inl g
      · exact .inr ⟨rfl, less_trans x y z h g⟩
theorem less_tri : ∀ x y, bytesLess x y = true ∨ x = y ∨ bytesLess y x = true
  | [], [] => .inr (.inl rfl)
  | [], _ :: _ => .inl rfl
  | _ :: _, [] => .inr (.inr rfl)
  | a :: x, b :: y => by
    simp only [bytesLess, Bool.or_eq_true, decide_eq_true_eq, Bool.and_eq_true, beq_iff_eq]
    rcases Nat.lt_trichotomy a.toNat b.toNat with h | h | h
    · exact .inl (.inl (UInt8.lt_iff_toNat_lt.2 h))
    · obtain rfl := UInt8.toNat_inj.1 h
      rcases less_tri x y with h | h | h
      · exact .inl (.inr ⟨rfl, h⟩)
      · exact .inr (.inl (by rw [h]))
      · exact .inr (.inr (.inr ⟨rfl, h⟩))
    · exact .inr (.inr (.inl (UInt8.lt_iff_toNat_lt.2 h)))
theorem ordR : Ordered bytesLess := ⟨less_irr, less_trans, less_tri⟩

end Go.Proofs.Ytmlndgkpbodnnaa

namespace Go.Proofs.Ytmlndgkpbodnnaa
open Go.RowKit Go.Op

def keyR (x : RecT) : List UInt8 := x.1.toList
abbrev setR (l : List RecT) (r : RecT) : List RecT := setGo keyR bytesLess r l false

theorem setGo_step (r : RecT) (l : List RecT) (k : Nat) (h : k < l.length) (d : Bool) (acc : List RecT) (p q d' : Bool) (hp : (!d && !(bytesLess (keyR l[k]) (keyR r))) = p) (hq : decide (keyR l[k] = keyR r) = q) (hd : (d || p) = d') (he : acc ++ setGo keyR bytesLess r (l.drop k) d = setR l r) :
    acc ++ (if p then [r] else []) ++ (if q then [] else [l[k]]) ++ setGo keyR bytesLess r (l.drop (k + 1)) d' = setR l r := by
  rw [← he, List.drop_eq_getElem_cons h, setGo, hp, hd]
  subst hq
  simp [List.append_assoc]

/-- The box of the record, in whatever world came later. -/
theorem box_later {w w' : World} {key : ByteArray} {gone : Bool} {k n : Int} {s : ByteArray} (hb : Below (w.alloc (recO key gone k n s)).heap.size (w.alloc (recO key gone k n s)) w') :
    w'.cell? ⟨w.heap.size, 0, none⟩ = some (.string key) ∧ w'.cell? ⟨w.heap.size, 1, none⟩ = some (.bool gone) ∧ w'.cell? ⟨w.heap.size, 2, none⟩ = some (.int .i64 k) ∧ w'.cell? ⟨w.heap.size, 3, none⟩ = some (.int .i64 n) ∧ w'.cell? ⟨w.heap.size, 4, none⟩ = some (.string s) := (rec_box key gone k n s hb).2
theorem setR_len (r : RecT) : ∀ (l : List RecT) (d : Bool), (setGo keyR bytesLess r l d).length ≤ l.length + 1 ∧ (d = true → (setGo keyR bytesLess r l d).length ≤ l.length) := by
  intro l
  induction l with
  | nil => intro d; cases d <;> simp [setGo]
  | cons x t ih =>
    intro d
    rw [setGo]
    simp only [List.length_append, List.length_cons]
    cases d with
    | true =>
      have := (ih true).2 rfl
      simp only [Bool.not_true, Bool.false_and, Bool.false_eq_true, if_false, Bool.true_or, List.length_nil]
      split <;> simp <;> omega
    | false =>
      cases hb : bytesLess (keyR x) (keyR r) with
      | true =>
        have := (ih false).1
        simp only [Bool.not_true, Bool.and_false, Bool.false_eq_true, if_false, Bool.or_false, List.length_nil]
        split <;> simp <;> omega
      | false =>
        have := (ih true).2 rfl
        simp only [Bool.not_false, Bool.and_true, if_true, Bool.or_true, List.length_cons, List.length_nil]
        split <;> simp <;> omega
/-- Nothing is longer than what it becomes. -/
theorem acc_len {acc m l : List RecT} {r : RecT} (h : acc ++ m = setR l r) (hl : l.length ≤ 1000) : acc.length ≤ 1001 := by
  have h1 := (setR_len r l false).1
  unfold setR at h
  rw [← h, List.length_append] at h1
  omega

set_option maxHeartbeats 8000000 in
set_option maxRecDepth 100000 in
theorem rset_c (v : Value) (l : List RecT) (key : ByteArray) (gone : Bool) (rk rn : Int) (rs : ByteArray) (w : World) (hv : RS w v l) (hl : l.length ≤ 1000) :
    Calls Try.prog 43 #[v, recV key gone rk rn rs] w fun e w' => ∃ v', e = .returned v' ∧ OwnRec w' w.heap.size v' (setR l (key, gone, rk, rn, rs)) ∧ Below w.heap.size w w' := by
  obtain ⟨a, cap, rfl, hm⟩ := hv.form
  unfold recV
  have HW := Go.Lib.hid fun o => hv.below (below_one w o)
  have hB0 := below_one w (recO key gone rk rn rs)
  have HB0 := Go.Lib.hid hB0
  clear hv
  go_enter Try.func43, Try.ntmps43
  go_wp2_with fail
  have hid := Below.refl (w.alloc (recO key gone rk rn rs)).heap.size (w.alloc (recO key gone rk rn rs))
  go_loopw [5, 6, 7] (fun vb dv i w2 => ∃ (k : Nat) (d : Bool) (acc : List RecT), k ≤ l.length ∧ i = .int .i64 (k : Int) ∧ dv = .bool d ∧ OwnRec w2 (w.alloc (recO key gone rk rn rs)).heap.size vb acc ∧ acc ++ setGo keyR bytesLess (key, gone, rk, rn, rs) (l.drop k) d = setR l (key, gone, rk, rn, rs) ∧ Below (w.alloc (recO key gone rk rn rs)).heap.size (w.alloc (recO key gone rk rn rs)) w2) (fun _ _ i _ => l.length - (intOf i).toNat)
  case atStart => exact ⟨0, false, [], by omega, rfl, rfl, OwnRec.nil _ _, by simp, hid⟩
  case round =>
    obtain ⟨k, d, acc, hk, rfl, rfl, hown, hacc, hbc⟩ := hrel
    have Hacc := Go.Lib.hid hacc; clear hacc
    by_cases hlt : k < l.length
    · obtain ⟨b, o, rfl, -, hbs, c0, c1, c2, c3, c4⟩ := ((HW.out _).below hbc).at k hlt
      obtain ⟨r0, r1, r2, r3, r4⟩ := box_later hbc
      have Hst := Go.Lib.hid fun p q d' hp hq hd => setGo_step (key, gone, rk, rn, rs) l k hlt d acc p q d' hp hq hd Hacc.out
      have Hal := Go.Lib.hid (acc_len Hacc.out hl)
      have Hix := Go.Lib.hid (run_idx5 b o l.length cap k hlt)
      have HC := Go.Lib.hid (fun W (h : Below (w.alloc (recO key gone rk rn rs)).heap.size (w.alloc (recO key gone rk rn rs)) W) => ((HW.out _).below h).at k hlt)
      generalize hx : l[k] = x at *
      obtain ⟨kx, gx, ax, nx, sx⟩ := x
      simp only [keyR] at c0 c1 c2 c3 c4 Hst HC
      clear hx
      have hix := fun W => Hix.out W
      have hlti : (k : Int) < (l.length : Int) := by omega
      cases d with
      | true =>
        by_cases heq : kx.toList = key.toList
        · have hqb : (kx.toList == key.toList) = true := by simpa using heq
          have hacc := Hst.out false true true rfl (decide_eq_true heq) rfl
          simp only [if_true, if_false, Bool.false_eq_true, List.append_nil] at hacc
          have Hac2 := Go.Lib.hid hacc; clear hacc heq Hst Hacc
          go_upto_region 6 with (fail)
          go_quiet (fail)
          have hbq := below_drewN hbc nq
          have hownq := hown.below (below_drewN (Below.refl _ wr) nq)
          clear hbc hown c0 c1 c2 c3 c4 r0 r1 r2 r3 r4 hbs
          generalize wr.drewN nq = wq at *
          obtain ⟨b9, o9, e9, -, hbs, c0, c1, c2, c3, c4⟩ := HC.out _ hbq
          cases e9
          obtain ⟨r0, r1, r2, r3, r4⟩ := box_later hbq
          go_upto_region 9 with (fail)
          go_quiet (fail)
          have hbr := below_drewN hbq nq
          have hownr := hownq.below (below_drewN (Below.refl _ wq) nq)
          clear hownq hbq c0 c1 c2 c3 c4 r0 r1 r2 r3 r4 hbs
          generalize wq.drewN nq = wz at *
          obtain ⟨b9, o9, e9, -, hbs, c0, c1, c2, c3, c4⟩ := HC.out _ hbr
          cases e9
          obtain ⟨r0, r1, r2, r3, r4⟩ := box_later hbr
          go_wp2_with fail
          exact ⟨⟨k + 1, true, _, by omega, by go_num, rfl, hownr, Hac2.out, hbr⟩, by simp only [intOf]; omega⟩
        · have hqb : (kx.toList == key.toList) = false := by simpa using heq
          have hacc := Hst.out false false true rfl (decide_eq_false heq) rfl
          simp only [if_false, Bool.false_eq_true, List.append_nil] at hacc
          have Hac2 := Go.Lib.hid hacc; clear hacc heq Hst Hacc
          go_upto_region 6 with (fail)
          go_quiet (fail)
          have hbq := below_drewN hbc nq
          have hownq := hown.below (below_drewN (Below.refl _ wr) nq)
          clear hbc hown c0 c1 c2 c3 c4 r0 r1 r2 r3 r4 hbs
          generalize wr.drewN nq = wq at *
          obtain ⟨b9, o9, e9, -, hbs, c0, c1, c2, c3, c4⟩ := HC.out _ hbq
          cases e9
          obtain ⟨r0, r1, r2, r3, r4⟩ := box_later hbq
          go_upto_region 9 with (fail)
          go_quiet (fail)
          have hbr := below_drewN hbq nq
          have hownr := hownq.below (below_drewN (Below.refl _ wq) nq)
          clear hownq hbq c0 c1 c2 c3 c4 r0 r1 r2 r3 r4 hbs
          generalize wq.drewN nq = wz at *
          obtain ⟨b9, o9, e9, -, hbs, c0, c1, c2, c3, c4⟩ := HC.out _ hbr
          cases e9
          obtain ⟨r0, r1, r2, r3, r4⟩ := box_later hbr
          have ha2 := OwnRec.below hownr (below_one wz (.cells #[.string kx, .bool gx, .int .i64 ax, .int .i64 nx, .string sx] 25))
          have hone2 := RS.one wz (kx, gx, ax, nx, sx)
          simp only [] at hone2
          have hbx2 := hbr.trans ((below_one wz (.cells #[.string kx, .bool gx, .int .i64 ax, .int .i64 nx, .string sx] 25)).mono hbr.size)
          have hbz2 := hbx2.size
          skip
          go_wp2_with (first
            | (with_reducible show wpList _ _ _ (⟨some 44, _, _, _, _, _⟩ :: _) _ _; go_loud (refine wpList_append_recs rfl (.tmp 38) (.tmp 43) rfl (w.alloc (recO key gone rk rn rs)).heap.size u5 (.slice (some ⟨(wz).heap.size, 0, none⟩) 1 1) acc [(kx, gx, ax, nx, sx)] rfl rfl ha2 hone2 (by have := Hal.out; simp <;> omega) hbz2 ?_); intro v6 w2 hown2 hg2; have hbc2 := hbx2.grown hg2 hbz2 ha2.row)
            | fail)
          exact ⟨⟨k + 1, true, _, by omega, by go_num, rfl, hown2, Hac2.out, hbc2⟩, by simp only [intOf]; omega⟩
      | false =>
        cases hb : bytesLess kx.toList key.toList with
        | true =>
          by_cases heq : kx.toList = key.toList
          · exact absurd hb (by rw [heq]; simp [less_irr])
          · have hqb : (kx.toList == key.toList) = false := by simpa using heq
            have hacc := Hst.out false false false (by rw [hb]; rfl) (decide_eq_false heq) rfl
            simp only [if_false, Bool.false_eq_true, List.append_nil] at hacc
            have Hac2 := Go.Lib.hid hacc; clear hacc heq Hst Hacc
            go_upto_region 6 with (fail)
            go_quiet (fail)
            have hbq := below_drewN hbc nq
            have hownq := hown.below (below_drewN (Below.refl _ wr) nq)
            clear hbc hown c0 c1 c2 c3 c4 r0 r1 r2 r3 r4 hbs
            generalize wr.drewN nq = wq at *
            obtain ⟨b9, o9, e9, -, hbs, c0, c1, c2, c3, c4⟩ := HC.out _ hbq
            cases e9
            obtain ⟨r0, r1, r2, r3, r4⟩ := box_later hbq
            go_upto_region 9 with (fail)
            go_quiet (fail)
            have hbr := below_drewN hbq nq
            have hownr := hownq.below (below_drewN (Below.refl _ wq) nq)
            clear hownq hbq c0 c1 c2 c3 c4 r0 r1 r2 r3 r4 hbs
            generalize wq.drewN nq = wz at *
            obtain ⟨b9, o9, e9, -, hbs, c0, c1, c2, c3, c4⟩ := HC.out _ hbr
            cases e9
            obtain ⟨r0, r1, r2, r3, r4⟩ := box_later hbr
            have ha2 := OwnRec.below hownr (below_one wz (.cells #[.string kx, .bool gx, .int .i64 ax, .int .i64 nx, .string sx] 25))
            have hone2 := RS.one wz (kx, gx, ax, nx, sx)
            simp only [] at hone2
            have hbx2 := hbr.trans ((below_one wz (.cells #[.string kx, .bool gx, .int .i64 ax, .int .i64 nx, .string sx] 25)).mono hbr.size)
            have hbz2 := hbx2.size
            skip
            go_wp2_with (first
              | (with_reducible show wpList _ _ _ (⟨some 44, _, _, _, _, _⟩ :: _) _ _; go_loud (refine wpList_append_recs rfl (.tmp 38) (.tmp 43) rfl (w.alloc (recO key gone rk rn rs)).heap.size u5 (.slice (some ⟨(wz).heap.size, 0, none⟩) 1 1) acc [(kx, gx, ax, nx, sx)] rfl rfl ha2 hone2 (by have := Hal.out; simp <;> omega) hbz2 ?_); intro v6 w2 hown2 hg2; have hbc2 := hbx2.grown hg2 hbz2 ha2.row)
              | fail)
            exact ⟨⟨k + 1, false, _, by omega, by go_num, rfl, hown2, Hac2.out, hbc2⟩, by simp only [intOf]; omega⟩
        | false =>
          by_cases heq : kx.toList = key.toList
          · have hqb : (kx.toList == key.toList) = true := by simpa using heq
            have hacc := Hst.out true true true (by rw [hb]; rfl) (decide_eq_true heq) rfl
            simp only [if_true, List.append_nil] at hacc
            have Hac2 := Go.Lib.hid hacc; clear hacc heq Hst Hacc
            go_upto_region 6 with (fail)
            go_quiet (fail)
            have hbq := below_drewN hbc nq
            have hownq := hown.below (below_drewN (Below.refl _ wr) nq)
            clear hbc hown c0 c1 c2 c3 c4 r0 r1 r2 r3 r4 hbs
            generalize wr.drewN nq = wq at *
            obtain ⟨b9, o9, e9, -, hbs, c0, c1, c2, c3, c4⟩ := HC.out _ hbq
            cases e9
            obtain ⟨r0, r1, r2, r3, r4⟩ := box_later hbq
            have ha1 := OwnRec.below hownq (below_one wq (.cells #[.string key, .bool gone, .int .i64 rk, .int .i64 rn, .string rs] 25))
            have hone1 := RS.one wq (key, gone, rk, rn, rs)
            simp only [] at hone1
            have hbx1 := hbq.trans ((below_one wq (.cells #[.string key, .bool gone, .int .i64 rk, .int .i64 rn, .string rs] 25)).mono hbq.size)
            have hbz1 := hbx1.size
            go_upto_region 9 with (first
              | (with_reducible show wpList _ _ _ (⟨some 29, _, _, _, _, _⟩ :: _) _ _; go_loud (refine wpList_append_recs rfl (.tmp 26) (.tmp 28) rfl (w.alloc (recO key gone rk rn rs)).heap.size u5 (.slice (some ⟨(wq).heap.size, 0, none⟩) 1 1) acc [(key, gone, rk, rn, rs)] rfl rfl ha1 hone1 (by have := Hal.out; simp <;> omega) hbz1 ?_); intro v5 w1 hown1 hg1; have hbc1 := hbx1.grown hg1 hbz1 ha1.row)
              | fail)
            clear c0 c1 c2 c3 c4 r0 r1 r2 r3 r4 hbs ha1 hone1 hbx1 hbz1 hg1 hownq hbq
            obtain ⟨b9, o9, e9, -, hbs, c0, c1, c2, c3, c4⟩ := HC.out _ hbc1
            cases e9
            obtain ⟨r0, r1, r2, r3, r4⟩ := box_later hbc1
            go_quiet (fail)
            have hbr := below_drewN hbc1 nq
            have hownr := hown1.below (below_drewN (Below.refl _ w1) nq)
            clear hown1 hbc1 c0 c1 c2 c3 c4 r0 r1 r2 r3 r4 hbs
            generalize w1.drewN nq = wz at *
            obtain ⟨b9, o9, e9, -, hbs, c0, c1, c2, c3, c4⟩ := HC.out _ hbr
            cases e9
            obtain ⟨r0, r1, r2, r3, r4⟩ := box_later hbr
            go_wp2_with fail
            exact ⟨⟨k + 1, true, _, by omega, by go_num, rfl, hownr, Hac2.out, hbr⟩, by simp only [intOf]; omega⟩
          · have hqb : (kx.toList == key.toList) = false := by simpa using heq
            have hacc := Hst.out true false true (by rw [hb]; rfl) (decide_eq_false heq) rfl
            simp only [if_true, if_false, Bool.false_eq_true] at hacc
            have Hac2 := Go.Lib.hid hacc; clear hacc heq Hst Hacc
            go_upto_region 6 with (fail)
            go_quiet (fail)
            have hbq := below_drewN hbc nq
            have hownq := hown.below (below_drewN (Below.refl _ wr) nq)
            clear hbc hown c0 c1 c2 c3 c4 r0 r1 r2 r3 r4 hbs
            generalize wr.drewN nq = wq at *
            obtain ⟨b9, o9, e9, -, hbs, c0, c1, c2, c3, c4⟩ := HC.out _ hbq
            cases e9
            obtain ⟨r0, r1, r2, r3, r4⟩ := box_later hbq
            have ha1 := OwnRec.below hownq (below_one wq (.cells #[.string key, .bool gone, .int .i64 rk, .int .i64 rn, .string rs] 25))
            have hone1 := RS.one wq (key, gone, rk, rn, rs)
            simp only [] at hone1
            have hbx1 := hbq.trans ((below_one wq (.cells #[.string key, .bool gone, .int .i64 rk, .int .i64 rn, .string rs] 25)).mono hbq.size)
            have hbz1 := hbx1.size
            go_upto_region 9 with (first
              | (with_reducible show wpList _ _ _ (⟨some 29, _, _, _, _, _⟩ :: _) _ _; go_loud (refine wpList_append_recs rfl (.tmp 26) (.tmp 28) rfl (w.alloc (recO key gone rk rn rs)).heap.size u5 (.slice (some ⟨(wq).heap.size, 0, none⟩) 1 1) acc [(key, gone, rk, rn, rs)] rfl rfl ha1 hone1 (by have := Hal.out; simp <;> omega) hbz1 ?_); intro v5 w1 hown1 hg1; have hbc1 := hbx1.grown hg1 hbz1 ha1.row)
              | fail)
            clear c0 c1 c2 c3 c4 r0 r1 r2 r3 r4 hbs ha1 hone1 hbx1 hbz1 hg1 hownq hbq
            obtain ⟨b9, o9, e9, -, hbs, c0, c1, c2, c3, c4⟩ := HC.out _ hbc1
            cases e9
            obtain ⟨r0, r1, r2, r3, r4⟩ := box_later hbc1
            go_quiet (fail)
            have hbr := below_drewN hbc1 nq
            have hownr := hown1.below (below_drewN (Below.refl _ w1) nq)
            clear hown1 hbc1 c0 c1 c2 c3 c4 r0 r1 r2 r3 r4 hbs
            generalize w1.drewN nq = wz at *
            obtain ⟨b9, o9, e9, -, hbs, c0, c1, c2, c3, c4⟩ := HC.out _ hbr
            cases e9
            obtain ⟨r0, r1, r2, r3, r4⟩ := box_later hbr
            have ha2 := OwnRec.below hownr (below_one wz (.cells #[.string kx, .bool gx, .int .i64 ax, .int .i64 nx, .string sx] 25))
            have hone2 := RS.one wz (kx, gx, ax, nx, sx)
            simp only [] at hone2
            have hbx2 := hbr.trans ((below_one wz (.cells #[.string kx, .bool gx, .int .i64 ax, .int .i64 nx, .string sx] 25)).mono hbr.size)
            have hbz2 := hbx2.size
            skip
            go_wp2_with (first
              | (with_reducible show wpList _ _ _ (⟨some 44, _, _, _, _, _⟩ :: _) _ _; go_loud (refine wpList_append_recs rfl (.tmp 38) (.tmp 43) rfl (w.alloc (recO key gone rk rn rs)).heap.size v5 (.slice (some ⟨(wz).heap.size, 0, none⟩) 1 1) (acc ++ [(key, gone, rk, rn, rs)]) [(kx, gx, ax, nx, sx)] rfl rfl ha2 hone2 (by have := Hal.out; simp <;> omega) hbz2 ?_); intro v6 w2 hown2 hg2; have hbc2 := hbx2.grown hg2 hbz2 ha2.row)
              | fail)
            exact ⟨⟨k + 1, true, _, by omega, by go_num, rfl, hown2, Hac2.out, hbc2⟩, by simp only [intOf]; omega⟩
    · obtain rfl : k = l.length := by omega
      have hacc := Hacc.out
      rw [List.drop_of_length_le (Nat.le_refl _)] at hacc
      obtain ⟨r0, r1, r2, r3, r4⟩ := box_later hbc
      cases d with
      | true =>
        simp only [setGo, if_true, List.append_nil] at hacc
        have hacc2 := Go.Lib.hid hacc; clear hacc Hacc
        go_wp2_with fail
        go_ret
        refine ⟨_, rfl, ?_, ?_⟩
        · rw [← hacc2.out]
          exact hown.mono (HB0.out.size)
        · exact HB0.out.trans (hbc.mono HB0.out.size)
      | false =>
        simp only [setGo, Bool.false_eq_true, if_false] at hacc
        have hacc2 := Go.Lib.hid hacc; clear hacc Hacc
        have Hal := Go.Lib.hid (show acc.length ≤ 1001 from acc_len hacc2.out hl)
        have hbs := hbc.size
        have ha1 := OwnRec.below hown (below_one wr (.cells #[.string key, .bool gone, .int .i64 rk, .int .i64 rn, .string rs] 25))
        have hone1 := RS.one wr (key, gone, rk, rn, rs)
        simp only [] at hone1
        have hbx1 := hbc.trans ((below_one wr (.cells #[.string key, .bool gone, .int .i64 rk, .int .i64 rn, .string rs] 25)).mono hbc.size)
        have hbz1 := hbx1.size
        go_wp2_with (first
          | (with_reducible show wpList _ _ _ (⟨some 50, _, _, _, _, _⟩ :: _) _ _; go_loud (refine wpList_append_recs rfl (.tmp 47) (.tmp 49) rfl (w.alloc (recO key gone rk rn rs)).heap.size u5 (.slice (some ⟨(wr).heap.size, 0, none⟩) 1 1) acc [(key, gone, rk, rn, rs)] rfl rfl ha1 hone1 (by have := Hal.out; simp <;> omega) hbz1 ?_); intro v5 w1 hown1 hg1; have hbc1 := hbx1.grown hg1 hbz1 ha1.row)
          | fail)
        go_ret
        refine ⟨_, rfl, ?_, ?_⟩
        · rw [← hacc2.out]
          exact hown1.mono (HB0.out.size)
        · exact HB0.out.trans (hbc1.mono HB0.out.size)

end Go.Proofs.Ytmlndgkpbodnnaa

namespace Go.Proofs.Ytmlndgkpbodnnaa
open Go.RowKit Go.Op

abbrev newestR (l : List RecT) : List RecT := newestK keyR bytesLess l
theorem newestR_len (l : List RecT) : (newestR l).length ≤ l.length := by
  have : ∀ (l acc : List RecT), (l.foldl (fun a r => setGo keyR bytesLess r a false) acc).length ≤ acc.length + l.length := by
    intro l
    induction l with
    | nil => intro acc; simp
    | cons x t ih =>
      intro acc
      rw [List.foldl_cons]
      refine Nat.le_trans (ih _) ?_
      have := (setR_len x acc false).1
      simp only [List.length_cons]
      omega
  simpa [newestR, newestK] using this l []
theorem newestR_step (l : List RecT) (k : Nat) (h : k < l.length) : setR (newestR (l.take k)) l[k] = newestR (l.take (k + 1)) := by
  rw [List.take_succ_eq_append_getElem h]
  unfold newestR newestK
  rw [List.foldl_append]
  rfl

end Go.Proofs.Ytmlndgkpbodnnaa

namespace Go.Proofs.Ytmlndgkpbodnnaa
open Go.RowKit Go.Op

set_option maxHeartbeats 2000000 in
set_option maxRecDepth 100000 in
theorem rnewest_c (v : Value) (l : List RecT) (w : World) (hv : RS w v l) (hl : l.length ≤ 1000) :
    Calls Try.prog 22 #[v] w fun e w' => ∃ v', e = .returned v' ∧ OwnRec w' w.heap.size v' (newestR l) ∧ Below w.heap.size w w' := by
  obtain ⟨a, cap, rfl, hm⟩ := hv.form
  have HR := Go.Lib.hid hv; clear hv
  go_enter Try.func22, Try.ntmps22
  go_wp2_with fail
  go_loopw [3, 4] (fun vb i w2 => ∃ k : Nat, k ≤ l.length ∧ i = .int .i64 (k : Int) ∧ OwnRec w2 w.heap.size vb (newestR (l.take k)) ∧ Below w.heap.size w w2) (fun _ i _ => l.length - (intOf i).toNat)
  case atStart => exact ⟨0, by omega, rfl, by simpa [newestR, newestK] using OwnRec.nil _ _, Below.refl _ _⟩
  case round =>
    obtain ⟨k, hk, rfl, hown, hbc⟩ := hrel
    by_cases hlt : k < l.length
    · obtain ⟨b, o, rfl, -, hbs, c0, c1, c2, c3, c4⟩ := (HR.out.below hbc).at k hlt
      have Hst := newestR_step l k hlt
      have hln : (newestR (l.take k)).length ≤ 1000 := by have := newestR_len (l.take k); rw [List.length_take] at this; omega
      have C1 := Go.Lib.hid fun W (h : RS W u3 (newestR (l.take k))) => rset_c u3 (newestR (l.take k)) l[k].1 l[k].2.1 l[k].2.2.1 l[k].2.2.2.1 l[k].2.2.2.2 W h hln
      generalize hn : newestR (l.take k) = m at *
      generalize hx : l[k] = x at *
      obtain ⟨kx, gx, ax, nx, sx⟩ := x
      simp only [] at c0 c1 c2 c3 c4 C1
      rw [Hst] at C1
      unfold recV at C1
      generalize hn2 : newestR (l.take (k + 1)) = m2 at *
      have Hn2 := Go.Lib.hid hn2; clear hn2 hn Hst hx hln
      have hix := run_idx5 b o l.length cap k hlt
      go_wp2_with fail
      refine (C1.out _ hown.rs).mono ?_
      rintro e w2 ⟨v2, rfl, hown2, hc⟩
      have hbc2 := hbc.trans (hc.mono hbc.size)
      have hown3 := hown2.mono hbc.size
      clear hc hown hown2 c0 c1 c2 c3 c4 C1
      rw [← Hn2.out] at hown3
      go_wp2_with fail
      exact ⟨⟨k + 1, by omega, by go_num, hown3, hbc2⟩, by simp only [intOf]; omega⟩
    · obtain rfl : k = l.length := by omega
      rw [List.take_of_length_le (Nat.le_refl _)] at hown
      go_wp2_with fail
      go_ret
      exact ⟨_, rfl, hown, hbc⟩

end Go.Proofs.Ytmlndgkpbodnnaa
