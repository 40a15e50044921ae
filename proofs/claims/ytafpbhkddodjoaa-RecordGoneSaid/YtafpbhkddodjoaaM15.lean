/-
  Package record: contracts of getOf, Get.
  Package record: contract of fresh.
  Package fresh: contract of Raw: a value with a text of its own.
-/
import Derived.Test.YtafpbhkddodjoaaM11
import Derived.Test.YtafpbhkddodjoaaM14
namespace Go.Proofs.Ytafpbhkddodjoaa
open Go.RowKit
open Go.Lib (uvarint zigzag)

/-- What stands behind the key. -/
def gofR (key l : List UInt8) : RdT :=
  if (getB l).2.2 = 0 ∧ (getB l).1 = 0 then ((key, true, 0, 0, []), (getB l).2.1, 0) else ((key, false, (valB l).1), (valB l).2.1, (valB l).2.2)

theorem gof_gone {key l : List UInt8} {m : Nat} (g : getB l = (0, m, 0)) : gofR key l = ((key, true, 0, 0, []), m, 0) := by
  unfold gofR
  rw [g]
  simp
theorem gof_val {key l : List UInt8} {x : Int} {m : Nat} {e : Int} (g : getB l = (x, m, e)) (h : ¬ (e = 0 ∧ x = 0)) {v : Int × Int × List UInt8} {q : Nat} {e3 : Int} (u : valB l = (v, q, e3)) : gofR key l = ((key, false, v), q, e3) := by
  unfold gofR
  rw [g, u, if_neg h]

theorem readB_gof {l key : List UInt8} {p : Nat} (h : textB l = (key, p, 0)) (hk : mayK (str key) = true) {r : List UInt8 × Bool × Int × Int × List UInt8} {m : Nat} {e : Int} (g : gofR key (l.drop p) = (r, m, e)) :
    readB l = if e = 0 then (r, p + m, 0) else rdErr e := by
  rcases hr2 : getB (l.drop p) with ⟨x, m2, e2⟩
  by_cases he2 : e2 = 0
  · subst he2
    by_cases hx : x = 0
    · subst hx
      rw [gof_gone hr2] at g
      simp only [Prod.mk.injEq] at g
      obtain ⟨rfl, rfl, rfl⟩ := g
      rw [readB_gone h hk hr2, if_pos rfl]
    · rcases hr3 : valB (l.drop p) with ⟨v, q, e3⟩
      rw [gof_val hr2 (fun h => hx h.2) hr3] at g
      simp only [Prod.mk.injEq] at g
      obtain ⟨rfl, rfl, rfl⟩ := g
      by_cases he3 : e3 = 0
      · subst he3
        rw [readB_ok h hk hr2 hx hr3, if_pos rfl]
      · rw [readB_e4 h hk hr2 hx hr3 he3, if_neg he3]
  · have hv := valB_err (l.drop p) x e2 m2 hr2 he2
    rw [gof_val hr2 (fun h => he2 h.1) hv] at g
    simp only [Prod.mk.injEq] at g
    obtain ⟨rfl, rfl, rfl⟩ := g
    rw [readB_e3 h hk hr2 he2, if_neg he2]

theorem gofR_fits (key l : List UInt8) : (gofR key l).2.1 ≤ 70010 ∧ (gofR key l).2.1 ≤ l.length := by
  have h1 := getB_fits l
  have h2 := valB_fits l
  unfold gofR
  split
  · exact ⟨by show (getB l).2.1 ≤ 70010; omega, by show (getB l).2.1 ≤ l.length; omega⟩
  · exact ⟨by show (valB l).2.1 ≤ 70010; omega, by show (valB l).2.1 ≤ l.length; omega⟩

theorem ret_rgof_at {w w0 : World} {tmps : Array Value} {key : ByteArray} {gone : Bool} {k n : Int} {s : ByteArray} {m : Nat} {e : Int} {g : Nat} {fr : Nat × Nat} {r : RdT}
    (hp : tmps.getD 4 undef = .pointer (some ⟨g, 0, none⟩)) (hg : w.heap[g]? = some (.cells #[.string key, .bool gone, .int .i64 k, .int .i64 n, .string s] 25 fr)) (h3 : tmps.getD 5 undef = .int .i64 (m : Int)) (h4 : tmps.getD 6 undef = .int .i64 e)
    (hr : r = ((bl key, gone, k, n, bl s), m, e)) (hb : Below w0.heap.size w0 w) : bodyPost Try.prog Try.f38 (fun e w' => e = .returned (rr r) ∧ Below w0.heap.size w0 w') Exit.ret { tmps := tmps, defers := [] } w := by
  subst hr
  have h := results_row_two (P := Try.prog) (fn := Try.f38) (p := 4) (u := 5) (v := 6) (ty := 25) rfl tmps w g 25 #[.string key, .bool gone, .int .i64 k, .int .i64 n, .string s] fr _ hp hg Try.underlying25 rfl (by kernel_rfl)
  rw [h3, h4] at h
  refine bodyPost_ret h rfl ⟨?_, hb⟩
  unfold rr recV
  rw [str_bl, str_bl]

theorem ret_rget_at {w w0 : World} {tmps : Array Value} {key : ByteArray} {gone : Bool} {k n : Int} {s : ByteArray} {m : Nat} {e : Int} {g : Nat} {fr : Nat × Nat} {r : RdT}
    (hp : tmps.getD 2 undef = .pointer (some ⟨g, 0, none⟩)) (hg : w.heap[g]? = some (.cells #[.string key, .bool gone, .int .i64 k, .int .i64 n, .string s] 25 fr)) (h3 : tmps.getD 3 undef = .int .i64 (m : Int)) (h4 : tmps.getD 4 undef = .int .i64 e)
    (hr : r = ((bl key, gone, k, n, bl s), m, e)) (hb : Below w0.heap.size w0 w) : bodyPost Try.prog Try.f17 (fun e w' => e = .returned (rr r) ∧ Below w0.heap.size w0 w') Exit.ret { tmps := tmps, defers := [] } w := by
  subst hr
  have h := results_row_two (P := Try.prog) (fn := Try.f17) (p := 2) (u := 3) (v := 4) (ty := 25) rfl tmps w g 25 #[.string key, .bool gone, .int .i64 k, .int .i64 n, .string s] fr _ hp hg Try.underlying25 rfl (by kernel_rfl)
  rw [h3, h4] at h
  refine bodyPost_ret h rfl ⟨?_, hb⟩
  unfold rr recV
  rw [str_bl, str_bl]

set_option maxHeartbeats 2000000 in
set_option maxRecDepth 100000 in
theorem rgof_c (key : List UInt8) (v : Value) (l : List UInt8) (w : World) (hv : RB w v l) :
    Calls Try.prog 38 #[.string (str key), v] w fun e w' => e = .returned (rr (gofR key l)) ∧ Below w.heap.size w w' := by
  have hrb := hv
  obtain ⟨a, cap, rfl, -⟩ := hv
  have c1 := fun W (h : RB W (.slice a l.length cap) l) => get_c (.slice a l.length cap) l W h
  have c2 := fun W (h : RB W (.slice a l.length cap) l) => vget_c (.slice a l.length cap) l W h
  rcases hr : getB l with ⟨x, m, e2⟩
  rcases hr3 : valB l with ⟨⟨vk, vn, vs⟩, q, e3⟩
  rw [hr] at c1
  rw [hr3] at c2
  unfold gv at c1
  unfold vv rawV at c2
  simp only [] at c1 c2
  have C1 := Go.Lib.hid c1; clear c1
  have C2 := Go.Lib.hid c2; clear c2
  have hR1 := Go.Lib.hid fun o => hrb.below (below_one w o)
  have hnew := Go.Lib.hid fun o => heap_alloc_new w o
  have hkk := bl_str key
  have hvs := bl_str vs
  have Hkk := Go.Lib.hid hkk; clear hkk
  have Hvs := Go.Lib.hid hvs; clear hvs
  by_cases hc : e2 = 0 ∧ x = 0
  · obtain ⟨rfl, rfl⟩ := hc
    have hv := gof_gone (key := key) hr
    rw [← Hkk.out] at hv
    have Hv := Go.Lib.hid hv; clear hv hr hr3 C2 hrb
    rw [Hkk.out] at Hv
    generalize str key = ks at *
    go_enter Try.func38, Try.ntmps38
    go_wp2_with fail
    refine (C1.out _ (hR1.out _)).mono ?_
    rintro e w1 ⟨rfl, rfl⟩
    go_wp2_with fail
    refine ret_rgof_at (m := m) rfl (hnew.out _) rfl rfl ?_ (below_one _ _)
    rw [Hv.out, Hkk.out]
    rfl
  · have hv := gof_val (key := key) hr hc hr3
    have Hv := Go.Lib.hid hv; clear hv hr3 hrb
    have Hc := Go.Lib.hid hc; clear hc hr
    generalize str key = ks at *
    generalize str vs = ss at *
    by_cases he : e2 = 0
    · have hx : (x == 0) = false := by
        have := Hc.out
        simp only [beq_eq_false_iff_ne, ne_eq]
        intro h
        exact this ⟨he, h⟩
      subst he
      clear Hc
      go_enter Try.func38, Try.ntmps38
      go_wp2_with fail
      refine (C1.out _ (hR1.out _)).mono ?_
      rintro e w1 ⟨rfl, rfl⟩
      go_wp2_with fail
      refine (C2.out _ (hR1.out _)).mono ?_
      rintro e w1 ⟨rfl, hb1⟩
      obtain ⟨hh, -⟩ := rec_box _ _ _ _ _ hb1
      unfold recO at hh
      have hlt := (Array.getElem?_eq_some_iff.1 hh).1
      have hA := (heap_alloc_old w1 (.cells #[.int .i64 vk, .int .i64 vn, .string ss] 23) hlt).trans hh
      have hbb := (below_one w (.cells #[.string ⟨#[]⟩, .bool false, .int .i64 0, .int .i64 0, .string ⟨#[]⟩] 25)).trans (hb1.mono (below_one w _).size)
      have hbb2 := hbb.trans ((below_one w1 (.cells #[.int .i64 vk, .int .i64 vn, .string ss] 23)).mono hbb.size)
      have HA := Go.Lib.hid hA; clear hA hh hb1 hlt
      go_wp2_with (first
        | (with_reducible show wpList _ _ _ (⟨none, Op.store 25 (.tmp 4) (.tmp 36), _, _, _, _⟩ :: _) _ _; go_loud (refine wpList_store_row rfl 25 (.tmp 4) (.tmp 36) rfl w.heap.size #[.string ks, .bool false, .int .i64 vk, .int .i64 vn, .string ss] rfl rfl 25 _ HA.out (by kernel_rfl) rfl (rec_cells_one ..) ?_))
        | fail)
      refine ret_rgof_at (m := q) rfl (setRow_heap _ _ _ _ _ (0, 0) HA.out) rfl rfl ?_ (setRow_below _ hbb2 (Nat.le_refl _))
      rw [Hv.out, Hkk.out, Hvs.out]
    · have he2 : (e2 == 0) = false := by simp [he]
      clear Hc he
      go_enter Try.func38, Try.ntmps38
      go_wp2_with fail
      refine (C1.out _ (hR1.out _)).mono ?_
      rintro e w1 ⟨rfl, rfl⟩
      go_wp2_with fail
      refine (C2.out _ (hR1.out _)).mono ?_
      rintro e w1 ⟨rfl, hb1⟩
      obtain ⟨hh, -⟩ := rec_box _ _ _ _ _ hb1
      unfold recO at hh
      have hlt := (Array.getElem?_eq_some_iff.1 hh).1
      have hA := (heap_alloc_old w1 (.cells #[.int .i64 vk, .int .i64 vn, .string ss] 23) hlt).trans hh
      have hbb := (below_one w (.cells #[.string ⟨#[]⟩, .bool false, .int .i64 0, .int .i64 0, .string ⟨#[]⟩] 25)).trans (hb1.mono (below_one w _).size)
      have hbb2 := hbb.trans ((below_one w1 (.cells #[.int .i64 vk, .int .i64 vn, .string ss] 23)).mono hbb.size)
      have HA := Go.Lib.hid hA; clear hA hh hb1 hlt
      go_wp2_with (first
        | (with_reducible show wpList _ _ _ (⟨none, Op.store 25 (.tmp 4) (.tmp 36), _, _, _, _⟩ :: _) _ _; go_loud (refine wpList_store_row rfl 25 (.tmp 4) (.tmp 36) rfl w.heap.size #[.string ks, .bool false, .int .i64 vk, .int .i64 vn, .string ss] rfl rfl 25 _ HA.out (by kernel_rfl) rfl (rec_cells_one ..) ?_))
        | fail)
      refine ret_rgof_at (m := q) rfl (setRow_heap _ _ _ _ _ (0, 0) HA.out) rfl rfl ?_ (setRow_below _ hbb2 (Nat.le_refl _))
      rw [Hv.out, Hkk.out, Hvs.out]

set_option maxHeartbeats 2000000 in
set_option maxRecDepth 100000 in
theorem pget_c (v : Value) (l : List UInt8) (w : World) (hv : RB w v l) :
    Calls Try.prog 17 #[v] w fun e w' => e = .returned (rr (readB l)) ∧ Below w.heap.size w w' := by
  have hrb := hv
  obtain ⟨a, cap, rfl, h1, h2, h3, h4⟩ := hv
  have hm : l.length ≤ 9223372036854775807 := by unfold maxLen at h2; omega
  clear h4 h3 h1 h2
  have hfit := textB_fits l
  have c1 := fun W (h : RB W (.slice a l.length cap) l) => getText_c (.slice a l.length cap) l W h
  rcases hr : textB l with ⟨key, p, er⟩
  rw [hr] at hfit c1
  unfold tv at c1
  simp only [] at hfit c1
  obtain ⟨f1, f2, f3, f4⟩ := hfit
  have C1 := Go.Lib.hid c1; clear c1
  have Hr := Go.Lib.hid hr; clear hr
  have hR1 := Go.Lib.hid fun o => hrb.below (below_one w o)
  have hnew := Go.Lib.hid fun o => heap_alloc_new w o
  by_cases he : er = 0
  · subst he
    clear f4
    have C2 := Go.Lib.hid fun W => kmay_c (str key) W (by rw [str_size]; omega)
    cases hmk : mayK (str key) with
    | false =>
      rw [hmk] at C2
      have hv := Go.Lib.hid (readB_e2 Hr.out hmk)
      clear hmk f1 f2 f3
      go_enter Try.func17, Try.ntmps17
      go_wp2_with fail
      refine (C1.out _ (hR1.out _)).mono ?_
      rintro e w1 ⟨rfl, rfl⟩
      go_wp2_with fail
      refine (C2.out _).mono ?_
      rintro e w1 ⟨rfl, hb1⟩
      obtain ⟨hh, -⟩ := rec_box _ _ _ _ _ hb1
      unfold recO at hh
      have hbb := (below_one w (.cells #[.string ⟨#[]⟩, .bool false, .int .i64 0, .int .i64 0, .string ⟨#[]⟩] 25)).trans (hb1.mono (below_one w _).size)
      have HA := Go.Lib.hid hh; clear hh hb1
      go_wp2_with (first
        | (with_reducible show wpList _ _ _ (⟨none, Op.store 25 (.tmp 2) (.tmp 23), _, _, _, _⟩ :: _) _ _; go_loud (refine wpList_store_row rfl 25 (.tmp 2) (.tmp 23) rfl w.heap.size #[.string ⟨#[]⟩, .bool false, .int .i64 0, .int .i64 0, .string ⟨#[]⟩] rfl rfl 25 _ HA.out (by kernel_rfl) rfl (rec_cells_one ..) ?_))
        | fail)
      exact ret_rget_at (m := 0) rfl (setRow_heap _ _ _ _ _ (0, 0) HA.out) rfl rfl hv.out (setRow_below _ hbb (Nat.le_refl _))
    | true =>
      rw [hmk] at C2
      have Hmk := Go.Lib.hid hmk; clear hmk
      have hfit2 := gofR_fits key (l.drop p)
      have c3 := fun v' W (h : RB W v' (l.drop p)) => rgof_c key v' (l.drop p) W h
      rcases hr2 : gofR key (l.drop p) with ⟨⟨xk, xg, xa, xn, xs⟩, m, e2⟩
      rw [hr2] at c3 hfit2
      unfold rr recV at c3
      simp only [] at c3 hfit2
      obtain ⟨q1, -⟩ := hfit2
      have C3 := Go.Lib.hid c3; clear c3
      have hv := readB_gof Hr.out Hmk.out hr2
      clear hr2
      have Hkk := Go.Lib.hid (bl_str xk)
      have Hss := Go.Lib.hid (bl_str xs)
      have hadd : IntKind.i64.wrap ((p : Int) + (m : Int)) = ((p + m : Nat) : Int) := by rw [IntKind.wrap_i64]; omega
      by_cases he2 : e2 = 0
      · subst he2
        rw [if_pos rfl] at hv
        have Hv := Go.Lib.hid hv; clear hv
        have Hadd := Go.Lib.hid hadd; clear hadd q1
        generalize str xk = ks at *
        generalize str xs = ss at *
        go_enter Try.func17, Try.ntmps17
        go_wp2_with fail
        refine (C1.out _ (hR1.out _)).mono ?_
        rintro e w1 ⟨rfl, rfl⟩
        go_wp2_with fail
        refine (C2.out _).mono ?_
        rintro e w1 ⟨rfl, hb1⟩
        have hR2 := (hR1.out _).below hb1
        go_wp2_with (first
          | (with_reducible show wpList _ _ _ (⟨some 28, _, _, _, _, _⟩ :: _) _ _; go_loud (refine wpList_slice_l rfl (.tmp 26) (.tmp 27) 26 rfl 5 Try.underlying26 info8 (.slice a l.length cap) l .i64 _ p rfl rfl rfl hR2 f1 ?_); intro v3 hv3)
          | fail)
        refine (C3.out _ _ hv3).mono ?_
        rintro e w2 ⟨rfl, hb2⟩
        have hb1 := hb1.trans (hb2.mono hb1.size)
        obtain ⟨hh, -⟩ := rec_box _ _ _ _ _ hb1
        unfold recO at hh
        have hlt := (Array.getElem?_eq_some_iff.1 hh).1
        have hA := (heap_alloc_old w2 (.cells #[.string ks, .bool xg, .int .i64 xa, .int .i64 xn, .string ss] 25) hlt).trans hh
        have hbb := (below_one w (.cells #[.string ⟨#[]⟩, .bool false, .int .i64 0, .int .i64 0, .string ⟨#[]⟩] 25)).trans (hb1.mono (below_one w _).size)
        have hbb2 := hbb.trans ((below_one w2 (.cells #[.string ks, .bool xg, .int .i64 xa, .int .i64 xn, .string ss] 25)).mono hbb.size)
        have HA := Go.Lib.hid hA; clear hA hh hb1 hlt hb2 hv3 hR2
        have hadd := Hadd.out
        go_wp2_with (first
          | (with_reducible show wpList _ _ _ (⟨none, Op.store 25 (.tmp 2) (.tmp 37), _, _, _, _⟩ :: _) _ _; go_loud (refine wpList_store_row rfl 25 (.tmp 2) (.tmp 37) rfl w.heap.size #[.string ks, .bool xg, .int .i64 xa, .int .i64 xn, .string ss] rfl rfl 25 _ HA.out (by kernel_rfl) rfl (rec_cells_one ..) ?_))
          | fail)
        refine ret_rget_at (m := p + m) rfl (setRow_heap _ _ _ _ _ (0, 0) HA.out) rfl rfl ?_ (setRow_below _ hbb2 (Nat.le_refl _))
        rw [Hv.out, Hkk.out, Hss.out]
      · rw [if_neg he2] at hv
        have he2b : (e2 == 0) = false := by simp [he2]
        have Hv := Go.Lib.hid hv; clear hv hadd q1 he2
        generalize str xk = ks at *
        generalize str xs = ss at *
        go_enter Try.func17, Try.ntmps17
        go_wp2_with fail
        refine (C1.out _ (hR1.out _)).mono ?_
        rintro e w1 ⟨rfl, rfl⟩
        go_wp2_with fail
        refine (C2.out _).mono ?_
        rintro e w1 ⟨rfl, hb1⟩
        have hR2 := (hR1.out _).below hb1
        go_wp2_with (first
          | (with_reducible show wpList _ _ _ (⟨some 28, _, _, _, _, _⟩ :: _) _ _; go_loud (refine wpList_slice_l rfl (.tmp 26) (.tmp 27) 26 rfl 5 Try.underlying26 info8 (.slice a l.length cap) l .i64 _ p rfl rfl rfl hR2 f1 ?_); intro v3 hv3)
          | fail)
        refine (C3.out _ _ hv3).mono ?_
        rintro e w2 ⟨rfl, hb2⟩
        have hb1 := hb1.trans (hb2.mono hb1.size)
        obtain ⟨hh, -⟩ := rec_box _ _ _ _ _ hb1
        unfold recO at hh
        have hlt := (Array.getElem?_eq_some_iff.1 hh).1
        have hA := (heap_alloc_old w2 (.cells #[.string ks, .bool xg, .int .i64 xa, .int .i64 xn, .string ss] 25) hlt).trans hh
        have hbb := (below_one w (.cells #[.string ⟨#[]⟩, .bool false, .int .i64 0, .int .i64 0, .string ⟨#[]⟩] 25)).trans (hb1.mono (below_one w _).size)
        have hbb2 := hbb.trans ((below_one w2 (.cells #[.string ks, .bool xg, .int .i64 xa, .int .i64 xn, .string ss] 25)).mono hbb.size)
        have HA := Go.Lib.hid hA; clear hA hh hb1 hlt hb2 hv3 hR2
        go_wp2_with (first
          | (with_reducible show wpList _ _ _ (⟨none, Op.store 25 (.tmp 2) (.tmp 35), _, _, _, _⟩ :: _) _ _; go_loud (refine wpList_store_row rfl 25 (.tmp 2) (.tmp 35) rfl w.heap.size #[.string ⟨#[]⟩, .bool false, .int .i64 0, .int .i64 0, .string ⟨#[]⟩] rfl rfl 25 _ HA.out (by kernel_rfl) rfl (rec_cells_one ..) ?_))
          | fail)
        exact ret_rget_at (m := 0) rfl (setRow_heap _ _ _ _ _ (0, 0) HA.out) rfl rfl Hv.out (setRow_below _ hbb2 (Nat.le_refl _))
  · have hv := Go.Lib.hid (readB_e1 Hr.out he)
    have heb : (er == 0) = false := by simp [he]
    clear f1 f2 f3 he
    go_enter Try.func17, Try.ntmps17
    go_wp2_with fail
    refine (C1.out _ (hR1.out _)).mono ?_
    rintro e w1 ⟨rfl, rfl⟩
    go_wp2_with fail
    exact ret_rget_at (m := 0) rfl (hnew.out _) rfl rfl hv.out (below_one _ _)

end Go.Proofs.Ytafpbhkddodjoaa

namespace Go.Proofs.Ytafpbhkddodjoaa
open Go.RowKit Go.Op

/-- Storing what stands there already leaves the world as it is. -/
theorem setCell_id {w : World} {b o : Nat} {cs : Array Value} {t : TypeId} {fr : Nat × Nat} {v : Value} (hg : w.heap[b]? = some (.cells cs t fr)) (hv : cs[o]? = some v) : w.setCell ⟨b, o, none⟩ v = w := by
  obtain ⟨hb, hg⟩ := Array.getElem?_eq_some_iff.1 hg
  obtain ⟨ho, hv⟩ := Array.getElem?_eq_some_iff.1 hv
  have hset : cs.setIfInBounds o v = cs := by
    rw [← hv]
    apply Array.ext
    · simp
    · intro i h1 h2
      rw [Array.getElem_setIfInBounds]
      split
      · rename_i h; subst h; rfl
      · rfl
  have : (w.setCell ⟨b, o, none⟩ v).heap = w.heap := by
    unfold World.setCell
    apply Array.ext
    · simp
    · intro i h1 h2
      simp only [Array.getElem_modify]
      by_cases hi : b = i
      · subst hi
        rw [if_pos rfl, hg]
        simp [hset]
      · rw [if_neg hi]
  have e : w.setCell ⟨b, o, none⟩ v = { w with heap := (w.setCell ⟨b, o, none⟩ v).heap } := rfl
  rw [e, this]

end Go.Proofs.Ytafpbhkddodjoaa

namespace Go.Proofs.Ytafpbhkddodjoaa
open Go.RowKit Go.Op

theorem raw3 {w : World} {b : Nat} {a0 a1 a2 : Value} {t : TypeId} {fr : Nat × Nat} (h : w.heap[b]? = some (.cells #[a0, a1, a2] t fr)) : w.cell? ⟨b, 0, none⟩ = some a0 ∧ w.cell? ⟨b, 1, none⟩ = some a1 ∧ w.cell? ⟨b, 2, none⟩ = some a2 := by
  have c := fun j => cell_of_row w b j _ _ _ h
  exact ⟨c 0, c 1, c 2⟩
/-- Storing cells that stand there already leaves the world as it is. -/
theorem setCells_id : ∀ (vs : List Value) {w : World} {b o : Nat} {cs : Array Value} {t : TypeId} {fr : Nat × Nat}, w.heap[b]? = some (.cells cs t fr) → (∀ j v, vs[j]? = some v → cs[o + j]? = some v) → w.setCells b o vs = w
  | [], w, b, o, cs, t, fr, _, _ => rfl
  | v :: r, w, b, o, cs, t, fr, hg, hv => by
    have h0 := setCell_id (o := o) (v := v) hg (hv 0 v rfl)
    show (w.setCell ⟨b, o, none⟩ v).setCells b (o + 1) r = w
    rw [h0]
    exact setCells_id r hg fun j u hj => by have := hv (j + 1) u hj; rwa [show o + (j + 1) = o + 1 + j by omega] at this

theorem ret_fraw_at {w w0 : World} {tmps : Array Value} {k n : Int} {s : ByteArray} {g : Nat} {fr : Nat × Nat}
    (hp : tmps.getD 2 undef = .pointer (some ⟨g, 0, none⟩)) (hg : w.heap[g]? = some (.cells #[.int .i64 k, .int .i64 n, .string s] 23 fr)) (hb : Below w0.heap.size w0 w) :
    bodyPost Try.prog Try.f57 (fun e w' => e = .returned (.agg #[.int .i64 k, .int .i64 n, .string s]) ∧ Below w0.heap.size w0 w') Exit.ret { tmps := tmps, defers := [] } w :=
  bodyPost_ret (results_cell_row (P := Try.prog) (fn := Try.f57) (p := 2) (ty := 23) rfl tmps w g 23 #[.int .i64 k, .int .i64 n, .string s] fr _ hp hg Try.underlying23 rfl (by kernel_rfl)) rfl ⟨rfl, hb⟩

set_option maxRecDepth 100000 in
theorem fraw_c (k n : Int) (s : ByteArray) (w : World) (hs : s.size ≤ 1000000) :
    Calls Try.prog 57 #[.agg #[.int .i64 k, .int .i64 n, .string s]] w fun e w' => e = .returned (.agg #[.int .i64 k, .int .i64 n, .string s]) ∧ Below w.heap.size w w' := by
  have C1 := Go.Lib.hid fun W => clone_c s W (by omega)
  clear hs
  have hbb := below_two w (.cells #[.int .i64 k, .int .i64 n, .string s] 23) (.cells #[.int .i64 0, .int .i64 0, .string ⟨#[]⟩] 23)
  have hA := two_first w (.cells #[.int .i64 k, .int .i64 n, .string s] 23) (.cells #[.int .i64 0, .int .i64 0, .string ⟨#[]⟩] 23)
  have hB := heap_alloc2_new w (.cells #[.int .i64 k, .int .i64 n, .string s] 23) (.cells #[.int .i64 0, .int .i64 0, .string ⟨#[]⟩] 23)
  go_enter Try.func57, Try.ntmps57
  go_wp2_with fail
  refine (C1.out _).mono ?_
  rintro e w1 ⟨rfl, hc⟩
  have hA := row_kept hA hc
  have hB := row_kept hB hc
  have hbb := hbb.trans (hc.mono hbb.size)
  obtain ⟨x0, x1, x2⟩ := raw3 hA
  have hf := fun o => frozen_of_row w1 w.heap.size o _ _ hA
  have hi2 := setCell_id (o := 2) (v := .string s) hA rfl
  clear C1 hc
  have HB := Go.Lib.hid hB
  clear hB
  go_wp2_with (first
    | (with_reducible show wpList _ _ _ (⟨none, Op.store 23 (.tmp 2) (.tmp 7), _, _, _, _⟩ :: _) _ _; go_loud (refine wpList_store_row rfl 23 (.tmp 2) (.tmp 7) rfl (w.heap.size + 1) #[.int .i64 k, .int .i64 n, .string s] rfl rfl 23 _ HB.out (by kernel_rfl) rfl (raw_cells_one ..) ?_))
    | fail)
  exact ret_fraw_at rfl (setRow_heap _ _ _ _ _ (0, 0) HB.out) (setRow_below _ hbb (by omega))

end Go.Proofs.Ytafpbhkddodjoaa
