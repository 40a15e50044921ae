/-
  Package record: contracts of getOf, Get.
  Package batch: contract of Decode.
  Stage 22: sorted.Open.
-/
import Derived.Test.YtibbligidncocaaM23
import Derived.Test.YtibbligidncocaaM39
import Derived.Test.YtibbligidncocaaM38
import Derived.Test.YtibbligidncocaaM36
namespace Go.Proofs.Ytibbligidncocaa
open Go.RowKit
open Go.Lib (uvarint zigzag)

/-- What stands behind the key. -/
def gofR (key l : List UInt8) : RdT :=
  if (getB l).2.2 = 0 ∧ (getB l).1 = 0 then ((key, true, 0, 0, []), (getB l).2.1, 0) else ((key, false, (valB l).1), (valB l).2.1, (valB l).2.2)

theorem gof_gone {key l : List UInt8} {m : Nat} (g : getB l = (0, m, 0)) : gofR key l = ((key, true, 0, 0, []), m, 0) := by
  unfold gofR
  rw [g]
  simp
theorem gof_val {key l : List UInt8} {x : Int} {m : Nat} {e : Int} (g : getB l = (x, m, e)) (h : ¬ (e = 0 ∧ x = 0)) {v : Int × Int × List UInt8} {q : Nat} {e3 : Int} (u : valB l = (v, q, e3)) : gofR key l = ((key, false, v), q, e3) := by
  unfold gofR
  rw [g, u, if_neg h]

theorem readB_gof {l key : List UInt8} {p : Nat} (h : textB l = (key, p, 0)) (hk : mayK (str key) = true) {r : List UInt8 × Bool × Int × Int × List UInt8} {m : Nat} {e : Int} (g : gofR key (l.drop p) = (r, m, e)) :
    readB l = if e = 0 then (r, p + m, 0) else rdErr e := by
  rcases hr2 : getB (l.drop p) with ⟨x, m2, e2⟩
  by_cases he2 : e2 = 0
  · subst he2
    by_cases hx : x = 0
    · subst hx
      rw [gof_gone hr2] at g
      simp only [Prod.mk.injEq] at g
      obtain ⟨rfl, rfl, rfl⟩ := g
      rw [readB_gone h hk hr2, if_pos rfl]
    · rcases hr3 : valB (l.drop p) with ⟨v, q, e3⟩
      rw [gof_val hr2 (fun h => hx h.2) hr3] at g
      simp only [Prod.mk.injEq] at g
      obtain ⟨rfl, rfl, rfl⟩ := g
      by_cases he3 : e3 = 0
      · subst he3
        rw [readB_ok h hk hr2 hx hr3, if_pos rfl]
      · rw [readB_e4 h hk hr2 hx hr3 he3, if_neg he3]
  · have hv := valB_err (l.drop p) x e2 m2 hr2 he2
    rw [gof_val hr2 (fun h => he2 h.1) hv] at g
    simp only [Prod.mk.injEq] at g
    obtain ⟨rfl, rfl, rfl⟩ := g
    rw [readB_e3 h hk hr2 he2, if_neg he2]

theorem gofR_fits (key l : List UInt8) : (gofR key l).2.1 ≤ 70010 ∧ (gofR key l).2.1 ≤ l.length := by
  have h1 := getB_fits l
  have h2 := valB_fits l
  unfold gofR
  split
  · exact ⟨by show (getB l).2.1 ≤ 70010; omega, by show (getB l).2.1 ≤ l.length; omega⟩
  · exact ⟨by show (valB l).2.1 ≤ 70010; omega, by show (valB l).2.1 ≤ l.length; omega⟩

theorem ret_rgof_at {w w0 : World} {tmps : Array Value} {key : ByteArray} {gone : Bool} {k n : Int} {s : ByteArray} {m : Nat} {e : Int} {g : Nat} {fr : Nat × Nat} {r : RdT}
    (hp : tmps.getD 4 undef = .pointer (some ⟨g, 0, none⟩)) (hg : w.heap[g]? = some (.cells #[.string key, .bool gone, .int .i64 k, .int .i64 n, .string s] 39 fr)) (h3 : tmps.getD 5 undef = .int .i64 (m : Int)) (h4 : tmps.getD 6 undef = .int .i64 e)
    (hr : r = ((bl key, gone, k, n, bl s), m, e)) (hb : Below w0.heap.size w0 w) : bodyPost Try.prog Try.f84 (fun e w' => e = .returned (rr r) ∧ Below w0.heap.size w0 w') Exit.ret { tmps := tmps, defers := [] } w := by
  subst hr
  have h := results_row_two (P := Try.prog) (fn := Try.f84) (p := 4) (u := 5) (v := 6) (ty := 39) rfl tmps w g 39 #[.string key, .bool gone, .int .i64 k, .int .i64 n, .string s] fr _ hp hg Try.underlying39 rfl (by kernel_rfl)
  rw [h3, h4] at h
  refine bodyPost_ret h rfl ⟨?_, hb⟩
  unfold rr recV
  rw [str_bl, str_bl]

theorem ret_rget_at {w w0 : World} {tmps : Array Value} {key : ByteArray} {gone : Bool} {k n : Int} {s : ByteArray} {m : Nat} {e : Int} {g : Nat} {fr : Nat × Nat} {r : RdT}
    (hp : tmps.getD 2 undef = .pointer (some ⟨g, 0, none⟩)) (hg : w.heap[g]? = some (.cells #[.string key, .bool gone, .int .i64 k, .int .i64 n, .string s] 39 fr)) (h3 : tmps.getD 3 undef = .int .i64 (m : Int)) (h4 : tmps.getD 4 undef = .int .i64 e)
    (hr : r = ((bl key, gone, k, n, bl s), m, e)) (hb : Below w0.heap.size w0 w) : bodyPost Try.prog Try.f62 (fun e w' => e = .returned (rr r) ∧ Below w0.heap.size w0 w') Exit.ret { tmps := tmps, defers := [] } w := by
  subst hr
  have h := results_row_two (P := Try.prog) (fn := Try.f62) (p := 2) (u := 3) (v := 4) (ty := 39) rfl tmps w g 39 #[.string key, .bool gone, .int .i64 k, .int .i64 n, .string s] fr _ hp hg Try.underlying39 rfl (by kernel_rfl)
  rw [h3, h4] at h
  refine bodyPost_ret h rfl ⟨?_, hb⟩
  unfold rr recV
  rw [str_bl, str_bl]

set_option maxHeartbeats 2000000 in
set_option maxRecDepth 100000 in
theorem rgof_c (key : List UInt8) (v : Value) (l : List UInt8) (w : World) (hv : RB w v l) :
    Calls Try.prog 84 #[.string (str key), v] w fun e w' => e = .returned (rr (gofR key l)) ∧ Below w.heap.size w w' := by
  have hrb := hv
  obtain ⟨a, cap, rfl, -⟩ := hv
  have c1 := fun W (h : RB W (.slice a l.length cap) l) => get_c (.slice a l.length cap) l W h
  have c2 := fun W (h : RB W (.slice a l.length cap) l) => vget_c (.slice a l.length cap) l W h
  rcases hr : getB l with ⟨x, m, e2⟩
  rcases hr3 : valB l with ⟨⟨vk, vn, vs⟩, q, e3⟩
  rw [hr] at c1
  rw [hr3] at c2
  unfold gv at c1
  unfold vv rawV at c2
  simp only [] at c1 c2
  have C1 := Go.Lib.hid c1; clear c1
  have C2 := Go.Lib.hid c2; clear c2
  have hR1 := Go.Lib.hid fun o => hrb.below (below_one w o)
  have hnew := Go.Lib.hid fun o => heap_alloc_new w o
  have hkk := bl_str key
  have hvs := bl_str vs
  have Hkk := Go.Lib.hid hkk; clear hkk
  have Hvs := Go.Lib.hid hvs; clear hvs
  by_cases hc : e2 = 0 ∧ x = 0
  · obtain ⟨rfl, rfl⟩ := hc
    have hv := gof_gone (key := key) hr
    rw [← Hkk.out] at hv
    have Hv := Go.Lib.hid hv; clear hv hr hr3 C2 hrb
    rw [Hkk.out] at Hv
    generalize str key = ks at *
    go_enter Try.func84, Try.ntmps84
    go_wp2_with fail
    refine (C1.out _ (hR1.out _)).mono ?_
    rintro e w1 ⟨rfl, rfl⟩
    go_wp2_with fail
    refine ret_rgof_at (m := m) rfl (hnew.out _) rfl rfl ?_ (below_one _ _)
    rw [Hv.out, Hkk.out]
    rfl
  · have hv := gof_val (key := key) hr hc hr3
    have Hv := Go.Lib.hid hv; clear hv hr3 hrb
    have Hc := Go.Lib.hid hc; clear hc hr
    generalize str key = ks at *
    generalize str vs = ss at *
    by_cases he : e2 = 0
    · have hx : (x == 0) = false := by
        have := Hc.out
        simp only [beq_eq_false_iff_ne, ne_eq]
        intro h
        exact this ⟨he, h⟩
      subst he
      clear Hc
      go_enter Try.func84, Try.ntmps84
      go_wp2_with fail
      refine (C1.out _ (hR1.out _)).mono ?_
      rintro e w1 ⟨rfl, rfl⟩
      go_wp2_with fail
      refine (C2.out _ (hR1.out _)).mono ?_
      rintro e w1 ⟨rfl, hb1⟩
      obtain ⟨hh, -⟩ := rec_box _ _ _ _ _ hb1
      unfold recO at hh
      have hlt := (Array.getElem?_eq_some_iff.1 hh).1
      have hA := (heap_alloc_old w1 (.cells #[.int .i64 vk, .int .i64 vn, .string ss] 37) hlt).trans hh
      have hbb := (below_one w (.cells #[.string ⟨#[]⟩, .bool false, .int .i64 0, .int .i64 0, .string ⟨#[]⟩] 39)).trans (hb1.mono (below_one w _).size)
      have hbb2 := hbb.trans ((below_one w1 (.cells #[.int .i64 vk, .int .i64 vn, .string ss] 37)).mono hbb.size)
      have HA := Go.Lib.hid hA; clear hA hh hb1 hlt
      go_wp2_with (first
        | (with_reducible show wpList _ _ _ (⟨none, Op.store 39 (.tmp 4) (.tmp 36), _, _, _, _⟩ :: _) _ _; go_loud (refine wpList_store_row rfl 39 (.tmp 4) (.tmp 36) rfl w.heap.size #[.string ks, .bool false, .int .i64 vk, .int .i64 vn, .string ss] rfl rfl 39 _ HA.out (by kernel_rfl) rfl (rec_cells_one ..) ?_))
        | fail)
      refine ret_rgof_at (m := q) rfl (setRow_heap _ _ _ _ _ (0, 0) HA.out) rfl rfl ?_ (setRow_below _ hbb2 (Nat.le_refl _))
      rw [Hv.out, Hkk.out, Hvs.out]
    · have he2 : (e2 == 0) = false := by simp [he]
      clear Hc he
      go_enter Try.func84, Try.ntmps84
      go_wp2_with fail
      refine (C1.out _ (hR1.out _)).mono ?_
      rintro e w1 ⟨rfl, rfl⟩
      go_wp2_with fail
      refine (C2.out _ (hR1.out _)).mono ?_
      rintro e w1 ⟨rfl, hb1⟩
      obtain ⟨hh, -⟩ := rec_box _ _ _ _ _ hb1
      unfold recO at hh
      have hlt := (Array.getElem?_eq_some_iff.1 hh).1
      have hA := (heap_alloc_old w1 (.cells #[.int .i64 vk, .int .i64 vn, .string ss] 37) hlt).trans hh
      have hbb := (below_one w (.cells #[.string ⟨#[]⟩, .bool false, .int .i64 0, .int .i64 0, .string ⟨#[]⟩] 39)).trans (hb1.mono (below_one w _).size)
      have hbb2 := hbb.trans ((below_one w1 (.cells #[.int .i64 vk, .int .i64 vn, .string ss] 37)).mono hbb.size)
      have HA := Go.Lib.hid hA; clear hA hh hb1 hlt
      go_wp2_with (first
        | (with_reducible show wpList _ _ _ (⟨none, Op.store 39 (.tmp 4) (.tmp 36), _, _, _, _⟩ :: _) _ _; go_loud (refine wpList_store_row rfl 39 (.tmp 4) (.tmp 36) rfl w.heap.size #[.string ks, .bool false, .int .i64 vk, .int .i64 vn, .string ss] rfl rfl 39 _ HA.out (by kernel_rfl) rfl (rec_cells_one ..) ?_))
        | fail)
      refine ret_rgof_at (m := q) rfl (setRow_heap _ _ _ _ _ (0, 0) HA.out) rfl rfl ?_ (setRow_below _ hbb2 (Nat.le_refl _))
      rw [Hv.out, Hkk.out, Hvs.out]

set_option maxHeartbeats 2000000 in
set_option maxRecDepth 100000 in
theorem pget_c (v : Value) (l : List UInt8) (w : World) (hv : RB w v l) :
    Calls Try.prog 62 #[v] w fun e w' => e = .returned (rr (readB l)) ∧ Below w.heap.size w w' := by
  have hrb := hv
  obtain ⟨a, cap, rfl, h1, h2, h3, h4⟩ := hv
  have hm : l.length ≤ 9223372036854775807 := by unfold maxLen at h2; omega
  clear h4 h3 h1 h2
  have hfit := textB_fits l
  have c1 := fun W (h : RB W (.slice a l.length cap) l) => getText_c (.slice a l.length cap) l W h
  rcases hr : textB l with ⟨key, p, er⟩
  rw [hr] at hfit c1
  unfold tv at c1
  simp only [] at hfit c1
  obtain ⟨f1, f2, f3, f4⟩ := hfit
  have C1 := Go.Lib.hid c1; clear c1
  have Hr := Go.Lib.hid hr; clear hr
  have hR1 := Go.Lib.hid fun o => hrb.below (below_one w o)
  have hnew := Go.Lib.hid fun o => heap_alloc_new w o
  by_cases he : er = 0
  · subst he
    clear f4
    have C2 := Go.Lib.hid fun W => kmay_c (str key) W (by rw [str_size]; omega)
    cases hmk : mayK (str key) with
    | false =>
      rw [hmk] at C2
      have hv := Go.Lib.hid (readB_e2 Hr.out hmk)
      clear hmk f1 f2 f3
      go_enter Try.func62, Try.ntmps62
      go_wp2_with fail
      refine (C1.out _ (hR1.out _)).mono ?_
      rintro e w1 ⟨rfl, rfl⟩
      go_wp2_with fail
      refine (C2.out _).mono ?_
      rintro e w1 ⟨rfl, hb1⟩
      obtain ⟨hh, -⟩ := rec_box _ _ _ _ _ hb1
      unfold recO at hh
      have hbb := (below_one w (.cells #[.string ⟨#[]⟩, .bool false, .int .i64 0, .int .i64 0, .string ⟨#[]⟩] 39)).trans (hb1.mono (below_one w _).size)
      have HA := Go.Lib.hid hh; clear hh hb1
      go_wp2_with (first
        | (with_reducible show wpList _ _ _ (⟨none, Op.store 39 (.tmp 2) (.tmp 23), _, _, _, _⟩ :: _) _ _; go_loud (refine wpList_store_row rfl 39 (.tmp 2) (.tmp 23) rfl w.heap.size #[.string ⟨#[]⟩, .bool false, .int .i64 0, .int .i64 0, .string ⟨#[]⟩] rfl rfl 39 _ HA.out (by kernel_rfl) rfl (rec_cells_one ..) ?_))
        | fail)
      exact ret_rget_at (m := 0) rfl (setRow_heap _ _ _ _ _ (0, 0) HA.out) rfl rfl hv.out (setRow_below _ hbb (Nat.le_refl _))
    | true =>
      rw [hmk] at C2
      have Hmk := Go.Lib.hid hmk; clear hmk
      have hfit2 := gofR_fits key (l.drop p)
      have c3 := fun v' W (h : RB W v' (l.drop p)) => rgof_c key v' (l.drop p) W h
      rcases hr2 : gofR key (l.drop p) with ⟨⟨xk, xg, xa, xn, xs⟩, m, e2⟩
      rw [hr2] at c3 hfit2
      unfold rr recV at c3
      simp only [] at c3 hfit2
      obtain ⟨q1, -⟩ := hfit2
      have C3 := Go.Lib.hid c3; clear c3
      have hv := readB_gof Hr.out Hmk.out hr2
      clear hr2
      have Hkk := Go.Lib.hid (bl_str xk)
      have Hss := Go.Lib.hid (bl_str xs)
      have hadd : IntKind.i64.wrap ((p : Int) + (m : Int)) = ((p + m : Nat) : Int) := by rw [IntKind.wrap_i64]; omega
      by_cases he2 : e2 = 0
      · subst he2
        rw [if_pos rfl] at hv
        have Hv := Go.Lib.hid hv; clear hv
        have Hadd := Go.Lib.hid hadd; clear hadd q1
        generalize str xk = ks at *
        generalize str xs = ss at *
        go_enter Try.func62, Try.ntmps62
        go_wp2_with fail
        refine (C1.out _ (hR1.out _)).mono ?_
        rintro e w1 ⟨rfl, rfl⟩
        go_wp2_with fail
        refine (C2.out _).mono ?_
        rintro e w1 ⟨rfl, hb1⟩
        have hR2 := (hR1.out _).below hb1
        go_wp2_with (first
          | (with_reducible show wpList _ _ _ (⟨some 28, _, _, _, _, _⟩ :: _) _ _; go_loud (refine wpList_slice_l rfl (.tmp 26) (.tmp 27) 33 rfl 5 Try.underlying33 info8 (.slice a l.length cap) l .i64 _ p rfl rfl rfl hR2 f1 ?_); intro v3 hv3)
          | fail)
        refine (C3.out _ _ hv3).mono ?_
        rintro e w2 ⟨rfl, hb2⟩
        have hb1 := hb1.trans (hb2.mono hb1.size)
        obtain ⟨hh, -⟩ := rec_box _ _ _ _ _ hb1
        unfold recO at hh
        have hlt := (Array.getElem?_eq_some_iff.1 hh).1
        have hA := (heap_alloc_old w2 (.cells #[.string ks, .bool xg, .int .i64 xa, .int .i64 xn, .string ss] 39) hlt).trans hh
        have hbb := (below_one w (.cells #[.string ⟨#[]⟩, .bool false, .int .i64 0, .int .i64 0, .string ⟨#[]⟩] 39)).trans (hb1.mono (below_one w _).size)
        have hbb2 := hbb.trans ((below_one w2 (.cells #[.string ks, .bool xg, .int .i64 xa, .int .i64 xn, .string ss] 39)).mono hbb.size)
        have HA := Go.Lib.hid hA; clear hA hh hb1 hlt hb2 hv3 hR2
        have hadd := Hadd.out
        go_wp2_with (first
          | (with_reducible show wpList _ _ _ (⟨none, Op.store 39 (.tmp 2) (.tmp 37), _, _, _, _⟩ :: _) _ _; go_loud (refine wpList_store_row rfl 39 (.tmp 2) (.tmp 37) rfl w.heap.size #[.string ks, .bool xg, .int .i64 xa, .int .i64 xn, .string ss] rfl rfl 39 _ HA.out (by kernel_rfl) rfl (rec_cells_one ..) ?_))
          | fail)
        refine ret_rget_at (m := p + m) rfl (setRow_heap _ _ _ _ _ (0, 0) HA.out) rfl rfl ?_ (setRow_below _ hbb2 (Nat.le_refl _))
        rw [Hv.out, Hkk.out, Hss.out]
      · rw [if_neg he2] at hv
        have he2b : (e2 == 0) = false := by simp [he2]
        have Hv := Go.Lib.hid hv; clear hv hadd q1 he2
        generalize str xk = ks at *
        generalize str xs = ss at *
        go_enter Try.func62, Try.ntmps62
        go_wp2_with fail
        refine (C1.out _ (hR1.out _)).mono ?_
        rintro e w1 ⟨rfl, rfl⟩
        go_wp2_with fail
        refine (C2.out _).mono ?_
        rintro e w1 ⟨rfl, hb1⟩
        have hR2 := (hR1.out _).below hb1
        go_wp2_with (first
          | (with_reducible show wpList _ _ _ (⟨some 28, _, _, _, _, _⟩ :: _) _ _; go_loud (refine wpList_slice_l rfl (.tmp 26) (.tmp 27) 33 rfl 5 Try.underlying33 info8 (.slice a l.length cap) l .i64 _ p rfl rfl rfl hR2 f1 ?_); intro v3 hv3)
          | fail)
        refine (C3.out _ _ hv3).mono ?_
        rintro e w2 ⟨rfl, hb2⟩
        have hb1 := hb1.trans (hb2.mono hb1.size)
        obtain ⟨hh, -⟩ := rec_box _ _ _ _ _ hb1
        unfold recO at hh
        have hlt := (Array.getElem?_eq_some_iff.1 hh).1
        have hA := (heap_alloc_old w2 (.cells #[.string ks, .bool xg, .int .i64 xa, .int .i64 xn, .string ss] 39) hlt).trans hh
        have hbb := (below_one w (.cells #[.string ⟨#[]⟩, .bool false, .int .i64 0, .int .i64 0, .string ⟨#[]⟩] 39)).trans (hb1.mono (below_one w _).size)
        have hbb2 := hbb.trans ((below_one w2 (.cells #[.string ks, .bool xg, .int .i64 xa, .int .i64 xn, .string ss] 39)).mono hbb.size)
        have HA := Go.Lib.hid hA; clear hA hh hb1 hlt hb2 hv3 hR2
        go_wp2_with (first
          | (with_reducible show wpList _ _ _ (⟨none, Op.store 39 (.tmp 2) (.tmp 35), _, _, _, _⟩ :: _) _ _; go_loud (refine wpList_store_row rfl 39 (.tmp 2) (.tmp 35) rfl w.heap.size #[.string ⟨#[]⟩, .bool false, .int .i64 0, .int .i64 0, .string ⟨#[]⟩] rfl rfl 39 _ HA.out (by kernel_rfl) rfl (rec_cells_one ..) ?_))
          | fail)
        exact ret_rget_at (m := 0) rfl (setRow_heap _ _ _ _ _ (0, 0) HA.out) rfl rfl Hv.out (setRow_below _ hbb2 (Nat.le_refl _))
  · have hv := Go.Lib.hid (readB_e1 Hr.out he)
    have heb : (er == 0) = false := by simp [he]
    clear f1 f2 f3 he
    go_enter Try.func62, Try.ntmps62
    go_wp2_with fail
    refine (C1.out _ (hR1.out _)).mono ?_
    rintro e w1 ⟨rfl, rfl⟩
    go_wp2_with fail
    exact ret_rget_at (m := 0) rfl (hnew.out _) rfl rfl hv.out (below_one _ _)

end Go.Proofs.Ytibbligidncocaa

namespace Go.Proofs.Ytibbligidncocaa
open Go.RowKit
open Go.Lib (uvarint zigzag)

/-- 'make([]api.Rec, 0, n)'. -/
theorem wpList_make_recs {ops : Array Oper} {rest : List Oper} {o : Oper} {a : Act} {w : World} {Q : Exit → Act → World → Prop} (hgd : o.guard = none) (lo co : Operand)
    (hop : o.op = Op.makeSlice 22 lo co) (kc : IntKind) (C : Int) (c : Nat) (hl : a.eval lo = .int .i64 0) (hc : a.eval co = .int kc C) (hC : C = (c : Int)) (hcm : c ≤ 1000)
    (h : ∀ v w', OwnRec w' w.heap.size v [] → w.grownBy w' none → wpList Try.prog ops Q rest (a.put o.dst v) w') : wpList Try.prog ops Q (o :: rest) a w := by
  obtain ⟨i, hi, hz, hsize, hby⟩ := info_parts info5
  subst hC
  have hr := run_make (P := Try.prog) w 22 39 i _ Try.underlying22 hi hz .i64 kc 0 c (by omega) (by omega) (by rw [hby]; omega) (by omega)
  simp only [Int.toNat_natCast, hsize] at hr
  refine wpList_gives hgd (.slice (some ⟨w.heap.size, 0, none⟩) 0 c) (w.alloc (.cells (madeCells (Value.agg #[.string ⟨#[]⟩, .bool false, .int .i64 0, .int .i64 0, .string ⟨#[]⟩]).cells (c * 5)) 39)) (by simp at hr; simp [execOp, hop, hl, hc, hr, Result.andThen]) (h _ _ ?_ (World.grownBy_alloc w _ none))
  refine ⟨rfl, .inr ⟨w.heap.size, c, _, rfl, Nat.le_refl _, heap_alloc_new w _, by simp, by unfold maxLen; omega, ?_, ?_⟩⟩
  · simp [size_madeCells, Value.cells]
  · simp [flat5]

def DecQ (b : List UInt8) (w : World) (e : Ending) (w' : World) : Prop :=
  (rowD b = none ∧ e = .returned (.tuple #[.slice none 0 0, .int .i64 8])) ∨ ∃ l v', rowD b = some l ∧ e = .returned (.tuple #[v', .int .i64 0]) ∧ OwnRec w' w.heap.size v' l

theorem rowD_bad {b : List UInt8} {x e : Int} {p : Nat} (hr : getB b = (x, p, e)) (h : e ≠ 0 ∨ x < 0 ∨ 1000 < x) : rowD b = none := by
  unfold rowD; rw [hr]; exact if_pos h
theorem rowD_go {b : List UInt8} {N p : Nat} (hr : getB b = ((N : Int), p, 0)) (h : N ≤ 1000) :
    rowD b = match seqD N (b.drop p) with
    | some (L, []) => some L
    | _ => none := by
  unfold rowD
  rw [hr]
  simp only [Int.toNat_natCast]
  rw [if_neg (by omega)]
  rfl
theorem seqD_step {k : Nat} {b r : List UInt8} {L : List RecT} (h : seqD k b = some (L, r)) {y : List UInt8 × Bool × Int × Int × List UInt8} {m : Nat} (hr : readB r = (y, m, 0)) : seqD (k + 1) b = some (L ++ [unR y], r.drop m) := by
  rw [seqD, h]; simp only []; rw [hr]; simp
theorem seqD_stop {k : Nat} {b r : List UInt8} {L : List RecT} (h : seqD k b = some (L, r)) {y : List UInt8 × Bool × Int × Int × List UInt8} {m : Nat} {e : Int} (hr : readB r = (y, m, e)) (he : e ≠ 0) : seqD (k + 1) b = none := by
  rw [seqD, h]; simp only []; rw [hr]; simp [he]

set_option maxHeartbeats 2000000 in
set_option maxRecDepth 100000 in
theorem bdecode_any (v : Value) (b : List UInt8) (w : World) (hv : RB w v b) :
    Calls Try.prog 41 #[v] w fun e w' => DecQ b w e w' ∧ Below w.heap.size w w' := by
  have HV := Go.Lib.hid hv
  have C0 := get_c v b w hv
  obtain ⟨a, c, rfl, g1, g2, g3, g4⟩ := hv
  have hbm : b.length ≤ 9223372036854775807 := by unfold maxLen at g2; omega
  rcases hr : getB b with ⟨x, p, er⟩
  have hfit := getB_fits b
  rw [hr] at C0 hfit
  unfold gv at C0
  simp only [] at C0 hfit
  obtain ⟨-, -, f1, -⟩ := hfit
  have CG := Go.Lib.hid C0
  clear C0 g1 g2 g3 g4
  by_cases hbad : er ≠ 0 ∨ x < 0 ∨ 1000 < x
  · have K := Go.Lib.hid (rowD_bad hr hbad)
    clear hr f1
    by_cases h0 : er = 0
    · subst h0
      by_cases h1 : x < 0
      · clear hbad
        go_enter Try.func41, Try.ntmps41
        go_wp2_with fail
        refine CG.out.mono ?_
        rintro e w1 ⟨rfl, rfl⟩
        go_wp2_with fail
        go_ret2
        exact ⟨.inl ⟨K.out, rfl⟩, Below.refl _ _⟩
      · have h2 : 1000 < x := by omega
        clear hbad
        go_enter Try.func41, Try.ntmps41
        go_wp2_with fail
        refine CG.out.mono ?_
        rintro e w1 ⟨rfl, rfl⟩
        go_wp2_with fail
        go_ret2
        exact ⟨.inl ⟨K.out, rfl⟩, Below.refl _ _⟩
    · have h0b : (er == 0) = false := by simp [h0]
      clear hbad
      go_enter Try.func41, Try.ntmps41
      go_wp2_with fail
      refine CG.out.mono ?_
      rintro e w1 ⟨rfl, rfl⟩
      go_wp2_with fail
      go_ret2
      exact ⟨.inl ⟨K.out, rfl⟩, Below.refl _ _⟩
  · obtain rfl : er = 0 := Classical.byContradiction fun h => hbad (.inl h)
    obtain ⟨N, rfl⟩ : ∃ N : Nat, x = (N : Int) := ⟨x.toNat, by omega⟩
    have hN : N ≤ 1000 := by omega
    have HD := Go.Lib.hid (rowD_go hr hN)
    have hN0 : ¬ (N : Int) < 0 := by omega
    have hN1 : ¬ (1000 : Int) < (N : Int) := by omega
    clear hbad hr
    go_enter Try.func41, Try.ntmps41
    go_wp2_with fail
    refine CG.out.mono ?_
    rintro e w1 ⟨rfl, rfl⟩
    go_wp2_with (first
      | (with_reducible show wpList _ _ _ (⟨some 28, _, _, _, _, _⟩ :: _) _ _; go_loud (refine wpList_make_recs rfl (.const (.int .i64 0)) (.tmp 27) rfl .i64 _ N rfl rfl rfl (by omega) ?_); intro v2 w2 hown2 hg2)
      | fail)
    have HB2 := Go.Lib.hid ((Below.refl _ w).grown hg2 (Nat.le_refl _) (fun k hk => by cases hk))
    have HO2 := Go.Lib.hid hown2
    clear hown2 hg2 CG
    go_loopw [5, 7, 30] (fun at' sv i wr => ∃ (k q : Nat) (u : Value) (L : List RecT), u = sv ∧ k ≤ N ∧ q ≤ b.length ∧ i = .int .i64 (k : Int) ∧ at' = .int .i64 (q : Int) ∧ Hid (seqD k (b.drop p) = some (L, b.drop q)) ∧ OwnRec wr w.heap.size u L ∧ Below w.heap.size w wr) (fun _ _ i _ => N - (intOf i).toNat)
    case atStart => exact ⟨0, p, _, [], rfl, by omega, f1, rfl, rfl, Go.Lib.hid rfl, HO2.out, HB2.out⟩
    case round =>
      obtain ⟨k, q, u, L, rfl, hk, hq, rfl, rfl, hs, hown, hbc⟩ := hrel
      by_cases hlt : k < N
      · have hltI : (k : Int) < (N : Int) := by omega
        have hLn : L.length = k := (seqD_ok _ _ _ _ hs.out).1
        rcases hrd : readB (b.drop q) with ⟨⟨yk, yg, ya, yn, ys⟩, m, e2⟩
        have C1 := fun v' W (h : RB W v' (b.drop q)) => pget_c v' (b.drop q) W h
        rw [hrd] at C1
        unfold rr recV at C1
        simp only [] at C1
        have hRB := HV.out.below hbc
        have HBC := Go.Lib.hid hbc
        have HO := Go.Lib.hid hown
        have Hlt := Go.Lib.hid hlt
        by_cases he : e2 = 0
        · subst he
          have hst := Go.Lib.hid (seqD_step hs.out hrd)
          have hml := (readB_canon hrd).2.2.2
          rw [List.length_drop] at hml
          unfold unR at hst
          simp only [] at hst
          generalize str yk = ks at *
          generalize str ys = ss at *
          have CP := Go.Lib.hid C1
          have hadd : IntKind.i64.wrap ((q : Int) + (m : Int)) = ((q + m : Nat) : Int) := by rw [IntKind.wrap_i64]; omega
          have hqm : q + m ≤ b.length := by omega
          have Hqm := Go.Lib.hid hqm
          have Hadd := Go.Lib.hid hadd
          clear C1 hrd hs hbc hown hlt hml hqm hadd
          go_wp2_with (first
            | (with_reducible show wpList _ _ _ (⟨some 35, _, _, _, _, _⟩ :: _) _ _; go_loud (refine wpList_slice_l rfl (.tmp 33) (.tmp 34) 33 rfl 5 Try.underlying33 info8 (.slice a b.length c) b .i64 _ q rfl rfl rfl hRB hq ?_); intro v3 hv3)
            | fail)
          refine (CP.out _ _ hv3).mono ?_
          rintro e w4 ⟨rfl, hb4⟩
          have hb5 := below_one w4 (.cells #[.string ks, .bool yg, .int .i64 ya, .int .i64 yn, .string ss] 39)
          have hb6 := below_two w4 (.cells #[.string ks, .bool yg, .int .i64 ya, .int .i64 yn, .string ss] 39) (.cells #[.string ks, .bool yg, .int .i64 ya, .int .i64 yn, .string ss] 39)
          have HB6 := Go.Lib.hid (below_to (below_to HBC.out (Nat.le_refl _) hb4) (Nat.le_refl _) hb6)
          have HO6 := Go.Lib.hid ((HO.out.below hb4).below hb6)
          obtain ⟨x0, x1, x2, x3, x4⟩ := row5 (heap_alloc_new w4 (.cells #[.string ks, .bool yg, .int .i64 ya, .int .i64 yn, .string ss] 39))
          have hone := RS.one (w4.alloc (.cells #[.string ks, .bool yg, .int .i64 ya, .int .i64 yn, .string ss] 39)) (ks, yg, ya, yn, ss)
          simp only [] at hone
          have hsz : (w4.alloc (.cells #[.string ks, .bool yg, .int .i64 ya, .int .i64 yn, .string ss] 39)).heap.size = w4.heap.size + 1 := by simp
          rw [hsz] at hone
          have HX := Go.Lib.hid hone
          have hadd := Hadd.out
          have HLn := Go.Lib.hid (show L.length + ([(ks, yg, ya, yn, ss)] : List RecT).length ≤ 1000000 by rw [hLn]; simp; omega)
          clear hb4 hb5 hb6 HBC HO hone hsz CP hv3 hRB hLn
          go_wp2_with (first
            | (with_reducible show wpList _ _ _ (⟨some 45, _, _, _, _, _⟩ :: _) _ _; go_loud (refine wpList_append_recs rfl (.tmp 42) (.tmp 44) rfl w.heap.size u (.slice (some ⟨w4.heap.size + 1, 0, none⟩) 1 1) L [(ks, yg, ya, yn, ss)] rfl rfl HO6.out HX.out HLn.out HB6.out.size ?_); intro v7 w7 hown7 hg7; have HB7 := Go.Lib.hid (HB6.out.grown hg7 HB6.out.size HO6.out.row); have HO7 := Go.Lib.hid hown7; clear hown7 hg7 x0 x1 x2 x3 x4)
            | fail)
          go_roundw
          case rel => exact ⟨k + 1, q + m, _, _, rfl, by have := Hlt.out; omega, Hqm.out, by go_num, rfl, Go.Lib.hid (by rw [hst.out, List.drop_drop]), HO7.out, HB7.out⟩
          case measure => simp only [intOf]; have := Hlt.out; omega
        · have heb : (e2 == 0) = false := by simp [he]
          have K := Go.Lib.hid (show rowD b = none by
            have h1 := seqD_none (seqD_stop hs.out hrd he) (N - (k + 1))
            rw [show k + 1 + (N - (k + 1)) = N by omega] at h1
            rw [HD.out, h1])
          generalize str yk = ks at *
          generalize str ys = ss at *
          have CP := Go.Lib.hid C1
          clear C1 hrd hs hbc hown hlt he
          go_wp2_with (first
            | (with_reducible show wpList _ _ _ (⟨some 35, _, _, _, _, _⟩ :: _) _ _; go_loud (refine wpList_slice_l rfl (.tmp 33) (.tmp 34) 33 rfl 5 Try.underlying33 info8 (.slice a b.length c) b .i64 _ q rfl rfl rfl hRB hq ?_); intro v3 hv3)
            | fail)
          refine (CP.out _ _ hv3).mono ?_
          rintro e w4 ⟨rfl, hb4⟩
          have hb6 := below_one w4 (.cells #[.string ks, .bool yg, .int .i64 ya, .int .i64 yn, .string ss] 39)
          have HB6 := Go.Lib.hid (below_to (below_to HBC.out (Nat.le_refl _) hb4) (Nat.le_refl _) hb6)
          clear hb4 hb6 HBC HO CP hv3 hRB hLn
          go_wp2_with fail
          go_ret2
          exact ⟨.inl ⟨K.out, rfl⟩, HB6.out⟩
      · obtain rfl : k = N := by omega
        have HB := Go.Lib.hid hbc
        by_cases hend : q < b.length
        · have K := Go.Lib.hid (show rowD b = none by
            rw [HD.out, hs.out]
            have hne : b.drop q ≠ [] := by
              intro h
              have := congrArg List.length h
              rw [List.length_drop, List.length_nil] at this
              omega
            cases hd : b.drop q with
            | nil => exact absurd hd hne
            | cons _ _ => rfl)
          have hI : (q : Int) < (b.length : Int) := by omega
          clear hs hown hbc hlt
          go_wp2_with fail
          go_ret2
          exact ⟨.inl ⟨K.out, rfl⟩, HB.out⟩
        · have K := Go.Lib.hid (show rowD b = some L by
            rw [HD.out, hs.out, List.drop_of_length_le (by omega)])
          have hI : ¬ (q : Int) < (b.length : Int) := by omega
          have HO := Go.Lib.hid hown
          clear hs hown hbc hlt
          go_wp2_with fail
          go_ret2
          exact ⟨.inr ⟨_, _, K.out, rfl, HO.out⟩, HB.out⟩

theorem bdecode_no {v : Value} {b : List UInt8} {w : World} (hv : RB w v b) (h : rowD b = none) :
    Calls Try.prog 41 #[v] w fun e w' => e = .returned (.tuple #[.slice none 0 0, .int .i64 8]) ∧ Below w.heap.size w w' :=
  (bdecode_any v b w hv).mono fun e w' ⟨hq, hb⟩ => by
    rcases hq with ⟨-, he⟩ | ⟨l, v', hd, -⟩
    · exact ⟨he, hb⟩
    · rw [h] at hd; cases hd
theorem bdecode_c {v : Value} {b : List UInt8} {w : World} {l : List RecT} (hv : RB w v b) (h : rowD b = some l) :
    Calls Try.prog 41 #[v] w fun e w' => ∃ v', e = .returned (.tuple #[v', .int .i64 0]) ∧ OwnRec w' w.heap.size v' l ∧ Below w.heap.size w w' :=
  (bdecode_any v b w hv).mono fun e w' ⟨hq, hb⟩ => by
    rcases hq with ⟨hn, -⟩ | ⟨l', v', hd, he, ho⟩
    · rw [h] at hn; cases hn
    · rw [h] at hd; cases hd; exact ⟨v', he, ho, hb⟩

end Go.Proofs.Ytibbligidncocaa

namespace Go.Proofs.Ytibbligidncocaa
open Go.RowKit

/-- What Open comes to. -/
def OpenSTo (b : List UInt8) (w0 : World) (e : Ending) (w' : World) : Prop :=
  Below w0.heap.size w0 w' ∧ ((∃ P, rowD b = some P ∧ mayP P = true ∧ ∃ p, e = .returned (.tuple #[.pointer (some ⟨p, 0, none⟩), .int .i64 0]) ∧ SW w' w0.heap.size p P) ∨
    ((∀ P, rowD b = some P → mayP P = false) ∧ e = .returned (.tuple #[.pointer none, .int .i64 8])))

set_option maxHeartbeats 4000000 in
set_option maxRecDepth 100000 in
theorem sopen_c (v : Value) (b : List UInt8) (w : World) (hv : RB w v b) :
    Calls Try.prog 15 #[v] w fun e w' => OpenSTo b w e w' := by
  cases hd : rowD b with
  | none =>
    have CD := Go.Lib.hid (bdecode_no hv hd)
    have HF := Go.Lib.hid (fun (W : World) (hb : Below w.heap.size w W) => show OpenSTo b w (.returned (.tuple #[.pointer none, .int .i64 8])) W from ⟨hb, .inr ⟨fun P h => (by rw [hd] at h; cases h), rfl⟩⟩)
    clear hv hd
    go_enter Try.func15, Try.ntmps15
    go_wp2_with fail
    refine CD.out.mono ?_
    rintro e w1 ⟨rfl, hb⟩
    have HF := Go.Lib.hid (HF.out w1 hb)
    clear hb CD
    go_wp2_with fail
    go_ret2
    exact HF.out
  | some P =>
    have CD := Go.Lib.hid (bdecode_c hv hd)
    obtain ⟨hrow, -, -⟩ := rowD_ok hd
    obtain ⟨hL, hall⟩ := mayRow_iff.1 hrow
    have HSV := Go.Lib.hid (show SmallV P from fun x hx => by have := mayT_short (hall x hx); omega)
    have HD := Go.Lib.hid hd
    clear hv hrow hall hd
    obtain ⟨g, hg⟩ : ∃ g, g = w.heap.size := ⟨_, rfl⟩
    have HG := Go.Lib.hid hg
    clear hg
    go_enter Try.func15, Try.ntmps15
    go_wp2_with fail
    refine CD.out.mono ?_
    rintro e w1 ⟨v1, rfl, ho, hc⟩
    rw [← HG.out] at ho hc
    have HB1 := Go.Lib.hid hc
    obtain ⟨a1, c1, rfl, -⟩ := ho.rs.form
    have HR := Go.Lib.hid (show ∀ W, Below w1.heap.size w1 W → RS W (.slice a1 P.length c1) P from fun W hb => (ho.below hb).rs)
    clear ho hc CD
    go_upto_region 5 with (first
      | (with_reducible show wpList _ _ _ (⟨some 19, _, _, _, _, _⟩ :: _) _ _; go_loud (refine K4_ok.make0 rfl (.const (.int .i64 0)) (.tmp 18) rfl .i64 _ P.length rfl rfl rfl (by omega) ?_); intro g5 w5 ho5 hg5 hgr5; clear hg5)
      | fail)
    have HB5 := Go.Lib.hid (show Below w1.heap.size w1 w5 from (Below.refl _ w1).grown hgr5 (Nat.le_refl _) (fun k hk => by cases hk))
    have HO5 := Go.Lib.hid (show K4.O w5 w1.heap.size (.slice (some ⟨g5, 0, none⟩) 0 P.length) (P.take 0) from ho5)
    clear ho5 hgr5
    go_wp2_with fail
    go_loopw [6, 22] (fun lv kv wr => ∃ (k : Nat) (z : Value), z = lv ∧ k ≤ P.length ∧ kv = .int .i64 (k : Int) ∧ Hid (K4.O wr w1.heap.size z (P.take k)) ∧ Hid (Below w1.heap.size w1 wr)) (fun _ kv _ => P.length - (intOf kv).toNat)
    case atStart => exact ⟨0, _, rfl, by omega, rfl, HO5, HB5⟩
    case round =>
      clear HO5 HB5
      obtain ⟨k, z, rfl, hk, rfl, HO, HB⟩ := hrel
      by_cases hlt : k < P.length
      · obtain ⟨bb, o, rfl, -, -, c0, c1', c2, c3, c4⟩ := (HR.out _ HB.out).at k hlt
        have hix := run_idx5 bb o P.length c1 k hlt
        have HT := Go.Lib.hid (List.take_succ_eq_append_getElem hlt)
        generalize P[k] = x at *
        obtain ⟨kx, gx, ax, nx, sx⟩ := x
        simp only [] at c0 c1' c2 c3 c4
        have hbd := build_pair kx ax nx sx
        have hgw : w1.heap.size ≤ wr.heap.size := HB.out.size
        have hbA := below_one wr (.cells #[.string kx, .bool gx, .int .i64 ax, .int .i64 nx, .string sx] 39)
        have HX4 := Go.Lib.hid (heap_alloc_new wr (.cells #[.string kx, .bool gx, .int .i64 ax, .int .i64 nx, .string sx] 39))
        have HO4 := Go.Lib.hid (HO.out.below hbA)
        have HB4 := Go.Lib.hid (HB.out.trans (hbA.mono hgw))
        clear hbA HO HB hgw
        go_upto_region 8 with (fail)
        obtain ⟨g3, hg3⟩ : ∃ g, g = wr.heap.size := ⟨_, rfl⟩
        rw [← hg3] at HX4 ⊢
        clear hg3 c0 c1' c2 c3 c4 hix
        generalize wr.alloc (.cells #[.string kx, .bool gx, .int .i64 ax, .int .i64 nx, .string sx] 39) = w4 at *
        obtain ⟨y0, y1, y2, y3, y4⟩ := row5 HX4.out
        have hbB := below_one w4 (.cells #[.string kx, .int .i64 ax, .int .i64 nx, .string sx] 42)
        have HON := Go.Lib.hid (K4.one1 w4 (kx, gx, ax, nx, sx))
        simp only [] at HON
        have HO7 := Go.Lib.hid (HO4.out.below hbB)
        have HB7 := Go.Lib.hid (HB4.out.trans (hbB.mono HB4.out.size))
        clear hbB HX4 HO4 HB4
        go_wp2_with (first
          | (with_reducible show wpList _ _ _ (⟨some 33, _, _, _, _, _⟩ :: _) _ _; go_loud (refine K4_ok.append rfl (.tmp 26) (.tmp 32) rfl w1.heap.size z (.slice (some ⟨w4.heap.size, 0, none⟩) 1 1) (P.take k) [(kx, gx, ax, nx, sx)] rfl rfl HO7.out HON.out (by simp; omega) HB7.out.size ?_); intro v8 w8 ho8 hg8)
          | fail)
        have HO8 := Go.Lib.hid (show K4.O w8 w1.heap.size v8 (P.take (k + 1)) by rw [HT.out]; exact ho8)
        have HB8 := Go.Lib.hid (HB7.out.grown hg8 HB7.out.size (fun j hj => HO7.out.row j hj))
        clear ho8 hg8
        go_wp2_with fail
        exact ⟨⟨k + 1, _, rfl, by omega, by go_num, HO8, HB8⟩, by simp only [intOf]; omega⟩
      · obtain rfl : k = P.length := by omega
        rw [List.take_length] at HO
        have CN := Go.Lib.hid (snew_c z P wr HO.out.r HSV.out (by omega))
        have hgw : g ≤ w1.heap.size := by have := HB1.out.size; have := HG.out; omega
        have HBw := Go.Lib.hid (HB1.out.trans (HB.out.mono hgw))
        have hgr : g ≤ wr.heap.size := by have := HB.out.size; omega
        have HGR := Go.Lib.hid hgr
        clear HO HB hgw hgr HR
        go_wp2_with fail
        refine CN.out.mono ?_
        rintro e w4 ⟨hb4, hq⟩
        have HB4 := Go.Lib.hid (show Below w.heap.size w w4 by have := HBw.out.trans (hb4.mono HGR.out); rwa [HG.out] at this)
        rcases hq with ⟨hm, p, rfl, hsw⟩ | ⟨hm, rfl⟩
        · have HF := Go.Lib.hid (show OpenSTo b w (.returned (.tuple #[.pointer (some ⟨p, 0, none⟩), .int .i64 0])) w4 from ⟨HB4.out, .inl ⟨P, HD.out, hm, p, rfl, hsw.mono (by have := HGR.out; have := HG.out; omega)⟩⟩)
          clear hm hsw hb4 CN HB4 HBw
          go_wp2_with fail
          go_ret2
          exact HF.out
        · have HF := Go.Lib.hid (show OpenSTo b w (.returned (.tuple #[.pointer none, .int .i64 8])) w4 from ⟨HB4.out, .inr ⟨fun Q hQ => by have h1 := HD.out; rw [hQ] at h1; cases h1; exact hm, rfl⟩⟩)
          clear hm hb4 CN HB4 HBw
          go_wp2_with fail
          go_ret2
          exact HF.out

end Go.Proofs.Ytibbligidncocaa
