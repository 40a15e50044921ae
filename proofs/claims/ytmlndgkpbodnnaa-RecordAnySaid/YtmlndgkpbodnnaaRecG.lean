/-
  Records: contract of the reference's Read.
-/
import Derived.Test.YtmlndgkpbodnnaaRecM2
import Derived.Test.YtmlndgkpbodnnaaRecCut
namespace Go.Proofs.Ytmlndgkpbodnnaa
open Go.RowKit
open Go.Lib (uvarint zigzag)

def rr (r : RdT) : Value := .tuple #[recV (str r.1.1) r.1.2.1 r.1.2.2.1 r.1.2.2.2.1 (str r.1.2.2.2.2), .int .i64 (r.2.1 : Int), .int .i64 r.2.2]

/-- What Read answers, in a cell of its own. -/
theorem ret_rr_at {w w0 : World} {tmps : Array Value} {key : ByteArray} {gone : Bool} {k n : Int} {s : ByteArray} {m : Nat} {e : Int} {g : Nat} {fr : Nat × Nat} {r : RdT}
    (hp : tmps.getD 2 undef = .pointer (some ⟨g, 0, none⟩)) (hg : w.heap[g]? = some (.cells #[.string key, .bool gone, .int .i64 k, .int .i64 n, .string s] 25 fr)) (h3 : tmps.getD 3 undef = .int .i64 (m : Int)) (h4 : tmps.getD 4 undef = .int .i64 e)
    (hr : r = ((bl key, gone, k, n, bl s), m, e)) (hb : Below w0.heap.size w0 w) : bodyPost Try.prog Try.f39 (fun e w' => e = .returned (rr r) ∧ Below w0.heap.size w0 w') Exit.ret { tmps := tmps, defers := [] } w := by
  subst hr
  have h := results_row_two (P := Try.prog) (fn := Try.f39) (p := 2) (u := 3) (v := 4) (ty := 25) rfl tmps w g 25 #[.string key, .bool gone, .int .i64 k, .int .i64 n, .string s] fr _ hp hg Try.underlying25 rfl (by kernel_rfl)
  rw [h3, h4] at h
  refine bodyPost_ret h rfl ⟨?_, hb⟩
  unfold rr recV
  rw [str_bl, str_bl]

set_option maxHeartbeats 2000000 in
set_option maxRecDepth 100000 in
theorem rread_c (v : Value) (l : List UInt8) (w : World) (hv : RB w v l) :
    Calls Try.prog 39 #[v] w fun e w' => e = .returned (rr (readB l)) ∧ Below w.heap.size w w' := by
  have hrb := hv
  obtain ⟨a, cap, rfl, h1, h2, h3, h4⟩ := hv
  have hm : l.length ≤ 9223372036854775807 := by unfold maxLen at h2; omega
  clear h4 h3 h1 h2
  have hfit := textB_fits l
  have c1 := fun W (h : RB W (.slice a l.length cap) l) => rgetText_c (.slice a l.length cap) l W h
  rcases hr : textB l with ⟨key, p, er⟩
  rw [hr] at hfit c1
  unfold tv at c1
  simp only [] at hfit c1
  obtain ⟨f1, f2, f3, f4⟩ := hfit
  have C1 := Go.Lib.hid c1; clear c1
  have Hr := Go.Lib.hid hr; clear hr
  have hR1 := Go.Lib.hid fun o => hrb.below (below_one w o)
  have hnew := Go.Lib.hid fun o => heap_alloc_new w o
  by_cases he : er = 0
  · subst he
    clear f4
    have C2 := Go.Lib.hid fun W => rmay_c (str key) W (by rw [str_size]; unfold maxLen; omega)
    cases hmk : mayK (str key) with
    | false =>
      rw [hmk] at C2
      have hv := Go.Lib.hid (readB_e2 Hr.out hmk)
      clear hmk f1 f2 f3
      go_enter Try.func39, Try.ntmps39
      go_wp2_with fail
      refine (C1.out _ (hR1.out _)).mono ?_
      rintro e w1 ⟨rfl, rfl⟩
      go_wp2_with fail
      refine (C2.out _).mono ?_
      rintro e w1 ⟨rfl, rfl⟩
      go_wp2_with fail
      exact ret_rr_at (m := 0) rfl (hnew.out _) rfl rfl hv.out (below_one _ _)
    | true =>
      rw [hmk] at C2
      have Hmk := Go.Lib.hid hmk; clear hmk
      have hfit2 := getB_fits (l.drop p)
      have c3 := fun v' W (h : RB W v' (l.drop p)) => rget_c v' (l.drop p) W h
      rcases hr2 : getB (l.drop p) with ⟨x, m, e2⟩
      rw [hr2] at c3 hfit2
      unfold gv at c3
      simp only [List.length_drop] at c3 hfit2
      obtain ⟨q1, q2, q3, q4, -, q5⟩ := hfit2
      have C3 := Go.Lib.hid c3; clear c3
      have Hr2 := Go.Lib.hid hr2; clear hr2
      by_cases he2 : e2 = 0
      · subst he2
        clear q4
        by_cases hx : x = 0
        · subst hx
          have hv := Go.Lib.hid (readB_gone Hr.out Hmk.out Hr2.out)
          clear q1 q2 q3 f3
          go_enter Try.func39, Try.ntmps39
          go_wp2_with fail
          refine (C1.out _ (hR1.out _)).mono ?_
          rintro e w1 ⟨rfl, rfl⟩
          go_wp2_with fail
          refine (C2.out _).mono ?_
          rintro e w1 ⟨rfl, rfl⟩
          go_wp2_with (first
            | (with_reducible show wpList _ _ _ (⟨some 28, _, _, _, _, _⟩ :: _) _ _; go_loud (refine wpList_slice_l rfl (.tmp 26) (.tmp 27) 26 rfl 5 Try.underlying26 info8 (.slice a l.length cap) l .i64 _ p rfl rfl rfl (hR1.out _) f1 ?_); intro v3 hv3)
            | fail)
          refine (C3.out _ _ hv3).mono ?_
          rintro e w1 ⟨rfl, rfl⟩
          go_wp2_with fail
          refine ret_rr_at (m := p + m) rfl (hnew.out _) rfl rfl ?_ (below_one _ _)
          rw [hv.out, bl_str]
          rfl
        · have hxb : (x == 0) = false := by simp [hx]
          have hfv := valB_fits (l.drop p)
          have c4 := fun v' W (h : RB W v' (l.drop p)) => rgetVal_c v' (l.drop p) W h
          rcases hr3 : valB (l.drop p) with ⟨⟨vk, vn, vs⟩, q, e3⟩
          rw [hr3] at c4 hfv
          unfold vv rawV at c4
          simp only [List.length_drop] at c4 hfv
          obtain ⟨u1, u2, u3, -⟩ := hfv
          have C4 := Go.Lib.hid c4; clear c4
          have Hr3 := Go.Lib.hid hr3; clear hr3
          have Hx := Go.Lib.hid hx; clear hx
          clear q3 q5 q1 q2 f3
          by_cases he3 : e3 = 0
          · subst he3
            have hv := Go.Lib.hid (readB_ok Hr.out Hmk.out Hr2.out Hx.out Hr3.out)
            clear u3
            go_enter Try.func39, Try.ntmps39
            go_wp2_with fail
            refine (C1.out _ (hR1.out _)).mono ?_
            rintro e w1 ⟨rfl, rfl⟩
            go_wp2_with fail
            refine (C2.out _).mono ?_
            rintro e w1 ⟨rfl, rfl⟩
            go_wp2_with (first
              | (with_reducible show wpList _ _ _ (⟨some 28, _, _, _, _, _⟩ :: _) _ _; go_loud (refine wpList_slice_l rfl (.tmp 26) (.tmp 27) 26 rfl 5 Try.underlying26 info8 (.slice a l.length cap) l .i64 _ p rfl rfl rfl (hR1.out _) f1 ?_); intro v3 hv3)
              | fail)
            refine (C3.out _ _ hv3).mono ?_
            rintro e w1 ⟨rfl, rfl⟩
            go_wp2_with (first
              | (with_reducible show wpList _ _ _ (⟨some 47, _, _, _, _, _⟩ :: _) _ _; go_loud (refine wpList_slice_l rfl (.tmp 45) (.tmp 46) 26 rfl 5 Try.underlying26 info8 (.slice a l.length cap) l .i64 _ p rfl rfl rfl (hR1.out _) f1 ?_); intro v4 hv4)
              | fail)
            refine (C4.out _ _ hv4).mono ?_
            rintro e w1 ⟨rfl, hb1⟩
            obtain ⟨hh, -⟩ := rec_box _ _ _ _ _ hb1
            unfold recO at hh
            have hlt := (Array.getElem?_eq_some_iff.1 hh).1
            have hA := (heap_alloc_old w1 (.cells #[.int .i64 vk, .int .i64 vn, .string (str vs)] 23) hlt).trans hh
            have hbb := (below_one w (.cells #[.string ⟨#[]⟩, .bool false, .int .i64 0, .int .i64 0, .string ⟨#[]⟩] 25)).trans (hb1.mono (below_one w _).size)
            have hbb2 := hbb.trans ((below_one w1 (.cells #[.int .i64 vk, .int .i64 vn, .string (str vs)] 23)).mono hbb.size)
            have HA := Go.Lib.hid hA; clear hA hh hb1 hlt
            go_wp2_with (first
              | (with_reducible show wpList _ _ _ (⟨none, Op.store 25 (.tmp 2) (.tmp 58), _, _, _, _⟩ :: _) _ _; go_loud (refine wpList_store_row rfl 25 (.tmp 2) (.tmp 58) rfl w.heap.size #[.string (str key), .bool false, .int .i64 vk, .int .i64 vn, .string (str vs)] rfl rfl 25 _ HA.out (by kernel_rfl) rfl (rec_cells_one ..) ?_))
              | fail)
            refine ret_rr_at (m := p + q) rfl (setRow_heap _ _ _ _ _ (0, 0) HA.out) rfl rfl ?_ (setRow_below _ hbb2 (Nat.le_refl _))
            rw [hv.out, bl_str, bl_str]
          · have hv := Go.Lib.hid (readB_e4 Hr.out Hmk.out Hr2.out Hx.out Hr3.out he3)
            have he3b : (e3 == 0) = false := by simp [he3]
            clear u1 u2 u3 he3
            go_enter Try.func39, Try.ntmps39
            go_wp2_with fail
            refine (C1.out _ (hR1.out _)).mono ?_
            rintro e w1 ⟨rfl, rfl⟩
            go_wp2_with fail
            refine (C2.out _).mono ?_
            rintro e w1 ⟨rfl, rfl⟩
            go_wp2_with (first
              | (with_reducible show wpList _ _ _ (⟨some 28, _, _, _, _, _⟩ :: _) _ _; go_loud (refine wpList_slice_l rfl (.tmp 26) (.tmp 27) 26 rfl 5 Try.underlying26 info8 (.slice a l.length cap) l .i64 _ p rfl rfl rfl (hR1.out _) f1 ?_); intro v3 hv3)
              | fail)
            refine (C3.out _ _ hv3).mono ?_
            rintro e w1 ⟨rfl, rfl⟩
            go_wp2_with (first
              | (with_reducible show wpList _ _ _ (⟨some 47, _, _, _, _, _⟩ :: _) _ _; go_loud (refine wpList_slice_l rfl (.tmp 45) (.tmp 46) 26 rfl 5 Try.underlying26 info8 (.slice a l.length cap) l .i64 _ p rfl rfl rfl (hR1.out _) f1 ?_); intro v4 hv4)
              | fail)
            refine (C4.out _ _ hv4).mono ?_
            rintro e w1 ⟨rfl, hb1⟩
            obtain ⟨hh, -⟩ := rec_box _ _ _ _ _ hb1
            unfold recO at hh
            have hlt := (Array.getElem?_eq_some_iff.1 hh).1
            have hA := (heap_alloc_old w1 (.cells #[.int .i64 vk, .int .i64 vn, .string (str vs)] 23) hlt).trans hh
            have hbb := (below_one w (.cells #[.string ⟨#[]⟩, .bool false, .int .i64 0, .int .i64 0, .string ⟨#[]⟩] 25)).trans (hb1.mono (below_one w _).size)
            have hbb2 := hbb.trans ((below_one w1 (.cells #[.int .i64 vk, .int .i64 vn, .string (str vs)] 23)).mono hbb.size)
            have HA := Go.Lib.hid hA; clear hA hh hb1 hlt
            go_wp2_with (first
              | (with_reducible show wpList _ _ _ (⟨none, Op.store 25 (.tmp 2) (.tmp 54), _, _, _, _⟩ :: _) _ _; go_loud (refine wpList_store_row rfl 25 (.tmp 2) (.tmp 54) rfl w.heap.size #[.string ⟨#[]⟩, .bool false, .int .i64 0, .int .i64 0, .string ⟨#[]⟩] rfl rfl 25 _ HA.out (by kernel_rfl) rfl (rec_cells_one ..) ?_))
              | fail)
            exact ret_rr_at (m := 0) rfl (setRow_heap _ _ _ _ _ (0, 0) HA.out) rfl rfl hv.out (setRow_below _ hbb2 (Nat.le_refl _))
      · have hv := Go.Lib.hid (readB_e3 Hr.out Hmk.out Hr2.out he2)
        have he2b : (e2 == 0) = false := by simp [he2]
        clear q1 q2 q3 f3 he2
        go_enter Try.func39, Try.ntmps39
        go_wp2_with fail
        refine (C1.out _ (hR1.out _)).mono ?_
        rintro e w1 ⟨rfl, rfl⟩
        go_wp2_with fail
        refine (C2.out _).mono ?_
        rintro e w1 ⟨rfl, rfl⟩
        go_wp2_with (first
          | (with_reducible show wpList _ _ _ (⟨some 28, _, _, _, _, _⟩ :: _) _ _; go_loud (refine wpList_slice_l rfl (.tmp 26) (.tmp 27) 26 rfl 5 Try.underlying26 info8 (.slice a l.length cap) l .i64 _ p rfl rfl rfl (hR1.out _) f1 ?_); intro v3 hv3)
          | fail)
        refine (C3.out _ _ hv3).mono ?_
        rintro e w1 ⟨rfl, rfl⟩
        go_wp2_with fail
        exact ret_rr_at (m := 0) rfl (hnew.out _) rfl rfl hv.out (below_one _ _)
  · have hv := Go.Lib.hid (readB_e1 Hr.out he)
    have heb : (er == 0) = false := by simp [he]
    clear f1 f2 f3 he
    go_enter Try.func39, Try.ntmps39
    go_wp2_with fail
    refine (C1.out _ (hR1.out _)).mono ?_
    rintro e w1 ⟨rfl, rfl⟩
    go_wp2_with fail
    exact ret_rr_at (m := 0) rfl (hnew.out _) rfl rfl hv.out (below_one _ _)

end Go.Proofs.Ytmlndgkpbodnnaa
