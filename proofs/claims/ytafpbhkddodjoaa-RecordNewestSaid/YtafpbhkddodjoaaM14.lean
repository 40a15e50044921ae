/-
  Records: contract of the laws' Cut.
  Records: contract of the reference's Read.
  Package value: contracts of getOf, Get.
-/
import Derived.Test.YtafpbhkddodjoaaM07
import Derived.Test.YtafpbhkddodjoaaM13
import Derived.Deep.MidRow
import Derived.Deep.DeepCutAuto
import Derived.Test.YtafpbhkddodjoaaM12
import Derived.Test.YtafpbhkddodjoaaM10
namespace Go.Proofs.Ytafpbhkddodjoaa
open Go.RowKit

theorem set_rec (w : World) (g : Nat) (a b c d e x p q r : Value) (t : TypeId) (hg : w.heap[g]? = some (.cells #[a, b, c, d, e] t (0, 0))) :
    (w.setCell ⟨g, 0, none⟩ x).setCells g 2 [p, q, r] = w.setRow g #[x, b, p, q, r] := by
  rw [setCell_eq_setRow w g 0 _ t (0, 0) x hg]
  have h1 := setRow_heap w g _ (#[a, b, c, d, e].setIfInBounds 0 x) t (0, 0) hg
  simp only [World.setCells]
  rw [setCell_eq_setRow _ g 2 _ t (0, 0) p h1, setRow_setRow]
  have h2 := setRow_heap w g _ ((#[a, b, c, d, e].setIfInBounds 0 x).setIfInBounds 2 p) t (0, 0) hg
  rw [setCell_eq_setRow _ g 3 _ t (0, 0) q h2, setRow_setRow]
  have h3 := setRow_heap w g _ (((#[a, b, c, d, e].setIfInBounds 0 x).setIfInBounds 2 p).setIfInBounds 3 q) t (0, 0) hg
  rw [setCell_eq_setRow _ g 4 _ t (0, 0) r h3, setRow_setRow]
  simp

theorem there_row (w : World) (b : Nat) (C : Array Value) (t : TypeId) (hb : w.heap[b]? = some (.cells C t (0, 0))) (o n : Nat) (h : o + n ≤ C.size) : w.there b o n := fun j hj =>
  ⟨by rw [cell_of_row w b (o + j) C t (0, 0) hb, Array.getElem?_eq_getElem (by omega)]; rfl, frozen_of_row w b (o + j) C t hb⟩
theorem rec_cells_one (key : ByteArray) (gone : Bool) (k n : Int) (s : ByteArray) : (#[.string key, .bool gone, .int .i64 k, .int .i64 n, .string s] : Array Value).all (fun x => x.oneCell') = true := by simp [Value.oneCell']

def VC (g : Nat) (key key2 : ByteArray) (k n : Int) (s s2 : ByteArray) : Nat → World → Value → Prop
  | 3, _, v => v = .pointer (some ⟨g, 0, none⟩)
  | 4, _, v => v = .string key
  | 5, _, v => v = .string key2
  | 6, _, v => v = .pointer (some ⟨g, 2, none⟩)
  | 7, _, v => v = .agg #[.int .i64 k, .int .i64 n, .string s]
  | 9, _, v => v = .pointer (some ⟨g, 0, none⟩)
  | 8, _, v => v = .agg #[.int .i64 k, .int .i64 n, .string s2]
  | _, _, _ => True

theorem VC_below (g : Nat) (key key2 : ByteArray) (k n : Int) (s s2 : ByteArray) : ∀ (i : Nat) (w w' : World) (v : Value), VC g key key2 k n s s2 i w v → Below w.heap.size w w' → VC g key key2 k n s s2 i w' v := by
  intro i w w' v h hb
  unfold VC at h ⊢
  split at h <;> first | exact h | trivial | exact RB.below h hb | exact Own.below h hb

set_option maxHeartbeats 1000000 in
set_option maxRecDepth 100000 in
/-- The laws' 'Cut(r)'. -/
theorem rcut_c (key : ByteArray) (gone : Bool) (k n : Int) (s : ByteArray) (w : World) (hk : key.size ≤ maxLen) (hm : s.size ≤ maxLen) :
    Calls Try.prog 9 #[recV key gone k n s] w fun e w' => e = .returned (recV (str ((bl key).take 20)) gone k n (str ((bl s).take 30))) ∧ Below w.heap.size w w' := by
  unfold recV
  have C1 := Go.Lib.hid fun W => lcut_c key 20 W hk (by omega)
  have C2 := Go.Lib.hid fun W => vcut_c k n s W hm
  unfold rawV at C2
  clear hk hm
  generalize str ((bl key).take 20) = key2 at *
  generalize str ((bl s).take 30) = s2 at *
  go_enter Try.func9, Try.ntmps9
  go_upto_region 1 with (fail)
  have hA := two_first w (.cells #[.string key, .bool gone, .int .i64 k, .int .i64 n, .string s] 25) (.cells #[.string ⟨#[]⟩, .bool false, .int .i64 0, .int .i64 0, .string ⟨#[]⟩] 25)
  have hB := heap_alloc2_new w (.cells #[.string key, .bool gone, .int .i64 k, .int .i64 n, .string s] 25) (.cells #[.string ⟨#[]⟩, .bool false, .int .i64 0, .int .i64 0, .string ⟨#[]⟩] 25)
  have hbb := below_two w (.cells #[.string key, .bool gone, .int .i64 k, .int .i64 n, .string s] 25) (.cells #[.string ⟨#[]⟩, .bool false, .int .i64 0, .int .i64 0, .string ⟨#[]⟩] 25)
  generalize hW : (w.alloc (.cells #[.string key, .bool gone, .int .i64 k, .int .i64 n, .string s] 25)).alloc (.cells #[.string ⟨#[]⟩, .bool false, .int .i64 0, .int .i64 0, .string ⟨#[]⟩] 25) = W at *
  clear hW
  have hlt := (Array.getElem?_eq_some_iff.1 hA).1
  have hltB := (Array.getElem?_eq_some_iff.1 hB).1
  have hgb : w.heap.size ≠ w.heap.size + 1 := by omega
  generalize hg0 : w.heap.size = g at *
  generalize hb0 : g + 1 = gB at *
  refine wp_region_head 7 (by decide) (by kernel_rfl) (VC g key key2 k n s s2) (VC_below g key key2 k n s s2) (by decide +kernel) (by rfl) [3, 4, 5, 6, 7, 8, 9] (by rfl) ?_ ?_
  · intro i o hin ho a w6 hb6 hlen hg
    have hA := (hb6.block _ hlt).trans hA
    have x0 := cell_of_row w6 g 0 _ _ _ hA
    have x2 := cell_of_row w6 g 2 _ _ _ hA
    have x3 := cell_of_row w6 g 3 _ _ _ hA
    have x4 := cell_of_row w6 g 4 _ _ _ hA
    simp only [List.getElem?_toArray, List.getElem?_cons_zero, List.getElem?_cons_succ] at x0 x2 x3 x4
    have D1 := fun W => (C1.out W).mono (R' := fun e w' => e = .returned (.string key2) ∧ Below W.heap.size W w') (by rintro e w' ⟨h1, rfl⟩; exact ⟨h1, Below.refl _ _⟩)
    match i, hin, ho with
    | 0, hin, ho =>
      obtain rfl := Option.some.inj ho
      have h1 := given_old hg 1 (by decide +kernel)
      clear hg
      exact st_yield ho (wanted_none rfl) (.pointer (some ⟨g, 0, none⟩)) w6 (by simp [execOp, Act.eval, h1, go_sem]) ⟨_, rfl, Below.refl _ _, by rintro t' ⟨⟩; rfl⟩
    | 1, hin, ho =>
      obtain rfl := Option.some.inj ho
      obtain ⟨_, h3, rfl⟩ := given_fed hg 3 (by decide +kernel)
      clear hg
      exact st_yield ho (wanted_none rfl) (.string key) w6 (by simp [execOp, Act.eval, h3, go_sem, x0]) ⟨_, rfl, Below.refl _ _, by rintro t' ⟨⟩; rfl⟩
    | 2, hin, ho =>
      obtain rfl := Option.some.inj ho
      obtain ⟨_, h4, rfl⟩ := given_fed hg 4 (by decide +kernel)
      clear hg
      exact st_enter (w1 := w6) ho (wanted_none rfl) 23 #[.string key, .int .i64 20] (by simp [execOp, Act.eval, h4, resolve, go_sem]) ((D1 _).mono (by rintro e w7 ⟨rfl, hb7⟩; exact ⟨_, rfl, _, rfl, hb7, by rintro t' ⟨⟩; rfl⟩))
    | 3, hin, ho =>
      obtain rfl := Option.some.inj ho
      have h1 := given_old hg 1 (by decide +kernel)
      clear hg
      exact st_yield ho (wanted_none rfl) (.pointer (some ⟨g, 2, none⟩)) w6 (by simp [execOp, Act.eval, h1, go_sem]) ⟨_, rfl, Below.refl _ _, by rintro t' ⟨⟩; rfl⟩
    | 4, hin, ho =>
      obtain rfl := Option.some.inj ho
      obtain ⟨_, h6, rfl⟩ := given_fed hg 6 (by decide +kernel)
      clear hg
      exact st_yield ho (wanted_none rfl) (.agg #[.int .i64 k, .int .i64 n, .string s]) w6 (by simp [execOp, Act.eval, h6, go_sem, x2, x3, x4]) ⟨_, rfl, Below.refl _ _, by rintro t' ⟨⟩; rfl⟩
    | 5, hin, ho =>
      obtain rfl := Option.some.inj ho
      obtain ⟨_, h7, rfl⟩ := given_fed hg 7 (by decide +kernel)
      clear hg
      exact st_enter (w1 := w6) ho (wanted_none rfl) 24 #[.agg #[.int .i64 k, .int .i64 n, .string s]] (by simp [execOp, Act.eval, h7, resolve, go_sem]) ((C2.out _).mono (by rintro e w7 ⟨rfl, hb7⟩; exact ⟨_, rfl, _, rfl, hb7, by rintro t' ⟨⟩; rfl⟩))
    | 6, hin, ho =>
      obtain rfl := Option.some.inj ho
      have h1 := given_old hg 1 (by decide +kernel)
      clear hg
      exact st_yield ho (wanted_none rfl) (.pointer (some ⟨g, 0, none⟩)) w6 (by simp [execOp, Act.eval, h1, go_sem]) ⟨_, rfl, Below.refl _ _, by rintro t' ⟨⟩; rfl⟩
    | n + 7, hin, ho => omega
  · intro f w6 hb6 hv
    have h3 := hv 3 (by decide); have h4 := hv 4 (by decide); have h5 := hv 5 (by decide); have h6 := hv 6 (by decide); have h7 := hv 7 (by decide); have h8 := hv 8 (by decide); have h9 := hv 9 (by decide)
    simp only [VC] at h3 h4 h5 h6 h7 h8 h9
    have hA6 := (hb6.block _ hlt).trans hA
    have hB6 := (hb6.block _ hltB).trans hB
    have hbb6 := hbb.trans (hb6.mono (by have := hbb.size; omega))
    have hset := set_rec w6 g (.string key) (.bool gone) (.int .i64 k) (.int .i64 n) (.string s) (.string key2) (.int .i64 k) (.int .i64 n) (.string s2) _ hA6
    have hS := setRow_heap w6 g _ #[.string key2, .bool gone, .int .i64 k, .int .i64 n, .string s2] _ (0, 0) hA6
    have hset : (w6.setCell ⟨g, 0, none⟩ (.string key2)).setCells g 2 (#[.int .i64 k, .int .i64 n, .string s2] : Array Value).toList = w6.setRow g #[.string key2, .bool gone, .int .i64 k, .int .i64 n, .string s2] := hset
    have x0 := cell_of_row w6 g 0 _ _ _ hA6
    simp only [List.getElem?_toArray, List.getElem?_cons_zero] at x0
    have f0 : w6.frozen? ⟨g, 0, none⟩ = false := frozen_of_row w6 g 0 _ _ hA6
    have hth : (w6.setCell ⟨g, 0, none⟩ (.string key2)).there g 2 (#[.int .i64 k, .int .i64 n, .string s2] : Array Value).size := there_row _ g _ _ (by rw [setCell_eq_setRow w6 g 0 _ _ (0, 0) _ hA6]; exact setRow_heap w6 g _ _ _ (0, 0) hA6) 2 3 (by simp)
    have hBS := (setRow_other w6 g gB #[.string key2, .bool gone, .int .i64 k, .int .i64 n, .string s2] (by omega)).trans hB6
    have hbS := below_setRow hbb6 (by omega : g ≤ g) #[.string key2, .bool gone, .int .i64 k, .int .i64 n, .string s2]
    have HBS := Go.Lib.hid hBS
    have Hset := Go.Lib.hid hset
    have hfin := setRow_heap (w6.setRow g #[.string key2, .bool gone, .int .i64 k, .int .i64 n, .string s2]) gB _ #[.string key2, .bool gone, .int .i64 k, .int .i64 n, .string s2] _ (0, 0) hBS
    have hbF := below_setRow hbS (by omega : g ≤ gB) #[.string key2, .bool gone, .int .i64 k, .int .i64 n, .string s2]
    have Hfin := Go.Lib.hid hfin
    have Hth := Go.Lib.hid hth
    have hR : (w6.setRow g #[.string key2, .bool gone, .int .i64 k, .int .i64 n, .string s2]).rangeAt g 0 [.string key2, .bool gone, .int .i64 k, .int .i64 n, .string s2] := by simpa using World.rangeAt_of_block hS 0 5
    have HS := Go.Lib.hid hR
    clear hR hfin hBS hset hth hA6 hB6 hA hB hS hlt hltB
    unfold putAll
    simp only [List.foldl, List.drop]
    simp only [h3, h4, h5, h6, h7, h8, h9]
    go_simp
    go_wp2_with (first
      | (with_reducible show wpList _ _ _ (⟨none, Op.store 23 (.tmp 10) (.tmp 8), _, _, _, _⟩ :: _) _ _; go_loud (refine wpList_store_mid rfl 23 (.tmp 10) (.tmp 8) rfl g 2 #[.int .i64 k, .int .i64 n, .string s2] rfl rfl Hth.out (by kernel_rfl) (raw_cells_one ..) ?_); rw [Hset.out])
      | (with_reducible show wpList _ _ _ (⟨some 11, Op.load 25 (.tmp 1), _, _, _, _⟩ :: _) _ _; go_loud (refine wpList_load_mid rfl 25 (.tmp 1) rfl g 0 rfl [.string key2, .bool gone, .int .i64 k, .int .i64 n, .string s2] _ HS.out Try.underlying25 rfl (by kernel_rfl) ?_))
      | (with_reducible show wpList _ _ _ (⟨none, Op.store 25 (.tmp 2) (.tmp 11), _, _, _, _⟩ :: _) _ _; go_loud (refine wpList_store_row rfl 25 (.tmp 2) (.tmp 11) rfl gB #[.string key2, .bool gone, .int .i64 k, .int .i64 n, .string s2] rfl rfl 25 _ HBS.out (by kernel_rfl) rfl (rec_cells_one ..) ?_))
      | fail)
    refine bodyPost_ret (results_cell_row rfl _ _ gB 25 #[.string key2, .bool gone, .int .i64 k, .int .i64 n, .string s2] (0, 0) _ rfl Hfin.out Try.underlying25 rfl (by kernel_rfl)) rfl ?_
    exact ⟨rfl, hbF⟩

end Go.Proofs.Ytafpbhkddodjoaa

namespace Go.Proofs.Ytafpbhkddodjoaa
open Go.RowKit
open Go.Lib (uvarint zigzag)

def rr (r : RdT) : Value := .tuple #[recV (str r.1.1) r.1.2.1 r.1.2.2.1 r.1.2.2.2.1 (str r.1.2.2.2.2), .int .i64 (r.2.1 : Int), .int .i64 r.2.2]

/-- What Read answers, in a cell of its own. -/
theorem ret_rr_at {w w0 : World} {tmps : Array Value} {key : ByteArray} {gone : Bool} {k n : Int} {s : ByteArray} {m : Nat} {e : Int} {g : Nat} {fr : Nat × Nat} {r : RdT}
    (hp : tmps.getD 2 undef = .pointer (some ⟨g, 0, none⟩)) (hg : w.heap[g]? = some (.cells #[.string key, .bool gone, .int .i64 k, .int .i64 n, .string s] 25 fr)) (h3 : tmps.getD 3 undef = .int .i64 (m : Int)) (h4 : tmps.getD 4 undef = .int .i64 e)
    (hr : r = ((bl key, gone, k, n, bl s), m, e)) (hb : Below w0.heap.size w0 w) : bodyPost Try.prog Try.f39 (fun e w' => e = .returned (rr r) ∧ Below w0.heap.size w0 w') Exit.ret { tmps := tmps, defers := [] } w := by
  subst hr
  have h := results_row_two (P := Try.prog) (fn := Try.f39) (p := 2) (u := 3) (v := 4) (ty := 25) rfl tmps w g 25 #[.string key, .bool gone, .int .i64 k, .int .i64 n, .string s] fr _ hp hg Try.underlying25 rfl (by kernel_rfl)
  rw [h3, h4] at h
  refine bodyPost_ret h rfl ⟨?_, hb⟩
  unfold rr recV
  rw [str_bl, str_bl]

set_option maxHeartbeats 2000000 in
set_option maxRecDepth 100000 in
theorem rread_c (v : Value) (l : List UInt8) (w : World) (hv : RB w v l) :
    Calls Try.prog 39 #[v] w fun e w' => e = .returned (rr (readB l)) ∧ Below w.heap.size w w' := by
  have hrb := hv
  obtain ⟨a, cap, rfl, h1, h2, h3, h4⟩ := hv
  have hm : l.length ≤ 9223372036854775807 := by unfold maxLen at h2; omega
  clear h4 h3 h1 h2
  have hfit := textB_fits l
  have c1 := fun W (h : RB W (.slice a l.length cap) l) => rgetText_c (.slice a l.length cap) l W h
  rcases hr : textB l with ⟨key, p, er⟩
  rw [hr] at hfit c1
  unfold tv at c1
  simp only [] at hfit c1
  obtain ⟨f1, f2, f3, f4⟩ := hfit
  have C1 := Go.Lib.hid c1; clear c1
  have Hr := Go.Lib.hid hr; clear hr
  have hR1 := Go.Lib.hid fun o => hrb.below (below_one w o)
  have hnew := Go.Lib.hid fun o => heap_alloc_new w o
  by_cases he : er = 0
  · subst he
    clear f4
    have C2 := Go.Lib.hid fun W => rmay_c (str key) W (by rw [str_size]; unfold maxLen; omega)
    cases hmk : mayK (str key) with
    | false =>
      rw [hmk] at C2
      have hv := Go.Lib.hid (readB_e2 Hr.out hmk)
      clear hmk f1 f2 f3
      go_enter Try.func39, Try.ntmps39
      go_wp2_with fail
      refine (C1.out _ (hR1.out _)).mono ?_
      rintro e w1 ⟨rfl, rfl⟩
      go_wp2_with fail
      refine (C2.out _).mono ?_
      rintro e w1 ⟨rfl, rfl⟩
      go_wp2_with fail
      exact ret_rr_at (m := 0) rfl (hnew.out _) rfl rfl hv.out (below_one _ _)
    | true =>
      rw [hmk] at C2
      have Hmk := Go.Lib.hid hmk; clear hmk
      have hfit2 := getB_fits (l.drop p)
      have c3 := fun v' W (h : RB W v' (l.drop p)) => rget_c v' (l.drop p) W h
      rcases hr2 : getB (l.drop p) with ⟨x, m, e2⟩
      rw [hr2] at c3 hfit2
      unfold gv at c3
      simp only [List.length_drop] at c3 hfit2
      obtain ⟨q1, q2, q3, q4, -, q5⟩ := hfit2
      have C3 := Go.Lib.hid c3; clear c3
      have Hr2 := Go.Lib.hid hr2; clear hr2
      by_cases he2 : e2 = 0
      · subst he2
        clear q4
        by_cases hx : x = 0
        · subst hx
          have hv := Go.Lib.hid (readB_gone Hr.out Hmk.out Hr2.out)
          clear q1 q2 q3 f3
          go_enter Try.func39, Try.ntmps39
          go_wp2_with fail
          refine (C1.out _ (hR1.out _)).mono ?_
          rintro e w1 ⟨rfl, rfl⟩
          go_wp2_with fail
          refine (C2.out _).mono ?_
          rintro e w1 ⟨rfl, rfl⟩
          go_wp2_with (first
            | (with_reducible show wpList _ _ _ (⟨some 28, _, _, _, _, _⟩ :: _) _ _; go_loud (refine wpList_slice_l rfl (.tmp 26) (.tmp 27) 26 rfl 5 Try.underlying26 info8 (.slice a l.length cap) l .i64 _ p rfl rfl rfl (hR1.out _) f1 ?_); intro v3 hv3)
            | fail)
          refine (C3.out _ _ hv3).mono ?_
          rintro e w1 ⟨rfl, rfl⟩
          go_wp2_with fail
          refine ret_rr_at (m := p + m) rfl (hnew.out _) rfl rfl ?_ (below_one _ _)
          rw [hv.out, bl_str]
          rfl
        · have hxb : (x == 0) = false := by simp [hx]
          have hfv := valB_fits (l.drop p)
          have c4 := fun v' W (h : RB W v' (l.drop p)) => rgetVal_c v' (l.drop p) W h
          rcases hr3 : valB (l.drop p) with ⟨⟨vk, vn, vs⟩, q, e3⟩
          rw [hr3] at c4 hfv
          unfold vv rawV at c4
          simp only [List.length_drop] at c4 hfv
          obtain ⟨u1, u2, u3, -⟩ := hfv
          have C4 := Go.Lib.hid c4; clear c4
          have Hr3 := Go.Lib.hid hr3; clear hr3
          have Hx := Go.Lib.hid hx; clear hx
          clear q3 q5 q1 q2 f3
          by_cases he3 : e3 = 0
          · subst he3
            have hv := Go.Lib.hid (readB_ok Hr.out Hmk.out Hr2.out Hx.out Hr3.out)
            clear u3
            go_enter Try.func39, Try.ntmps39
            go_wp2_with fail
            refine (C1.out _ (hR1.out _)).mono ?_
            rintro e w1 ⟨rfl, rfl⟩
            go_wp2_with fail
            refine (C2.out _).mono ?_
            rintro e w1 ⟨rfl, rfl⟩
            go_wp2_with (first
              | (with_reducible show wpList _ _ _ (⟨some 28, _, _, _, _, _⟩ :: _) _ _; go_loud (refine wpList_slice_l rfl (.tmp 26) (.tmp 27) 26 rfl 5 Try.underlying26 info8 (.slice a l.length cap) l .i64 _ p rfl rfl rfl (hR1.out _) f1 ?_); intro v3 hv3)
              | fail)
            refine (C3.out _ _ hv3).mono ?_
            rintro e w1 ⟨rfl, rfl⟩
            go_wp2_with (first
              | (with_reducible show wpList _ _ _ (⟨some 47, _, _, _, _, _⟩ :: _) _ _; go_loud (refine wpList_slice_l rfl (.tmp 45) (.tmp 46) 26 rfl 5 Try.underlying26 info8 (.slice a l.length cap) l .i64 _ p rfl rfl rfl (hR1.out _) f1 ?_); intro v4 hv4)
              | fail)
            refine (C4.out _ _ hv4).mono ?_
            rintro e w1 ⟨rfl, hb1⟩
            obtain ⟨hh, -⟩ := rec_box _ _ _ _ _ hb1
            unfold recO at hh
            have hlt := (Array.getElem?_eq_some_iff.1 hh).1
            have hA := (heap_alloc_old w1 (.cells #[.int .i64 vk, .int .i64 vn, .string (str vs)] 23) hlt).trans hh
            have hbb := (below_one w (.cells #[.string ⟨#[]⟩, .bool false, .int .i64 0, .int .i64 0, .string ⟨#[]⟩] 25)).trans (hb1.mono (below_one w _).size)
            have hbb2 := hbb.trans ((below_one w1 (.cells #[.int .i64 vk, .int .i64 vn, .string (str vs)] 23)).mono hbb.size)
            have HA := Go.Lib.hid hA; clear hA hh hb1 hlt
            go_wp2_with (first
              | (with_reducible show wpList _ _ _ (⟨none, Op.store 25 (.tmp 2) (.tmp 58), _, _, _, _⟩ :: _) _ _; go_loud (refine wpList_store_row rfl 25 (.tmp 2) (.tmp 58) rfl w.heap.size #[.string (str key), .bool false, .int .i64 vk, .int .i64 vn, .string (str vs)] rfl rfl 25 _ HA.out (by kernel_rfl) rfl (rec_cells_one ..) ?_))
              | fail)
            refine ret_rr_at (m := p + q) rfl (setRow_heap _ _ _ _ _ (0, 0) HA.out) rfl rfl ?_ (setRow_below _ hbb2 (Nat.le_refl _))
            rw [hv.out, bl_str, bl_str]
          · have hv := Go.Lib.hid (readB_e4 Hr.out Hmk.out Hr2.out Hx.out Hr3.out he3)
            have he3b : (e3 == 0) = false := by simp [he3]
            clear u1 u2 u3 he3
            go_enter Try.func39, Try.ntmps39
            go_wp2_with fail
            refine (C1.out _ (hR1.out _)).mono ?_
            rintro e w1 ⟨rfl, rfl⟩
            go_wp2_with fail
            refine (C2.out _).mono ?_
            rintro e w1 ⟨rfl, rfl⟩
            go_wp2_with (first
              | (with_reducible show wpList _ _ _ (⟨some 28, _, _, _, _, _⟩ :: _) _ _; go_loud (refine wpList_slice_l rfl (.tmp 26) (.tmp 27) 26 rfl 5 Try.underlying26 info8 (.slice a l.length cap) l .i64 _ p rfl rfl rfl (hR1.out _) f1 ?_); intro v3 hv3)
              | fail)
            refine (C3.out _ _ hv3).mono ?_
            rintro e w1 ⟨rfl, rfl⟩
            go_wp2_with (first
              | (with_reducible show wpList _ _ _ (⟨some 47, _, _, _, _, _⟩ :: _) _ _; go_loud (refine wpList_slice_l rfl (.tmp 45) (.tmp 46) 26 rfl 5 Try.underlying26 info8 (.slice a l.length cap) l .i64 _ p rfl rfl rfl (hR1.out _) f1 ?_); intro v4 hv4)
              | fail)
            refine (C4.out _ _ hv4).mono ?_
            rintro e w1 ⟨rfl, hb1⟩
            obtain ⟨hh, -⟩ := rec_box _ _ _ _ _ hb1
            unfold recO at hh
            have hlt := (Array.getElem?_eq_some_iff.1 hh).1
            have hA := (heap_alloc_old w1 (.cells #[.int .i64 vk, .int .i64 vn, .string (str vs)] 23) hlt).trans hh
            have hbb := (below_one w (.cells #[.string ⟨#[]⟩, .bool false, .int .i64 0, .int .i64 0, .string ⟨#[]⟩] 25)).trans (hb1.mono (below_one w _).size)
            have hbb2 := hbb.trans ((below_one w1 (.cells #[.int .i64 vk, .int .i64 vn, .string (str vs)] 23)).mono hbb.size)
            have HA := Go.Lib.hid hA; clear hA hh hb1 hlt
            go_wp2_with (first
              | (with_reducible show wpList _ _ _ (⟨none, Op.store 25 (.tmp 2) (.tmp 54), _, _, _, _⟩ :: _) _ _; go_loud (refine wpList_store_row rfl 25 (.tmp 2) (.tmp 54) rfl w.heap.size #[.string ⟨#[]⟩, .bool false, .int .i64 0, .int .i64 0, .string ⟨#[]⟩] rfl rfl 25 _ HA.out (by kernel_rfl) rfl (rec_cells_one ..) ?_))
              | fail)
            exact ret_rr_at (m := 0) rfl (setRow_heap _ _ _ _ _ (0, 0) HA.out) rfl rfl hv.out (setRow_below _ hbb2 (Nat.le_refl _))
      · have hv := Go.Lib.hid (readB_e3 Hr.out Hmk.out Hr2.out he2)
        have he2b : (e2 == 0) = false := by simp [he2]
        clear q1 q2 q3 f3 he2
        go_enter Try.func39, Try.ntmps39
        go_wp2_with fail
        refine (C1.out _ (hR1.out _)).mono ?_
        rintro e w1 ⟨rfl, rfl⟩
        go_wp2_with fail
        refine (C2.out _).mono ?_
        rintro e w1 ⟨rfl, rfl⟩
        go_wp2_with (first
          | (with_reducible show wpList _ _ _ (⟨some 28, _, _, _, _, _⟩ :: _) _ _; go_loud (refine wpList_slice_l rfl (.tmp 26) (.tmp 27) 26 rfl 5 Try.underlying26 info8 (.slice a l.length cap) l .i64 _ p rfl rfl rfl (hR1.out _) f1 ?_); intro v3 hv3)
          | fail)
        refine (C3.out _ _ hv3).mono ?_
        rintro e w1 ⟨rfl, rfl⟩
        go_wp2_with fail
        exact ret_rr_at (m := 0) rfl (hnew.out _) rfl rfl hv.out (below_one _ _)
  · have hv := Go.Lib.hid (readB_e1 Hr.out he)
    have heb : (er == 0) = false := by simp [he]
    clear f1 f2 f3 he
    go_enter Try.func39, Try.ntmps39
    go_wp2_with fail
    refine (C1.out _ (hR1.out _)).mono ?_
    rintro e w1 ⟨rfl, rfl⟩
    go_wp2_with fail
    exact ret_rr_at (m := 0) rfl (hnew.out _) rfl rfl hv.out (below_one _ _)

end Go.Proofs.Ytafpbhkddodjoaa

namespace Go.Proofs.Ytafpbhkddodjoaa
open Go.RowKit

/-- What stands behind the kind. -/
def goR (k : Int) (l : List UInt8) : (Int × Int × List UInt8) × Nat × Int :=
  if k = 1 then ((1, (getB l).1, []), (getB l).2.1, (getB l).2.2) else if k = 2 then ((2, 0, (textB l).1), (textB l).2.1, (textB l).2.2) else ((0, 0, []), 0, 1)

theorem valB_go (l : List UInt8) (k : Int) (p : Nat) (h : getB l = (k, p, 0)) (r : Int × Int × List UInt8) (m : Nat) (e : Int) (g : goR k (l.drop p) = (r, m, e)) :
    valB l = if e = 0 then (if mayR r.1 r.2.1 (str r.2.2) then (r, p + m, 0) else ((0, 0, []), 0, 1)) else ((0, 0, []), 0, e) := by
  unfold goR at g
  split at g
  · rename_i hk
    subst hk
    rw [valB_num l p _ _ _ h rfl]
    simp only [Prod.mk.injEq] at g
    obtain ⟨rfl, rfl, rfl⟩ := g
    have : ∀ n, mayR 1 n (str []) = true := fun n => by unfold mayR; simp [str]
    simp only [this, if_true]
    rfl
  · split at g
    · rename_i hk
      subst hk
      rw [valB_text l _ p _ _ h rfl]
      simp only [Prod.mk.injEq] at g
      obtain ⟨rfl, rfl, rfl⟩ := g
      rfl
    · rename_i h1 h2
      rw [valB_else l k p h h1 h2]
      simp only [Prod.mk.injEq] at g
      obtain ⟨rfl, rfl, rfl⟩ := g
      simp

theorem goR_small {k : Int} {l : List UInt8} {r : Int × Int × List UInt8} {m : Nat} {e : Int} (h : goR k l = (r, m, e)) (he : e = 0) : r.2.2.length ≤ 65536 ∧ m ≤ 70000 := by
  unfold goR at h
  split at h
  · have := getB_fits l
    simp only [Prod.mk.injEq] at h
    obtain ⟨rfl, rfl, rfl⟩ := h
    simp
    omega
  · split at h
    · simp only [Prod.mk.injEq] at h
      obtain ⟨rfl, rfl, rfl⟩ := h
      exact textB_small (l := l) rfl he
    · simp only [Prod.mk.injEq] at h
      obtain ⟨rfl, rfl, rfl⟩ := h
      simp

theorem ret_gof_at {w w0 : World} {tmps : Array Value} {k n : Int} {s : ByteArray} {m : Nat} {e : Int} {g : Nat} {fr : Nat × Nat} {r : (Int × Int × List UInt8) × Nat × Int}
    (hp : tmps.getD 4 undef = .pointer (some ⟨g, 0, none⟩)) (hg : w.heap[g]? = some (.cells #[.int .i64 k, .int .i64 n, .string s] 23 fr)) (h3 : tmps.getD 5 undef = .int .i64 (m : Int)) (h4 : tmps.getD 6 undef = .int .i64 e)
    (hr : ((k, n, bl s), m, e) = r) (hb : Below w0.heap.size w0 w) : bodyPost Try.prog Try.f62 (fun e w' => e = .returned (vv r) ∧ Below w0.heap.size w0 w') Exit.ret { tmps := tmps, defers := [] } w := by
  subst hr
  have h := results_row_two (P := Try.prog) (fn := Try.f62) (p := 4) (u := 5) (v := 6) (ty := 23) rfl tmps w g 23 #[.int .i64 k, .int .i64 n, .string s] fr _ hp hg Try.underlying23 rfl (by kernel_rfl)
  rw [h3, h4] at h
  refine bodyPost_ret h rfl ⟨?_, hb⟩
  unfold vv rawV
  rw [str_bl]

theorem ret_vget_at {w w0 : World} {tmps : Array Value} {k n : Int} {s : ByteArray} {m : Nat} {e : Int} {g : Nat} {fr : Nat × Nat} {r : (Int × Int × List UInt8) × Nat × Int}
    (hp : tmps.getD 2 undef = .pointer (some ⟨g, 0, none⟩)) (hg : w.heap[g]? = some (.cells #[.int .i64 k, .int .i64 n, .string s] 23 fr)) (h3 : tmps.getD 3 undef = .int .i64 (m : Int)) (h4 : tmps.getD 4 undef = .int .i64 e)
    (hr : ((k, n, bl s), m, e) = r) (hb : Below w0.heap.size w0 w) : bodyPost Try.prog Try.f49 (fun e w' => e = .returned (vv r) ∧ Below w0.heap.size w0 w') Exit.ret { tmps := tmps, defers := [] } w := by
  subst hr
  have h := results_row_two (P := Try.prog) (fn := Try.f49) (p := 2) (u := 3) (v := 4) (ty := 23) rfl tmps w g 23 #[.int .i64 k, .int .i64 n, .string s] fr _ hp hg Try.underlying23 rfl (by kernel_rfl)
  rw [h3, h4] at h
  refine bodyPost_ret h rfl ⟨?_, hb⟩
  unfold vv rawV
  rw [str_bl]

set_option maxRecDepth 100000 in
theorem getOf_c (k : Int) (v : Value) (l : List UInt8) (w : World) (hv : RB w v l) :
    Calls Try.prog 62 #[.int .i64 k, v] w fun e w' => e = .returned (vv (goR k l)) ∧ Below w.heap.size w w' := by
  have hrb := hv
  obtain ⟨a, cap, rfl, -⟩ := hv
  have hR1 := Go.Lib.hid (hrb.below (below_one w (.cells #[.int .i64 0, .int .i64 0, .string ⟨#[]⟩] 23)))
  clear hrb
  by_cases h1 : k = 1
  · subst h1
    have C := Go.Lib.hid fun W h => get_c (.slice a l.length cap) l W h
    have hr : Hid (((1, (getB l).1, bl ⟨#[]⟩), (getB l).2.1, (getB l).2.2) = goR 1 l) := rfl
    unfold gv at C
    generalize (getB l).1 = n at *
    generalize (getB l).2.1 = p at *
    generalize (getB l).2.2 = er at *
    go_enter Try.func62, Try.ntmps62
    go_wp2_with fail
    refine (C.out _ hR1.out).mono ?_
    rintro e w1 ⟨rfl, rfl⟩
    go_wp2_with fail
    exact ret_gof_at rfl (heap_alloc_new ..) rfl rfl hr.out (below_one ..)
  · by_cases h2 : k = 2
    · subst h2
      have C := Go.Lib.hid fun W h => getText_c (.slice a l.length cap) l W h
      have hr : Hid (((2, 0, bl (str (textB l).1)), (textB l).2.1, (textB l).2.2) = goR 2 l) := by unfold Hid; rw [bl_str]; rfl
      unfold tv at C
      generalize str (textB l).1 = s at *
      generalize (textB l).2.1 = p at *
      generalize (textB l).2.2 = er at *
      go_enter Try.func62, Try.ntmps62
      go_wp2_with fail
      refine (C.out _ hR1.out).mono ?_
      rintro e w1 ⟨rfl, rfl⟩
      go_wp2_with fail
      exact ret_gof_at rfl (heap_alloc_new ..) rfl rfl hr.out (below_one ..)
    · have h1' : (k == 1) = false := by simp [h1]
      have h2' : (k == 2) = false := by simp [h2]
      have hr : Hid (((0, 0, bl ⟨#[]⟩), 0, 1) = goR k l) := by unfold Hid goR; rw [if_neg h1, if_neg h2]; rfl
      go_enter Try.func62, Try.ntmps62
      go_wp2_with fail
      exact ret_gof_at (m := 0) rfl (heap_alloc_new ..) rfl rfl hr.out (below_one ..)

set_option maxHeartbeats 2000000 in
set_option maxRecDepth 100000 in
theorem vget_c (v : Value) (l : List UInt8) (w : World) (hv : RB w v l) :
    Calls Try.prog 49 #[v] w fun e w' => e = .returned (vv (valB l)) ∧ Below w.heap.size w w' := by
  have hrb := hv
  obtain ⟨a, cap, rfl, h1, h2, h3, h4⟩ := hv
  have hm : l.length ≤ 9223372036854775807 := by unfold maxLen at h2; omega
  clear h4 h3 h1 h2
  have hfit := getB_fits l
  have c1 := fun W (h : RB W (.slice a l.length cap) l) => get_c (.slice a l.length cap) l W h
  rcases hr : getB l with ⟨k, p, er⟩
  rw [hr] at hfit c1
  unfold gv at c1
  simp only [] at hfit c1
  obtain ⟨f1, f2, f3, f4, f5, f6⟩ := hfit
  have C1 := Go.Lib.hid c1; clear c1
  have Hr := Go.Lib.hid hr; clear hr
  have hR1 := Go.Lib.hid (hrb.below (below_one w (.cells #[.int .i64 0, .int .i64 0, .string ⟨#[]⟩] 23)))
  clear hrb
  by_cases he : er = 0
  · subst he
    rcases hg : goR k (l.drop p) with ⟨⟨k1, n1, s1⟩, m, e⟩
    have hsm := Go.Lib.hid (goR_small hg)
    have hv := Go.Lib.hid (valB_go l k p Hr.out (k1, n1, s1) m e hg)
    have C2 := fun v' W (h : RB W v' (l.drop p)) => getOf_c k v' (l.drop p) W h
    rw [hg] at C2
    unfold vv rawV at C2
    simp only [] at C2
    have C2 := Go.Lib.hid C2
    clear hg f4 f5
    by_cases he : e = 0
    · subst he
      obtain ⟨hs1, hm1⟩ := hsm.out rfl
      have C3 := fun W => vof_c k1 n1 (str s1) W
      unfold ofV rawV VI.val at C3
      have hv2 := hv.out
      rw [if_pos rfl] at hv2
      have hv3 : Hid (valB l = if mayR k1 n1 (str s1) = true then ((k1, n1, bl (str s1)), p + m, 0) else ((0, 0, bl ⟨#[]⟩), 0, 1)) := by unfold Hid; rw [bl_str]; exact hv2
      clear hv2 hv hsm hs1
      generalize hmay : mayR k1 n1 (str s1) = may at C3 hv3
      generalize ofR k1 n1 (str s1) = x at C3
      have hst := store_vi x
      generalize str s1 = q at *
      obtain ⟨e3, he3⟩ : ∃ e3 : Int, (if may = true then (0 : Int) else 1) = e3 := ⟨_, rfl⟩
      rw [he3] at C3
      have he3 := Go.Lib.hid he3
      have C3 := Go.Lib.hid C3
      clear hmay f1 f2
      have hpm : IntKind.i64.wrap ((p : Int) + (m : Int)) = ((p + m : Nat) : Int) := by rw [IntKind.wrap_i64]; omega
      have Hpm := Go.Lib.hid hpm; clear hpm
      go_enter Try.func49, Try.ntmps49
      go_wp2_with fail
      refine (C1.out _ hR1.out).mono ?_
      rintro e w1 ⟨rfl, rfl⟩
      go_wp2_with (first
        | (with_reducible show wpList _ _ _ (⟨some 26, _, _, _, _, _⟩ :: _) _ _; go_loud (refine wpList_slice_l rfl (.tmp 24) (.tmp 25) 26 rfl 5 Try.underlying26 info8 (.slice a l.length cap) l .i64 _ p rfl rfl rfl hR1.out f3 ?_); intro v3 hv3)
        | fail)
      refine (C2.out _ _ hv3).mono ?_
      rintro e w2 ⟨rfl, hb2⟩
      have hlt0 := (Array.getElem?_eq_some_iff.1 (heap_alloc_new w (.cells #[.int .i64 0, .int .i64 0, .string ⟨#[]⟩] 23))).1
      have hA := (hb2.block _ hlt0).trans (heap_alloc_new w _)
      have hbb2 := (below_one w (.cells #[.int .i64 0, .int .i64 0, .string ⟨#[]⟩] 23)).trans (hb2.mono (below_one w _).size)
      clear hb2 hlt0 hv3 hR1 C1 C2
      have HA := Go.Lib.hid hA; clear hA
      have Hb2 := Go.Lib.hid hbb2; clear hbb2
      go_wp2_with fail
      refine (C3.out _).mono ?_
      rintro e w3 ⟨rfl, hb3⟩
      have hltA : w.heap.size < w2.heap.size := (Array.getElem?_eq_some_iff.1 HA.out).1
      have hB := heap_alloc_new w2 (.cells #[.int .i64 k1, .int .i64 n1, .string q] 23)
      have hltB := (Array.getElem?_eq_some_iff.1 hB).1
      have hA3 := (hb3.block w.heap.size (by omega)).trans ((_root_.Go.heap_alloc_old w2 _ hltA).trans HA.out)
      have hB3 := (hb3.block _ hltB).trans hB
      have hbb3 := (Hb2.out.trans ((below_one w2 (.cells #[.int .i64 k1, .int .i64 n1, .string q] 23)).mono Hb2.out.size)).trans (hb3.mono (Nat.le_trans Hb2.out.size (below_one w2 _).size))
      have hltA3 := (Array.getElem?_eq_some_iff.1 hA3).1
      have hltB3 := (Array.getElem?_eq_some_iff.1 hB3).1
      have hA4 := Go.Lib.hid ((_root_.Go.heap_alloc_old w3 (.cells #[x.v] 68) hltA3).trans hA3)
      have hB4 := (_root_.Go.heap_alloc_old w3 (.cells #[x.v] 68) hltB3).trans hB3
      have hbb4 := Go.Lib.hid (hbb3.trans ((below_one w3 (.cells #[x.v] 68)).mono hbb3.size))
      have x0 := cell_of_row _ w2.heap.size 0 _ _ _ hB4
      have x1 := cell_of_row _ w2.heap.size 1 _ _ _ hB4
      have x2 := cell_of_row _ w2.heap.size 2 _ _ _ hB4
      simp only [List.getElem?_toArray, List.getElem?_cons_zero, List.getElem?_cons_succ] at x0 x1 x2
      clear hB4 hltA3 hltB3 hbb3 hB3 hA3 hltB hB hltA hb3 HA Hb2 C3
      cases may with
      | true =>
        obtain rfl := he3.out
        rw [if_pos rfl]
        have hv4 := Go.Lib.hid (hv3.out.trans (if_pos rfl)).symm
        clear hv3
        have hpm := Hpm.out
        clear Hpm
        go_wp2_with (first
          | (with_reducible show wpList _ _ _ (⟨none, Op.store 23 (.tmp 2) (.tmp 44), _, _, _, _⟩ :: _) _ _; go_loud (refine wpList_store_row rfl 23 (.tmp 2) (.tmp 44) rfl w.heap.size #[.int .i64 k1, .int .i64 n1, .string q] rfl rfl 23 _ hA4.out (by kernel_rfl) rfl (raw_cells_one ..) ?_))
          | fail)
        refine ret_vget_at (m := p + m) rfl (setRow_heap _ _ _ _ _ (0, 0) hA4.out) rfl rfl hv4.out (setRow_below _ hbb4.out (Nat.le_refl _))
      | false =>
        obtain rfl := he3.out
        rw [if_neg (by decide)]
        have hv4 := Go.Lib.hid (hv3.out.trans (if_neg (by decide))).symm
        clear hv3 Hpm x0 x1 x2
        go_wp2_with (first
          | (with_reducible show wpList _ _ _ (⟨none, Op.store 23 (.tmp 2) (.tmp 42), _, _, _, _⟩ :: _) _ _; go_loud (refine wpList_store_row rfl 23 (.tmp 2) (.tmp 42) rfl w.heap.size #[.int .i64 0, .int .i64 0, .string ⟨#[]⟩] rfl rfl 23 _ hA4.out (by kernel_rfl) rfl (raw_cells_one ..) ?_))
          | fail)
        refine ret_vget_at (m := 0) rfl (setRow_heap _ _ _ _ _ (0, 0) hA4.out) rfl rfl hv4.out (setRow_below _ hbb4.out (Nat.le_refl _))
    · have hv2 := hv.out
      rw [if_neg he] at hv2
      have hv4 := Go.Lib.hid hv2.symm
      have heb : (e == 0) = false := by simp [he]
      clear hv2 hv he hsm f1 f2
      generalize str s1 = q at *
      generalize he1 : e = e1 at *
      clear he1
      go_enter Try.func49, Try.ntmps49
      go_wp2_with fail
      refine (C1.out _ hR1.out).mono ?_
      rintro e w1 ⟨rfl, rfl⟩
      go_wp2_with (first
        | (with_reducible show wpList _ _ _ (⟨some 26, _, _, _, _, _⟩ :: _) _ _; go_loud (refine wpList_slice_l rfl (.tmp 24) (.tmp 25) 26 rfl 5 Try.underlying26 info8 (.slice a l.length cap) l .i64 _ p rfl rfl rfl hR1.out f3 ?_); intro v3 hv3)
        | fail)
      refine (C2.out _ _ hv3).mono ?_
      rintro e w2 ⟨rfl, hb2⟩
      have hlt0 := (Array.getElem?_eq_some_iff.1 (heap_alloc_new w (.cells #[.int .i64 0, .int .i64 0, .string ⟨#[]⟩] 23))).1
      have hA := (hb2.block _ hlt0).trans (heap_alloc_new w _)
      have hbb2 := (below_one w (.cells #[.int .i64 0, .int .i64 0, .string ⟨#[]⟩] 23)).trans (hb2.mono (below_one w _).size)
      clear hb2 hlt0 hv3 hR1 C1 C2
      have hltA := (Array.getElem?_eq_some_iff.1 hA).1
      have hA4 := Go.Lib.hid ((_root_.Go.heap_alloc_old w2 (.cells #[.int .i64 k1, .int .i64 n1, .string q] 23) hltA).trans hA)
      have hbb4 := Go.Lib.hid (hbb2.trans ((below_one w2 (.cells #[.int .i64 k1, .int .i64 n1, .string q] 23)).mono hbb2.size))
      clear hA hbb2 hltA
      go_wp2_with (first
        | (with_reducible show wpList _ _ _ (⟨none, Op.store 23 (.tmp 2) (.tmp 33), _, _, _, _⟩ :: _) _ _; go_loud (refine wpList_store_row rfl 23 (.tmp 2) (.tmp 33) rfl w.heap.size #[.int .i64 0, .int .i64 0, .string ⟨#[]⟩] rfl rfl 23 _ hA4.out (by kernel_rfl) rfl (raw_cells_one ..) ?_))
        | fail)
      refine ret_vget_at (m := 0) rfl (setRow_heap _ _ _ _ _ (0, 0) hA4.out) rfl rfl hv4.out (setRow_below _ hbb4.out (Nat.le_refl _))
  · have hv := Go.Lib.hid (valB_err l k er p Hr.out he).symm
    have heb : (er == 0) = false := by simp [he]
    clear f4 f5 f6 he
    go_enter Try.func49, Try.ntmps49
    go_wp2_with fail
    refine (C1.out _ hR1.out).mono ?_
    rintro e w1 ⟨rfl, rfl⟩
    go_wp2_with fail
    refine ret_vget_at (m := 0) rfl (heap_alloc_new ..) rfl rfl hv.out (below_one ..)

end Go.Proofs.Ytafpbhkddodjoaa
