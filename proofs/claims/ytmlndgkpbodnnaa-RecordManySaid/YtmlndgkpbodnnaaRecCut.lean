/-
  Records: contract of the laws' Cut.
-/
import Derived.Test.YtmlndgkpbodnnaaRecR
import Derived.Test.YtmlndgkpbodnnaaHead
import Derived.Deep.MidRow
import Derived.Deep.DeepCutAuto
namespace Go.Proofs.Ytmlndgkpbodnnaa
open Go.RowKit

theorem set_rec (w : World) (g : Nat) (a b c d e x p q r : Value) (t : TypeId) (hg : w.heap[g]? = some (.cells #[a, b, c, d, e] t (0, 0))) :
    (w.setCell ⟨g, 0, none⟩ x).setCells g 2 [p, q, r] = w.setRow g #[x, b, p, q, r] := by
  rw [setCell_eq_setRow w g 0 _ t (0, 0) x hg]
  have h1 := setRow_heap w g _ (#[a, b, c, d, e].setIfInBounds 0 x) t (0, 0) hg
  simp only [World.setCells]
  rw [setCell_eq_setRow _ g 2 _ t (0, 0) p h1, setRow_setRow]
  have h2 := setRow_heap w g _ ((#[a, b, c, d, e].setIfInBounds 0 x).setIfInBounds 2 p) t (0, 0) hg
  rw [setCell_eq_setRow _ g 3 _ t (0, 0) q h2, setRow_setRow]
  have h3 := setRow_heap w g _ (((#[a, b, c, d, e].setIfInBounds 0 x).setIfInBounds 2 p).setIfInBounds 3 q) t (0, 0) hg
  rw [setCell_eq_setRow _ g 4 _ t (0, 0) r h3, setRow_setRow]
  simp

theorem there_row (w : World) (b : Nat) (C : Array Value) (t : TypeId) (hb : w.heap[b]? = some (.cells C t (0, 0))) (o n : Nat) (h : o + n ≤ C.size) : w.there b o n := fun j hj =>
  ⟨by rw [cell_of_row w b (o + j) C t (0, 0) hb, Array.getElem?_eq_getElem (by omega)]; rfl, frozen_of_row w b (o + j) C t hb⟩
theorem rec_cells_one (key : ByteArray) (gone : Bool) (k n : Int) (s : ByteArray) : (#[.string key, .bool gone, .int .i64 k, .int .i64 n, .string s] : Array Value).all (fun x => x.oneCell') = true := by simp [Value.oneCell']

def VC (g : Nat) (key key2 : ByteArray) (k n : Int) (s s2 : ByteArray) : Nat → World → Value → Prop
  | 3, _, v => v = .pointer (some ⟨g, 0, none⟩)
  | 4, _, v => v = .string key
  | 5, _, v => v = .string key2
  | 6, _, v => v = .pointer (some ⟨g, 2, none⟩)
  | 7, _, v => v = .agg #[.int .i64 k, .int .i64 n, .string s]
  | 9, _, v => v = .pointer (some ⟨g, 0, none⟩)
  | 8, _, v => v = .agg #[.int .i64 k, .int .i64 n, .string s2]
  | _, _, _ => True

theorem VC_below (g : Nat) (key key2 : ByteArray) (k n : Int) (s s2 : ByteArray) : ∀ (i : Nat) (w w' : World) (v : Value), VC g key key2 k n s s2 i w v → Below w.heap.size w w' → VC g key key2 k n s s2 i w' v := by
  intro i w w' v h hb
  unfold VC at h ⊢
  split at h <;> first | exact h | trivial | exact RB.below h hb | exact Own.below h hb

set_option maxHeartbeats 1000000 in
set_option maxRecDepth 100000 in
/-- The laws' 'Cut(r)'. -/
theorem rcut_c (key : ByteArray) (gone : Bool) (k n : Int) (s : ByteArray) (w : World) (hk : key.size ≤ maxLen) (hm : s.size ≤ maxLen) :
    Calls Try.prog 9 #[recV key gone k n s] w fun e w' => e = .returned (recV (str ((bl key).take 20)) gone k n (str ((bl s).take 30))) ∧ Below w.heap.size w w' := by
  unfold recV
  have C1 := Go.Lib.hid fun W => lcut_c key 20 W hk (by omega)
  have C2 := Go.Lib.hid fun W => vcut_c k n s W hm
  unfold rawV at C2
  clear hk hm
  generalize str ((bl key).take 20) = key2 at *
  generalize str ((bl s).take 30) = s2 at *
  go_enter Try.func9, Try.ntmps9
  go_upto_region 1 with (fail)
  have hA := two_first w (.cells #[.string key, .bool gone, .int .i64 k, .int .i64 n, .string s] 25) (.cells #[.string ⟨#[]⟩, .bool false, .int .i64 0, .int .i64 0, .string ⟨#[]⟩] 25)
  have hB := heap_alloc2_new w (.cells #[.string key, .bool gone, .int .i64 k, .int .i64 n, .string s] 25) (.cells #[.string ⟨#[]⟩, .bool false, .int .i64 0, .int .i64 0, .string ⟨#[]⟩] 25)
  have hbb := below_two w (.cells #[.string key, .bool gone, .int .i64 k, .int .i64 n, .string s] 25) (.cells #[.string ⟨#[]⟩, .bool false, .int .i64 0, .int .i64 0, .string ⟨#[]⟩] 25)
  generalize hW : (w.alloc (.cells #[.string key, .bool gone, .int .i64 k, .int .i64 n, .string s] 25)).alloc (.cells #[.string ⟨#[]⟩, .bool false, .int .i64 0, .int .i64 0, .string ⟨#[]⟩] 25) = W at *
  clear hW
  have hlt := (Array.getElem?_eq_some_iff.1 hA).1
  have hltB := (Array.getElem?_eq_some_iff.1 hB).1
  have hgb : w.heap.size ≠ w.heap.size + 1 := by omega
  generalize hg0 : w.heap.size = g at *
  generalize hb0 : g + 1 = gB at *
  refine wp_region_head 7 (by decide) (by kernel_rfl) (VC g key key2 k n s s2) (VC_below g key key2 k n s s2) (by decide +kernel) (by rfl) [3, 4, 5, 6, 7, 8, 9] (by rfl) ?_ ?_
  · intro i o hin ho a w6 hb6 hlen hg
    have hA := (hb6.block _ hlt).trans hA
    have x0 := cell_of_row w6 g 0 _ _ _ hA
    have x2 := cell_of_row w6 g 2 _ _ _ hA
    have x3 := cell_of_row w6 g 3 _ _ _ hA
    have x4 := cell_of_row w6 g 4 _ _ _ hA
    simp only [List.getElem?_toArray, List.getElem?_cons_zero, List.getElem?_cons_succ] at x0 x2 x3 x4
    have D1 := fun W => (C1.out W).mono (R' := fun e w' => e = .returned (.string key2) ∧ Below W.heap.size W w') (by rintro e w' ⟨h1, rfl⟩; exact ⟨h1, Below.refl _ _⟩)
    match i, hin, ho with
    | 0, hin, ho =>
      obtain rfl := Option.some.inj ho
      have h1 := given_old hg 1 (by decide +kernel)
      clear hg
      exact st_yield ho (wanted_none rfl) (.pointer (some ⟨g, 0, none⟩)) w6 (by simp [execOp, Act.eval, h1, go_sem]) ⟨_, rfl, Below.refl _ _, by rintro t' ⟨⟩; rfl⟩
    | 1, hin, ho =>
      obtain rfl := Option.some.inj ho
      obtain ⟨_, h3, rfl⟩ := given_fed hg 3 (by decide +kernel)
      clear hg
      exact st_yield ho (wanted_none rfl) (.string key) w6 (by simp [execOp, Act.eval, h3, go_sem, x0]) ⟨_, rfl, Below.refl _ _, by rintro t' ⟨⟩; rfl⟩
    | 2, hin, ho =>
      obtain rfl := Option.some.inj ho
      obtain ⟨_, h4, rfl⟩ := given_fed hg 4 (by decide +kernel)
      clear hg
      exact st_enter (w1 := w6) ho (wanted_none rfl) 23 #[.string key, .int .i64 20] (by simp [execOp, Act.eval, h4, resolve, go_sem]) ((D1 _).mono (by rintro e w7 ⟨rfl, hb7⟩; exact ⟨_, rfl, _, rfl, hb7, by rintro t' ⟨⟩; rfl⟩))
    | 3, hin, ho =>
      obtain rfl := Option.some.inj ho
      have h1 := given_old hg 1 (by decide +kernel)
      clear hg
      exact st_yield ho (wanted_none rfl) (.pointer (some ⟨g, 2, none⟩)) w6 (by simp [execOp, Act.eval, h1, go_sem]) ⟨_, rfl, Below.refl _ _, by rintro t' ⟨⟩; rfl⟩
    | 4, hin, ho =>
      obtain rfl := Option.some.inj ho
      obtain ⟨_, h6, rfl⟩ := given_fed hg 6 (by decide +kernel)
      clear hg
      exact st_yield ho (wanted_none rfl) (.agg #[.int .i64 k, .int .i64 n, .string s]) w6 (by simp [execOp, Act.eval, h6, go_sem, x2, x3, x4]) ⟨_, rfl, Below.refl _ _, by rintro t' ⟨⟩; rfl⟩
    | 5, hin, ho =>
      obtain rfl := Option.some.inj ho
      obtain ⟨_, h7, rfl⟩ := given_fed hg 7 (by decide +kernel)
      clear hg
      exact st_enter (w1 := w6) ho (wanted_none rfl) 24 #[.agg #[.int .i64 k, .int .i64 n, .string s]] (by simp [execOp, Act.eval, h7, resolve, go_sem]) ((C2.out _).mono (by rintro e w7 ⟨rfl, hb7⟩; exact ⟨_, rfl, _, rfl, hb7, by rintro t' ⟨⟩; rfl⟩))
    | 6, hin, ho =>
      obtain rfl := Option.some.inj ho
      have h1 := given_old hg 1 (by decide +kernel)
      clear hg
      exact st_yield ho (wanted_none rfl) (.pointer (some ⟨g, 0, none⟩)) w6 (by simp [execOp, Act.eval, h1, go_sem]) ⟨_, rfl, Below.refl _ _, by rintro t' ⟨⟩; rfl⟩
    | n + 7, hin, ho => omega
  · intro f w6 hb6 hv
    have h3 := hv 3 (by decide); have h4 := hv 4 (by decide); have h5 := hv 5 (by decide); have h6 := hv 6 (by decide); have h7 := hv 7 (by decide); have h8 := hv 8 (by decide); have h9 := hv 9 (by decide)
    simp only [VC] at h3 h4 h5 h6 h7 h8 h9
    have hA6 := (hb6.block _ hlt).trans hA
    have hB6 := (hb6.block _ hltB).trans hB
    have hbb6 := hbb.trans (hb6.mono (by have := hbb.size; omega))
    have hset := set_rec w6 g (.string key) (.bool gone) (.int .i64 k) (.int .i64 n) (.string s) (.string key2) (.int .i64 k) (.int .i64 n) (.string s2) _ hA6
    have hS := setRow_heap w6 g _ #[.string key2, .bool gone, .int .i64 k, .int .i64 n, .string s2] _ (0, 0) hA6
    have hset : (w6.setCell ⟨g, 0, none⟩ (.string key2)).setCells g 2 (#[.int .i64 k, .int .i64 n, .string s2] : Array Value).toList = w6.setRow g #[.string key2, .bool gone, .int .i64 k, .int .i64 n, .string s2] := hset
    have x0 := cell_of_row w6 g 0 _ _ _ hA6
    simp only [List.getElem?_toArray, List.getElem?_cons_zero] at x0
    have f0 : w6.frozen? ⟨g, 0, none⟩ = false := frozen_of_row w6 g 0 _ _ hA6
    have hth : (w6.setCell ⟨g, 0, none⟩ (.string key2)).there g 2 (#[.int .i64 k, .int .i64 n, .string s2] : Array Value).size := there_row _ g _ _ (by rw [setCell_eq_setRow w6 g 0 _ _ (0, 0) _ hA6]; exact setRow_heap w6 g _ _ _ (0, 0) hA6) 2 3 (by simp)
    have hBS := (setRow_other w6 g gB #[.string key2, .bool gone, .int .i64 k, .int .i64 n, .string s2] (by omega)).trans hB6
    have hbS := below_setRow hbb6 (by omega : g ≤ g) #[.string key2, .bool gone, .int .i64 k, .int .i64 n, .string s2]
    have HBS := Go.Lib.hid hBS
    have Hset := Go.Lib.hid hset
    have hfin := setRow_heap (w6.setRow g #[.string key2, .bool gone, .int .i64 k, .int .i64 n, .string s2]) gB _ #[.string key2, .bool gone, .int .i64 k, .int .i64 n, .string s2] _ (0, 0) hBS
    have hbF := below_setRow hbS (by omega : g ≤ gB) #[.string key2, .bool gone, .int .i64 k, .int .i64 n, .string s2]
    have Hfin := Go.Lib.hid hfin
    have Hth := Go.Lib.hid hth
    have hR : (w6.setRow g #[.string key2, .bool gone, .int .i64 k, .int .i64 n, .string s2]).rangeAt g 0 [.string key2, .bool gone, .int .i64 k, .int .i64 n, .string s2] := by simpa using World.rangeAt_of_block hS 0 5
    have HS := Go.Lib.hid hR
    clear hR hfin hBS hset hth hA6 hB6 hA hB hS hlt hltB
    unfold putAll
    simp only [List.foldl, List.drop]
    simp only [h3, h4, h5, h6, h7, h8, h9]
    go_simp
    go_wp2_with (first
      | (with_reducible show wpList _ _ _ (⟨none, Op.store 23 (.tmp 10) (.tmp 8), _, _, _, _⟩ :: _) _ _; go_loud (refine wpList_store_mid rfl 23 (.tmp 10) (.tmp 8) rfl g 2 #[.int .i64 k, .int .i64 n, .string s2] rfl rfl Hth.out (by kernel_rfl) (raw_cells_one ..) ?_); rw [Hset.out])
      | (with_reducible show wpList _ _ _ (⟨some 11, Op.load 25 (.tmp 1), _, _, _, _⟩ :: _) _ _; go_loud (refine wpList_load_mid rfl 25 (.tmp 1) rfl g 0 rfl [.string key2, .bool gone, .int .i64 k, .int .i64 n, .string s2] _ HS.out Try.underlying25 rfl (by kernel_rfl) ?_))
      | (with_reducible show wpList _ _ _ (⟨none, Op.store 25 (.tmp 2) (.tmp 11), _, _, _, _⟩ :: _) _ _; go_loud (refine wpList_store_row rfl 25 (.tmp 2) (.tmp 11) rfl gB #[.string key2, .bool gone, .int .i64 k, .int .i64 n, .string s2] rfl rfl 25 _ HBS.out (by kernel_rfl) rfl (rec_cells_one ..) ?_))
      | fail)
    refine bodyPost_ret (results_cell_row rfl _ _ gB 25 #[.string key2, .bool gone, .int .i64 k, .int .i64 n, .string s2] (0, 0) _ rfl Hfin.out Try.underlying25 rfl (by kernel_rfl)) rfl ?_
    exact ⟨rfl, hbF⟩

end Go.Proofs.Ytmlndgkpbodnnaa
