/-
  Package record: contracts of valMay, May, Eq.
  Records: contract of the laws' Cut.
  Package record: contract of fresh.
-/
import Derived.Test.YtkddleonmkhaiaaGreatM07
import Derived.Test.YtkddleonmkhaiaaGreatM21
import Derived.Test.YtkddleonmkhaiaaGreatM24
import Derived.Test.YtkddleonmkhaiaaGreatM17
import Derived.Deep.MidRow
import Derived.Deep.DeepCutAuto
namespace Go.Proofs.YtkddleonmkhaiaaGreat
open Go.RowKit Go.Op

theorem ite_zero (k n : Int) (s : ByteArray) (W : World) :
    (if k = 0 then
      if n = 0 then
        if s.toList = [] then Result.ok (Next.value (Value.bool true)) W
        else Result.ok (Next.value (Value.bool false)) W
      else Result.ok (Next.value (Value.bool false)) W
    else Result.ok (Next.value (Value.bool false)) W) =
    Result.ok (Next.value (Value.bool (k == 0 && n == 0 && s.toList.isEmpty))) W := by
  by_cases h1 : k = 0 <;> by_cases h2 : n = 0 <;> by_cases h3 : s.toList = [] <;> simp [h1, h2, h3]

set_option maxRecDepth 100000 in
theorem valmay_c (key : ByteArray) (gone : Bool) (k n : Int) (s : ByteArray) (w : World) :
    Calls Tryz.prog 49 #[recV key gone k n s] w fun e w' => e = .returned (.bool (if gone then k == 0 && n == 0 && s.toList.isEmpty else mayR k n s)) ∧ Below w.heap.size w w' := by
  unfold recV
  have hb1 := below_one w (.cells #[.string key, .bool gone, .int .i64 k, .int .i64 n, .string s] 33)
  cases gone with
  | true =>
    have hz := fun W => ite_zero k n s W
    rw [if_pos rfl]
    generalize (k == 0 && n == 0 && s.toList.isEmpty) = t at *
    go_enter Tryz.func49, Tryz.ntmps49
    go_wp2_with fail
    go_ret
    exact ⟨rfl, hb1⟩
  | false =>
    rw [if_neg (by decide)]
    have C := Go.Lib.hid fun W => vof_c k n s W
    unfold ofV rawV VI.val at C
    obtain ⟨t, ht⟩ : ∃ t, t = mayR k n s := ⟨_, rfl⟩
    rw [← ht] at C ⊢
    clear ht
    go_enter Tryz.func49, Tryz.ntmps49
    go_wp2_with fail
    refine (C.out _).mono ?_
    rintro e w1 ⟨rfl, hb2⟩
    generalize ofR k n s = x at *
    have hst := store_vi x
    have hbb := hb1.trans (hb2.mono hb1.size)
    have hb3 := hbb.trans ((below_one w1 (.cells #[x.v] 112)).mono hbb.size)
    cases t with
    | true =>
      rw [if_pos rfl]
      go_wp2_with fail
      go_ret
      exact ⟨rfl, hb3⟩
    | false =>
      rw [if_neg (by decide)]
      go_wp2_with fail
      go_ret
      exact ⟨rfl, hb3⟩

set_option maxRecDepth 100000 in
theorem pmay_c (key : ByteArray) (gone : Bool) (k n : Int) (s : ByteArray) (w : World) (hk : key.size ≤ maxLen) (_hm : s.size ≤ maxLen) :
    Calls Tryz.prog 29 #[recV key gone k n s] w fun e w' => e = .returned (.bool (mayRec key gone k n s)) ∧ Below w.heap.size w w' := by
  have C1 := Go.Lib.hid fun W => kmayL_c key W hk
  have c2 := fun W => valmay_c key gone k n s W
  unfold recV at c2 ⊢
  have hv : mayRec key gone k n s = (mayK key && (if gone then k == 0 && n == 0 && s.toList.isEmpty else mayR k n s)) := rfl
  rw [hv]
  generalize (if gone then k == 0 && n == 0 && s.toList.isEmpty else mayR k n s) = t at *
  generalize mayK key = m at *
  have C2 := Go.Lib.hid c2
  clear c2 hv
  have hb1 := below_one w (.cells #[.string key, .bool gone, .int .i64 k, .int .i64 n, .string s] 33)
  have hA := heap_alloc_new w (.cells #[.string key, .bool gone, .int .i64 k, .int .i64 n, .string s] 33)
  cases m with
  | false =>
    go_enter Tryz.func29, Tryz.ntmps29
    go_wp2_with fail
    refine (C1.out _).mono ?_
    rintro e w1 ⟨rfl, hb2⟩
    have hbb := hb1.trans (hb2.mono hb1.size)
    go_wp2_with fail
    go_ret
    exact ⟨rfl, hbb⟩
  | true =>
    go_enter Tryz.func29, Tryz.ntmps29
    go_wp2_with fail
    refine (C1.out _).mono ?_
    rintro e w1 ⟨rfl, hb2⟩
    have hbb := hb1.trans (hb2.mono hb1.size)
    have hA := row_kept hA hb2
    obtain ⟨x0, x1, x2, x3, x4⟩ := row5 hA
    go_wp2_with fail
    refine (C2.out _).mono ?_
    rintro e w2 ⟨rfl, hb3⟩
    have hbb := hbb.trans (hb3.mono hbb.size)
    go_wp2_with fail
    go_ret
    exact ⟨by simp, hbb⟩

theorem ite_eqRec (key1 : ByteArray) (gone1 : Bool) (k1 n1 : Int) (s1 key2 : ByteArray) (gone2 : Bool) (k2 n2 : Int) (s2 : ByteArray) (W : World) :
    (if key1.toList = key2.toList then
      if gone1 = gone2 then
       if k1 = k2 then
        if n1 = n2 then
         if s1.toList = s2.toList then Result.ok (Next.value (Value.bool true)) W
         else Result.ok (Next.value (Value.bool false)) W
        else Result.ok (Next.value (Value.bool false)) W
       else Result.ok (Next.value (Value.bool false)) W
      else Result.ok (Next.value (Value.bool false)) W
    else Result.ok (Next.value (Value.bool false)) W) =
    Result.ok (Next.value (Value.bool (eqRec key1 gone1 k1 n1 s1 key2 gone2 k2 n2 s2))) W := by
  unfold eqRec eqR
  by_cases h0 : key1.toList = key2.toList <;> by_cases h4 : gone1 = gone2 <;> by_cases h1 : k1 = k2 <;> by_cases h2 : n1 = n2 <;> by_cases h3 : s1.toList = s2.toList <;> simp [h0, h1, h2, h3, h4]

end Go.Proofs.YtkddleonmkhaiaaGreat

namespace Go.Proofs.YtkddleonmkhaiaaGreat
open Go.RowKit

theorem set_rec (w : World) (g : Nat) (a b c d e x p q r : Value) (t : TypeId) (hg : w.heap[g]? = some (.cells #[a, b, c, d, e] t (0, 0))) :
    (w.setCell ⟨g, 0, none⟩ x).setCells g 2 [p, q, r] = w.setRow g #[x, b, p, q, r] := by
  rw [setCell_eq_setRow w g 0 _ t (0, 0) x hg]
  have h1 := setRow_heap w g _ (#[a, b, c, d, e].setIfInBounds 0 x) t (0, 0) hg
  simp only [World.setCells]
  rw [setCell_eq_setRow _ g 2 _ t (0, 0) p h1, setRow_setRow]
  have h2 := setRow_heap w g _ ((#[a, b, c, d, e].setIfInBounds 0 x).setIfInBounds 2 p) t (0, 0) hg
  rw [setCell_eq_setRow _ g 3 _ t (0, 0) q h2, setRow_setRow]
  have h3 := setRow_heap w g _ (((#[a, b, c, d, e].setIfInBounds 0 x).setIfInBounds 2 p).setIfInBounds 3 q) t (0, 0) hg
  rw [setCell_eq_setRow _ g 4 _ t (0, 0) r h3, setRow_setRow]
  simp

theorem there_row (w : World) (b : Nat) (C : Array Value) (t : TypeId) (hb : w.heap[b]? = some (.cells C t (0, 0))) (o n : Nat) (h : o + n ≤ C.size) : w.there b o n := fun j hj =>
  ⟨by rw [cell_of_row w b (o + j) C t (0, 0) hb, Array.getElem?_eq_getElem (by omega)]; rfl, frozen_of_row w b (o + j) C t hb⟩
theorem rec_cells_one (key : ByteArray) (gone : Bool) (k n : Int) (s : ByteArray) : (#[.string key, .bool gone, .int .i64 k, .int .i64 n, .string s] : Array Value).all (fun x => x.oneCell') = true := by simp [Value.oneCell']

def VC (g : Nat) (key key2 : ByteArray) (k n : Int) (s s2 : ByteArray) : Nat → World → Value → Prop
  | 3, _, v => v = .pointer (some ⟨g, 0, none⟩)
  | 4, _, v => v = .string key
  | 5, _, v => v = .string key2
  | 6, _, v => v = .pointer (some ⟨g, 2, none⟩)
  | 7, _, v => v = .agg #[.int .i64 k, .int .i64 n, .string s]
  | 9, _, v => v = .pointer (some ⟨g, 0, none⟩)
  | 8, _, v => v = .agg #[.int .i64 k, .int .i64 n, .string s2]
  | _, _, _ => True

theorem VC_below (g : Nat) (key key2 : ByteArray) (k n : Int) (s s2 : ByteArray) : ∀ (i : Nat) (w w' : World) (v : Value), VC g key key2 k n s s2 i w v → Below w.heap.size w w' → VC g key key2 k n s s2 i w' v := by
  intro i w w' v h hb
  unfold VC at h ⊢
  split at h <;> first | exact h | trivial | exact RB.below h hb | exact Own.below h hb

set_option maxHeartbeats 1000000 in
set_option maxRecDepth 100000 in
/-- The laws' 'Cut(r)'. -/
theorem rcut_c (key : ByteArray) (gone : Bool) (k n : Int) (s : ByteArray) (w : World) (hk : key.size ≤ maxLen) (hm : s.size ≤ maxLen) :
    Calls Tryz.prog 23 #[recV key gone k n s] w fun e w' => e = .returned (recV (str ((bl key).take 20)) gone k n (str ((bl s).take 30))) ∧ Below w.heap.size w w' := by
  unfold recV
  have C1 := Go.Lib.hid fun W => lcut_c key 20 W hk (by omega)
  have C2 := Go.Lib.hid fun W => vcut_c k n s W hm
  unfold rawV at C2
  clear hk hm
  generalize str ((bl key).take 20) = key2 at *
  generalize str ((bl s).take 30) = s2 at *
  go_enter Tryz.func23, Tryz.ntmps23
  go_upto_region 1 with (fail)
  have hA := two_first w (.cells #[.string key, .bool gone, .int .i64 k, .int .i64 n, .string s] 33) (.cells #[.string ⟨#[]⟩, .bool false, .int .i64 0, .int .i64 0, .string ⟨#[]⟩] 33)
  have hB := heap_alloc2_new w (.cells #[.string key, .bool gone, .int .i64 k, .int .i64 n, .string s] 33) (.cells #[.string ⟨#[]⟩, .bool false, .int .i64 0, .int .i64 0, .string ⟨#[]⟩] 33)
  have hbb := below_two w (.cells #[.string key, .bool gone, .int .i64 k, .int .i64 n, .string s] 33) (.cells #[.string ⟨#[]⟩, .bool false, .int .i64 0, .int .i64 0, .string ⟨#[]⟩] 33)
  generalize hW : (w.alloc (.cells #[.string key, .bool gone, .int .i64 k, .int .i64 n, .string s] 33)).alloc (.cells #[.string ⟨#[]⟩, .bool false, .int .i64 0, .int .i64 0, .string ⟨#[]⟩] 33) = W at *
  clear hW
  have hlt := (Array.getElem?_eq_some_iff.1 hA).1
  have hltB := (Array.getElem?_eq_some_iff.1 hB).1
  have hgb : w.heap.size ≠ w.heap.size + 1 := by omega
  generalize hg0 : w.heap.size = g at *
  generalize hb0 : g + 1 = gB at *
  refine wp_region_head 7 (by decide) (by kernel_rfl) (VC g key key2 k n s s2) (VC_below g key key2 k n s s2) (by decide +kernel) (by rfl) [3, 4, 5, 6, 7, 8, 9] (by rfl) ?_ ?_
  · intro i o hin ho a w6 hb6 hlen hg
    have hA := (hb6.block _ hlt).trans hA
    have x0 := cell_of_row w6 g 0 _ _ _ hA
    have x2 := cell_of_row w6 g 2 _ _ _ hA
    have x3 := cell_of_row w6 g 3 _ _ _ hA
    have x4 := cell_of_row w6 g 4 _ _ _ hA
    simp only [List.getElem?_toArray, List.getElem?_cons_zero, List.getElem?_cons_succ] at x0 x2 x3 x4
    have D1 := fun W => (C1.out W).mono (R' := fun e w' => e = .returned (.string key2) ∧ Below W.heap.size W w') (by rintro e w' ⟨h1, rfl⟩; exact ⟨h1, Below.refl _ _⟩)
    match i, hin, ho with
    | 0, hin, ho =>
      obtain rfl := Option.some.inj ho
      have h1 := given_old hg 1 (by decide +kernel)
      clear hg
      exact st_yield ho (wanted_none rfl) (.pointer (some ⟨g, 0, none⟩)) w6 (by simp [execOp, Act.eval, h1, go_sem]) ⟨_, rfl, Below.refl _ _, by rintro t' ⟨⟩; rfl⟩
    | 1, hin, ho =>
      obtain rfl := Option.some.inj ho
      obtain ⟨_, h3, rfl⟩ := given_fed hg 3 (by decide +kernel)
      clear hg
      exact st_yield ho (wanted_none rfl) (.string key) w6 (by simp [execOp, Act.eval, h3, go_sem, x0]) ⟨_, rfl, Below.refl _ _, by rintro t' ⟨⟩; rfl⟩
    | 2, hin, ho =>
      obtain rfl := Option.some.inj ho
      obtain ⟨_, h4, rfl⟩ := given_fed hg 4 (by decide +kernel)
      clear hg
      exact st_enter (w1 := w6) ho (wanted_none rfl) 8 #[.string key, .int .i64 20] (by simp [execOp, Act.eval, h4, resolve, go_sem]) ((D1 _).mono (by rintro e w7 ⟨rfl, hb7⟩; exact ⟨_, rfl, _, rfl, hb7, by rintro t' ⟨⟩; rfl⟩))
    | 3, hin, ho =>
      obtain rfl := Option.some.inj ho
      have h1 := given_old hg 1 (by decide +kernel)
      clear hg
      exact st_yield ho (wanted_none rfl) (.pointer (some ⟨g, 2, none⟩)) w6 (by simp [execOp, Act.eval, h1, go_sem]) ⟨_, rfl, Below.refl _ _, by rintro t' ⟨⟩; rfl⟩
    | 4, hin, ho =>
      obtain rfl := Option.some.inj ho
      obtain ⟨_, h6, rfl⟩ := given_fed hg 6 (by decide +kernel)
      clear hg
      exact st_yield ho (wanted_none rfl) (.agg #[.int .i64 k, .int .i64 n, .string s]) w6 (by simp [execOp, Act.eval, h6, go_sem, x2, x3, x4]) ⟨_, rfl, Below.refl _ _, by rintro t' ⟨⟩; rfl⟩
    | 5, hin, ho =>
      obtain rfl := Option.some.inj ho
      obtain ⟨_, h7, rfl⟩ := given_fed hg 7 (by decide +kernel)
      clear hg
      exact st_enter (w1 := w6) ho (wanted_none rfl) 42 #[.agg #[.int .i64 k, .int .i64 n, .string s]] (by simp [execOp, Act.eval, h7, resolve, go_sem]) ((C2.out _).mono (by rintro e w7 ⟨rfl, hb7⟩; exact ⟨_, rfl, _, rfl, hb7, by rintro t' ⟨⟩; rfl⟩))
    | 6, hin, ho =>
      obtain rfl := Option.some.inj ho
      have h1 := given_old hg 1 (by decide +kernel)
      clear hg
      exact st_yield ho (wanted_none rfl) (.pointer (some ⟨g, 0, none⟩)) w6 (by simp [execOp, Act.eval, h1, go_sem]) ⟨_, rfl, Below.refl _ _, by rintro t' ⟨⟩; rfl⟩
    | n + 7, hin, ho => omega
  · intro f w6 hb6 hv
    have h3 := hv 3 (by decide); have h4 := hv 4 (by decide); have h5 := hv 5 (by decide); have h6 := hv 6 (by decide); have h7 := hv 7 (by decide); have h8 := hv 8 (by decide); have h9 := hv 9 (by decide)
    simp only [VC] at h3 h4 h5 h6 h7 h8 h9
    have hA6 := (hb6.block _ hlt).trans hA
    have hB6 := (hb6.block _ hltB).trans hB
    have hbb6 := hbb.trans (hb6.mono (by have := hbb.size; omega))
    have hset := set_rec w6 g (.string key) (.bool gone) (.int .i64 k) (.int .i64 n) (.string s) (.string key2) (.int .i64 k) (.int .i64 n) (.string s2) _ hA6
    have hS := setRow_heap w6 g _ #[.string key2, .bool gone, .int .i64 k, .int .i64 n, .string s2] _ (0, 0) hA6
    have hset : (w6.setCell ⟨g, 0, none⟩ (.string key2)).setCells g 2 (#[.int .i64 k, .int .i64 n, .string s2] : Array Value).toList = w6.setRow g #[.string key2, .bool gone, .int .i64 k, .int .i64 n, .string s2] := hset
    have x0 := cell_of_row w6 g 0 _ _ _ hA6
    simp only [List.getElem?_toArray, List.getElem?_cons_zero] at x0
    have f0 : w6.frozen? ⟨g, 0, none⟩ = false := frozen_of_row w6 g 0 _ _ hA6
    have hth : (w6.setCell ⟨g, 0, none⟩ (.string key2)).there g 2 (#[.int .i64 k, .int .i64 n, .string s2] : Array Value).size := there_row _ g _ _ (by rw [setCell_eq_setRow w6 g 0 _ _ (0, 0) _ hA6]; exact setRow_heap w6 g _ _ _ (0, 0) hA6) 2 3 (by simp)
    have hBS := (setRow_other w6 g gB #[.string key2, .bool gone, .int .i64 k, .int .i64 n, .string s2] (by omega)).trans hB6
    have hbS := below_setRow hbb6 (by omega : g ≤ g) #[.string key2, .bool gone, .int .i64 k, .int .i64 n, .string s2]
    have HBS := Go.Lib.hid hBS
    have Hset := Go.Lib.hid hset
    have hfin := setRow_heap (w6.setRow g #[.string key2, .bool gone, .int .i64 k, .int .i64 n, .string s2]) gB _ #[.string key2, .bool gone, .int .i64 k, .int .i64 n, .string s2] _ (0, 0) hBS
    have hbF := below_setRow hbS (by omega : g ≤ gB) #[.string key2, .bool gone, .int .i64 k, .int .i64 n, .string s2]
    have Hfin := Go.Lib.hid hfin
    have Hth := Go.Lib.hid hth
    have hR : (w6.setRow g #[.string key2, .bool gone, .int .i64 k, .int .i64 n, .string s2]).rangeAt g 0 [.string key2, .bool gone, .int .i64 k, .int .i64 n, .string s2] := by simpa using World.rangeAt_of_block hS 0 5
    have HS := Go.Lib.hid hR
    clear hR hfin hBS hset hth hA6 hB6 hA hB hS hlt hltB
    unfold putAll
    simp only [List.foldl, List.drop]
    simp only [h3, h4, h5, h6, h7, h8, h9]
    go_simp
    go_wp2_with (first
      | (with_reducible show wpList _ _ _ (⟨none, Op.store 31 (.tmp 10) (.tmp 8), _, _, _, _⟩ :: _) _ _; go_loud (refine wpList_store_mid rfl 31 (.tmp 10) (.tmp 8) rfl g 2 #[.int .i64 k, .int .i64 n, .string s2] rfl rfl Hth.out (by kernel_rfl) (raw_cells_one ..) ?_); rw [Hset.out])
      | (with_reducible show wpList _ _ _ (⟨some 11, Op.load 33 (.tmp 1), _, _, _, _⟩ :: _) _ _; go_loud (refine wpList_load_mid rfl 33 (.tmp 1) rfl g 0 rfl [.string key2, .bool gone, .int .i64 k, .int .i64 n, .string s2] _ HS.out Tryz.underlying33 rfl (by kernel_rfl) ?_))
      | (with_reducible show wpList _ _ _ (⟨none, Op.store 33 (.tmp 2) (.tmp 11), _, _, _, _⟩ :: _) _ _; go_loud (refine wpList_store_row rfl 33 (.tmp 2) (.tmp 11) rfl gB #[.string key2, .bool gone, .int .i64 k, .int .i64 n, .string s2] rfl rfl 33 _ HBS.out (by kernel_rfl) rfl (rec_cells_one ..) ?_))
      | fail)
    refine bodyPost_ret (results_cell_row rfl _ _ gB 33 #[.string key2, .bool gone, .int .i64 k, .int .i64 n, .string s2] (0, 0) _ rfl Hfin.out Tryz.underlying33 rfl (by kernel_rfl)) rfl ?_
    exact ⟨rfl, hbF⟩

end Go.Proofs.YtkddleonmkhaiaaGreat

namespace Go.Proofs.YtkddleonmkhaiaaGreat
open Go.RowKit Go.Op

/-- Storing what stands there already leaves the world as it is. -/
theorem setCell_id {w : World} {b o : Nat} {cs : Array Value} {t : TypeId} {fr : Nat × Nat} {v : Value} (hg : w.heap[b]? = some (.cells cs t fr)) (hv : cs[o]? = some v) : w.setCell ⟨b, o, none⟩ v = w := by
  obtain ⟨hb, hg⟩ := Array.getElem?_eq_some_iff.1 hg
  obtain ⟨ho, hv⟩ := Array.getElem?_eq_some_iff.1 hv
  have hset : cs.setIfInBounds o v = cs := by
    rw [← hv]
    apply Array.ext
    · simp
    · intro i h1 h2
      rw [Array.getElem_setIfInBounds]
      split
      · rename_i h; subst h; rfl
      · rfl
  have : (w.setCell ⟨b, o, none⟩ v).heap = w.heap := by
    unfold World.setCell
    apply Array.ext
    · simp
    · intro i h1 h2
      simp only [Array.getElem_modify]
      by_cases hi : b = i
      · subst hi
        rw [if_pos rfl, hg]
        simp [hset]
      · rw [if_neg hi]
  have e : w.setCell ⟨b, o, none⟩ v = { w with heap := (w.setCell ⟨b, o, none⟩ v).heap } := rfl
  rw [e, this]

end Go.Proofs.YtkddleonmkhaiaaGreat
