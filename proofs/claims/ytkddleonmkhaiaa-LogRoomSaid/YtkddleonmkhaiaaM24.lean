/-
  Package record: contracts of valMay, May, Eq.
  Records: contract of the laws' Cut.
  Package record: contract of fresh.
-/
import Derived.Test.YtkddleonmkhaiaaM07
import Derived.Test.YtkddleonmkhaiaaM20
import Derived.Test.YtkddleonmkhaiaaM23
import Derived.Test.YtkddleonmkhaiaaM16
import Derived.Deep.MidRow
import Derived.Deep.DeepCutAuto
namespace Go.Proofs.Ytkddleonmkhaiaa
open Go.RowKit Go.Op

theorem ite_zero (k n : Int) (s : ByteArray) (W : World) :
    (if k = 0 then
      if n = 0 then
        if s.toList = [] then Result.ok (Next.value (Value.bool true)) W
        else Result.ok (Next.value (Value.bool false)) W
      else Result.ok (Next.value (Value.bool false)) W
    else Result.ok (Next.value (Value.bool false)) W) =
    Result.ok (Next.value (Value.bool (k == 0 && n == 0 && s.toList.isEmpty))) W := by
  by_cases h1 : k = 0 <;> by_cases h2 : n = 0 <;> by_cases h3 : s.toList = [] <;> simp [h1, h2, h3]

set_option maxRecDepth 100000 in
theorem valmay_c (key : ByteArray) (gone : Bool) (k n : Int) (s : ByteArray) (w : World) :
    Calls Try.prog 34 #[recV key gone k n s] w fun e w' => e = .returned (.bool (if gone then k == 0 && n == 0 && s.toList.isEmpty else mayR k n s)) ∧ Below w.heap.size w w' := by
  unfold recV
  have hb1 := below_one w (.cells #[.string key, .bool gone, .int .i64 k, .int .i64 n, .string s] 26)
  cases gone with
  | true =>
    have hz := fun W => ite_zero k n s W
    rw [if_pos rfl]
    generalize (k == 0 && n == 0 && s.toList.isEmpty) = t at *
    go_enter Try.func34, Try.ntmps34
    go_wp2_with fail
    go_ret
    exact ⟨rfl, hb1⟩
  | false =>
    rw [if_neg (by decide)]
    have C := Go.Lib.hid fun W => vof_c k n s W
    unfold ofV rawV VI.val at C
    obtain ⟨t, ht⟩ : ∃ t, t = mayR k n s := ⟨_, rfl⟩
    rw [← ht] at C ⊢
    clear ht
    go_enter Try.func34, Try.ntmps34
    go_wp2_with fail
    refine (C.out _).mono ?_
    rintro e w1 ⟨rfl, hb2⟩
    generalize ofR k n s = x at *
    have hst := store_vi x
    have hbb := hb1.trans (hb2.mono hb1.size)
    have hb3 := hbb.trans ((below_one w1 (.cells #[x.v] 98)).mono hbb.size)
    cases t with
    | true =>
      rw [if_pos rfl]
      go_wp2_with fail
      go_ret
      exact ⟨rfl, hb3⟩
    | false =>
      rw [if_neg (by decide)]
      go_wp2_with fail
      go_ret
      exact ⟨rfl, hb3⟩

set_option maxRecDepth 100000 in
theorem pmay_c (key : ByteArray) (gone : Bool) (k n : Int) (s : ByteArray) (w : World) (hk : key.size ≤ maxLen) (_hm : s.size ≤ maxLen) :
    Calls Try.prog 22 #[recV key gone k n s] w fun e w' => e = .returned (.bool (mayRec key gone k n s)) ∧ Below w.heap.size w w' := by
  have C1 := Go.Lib.hid fun W => kmayL_c key W hk
  have c2 := fun W => valmay_c key gone k n s W
  unfold recV at c2 ⊢
  have hv : mayRec key gone k n s = (mayK key && (if gone then k == 0 && n == 0 && s.toList.isEmpty else mayR k n s)) := rfl
  rw [hv]
  generalize (if gone then k == 0 && n == 0 && s.toList.isEmpty else mayR k n s) = t at *
  generalize mayK key = m at *
  have C2 := Go.Lib.hid c2
  clear c2 hv
  have hb1 := below_one w (.cells #[.string key, .bool gone, .int .i64 k, .int .i64 n, .string s] 26)
  have hA := heap_alloc_new w (.cells #[.string key, .bool gone, .int .i64 k, .int .i64 n, .string s] 26)
  cases m with
  | false =>
    go_enter Try.func22, Try.ntmps22
    go_wp2_with fail
    refine (C1.out _).mono ?_
    rintro e w1 ⟨rfl, hb2⟩
    have hbb := hb1.trans (hb2.mono hb1.size)
    go_wp2_with fail
    go_ret
    exact ⟨rfl, hbb⟩
  | true =>
    go_enter Try.func22, Try.ntmps22
    go_wp2_with fail
    refine (C1.out _).mono ?_
    rintro e w1 ⟨rfl, hb2⟩
    have hbb := hb1.trans (hb2.mono hb1.size)
    have hA := row_kept hA hb2
    obtain ⟨x0, x1, x2, x3, x4⟩ := row5 hA
    go_wp2_with fail
    refine (C2.out _).mono ?_
    rintro e w2 ⟨rfl, hb3⟩
    have hbb := hbb.trans (hb3.mono hbb.size)
    go_wp2_with fail
    go_ret
    exact ⟨by simp, hbb⟩

theorem ite_eqRec (key1 : ByteArray) (gone1 : Bool) (k1 n1 : Int) (s1 key2 : ByteArray) (gone2 : Bool) (k2 n2 : Int) (s2 : ByteArray) (W : World) :
    (if key1.toList = key2.toList then
      if gone1 = gone2 then
       if k1 = k2 then
        if n1 = n2 then
         if s1.toList = s2.toList then Result.ok (Next.value (Value.bool true)) W
         else Result.ok (Next.value (Value.bool false)) W
        else Result.ok (Next.value (Value.bool false)) W
       else Result.ok (Next.value (Value.bool false)) W
      else Result.ok (Next.value (Value.bool false)) W
    else Result.ok (Next.value (Value.bool false)) W) =
    Result.ok (Next.value (Value.bool (eqRec key1 gone1 k1 n1 s1 key2 gone2 k2 n2 s2))) W := by
  unfold eqRec eqR
  by_cases h0 : key1.toList = key2.toList <;> by_cases h4 : gone1 = gone2 <;> by_cases h1 : k1 = k2 <;> by_cases h2 : n1 = n2 <;> by_cases h3 : s1.toList = s2.toList <;> simp [h0, h1, h2, h3, h4]

end Go.Proofs.Ytkddleonmkhaiaa

namespace Go.Proofs.Ytkddleonmkhaiaa
open Go.RowKit

theorem set_rec (w : World) (g : Nat) (a b c d e x p q r : Value) (t : TypeId) (hg : w.heap[g]? = some (.cells #[a, b, c, d, e] t (0, 0))) :
    (w.setCell ⟨g, 0, none⟩ x).setCells g 2 [p, q, r] = w.setRow g #[x, b, p, q, r] := by
  rw [setCell_eq_setRow w g 0 _ t (0, 0) x hg]
  have h1 := setRow_heap w g _ (#[a, b, c, d, e].setIfInBounds 0 x) t (0, 0) hg
  simp only [World.setCells]
  rw [setCell_eq_setRow _ g 2 _ t (0, 0) p h1, setRow_setRow]
  have h2 := setRow_heap w g _ ((#[a, b, c, d, e].setIfInBounds 0 x).setIfInBounds 2 p) t (0, 0) hg
  rw [setCell_eq_setRow _ g 3 _ t (0, 0) q h2, setRow_setRow]
  have h3 := setRow_heap w g _ (((#[a, b, c, d, e].setIfInBounds 0 x).setIfInBounds 2 p).setIfInBounds 3 q) t (0, 0) hg
  rw [setCell_eq_setRow _ g 4 _ t (0, 0) r h3, setRow_setRow]
  simp

theorem there_row (w : World) (b : Nat) (C : Array Value) (t : TypeId) (hb : w.heap[b]? = some (.cells C t (0, 0))) (o n : Nat) (h : o + n ≤ C.size) : w.there b o n := fun j hj =>
  ⟨by rw [cell_of_row w b (o + j) C t (0, 0) hb, Array.getElem?_eq_getElem (by omega)]; rfl, frozen_of_row w b (o + j) C t hb⟩
theorem rec_cells_one (key : ByteArray) (gone : Bool) (k n : Int) (s : ByteArray) : (#[.string key, .bool gone, .int .i64 k, .int .i64 n, .string s] : Array Value).all (fun x => x.oneCell') = true := by simp [Value.oneCell']

def VC (g : Nat) (key key2 : ByteArray) (k n : Int) (s s2 : ByteArray) : Nat → World → Value → Prop
  | 3, _, v => v = .pointer (some ⟨g, 0, none⟩)
  | 4, _, v => v = .string key
  | 5, _, v => v = .string key2
  | 6, _, v => v = .pointer (some ⟨g, 2, none⟩)
  | 7, _, v => v = .agg #[.int .i64 k, .int .i64 n, .string s]
  | 9, _, v => v = .pointer (some ⟨g, 0, none⟩)
  | 8, _, v => v = .agg #[.int .i64 k, .int .i64 n, .string s2]
  | _, _, _ => True

theorem VC_below (g : Nat) (key key2 : ByteArray) (k n : Int) (s s2 : ByteArray) : ∀ (i : Nat) (w w' : World) (v : Value), VC g key key2 k n s s2 i w v → Below w.heap.size w w' → VC g key key2 k n s s2 i w' v := by
  intro i w w' v h hb
  unfold VC at h ⊢
  split at h <;> first | exact h | trivial | exact RB.below h hb | exact Own.below h hb

end Go.Proofs.Ytkddleonmkhaiaa

namespace Go.Proofs.Ytkddleonmkhaiaa
open Go.RowKit Go.Op

/-- Storing what stands there already leaves the world as it is. -/
theorem setCell_id {w : World} {b o : Nat} {cs : Array Value} {t : TypeId} {fr : Nat × Nat} {v : Value} (hg : w.heap[b]? = some (.cells cs t fr)) (hv : cs[o]? = some v) : w.setCell ⟨b, o, none⟩ v = w := by
  obtain ⟨hb, hg⟩ := Array.getElem?_eq_some_iff.1 hg
  obtain ⟨ho, hv⟩ := Array.getElem?_eq_some_iff.1 hv
  have hset : cs.setIfInBounds o v = cs := by
    rw [← hv]
    apply Array.ext
    · simp
    · intro i h1 h2
      rw [Array.getElem_setIfInBounds]
      split
      · rename_i h; subst h; rfl
      · rfl
  have : (w.setCell ⟨b, o, none⟩ v).heap = w.heap := by
    unfold World.setCell
    apply Array.ext
    · simp
    · intro i h1 h2
      simp only [Array.getElem_modify]
      by_cases hi : b = i
      · subst hi
        rw [if_pos rfl, hg]
        simp [hset]
      · rw [if_neg hi]
  have e : w.setCell ⟨b, o, none⟩ v = { w with heap := (w.setCell ⟨b, o, none⟩ v).heap } := rfl
  rw [e, this]

end Go.Proofs.Ytkddleonmkhaiaa
