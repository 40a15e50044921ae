/-
  Records: contracts of the reference's May, Eq, Bytes.
-/
import Derived.Test.YtmlndgkpbodnnaaRec
import Derived.Test.YtmlndgkpbodnnaaMayK
import Derived.Test.YtmlndgkpbodnnaaVal
import Derived.Test.YtmlndgkpbodnnaaValP
namespace Go.Proofs.Ytmlndgkpbodnnaa
open Go.RowKit
open Go.Lib (uvarint zigzag)

/-- What may be a record. -/
def mayRec (key : ByteArray) (gone : Bool) (k n : Int) (s : ByteArray) : Bool := mayK key && (if gone then k == 0 && n == 0 && s.toList.isEmpty else mayR k n s)
/-- The same Key, Gone, Val. -/
def eqRec (key1 : ByteArray) (gone1 : Bool) (k1 n1 : Int) (s1 key2 : ByteArray) (gone2 : Bool) (k2 n2 : Int) (s2 : ByteArray) : Bool := key1.toList == key2.toList && gone1 == gone2 && eqR k1 n1 s1 k2 n2 s2
/-- A record's bytes. -/
def recB (key : List UInt8) (gone : Bool) (k n : Int) (s : List UInt8) : List UInt8 := putT key ++ (if gone then uvarint (zigzag 0) else putV k n s)

def recO (key : ByteArray) (gone : Bool) (k n : Int) (s : ByteArray) : Obj := .cells #[.string key, .bool gone, .int .i64 k, .int .i64 n, .string s] 25

set_option maxRecDepth 100000 in
theorem rmayrec_c (key : ByteArray) (gone : Bool) (k n : Int) (s : ByteArray) (w : World) (hk : key.size ≤ maxLen) (hm : s.size ≤ maxLen) :
    Calls Try.prog 11 #[recV key gone k n s] w fun e w' => e = .returned (.bool (mayRec key gone k n s)) ∧ Below w.heap.size w w' := by
  unfold recV
  have C1 := Go.Lib.hid fun W => rmay_c key W hk
  have C2 := Go.Lib.hid fun W => mayval_c k n s W hm
  clear hk hm
  cases h1 : mayK key with
  | false =>
    have hv := Go.Lib.hid (show mayRec key gone k n s = false from by unfold mayRec; rw [h1]; rfl)
    rw [h1] at C1
    clear h1
    go_enter Try.func11, Try.ntmps11
    go_wp2_with fail
    refine (C1.out _).mono ?_
    rintro e w1 ⟨rfl, rfl⟩
    go_wp2_with fail
    go_ret
    exact ⟨ret_of (congrArg Value.bool hv.out.symm), below_one _ _⟩
  | true =>
    have hv := Go.Lib.hid (show mayRec key gone k n s = (if gone then k == 0 && n == 0 && s.toList.isEmpty else mayR k n s) from by unfold mayRec; rw [h1]; rfl)
    rw [h1] at C1
    clear h1
    cases gone with
    | false =>
      have hv := Go.Lib.hid (hv.out.trans (if_neg (by decide)))
      go_enter Try.func11, Try.ntmps11
      go_wp2_with fail
      refine (C1.out _).mono ?_
      rintro e w1 ⟨rfl, rfl⟩
      go_wp2_with fail
      refine (C2.out _).mono ?_
      rintro e w2 ⟨rfl, hb2⟩
      have hbb := (below_one w _).trans (hb2.mono (below_one w _).size)
      go_wp2_with fail
      go_ret
      exact ⟨ret_of (congrArg Value.bool hv.out.symm), hbb⟩
    | true =>
      have hv := Go.Lib.hid (hv.out.trans (if_pos rfl))
      clear C2
      by_cases hk : k = 0
      · by_cases hn : n = 0
        · have he : Hid (mayRec key true k n s = s.toList.isEmpty) := by
            unfold Hid
            rw [hv.out, hk, hn]
            cases s.toList <;> rfl
          clear hv
          go_enter Try.func11, Try.ntmps11
          go_wp2_with fail
          refine (C1.out _).mono ?_
          rintro e w1 ⟨rfl, rfl⟩
          go_wp2_with fail
          go_ret
          exact ⟨ret_of (congrArg Value.bool (by first | exact he.out.symm | (subst hk; subst hn; exact he.out.symm))), below_one _ _⟩
        · have he : Hid (mayRec key true k n s = false) := by unfold Hid; rw [hv.out]; simp [hn]
          have hnb : (n == 0) = false := by simp [hn]
          clear hv
          go_enter Try.func11, Try.ntmps11
          go_wp2_with fail
          refine (C1.out _).mono ?_
          rintro e w1 ⟨rfl, rfl⟩
          go_wp2_with fail
          go_ret
          exact ⟨ret_of (congrArg Value.bool (by first | exact he.out.symm | (subst hk; exact he.out.symm))), below_one _ _⟩
      · have he : Hid (mayRec key true k n s = false) := by unfold Hid; rw [hv.out]; simp [hk]
        have hkb : (k == 0) = false := by simp [hk]
        clear hv
        go_enter Try.func11, Try.ntmps11
        go_wp2_with fail
        refine (C1.out _).mono ?_
        rintro e w1 ⟨rfl, rfl⟩
        go_wp2_with fail
        go_ret
        exact ⟨ret_of (congrArg Value.bool he.out.symm), below_one _ _⟩

set_option maxRecDepth 100000 in
theorem reqrec_c (key1 : ByteArray) (gone1 : Bool) (k1 n1 : Int) (s1 key2 : ByteArray) (gone2 : Bool) (k2 n2 : Int) (s2 : ByteArray) (w : World) :
    Calls Try.prog 14 #[recV key1 gone1 k1 n1 s1, recV key2 gone2 k2 n2 s2] w fun e w' => e = .returned (.bool (eqRec key1 gone1 k1 n1 s1 key2 gone2 k2 n2 s2)) ∧ Below w.heap.size w w' := by
  unfold recV
  have C := Go.Lib.hid fun W => eqval_c k1 n1 s1 k2 n2 s2 W
  unfold rawV at C
  by_cases h1 : key1 = key2
  · by_cases h2 : gone1 = gone2
    · have he : Hid (eqRec key1 gone1 k1 n1 s1 key2 gone2 k2 n2 s2 = eqR k1 n1 s1 k2 n2 s2) := by unfold Hid eqRec; simp [h1, h2]
      subst h1 h2
      go_enter Try.func14, Try.ntmps14
      go_wp2_with fail
      refine (C.out _).mono ?_
      rintro e w2 ⟨rfl, hb2⟩
      have hbb := (below_two w _ _).trans (hb2.mono (below_two w _ _).size)
      go_wp2_with fail
      go_ret
      exact ⟨ret_of (congrArg Value.bool he.out.symm), hbb⟩
    · have he : Hid (eqRec key1 gone1 k1 n1 s1 key2 gone2 k2 n2 s2 = false) := by unfold Hid eqRec; simp [h2]
      have hgb : (gone1 == gone2) = false := by simp [h2]
      subst h1
      go_enter Try.func14, Try.ntmps14
      go_wp2_with fail
      go_ret
      exact ⟨ret_of (congrArg Value.bool he.out.symm), below_two _ _ _⟩
  · have hkb : (key1.toList == key2.toList) = false := by
      rw [ByteArray.toList_eq, ByteArray.toList_eq]
      simp only [beq_eq_false_iff_ne, ne_eq]
      exact fun h => h1 (ByteArray.ext (Array.toList_inj.1 h))
    have he : Hid (eqRec key1 gone1 k1 n1 s1 key2 gone2 k2 n2 s2 = false) := by unfold Hid eqRec; rw [hkb]; rfl
    clear h1
    go_enter Try.func14, Try.ntmps14
    go_wp2_with fail
    go_ret
    exact ⟨ret_of (congrArg Value.bool he.out.symm), below_two _ _ _⟩

/-- The five cells of a record in a box of its own, whatever was made later. -/
theorem rec_box {w w' : World} (key : ByteArray) (gone : Bool) (k n : Int) (s : ByteArray) (hb : Below (w.alloc (recO key gone k n s)).heap.size (w.alloc (recO key gone k n s)) w') :
    w'.heap[w.heap.size]? = some (recO key gone k n s) ∧ w'.cell? ⟨w.heap.size, 0, none⟩ = some (.string key) ∧ w'.cell? ⟨w.heap.size, 1, none⟩ = some (.bool gone) ∧ w'.cell? ⟨w.heap.size, 2, none⟩ = some (.int .i64 k) ∧ w'.cell? ⟨w.heap.size, 3, none⟩ = some (.int .i64 n) ∧ w'.cell? ⟨w.heap.size, 4, none⟩ = some (.string s) := by
  have hg := heap_alloc_new w (recO key gone k n s)
  have hlt : w.heap.size < (w.alloc (recO key gone k n s)).heap.size := (Array.getElem?_eq_some_iff.1 hg).1
  have hh := (hb.block _ hlt).trans hg
  unfold recO at *
  have c (i : Nat) := cell_of_row w' w.heap.size i _ _ _ hh
  exact ⟨hh, c 0, c 1, c 2, c 3, c 4⟩

end Go.Proofs.Ytmlndgkpbodnnaa
