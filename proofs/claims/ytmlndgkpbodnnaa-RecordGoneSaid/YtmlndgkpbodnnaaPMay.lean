/-
  Package record: contracts of valMay, May, Eq.
-/
import Derived.Test.YtmlndgkpbodnnaaRecR
import Derived.Test.YtmlndgkpbodnnaaRecBox
import Derived.Test.YtmlndgkpbodnnaaValOf
import Derived.Test.YtmlndgkpbodnnaaKMay
namespace Go.Proofs.Ytmlndgkpbodnnaa
open Go.RowKit Go.Op

theorem ite_zero (k n : Int) (s : ByteArray) (W : World) :
    (if k = 0 then
      if n = 0 then
        if s.toList = [] then Result.ok (Next.value (Value.bool true)) W
        else Result.ok (Next.value (Value.bool false)) W
      else Result.ok (Next.value (Value.bool false)) W
    else Result.ok (Next.value (Value.bool false)) W) =
    Result.ok (Next.value (Value.bool (k == 0 && n == 0 && s.toList.isEmpty))) W := by
  by_cases h1 : k = 0 <;> by_cases h2 : n = 0 <;> by_cases h3 : s.toList = [] <;> simp [h1, h2, h3]

set_option maxRecDepth 100000 in
theorem valmay_c (key : ByteArray) (gone : Bool) (k n : Int) (s : ByteArray) (w : World) :
    Calls Try.prog 28 #[recV key gone k n s] w fun e w' => e = .returned (.bool (if gone then k == 0 && n == 0 && s.toList.isEmpty else mayR k n s)) ∧ Below w.heap.size w w' := by
  unfold recV
  have hb1 := below_one w (.cells #[.string key, .bool gone, .int .i64 k, .int .i64 n, .string s] 25)
  cases gone with
  | true =>
    have hz := fun W => ite_zero k n s W
    rw [if_pos rfl]
    generalize (k == 0 && n == 0 && s.toList.isEmpty) = t at *
    go_enter Try.func28, Try.ntmps28
    go_wp2_with fail
    go_ret
    exact ⟨rfl, hb1⟩
  | false =>
    rw [if_neg (by decide)]
    have C := Go.Lib.hid fun W => vof_c k n s W
    unfold ofV rawV VI.val at C
    obtain ⟨t, ht⟩ : ∃ t, t = mayR k n s := ⟨_, rfl⟩
    rw [← ht] at C ⊢
    clear ht
    go_enter Try.func28, Try.ntmps28
    go_wp2_with fail
    refine (C.out _).mono ?_
    rintro e w1 ⟨rfl, hb2⟩
    generalize ofR k n s = x at *
    have hst := store_vi x
    have hbb := hb1.trans (hb2.mono hb1.size)
    have hb3 := hbb.trans ((below_one w1 (.cells #[x.v] 68)).mono hbb.size)
    cases t with
    | true =>
      rw [if_pos rfl]
      go_wp2_with fail
      go_ret
      exact ⟨rfl, hb3⟩
    | false =>
      rw [if_neg (by decide)]
      go_wp2_with fail
      go_ret
      exact ⟨rfl, hb3⟩

set_option maxRecDepth 100000 in
theorem pmay_c (key : ByteArray) (gone : Bool) (k n : Int) (s : ByteArray) (w : World) (hk : key.size ≤ maxLen) (_hm : s.size ≤ maxLen) :
    Calls Try.prog 12 #[recV key gone k n s] w fun e w' => e = .returned (.bool (mayRec key gone k n s)) ∧ Below w.heap.size w w' := by
  have C1 := Go.Lib.hid fun W => kmayL_c key W hk
  have c2 := fun W => valmay_c key gone k n s W
  unfold recV at c2 ⊢
  have hv : mayRec key gone k n s = (mayK key && (if gone then k == 0 && n == 0 && s.toList.isEmpty else mayR k n s)) := rfl
  rw [hv]
  generalize (if gone then k == 0 && n == 0 && s.toList.isEmpty else mayR k n s) = t at *
  generalize mayK key = m at *
  have C2 := Go.Lib.hid c2
  clear c2 hv
  have hb1 := below_one w (.cells #[.string key, .bool gone, .int .i64 k, .int .i64 n, .string s] 25)
  have hA := heap_alloc_new w (.cells #[.string key, .bool gone, .int .i64 k, .int .i64 n, .string s] 25)
  cases m with
  | false =>
    go_enter Try.func12, Try.ntmps12
    go_wp2_with fail
    refine (C1.out _).mono ?_
    rintro e w1 ⟨rfl, hb2⟩
    have hbb := hb1.trans (hb2.mono hb1.size)
    go_wp2_with fail
    go_ret
    exact ⟨rfl, hbb⟩
  | true =>
    go_enter Try.func12, Try.ntmps12
    go_wp2_with fail
    refine (C1.out _).mono ?_
    rintro e w1 ⟨rfl, hb2⟩
    have hbb := hb1.trans (hb2.mono hb1.size)
    have hA := row_kept hA hb2
    obtain ⟨x0, x1, x2, x3, x4⟩ := row5 hA
    go_wp2_with fail
    refine (C2.out _).mono ?_
    rintro e w2 ⟨rfl, hb3⟩
    have hbb := hbb.trans (hb3.mono hbb.size)
    go_wp2_with fail
    go_ret
    exact ⟨by simp, hbb⟩

theorem ite_eqRec (key1 : ByteArray) (gone1 : Bool) (k1 n1 : Int) (s1 key2 : ByteArray) (gone2 : Bool) (k2 n2 : Int) (s2 : ByteArray) (W : World) :
    (if key1.toList = key2.toList then
      if gone1 = gone2 then
       if k1 = k2 then
        if n1 = n2 then
         if s1.toList = s2.toList then Result.ok (Next.value (Value.bool true)) W
         else Result.ok (Next.value (Value.bool false)) W
        else Result.ok (Next.value (Value.bool false)) W
       else Result.ok (Next.value (Value.bool false)) W
      else Result.ok (Next.value (Value.bool false)) W
    else Result.ok (Next.value (Value.bool false)) W) =
    Result.ok (Next.value (Value.bool (eqRec key1 gone1 k1 n1 s1 key2 gone2 k2 n2 s2))) W := by
  unfold eqRec eqR
  by_cases h0 : key1.toList = key2.toList <;> by_cases h4 : gone1 = gone2 <;> by_cases h1 : k1 = k2 <;> by_cases h2 : n1 = n2 <;> by_cases h3 : s1.toList = s2.toList <;> simp [h0, h1, h2, h3, h4]

set_option maxRecDepth 100000 in
theorem peq_c (key1 : ByteArray) (gone1 : Bool) (k1 n1 : Int) (s1 key2 : ByteArray) (gone2 : Bool) (k2 n2 : Int) (s2 : ByteArray) (w : World) :
    Calls Try.prog 13 #[recV key1 gone1 k1 n1 s1, recV key2 gone2 k2 n2 s2] w fun e w' => e = .returned (.bool (eqRec key1 gone1 k1 n1 s1 key2 gone2 k2 n2 s2)) ∧ Below w.heap.size w w' := by
  have hz := fun W => ite_eqRec key1 gone1 k1 n1 s1 key2 gone2 k2 n2 s2 W
  generalize eqRec key1 gone1 k1 n1 s1 key2 gone2 k2 n2 s2 = t at *
  unfold recV
  have hbb := below_two w (.cells #[.string key1, .bool gone1, .int .i64 k1, .int .i64 n1, .string s1] 25) (.cells #[.string key2, .bool gone2, .int .i64 k2, .int .i64 n2, .string s2] 25)
  go_enter Try.func13, Try.ntmps13
  go_wp2_with fail
  go_ret
  exact ⟨rfl, hbb⟩

end Go.Proofs.Ytmlndgkpbodnnaa
