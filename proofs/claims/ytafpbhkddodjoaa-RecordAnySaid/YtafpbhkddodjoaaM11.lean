/-
  Package key: contract of May.
  Package record: contracts of valMay, May, Eq.
  Records: contract of the reference's Bytes.
-/
import Derived.Test.YtafpbhkddodjoaaM01
import Derived.Test.YtafpbhkddodjoaaM07
import Derived.Test.YtafpbhkddodjoaaM08
import Derived.Test.YtafpbhkddodjoaaM10
namespace Go.Proofs.Ytafpbhkddodjoaa
open Go.RowKit Go.Op

set_option maxRecDepth 100000 in
theorem kmayL_c (s : ByteArray) (w : World) (hm : s.size ≤ maxLen) : Calls Try.prog 27 #[.string s] w fun e w' => e = .returned (.bool (mayK s)) ∧ Below w.heap.size w w' := by
  unfold maxLen at hm
  have hb := Below.refl w.heap.size w
  by_cases h1 : 1 ≤ s.size
  · by_cases h2 : s.size ≤ 16
    · go_enter Try.func27, Try.ntmps27
      go_wp2
      go_ret
      exact ⟨ret_of (congrArg Value.bool (by unfold mayK; simp [h1, h2]; try omega)), hb⟩
    · go_enter Try.func27, Try.ntmps27
      go_wp2
      go_ret
      exact ⟨ret_of (congrArg Value.bool (by unfold mayK; simp [h2]; try omega)), hb⟩
  · go_enter Try.func27, Try.ntmps27
    go_wp2
    go_ret
    exact ⟨ret_of (congrArg Value.bool (by unfold mayK; simp [h1]; try omega)), hb⟩

theorem kmay_c (s : ByteArray) (w : World) (hm : s.size ≤ 1000000) : Calls Try.prog 27 #[.string s] w fun e w' => e = .returned (.bool (mayK s)) ∧ Below w.heap.size w w' :=
  kmayL_c s w (by unfold maxLen; omega)

end Go.Proofs.Ytafpbhkddodjoaa

namespace Go.Proofs.Ytafpbhkddodjoaa
open Go.RowKit Go.Op

theorem ite_zero (k n : Int) (s : ByteArray) (W : World) :
    (if k = 0 then
      if n = 0 then
        if s.toList = [] then Result.ok (Next.value (Value.bool true)) W
        else Result.ok (Next.value (Value.bool false)) W
      else Result.ok (Next.value (Value.bool false)) W
    else Result.ok (Next.value (Value.bool false)) W) =
    Result.ok (Next.value (Value.bool (k == 0 && n == 0 && s.toList.isEmpty))) W := by
  by_cases h1 : k = 0 <;> by_cases h2 : n = 0 <;> by_cases h3 : s.toList = [] <;> simp [h1, h2, h3]

set_option maxRecDepth 100000 in
theorem valmay_c (key : ByteArray) (gone : Bool) (k n : Int) (s : ByteArray) (w : World) :
    Calls Try.prog 28 #[recV key gone k n s] w fun e w' => e = .returned (.bool (if gone then k == 0 && n == 0 && s.toList.isEmpty else mayR k n s)) ∧ Below w.heap.size w w' := by
  unfold recV
  have hb1 := below_one w (.cells #[.string key, .bool gone, .int .i64 k, .int .i64 n, .string s] 25)
  cases gone with
  | true =>
    have hz := fun W => ite_zero k n s W
    rw [if_pos rfl]
    generalize (k == 0 && n == 0 && s.toList.isEmpty) = t at *
    go_enter Try.func28, Try.ntmps28
    go_wp2_with fail
    go_ret
    exact ⟨rfl, hb1⟩
  | false =>
    rw [if_neg (by decide)]
    have C := Go.Lib.hid fun W => vof_c k n s W
    unfold ofV rawV VI.val at C
    obtain ⟨t, ht⟩ : ∃ t, t = mayR k n s := ⟨_, rfl⟩
    rw [← ht] at C ⊢
    clear ht
    go_enter Try.func28, Try.ntmps28
    go_wp2_with fail
    refine (C.out _).mono ?_
    rintro e w1 ⟨rfl, hb2⟩
    generalize ofR k n s = x at *
    have hst := store_vi x
    have hbb := hb1.trans (hb2.mono hb1.size)
    have hb3 := hbb.trans ((below_one w1 (.cells #[x.v] 68)).mono hbb.size)
    cases t with
    | true =>
      rw [if_pos rfl]
      go_wp2_with fail
      go_ret
      exact ⟨rfl, hb3⟩
    | false =>
      rw [if_neg (by decide)]
      go_wp2_with fail
      go_ret
      exact ⟨rfl, hb3⟩

set_option maxRecDepth 100000 in
theorem pmay_c (key : ByteArray) (gone : Bool) (k n : Int) (s : ByteArray) (w : World) (hk : key.size ≤ maxLen) (_hm : s.size ≤ maxLen) :
    Calls Try.prog 12 #[recV key gone k n s] w fun e w' => e = .returned (.bool (mayRec key gone k n s)) ∧ Below w.heap.size w w' := by
  have C1 := Go.Lib.hid fun W => kmayL_c key W hk
  have c2 := fun W => valmay_c key gone k n s W
  unfold recV at c2 ⊢
  have hv : mayRec key gone k n s = (mayK key && (if gone then k == 0 && n == 0 && s.toList.isEmpty else mayR k n s)) := rfl
  rw [hv]
  generalize (if gone then k == 0 && n == 0 && s.toList.isEmpty else mayR k n s) = t at *
  generalize mayK key = m at *
  have C2 := Go.Lib.hid c2
  clear c2 hv
  have hb1 := below_one w (.cells #[.string key, .bool gone, .int .i64 k, .int .i64 n, .string s] 25)
  have hA := heap_alloc_new w (.cells #[.string key, .bool gone, .int .i64 k, .int .i64 n, .string s] 25)
  cases m with
  | false =>
    go_enter Try.func12, Try.ntmps12
    go_wp2_with fail
    refine (C1.out _).mono ?_
    rintro e w1 ⟨rfl, hb2⟩
    have hbb := hb1.trans (hb2.mono hb1.size)
    go_wp2_with fail
    go_ret
    exact ⟨rfl, hbb⟩
  | true =>
    go_enter Try.func12, Try.ntmps12
    go_wp2_with fail
    refine (C1.out _).mono ?_
    rintro e w1 ⟨rfl, hb2⟩
    have hbb := hb1.trans (hb2.mono hb1.size)
    have hA := row_kept hA hb2
    obtain ⟨x0, x1, x2, x3, x4⟩ := row5 hA
    go_wp2_with fail
    refine (C2.out _).mono ?_
    rintro e w2 ⟨rfl, hb3⟩
    have hbb := hbb.trans (hb3.mono hbb.size)
    go_wp2_with fail
    go_ret
    exact ⟨by simp, hbb⟩

theorem ite_eqRec (key1 : ByteArray) (gone1 : Bool) (k1 n1 : Int) (s1 key2 : ByteArray) (gone2 : Bool) (k2 n2 : Int) (s2 : ByteArray) (W : World) :
    (if key1.toList = key2.toList then
      if gone1 = gone2 then
       if k1 = k2 then
        if n1 = n2 then
         if s1.toList = s2.toList then Result.ok (Next.value (Value.bool true)) W
         else Result.ok (Next.value (Value.bool false)) W
        else Result.ok (Next.value (Value.bool false)) W
       else Result.ok (Next.value (Value.bool false)) W
      else Result.ok (Next.value (Value.bool false)) W
    else Result.ok (Next.value (Value.bool false)) W) =
    Result.ok (Next.value (Value.bool (eqRec key1 gone1 k1 n1 s1 key2 gone2 k2 n2 s2))) W := by
  unfold eqRec eqR
  by_cases h0 : key1.toList = key2.toList <;> by_cases h4 : gone1 = gone2 <;> by_cases h1 : k1 = k2 <;> by_cases h2 : n1 = n2 <;> by_cases h3 : s1.toList = s2.toList <;> simp [h0, h1, h2, h3, h4]

set_option maxRecDepth 100000 in
theorem peq_c (key1 : ByteArray) (gone1 : Bool) (k1 n1 : Int) (s1 key2 : ByteArray) (gone2 : Bool) (k2 n2 : Int) (s2 : ByteArray) (w : World) :
    Calls Try.prog 13 #[recV key1 gone1 k1 n1 s1, recV key2 gone2 k2 n2 s2] w fun e w' => e = .returned (.bool (eqRec key1 gone1 k1 n1 s1 key2 gone2 k2 n2 s2)) ∧ Below w.heap.size w w' := by
  have hz := fun W => ite_eqRec key1 gone1 k1 n1 s1 key2 gone2 k2 n2 s2 W
  generalize eqRec key1 gone1 k1 n1 s1 key2 gone2 k2 n2 s2 = t at *
  unfold recV
  have hbb := below_two w (.cells #[.string key1, .bool gone1, .int .i64 k1, .int .i64 n1, .string s1] 25) (.cells #[.string key2, .bool gone2, .int .i64 k2, .int .i64 n2, .string s2] 25)
  go_enter Try.func13, Try.ntmps13
  go_wp2_with fail
  go_ret
  exact ⟨rfl, hbb⟩

end Go.Proofs.Ytafpbhkddodjoaa

namespace Go.Proofs.Ytafpbhkddodjoaa
open Go.RowKit
open Go.Lib (uvarint zigzag)

set_option maxRecDepth 100000 in
theorem rbytes_c (key : List UInt8) (gone : Bool) (k n : Int) (s : List UInt8) (w : World) (hk : key.length ≤ 60000) (k0 : -9223372036854775808 ≤ k) (k1 : k ≤ 9223372036854775807) (h0 : -9223372036854775808 ≤ n) (h1 : n ≤ 9223372036854775807) (hs : s.length ≤ 60000) :
    Calls Try.prog 16 #[recV (str key) gone k n (str s)] w fun e w' => ∃ v, e = .returned v ∧ Own 5 w' w.heap.size v (recB key gone k n s) ∧ Below w.heap.size w w' := by
  unfold recV
  have C1 := Go.Lib.hid fun W => rputText_c (str key) W (by rw [str_size]; omega)
  have e1 : putT (str key).data.toList = putT key := by simp [str]
  have e2 : (putT key).length ≤ 60010 := by
    rw [putT, List.length_append]
    have := Go.Lib.uvarint_length64 (Go.Lib.zigzag_lt (x := (key.length : Int)) (by omega) (by omega))
    omega
  have C1 := C1.out
  rw [e1] at C1
  have C1' := Go.Lib.hid C1
  have hbA := below_one w (.cells #[.string (str key), .bool gone, .int .i64 k, .int .i64 n, .string (str s)] 25)
  clear C1 e1 hk
  cases gone with
  | true =>
    have C2 := Go.Lib.hid fun W => rput_c 0 W (by omega) (by omega)
    have e3 : (uvarint (zigzag 0)).length ≤ 10 := Go.Lib.uvarint_length64 (Go.Lib.zigzag_lt (by omega) (by omega))
    have he : Hid (recB key true k n s = putT key ++ uvarint (zigzag 0)) := rfl
    clear k0 k1 h0 h1 hs
    generalize uvarint (zigzag 0) = un at *
    generalize putT key = uk at *
    go_enter Try.func16, Try.ntmps16
    go_wp2_with fail
    refine (C1'.out _).mono ?_
    rintro e w1 ⟨v1, rfl, hown1, hb1⟩
    obtain ⟨hh, x0, x1, x2, x3, x4⟩ := rec_box _ _ _ _ _ hb1
    have hbb1 := hbA.trans (hb1.mono hbA.size)
    have hown1' := hown1.mono hbA.size
    clear hown1 hb1 hbA hh
    go_wp2_with fail
    refine (C2.out _).mono ?_
    rintro e w2 ⟨v2, rfl, hown2, hb2⟩
    have hbb2 := hbb1.trans (hb2.mono hbb1.size)
    have hownA := hown1'.below hb2
    have hrb2 := hown2.rb
    clear hown1' hown2 hb2 hbb1 x0 x1 x2 x3 x4
    go_wp2_with (first
      | (with_reducible show wpList _ _ _ (⟨some 11, _, _, _, _, _⟩ :: _) _ _; go_loud (refine wpList_append_RB rfl (.tmp 9) (.tmp 10) 26 rfl w.heap.size 5 Try.underlying26 info8 v1 v2 uk un rfl rfl hownA hrb2 (by omega) hbb2.size ?_); intro v3 w3 hown3 hg3; have hbb3 := hbb2.grown hg3 hbb2.size hownA.row)
      | fail)
    go_ret
    exact ⟨_, rfl, by rw [he.out]; exact hown3, hbb3⟩
  | false =>
    have C2 := Go.Lib.hid fun W => rputVal_c k n s W k0 k1 h0 h1 hs
    have e3 : (putV k n s).length ≤ 60050 := by
      have a1 := Go.Lib.uvarint_length64 (Go.Lib.zigzag_lt k0 k1)
      have a2 := Go.Lib.uvarint_length64 (Go.Lib.zigzag_lt h0 h1)
      have a3 := Go.Lib.uvarint_length64 (Go.Lib.zigzag_lt (x := (s.length : Int)) (by omega) (by omega))
      unfold putV putT
      split <;> simp only [List.length_append] <;> omega
    have he : Hid (recB key false k n s = putT key ++ putV k n s) := rfl
    clear k0 k1 h0 h1 hs
    generalize putV k n s = un at *
    generalize putT key = uk at *
    unfold rawV at C2
    go_enter Try.func16, Try.ntmps16
    go_wp2_with fail
    refine (C1'.out _).mono ?_
    rintro e w1 ⟨v1, rfl, hown1, hb1⟩
    obtain ⟨hh, x0, x1, x2, x3, x4⟩ := rec_box _ _ _ _ _ hb1
    have hbb1 := hbA.trans (hb1.mono hbA.size)
    have hown1' := hown1.mono hbA.size
    clear hown1 hb1 hbA
    unfold recO at hh
    go_wp2_with fail
    refine (C2.out _).mono ?_
    rintro e w2 ⟨v2, rfl, hown2, hb2⟩
    have hbb2 := hbb1.trans (hb2.mono hbb1.size)
    have hownA := hown1'.below hb2
    have hrb2 := hown2.rb
    clear hown1' hown2 hb2 hbb1 x0 x1 x2 x3 x4 hh
    go_wp2_with (first
      | (with_reducible show wpList _ _ _ (⟨some 16, _, _, _, _, _⟩ :: _) _ _; go_loud (refine wpList_append_RB rfl (.tmp 12) (.tmp 15) 26 rfl w.heap.size 5 Try.underlying26 info8 v1 v2 uk un rfl rfl hownA hrb2 (by omega) hbb2.size ?_); intro v3 w3 hown3 hg3; have hbb3 := hbb2.grown hg3 hbb2.size hownA.row)
      | fail)
    go_ret
    exact ⟨_, rfl, by rw [he.out]; exact hown3, hbb3⟩

end Go.Proofs.Ytafpbhkddodjoaa
