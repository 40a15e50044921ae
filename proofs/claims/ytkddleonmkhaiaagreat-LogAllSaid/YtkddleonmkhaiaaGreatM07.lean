/-
  Contract of the reference's GetText.
  Values as bytes: what is written, what is told again, and the contracts of the reference's PutVal, GetVal.
  Records: contracts of the reference's May, Eq, Bytes.
-/
import Derived.Test.YtkddleonmkhaiaaGreatM06
import Derived.Test.YtkddleonmkhaiaaGreatM05
import Derived.Test.YtkddleonmkhaiaaGreatM01
namespace Go.Proofs.YtkddleonmkhaiaaGreat
open Go.RowKit
open Go.Lib (uvarint zigzag)

end Go.Proofs.YtkddleonmkhaiaaGreat

namespace Go.Proofs.YtkddleonmkhaiaaGreat
open Go.RowKit
open Go.Lib (uvarint zigzag)

/-- A value's bytes. -/
def putV (k n : Int) (s : List UInt8) : List UInt8 := uvarint (zigzag k) ++ (if k = 1 then uvarint (zigzag n) else putT s)

/-- What stands at the beginning of bytes. -/
def valB (l : List UInt8) : (Int × Int × List UInt8) × Nat × Int :=
  if (getB l).2.2 = 0 then
    if (getB l).1 = 1 then
      if (getB (l.drop (getB l).2.1)).2.2 = 0 then ((1, (getB (l.drop (getB l).2.1)).1, []), (getB l).2.1 + (getB (l.drop (getB l).2.1)).2.1, 0)
      else ((0, 0, []), 0, (getB (l.drop (getB l).2.1)).2.2)
    else if (getB l).1 = 2 then
      if (textB (l.drop (getB l).2.1)).2.2 = 0 then
        if mayR 2 0 (str (textB (l.drop (getB l).2.1)).1) then ((2, 0, (textB (l.drop (getB l).2.1)).1), (getB l).2.1 + (textB (l.drop (getB l).2.1)).2.1, 0)
        else ((0, 0, []), 0, 1)
      else ((0, 0, []), 0, (textB (l.drop (getB l).2.1)).2.2)
    else ((0, 0, []), 0, 1)
  else ((0, 0, []), 0, (getB l).2.2)

theorem mayR_cases {k n : Int} {s : List UInt8} (h : mayR k n (str s) = true) : (k = 1 ∧ s = []) ∨ (k = 2 ∧ n = 0 ∧ s.length ≤ 24) := by
  unfold mayR at h
  split at h
  · rename_i hk
    rw [ByteArray.toList_eq, List.isEmpty_iff] at h
    exact .inl ⟨hk, by simpa [str] using h⟩
  · split at h
    · rename_i hk
      rw [Bool.and_eq_true, Bool.and_eq_true, beq_iff_eq, decide_eq_true_eq, str_size] at h
      exact .inr ⟨hk, h.1.1, h.1.2⟩
    · cases h

theorem valB_put (k n : Int) (s r : List UInt8) (h : mayR k n (str s) = true) (h0 : -9223372036854775808 ≤ n) (h1 : n ≤ 9223372036854775807) : valB (putV k n s ++ r) = ((k, n, s), (putV k n s).length, 0) := by
  rcases mayR_cases h with ⟨rfl, rfl⟩ | ⟨rfl, rfl, hs⟩
  · have e1 : putV 1 n [] = uvarint (zigzag 1) ++ uvarint (zigzag n) := by simp [putV]
    have g1 := getB_put 1 (by omega) (by omega) (uvarint (zigzag n) ++ r)
    have g2 := getB_put n h0 h1 r
    rw [e1, List.append_assoc]
    unfold valB
    rw [g1]
    simp only [if_true, List.drop_left]
    rw [g2]
    simp
  · have e1 : putV 2 0 s = uvarint (zigzag 2) ++ putT s := by simp [putV]
    have g1 := getB_put 2 (by omega) (by omega) (putT s ++ r)
    have g2 := textB_put s r (by omega)
    rw [e1, List.append_assoc]
    unfold valB
    rw [g1]
    simp only [if_true, List.drop_left, show ¬ ((2 : Int) = 1) from by omega, if_false]
    rw [g2]
    simp [h]

theorem valB_cut (k n : Int) (s : List UInt8) (h : mayR k n (str s) = true) (h0 : -9223372036854775808 ≤ n) (h1 : n ≤ 9223372036854775807) (j : Nat) (hj : j < (putV k n s).length) : valB ((putV k n s).take j) = ((0, 0, []), 0, 2) := by
  rcases mayR_cases h with ⟨rfl, rfl⟩ | ⟨rfl, rfl, hs⟩
  · have e1 : putV 1 n [] = uvarint (zigzag 1) ++ uvarint (zigzag n) := by simp [putV]
    rw [e1] at hj ⊢
    rw [List.take_append]
    rcases Nat.lt_or_ge j (uvarint (zigzag 1)).length with hlt | hge
    · have g := getB_cut 1 (by omega) (by omega) j hlt
      rw [show j - (uvarint (zigzag 1)).length = 0 from by omega, List.take_zero, List.append_nil]
      unfold valB
      rw [g]
      simp
    · rw [List.take_of_length_le hge]
      rw [List.length_append] at hj
      have g1 := getB_put 1 (by omega) (by omega) ((uvarint (zigzag n)).take (j - (uvarint (zigzag 1)).length))
      have g2 := getB_cut n h0 h1 (j - (uvarint (zigzag 1)).length) (by omega)
      unfold valB
      rw [g1]
      simp only [if_true, List.drop_left]
      rw [g2]
      simp
  · have e1 : putV 2 0 s = uvarint (zigzag 2) ++ putT s := by simp [putV]
    rw [e1] at hj ⊢
    rw [List.take_append]
    rcases Nat.lt_or_ge j (uvarint (zigzag 2)).length with hlt | hge
    · have g := getB_cut 2 (by omega) (by omega) j hlt
      rw [show j - (uvarint (zigzag 2)).length = 0 from by omega, List.take_zero, List.append_nil]
      unfold valB
      rw [g]
      simp
    · rw [List.take_of_length_le hge]
      rw [List.length_append] at hj
      have g1 := getB_put 2 (by omega) (by omega) ((putT s).take (j - (uvarint (zigzag 2)).length))
      have g2 := textB_cut s (by omega) (j - (uvarint (zigzag 2)).length) (by omega)
      unfold valB
      rw [g1]
      simp only [if_true, List.drop_left, show ¬ ((2 : Int) = 1) from by omega, if_false]
      rw [g2]
      simp

/-- A raw value in a box of its own stands while what was made later changes. -/
theorem box_cells (w : World) (k n : Int) (s : ByteArray) (e : TypeId) (w' : World) (hb : Below (w.alloc (.cells #[.int .i64 k, .int .i64 n, .string s] e)).heap.size (w.alloc (.cells #[.int .i64 k, .int .i64 n, .string s] e)) w') :
    w'.cell? ⟨w.heap.size, 0, none⟩ = some (.int .i64 k) ∧ w'.cell? ⟨w.heap.size, 1, none⟩ = some (.int .i64 n) ∧ w'.cell? ⟨w.heap.size, 2, none⟩ = some (.string s) := by
  have hg := heap_alloc_new w (.cells #[.int .i64 k, .int .i64 n, .string s] e)
  have hlt : w.heap.size < (w.alloc (.cells #[.int .i64 k, .int .i64 n, .string s] e)).heap.size := (Array.getElem?_eq_some_iff.1 hg).1
  have c (i : Nat) := cell_of_row _ w.heap.size i #[.int .i64 k, .int .i64 n, .string s] e (0, 0) hg
  exact ⟨(hb.cell hlt).trans (c 0), (hb.cell hlt).trans (c 1), (hb.cell hlt).trans (c 2)⟩

def vv (r : (Int × Int × List UInt8) × Nat × Int) : Value := .tuple #[rawV r.1.1 r.1.2.1 (str r.1.2.2), .int .i64 (r.2.1 : Int), .int .i64 r.2.2]
theorem ret_vv {e : Ending} {r s : (Int × Int × List UInt8) × Nat × Int} (he : e = .returned (vv r)) (h : r = s) : e = .returned (vv s) := by rw [he, h]

theorem valB_err (l : List UInt8) (k e : Int) (p : Nat) (h : getB l = (k, p, e)) (he : e ≠ 0) : valB l = ((0, 0, []), 0, e) := by
  unfold valB
  rw [h]
  simp [he]
theorem valB_num (l : List UInt8) (p m : Nat) (n e : Int) (h : getB l = (1, p, 0)) (g : getB (l.drop p) = (n, m, e)) : valB l = if e = 0 then ((1, n, []), p + m, 0) else ((0, 0, []), 0, e) := by
  unfold valB
  rw [h]
  simp only [if_true]
  rw [g]
theorem valB_text (l s : List UInt8) (p m : Nat) (e : Int) (h : getB l = (2, p, 0)) (g : textB (l.drop p) = (s, m, e)) : valB l = if e = 0 then (if mayR 2 0 (str s) then ((2, 0, s), p + m, 0) else ((0, 0, []), 0, 1)) else ((0, 0, []), 0, e) := by
  unfold valB
  rw [h]
  simp only [if_true, show ¬ ((2 : Int) = 1) from by omega, if_false]
  rw [g]
theorem valB_else (l : List UInt8) (k : Int) (p : Nat) (h : getB l = (k, p, 0)) (h1 : k ≠ 1) (h2 : k ≠ 2) : valB l = ((0, 0, []), 0, 1) := by
  unfold valB
  rw [h]
  simp [h1, h2]

theorem raw_cells_one (k n : Int) (s : ByteArray) : (#[.int .i64 k, .int .i64 n, .string s] : Array Value).all (fun x => x.oneCell') = true := by simp [Value.oneCell']
theorem setRow_below {w0 w : World} {g : Nat} (cs : Array Value) (h : Below w0.heap.size w0 w) (hg : w0.heap.size ≤ g) : Below w0.heap.size w0 (w.setRow g cs) := h.trans ⟨rfl, rfl, rfl, by simp, fun k hk => setRow_other _ _ _ _ (by omega)⟩

theorem two_first (w : World) (o1 o2 : Obj) : ((w.alloc o1).alloc o2).heap[w.heap.size]? = some o1 := by
  have h := heap_alloc_new w o1
  rw [_root_.Go.heap_alloc_old (w.alloc o1) o2 (Array.getElem?_eq_some_iff.1 h).1]
  exact h

theorem textB_small {l s : List UInt8} {m : Nat} {e : Int} (h : textB l = (s, m, e)) (he : e = 0) : s.length ≤ 65536 ∧ m ≤ 70000 := by
  have hf := getB_fits l
  unfold textB at h
  split at h
  · simp only [Prod.mk.injEq] at h
    have := h.1
    have := h.2.1
    subst s
    subst m
    simp
  · split at h
    · simp only [Prod.mk.injEq] at h
      omega
    · split at h
      · simp only [Prod.mk.injEq] at h
        omega
      · simp only [Prod.mk.injEq] at h
        obtain ⟨h1, h2, -⟩ := h
        subst h1
        rw [List.length_take]
        omega

end Go.Proofs.YtkddleonmkhaiaaGreat

namespace Go.Proofs.YtkddleonmkhaiaaGreat
open Go.RowKit
open Go.Lib (uvarint zigzag)

/-- What may be a record. -/
def mayRec (key : ByteArray) (gone : Bool) (k n : Int) (s : ByteArray) : Bool := mayK key && (if gone then k == 0 && n == 0 && s.toList.isEmpty else mayR k n s)
/-- The same Key, Gone, Val. -/
def eqRec (key1 : ByteArray) (gone1 : Bool) (k1 n1 : Int) (s1 key2 : ByteArray) (gone2 : Bool) (k2 n2 : Int) (s2 : ByteArray) : Bool := key1.toList == key2.toList && gone1 == gone2 && eqR k1 n1 s1 k2 n2 s2
/-- A record's bytes. -/
def recB (key : List UInt8) (gone : Bool) (k n : Int) (s : List UInt8) : List UInt8 := putT key ++ (if gone then uvarint (zigzag 0) else putV k n s)

def recO (key : ByteArray) (gone : Bool) (k n : Int) (s : ByteArray) : Obj := .cells #[.string key, .bool gone, .int .i64 k, .int .i64 n, .string s] 33

set_option maxRecDepth 100000 in
theorem rmayrec_c (key : ByteArray) (gone : Bool) (k n : Int) (s : ByteArray) (w : World) (hk : key.size ≤ maxLen) (hm : s.size ≤ maxLen) :
    Calls Tryz.prog 10 #[recV key gone k n s] w fun e w' => e = .returned (.bool (mayRec key gone k n s)) ∧ Below w.heap.size w w' := by
  unfold recV
  have C1 := Go.Lib.hid fun W => rmay_c key W hk
  have C2 := Go.Lib.hid fun W => mayval_c k n s W hm
  clear hk hm
  cases h1 : mayK key with
  | false =>
    have hv := Go.Lib.hid (show mayRec key gone k n s = false from by unfold mayRec; rw [h1]; rfl)
    rw [h1] at C1
    clear h1
    go_enter Tryz.func10, Tryz.ntmps10
    go_wp2_with fail
    refine (C1.out _).mono ?_
    rintro e w1 ⟨rfl, rfl⟩
    go_wp2_with fail
    go_ret
    exact ⟨ret_of (congrArg Value.bool hv.out.symm), below_one _ _⟩
  | true =>
    have hv := Go.Lib.hid (show mayRec key gone k n s = (if gone then k == 0 && n == 0 && s.toList.isEmpty else mayR k n s) from by unfold mayRec; rw [h1]; rfl)
    rw [h1] at C1
    clear h1
    cases gone with
    | false =>
      have hv := Go.Lib.hid (hv.out.trans (if_neg (by decide)))
      go_enter Tryz.func10, Tryz.ntmps10
      go_wp2_with fail
      refine (C1.out _).mono ?_
      rintro e w1 ⟨rfl, rfl⟩
      go_wp2_with fail
      refine (C2.out _).mono ?_
      rintro e w2 ⟨rfl, hb2⟩
      have hbb := (below_one w _).trans (hb2.mono (below_one w _).size)
      go_wp2_with fail
      go_ret
      exact ⟨ret_of (congrArg Value.bool hv.out.symm), hbb⟩
    | true =>
      have hv := Go.Lib.hid (hv.out.trans (if_pos rfl))
      clear C2
      by_cases hk : k = 0
      · by_cases hn : n = 0
        · have he : Hid (mayRec key true k n s = s.toList.isEmpty) := by
            unfold Hid
            rw [hv.out, hk, hn]
            cases s.toList <;> rfl
          clear hv
          go_enter Tryz.func10, Tryz.ntmps10
          go_wp2_with fail
          refine (C1.out _).mono ?_
          rintro e w1 ⟨rfl, rfl⟩
          go_wp2_with fail
          go_ret
          exact ⟨ret_of (congrArg Value.bool (by first | exact he.out.symm | (subst hk; subst hn; exact he.out.symm))), below_one _ _⟩
        · have he : Hid (mayRec key true k n s = false) := by unfold Hid; rw [hv.out]; simp [hn]
          have hnb : (n == 0) = false := by simp [hn]
          clear hv
          go_enter Tryz.func10, Tryz.ntmps10
          go_wp2_with fail
          refine (C1.out _).mono ?_
          rintro e w1 ⟨rfl, rfl⟩
          go_wp2_with fail
          go_ret
          exact ⟨ret_of (congrArg Value.bool (by first | exact he.out.symm | (subst hk; exact he.out.symm))), below_one _ _⟩
      · have he : Hid (mayRec key true k n s = false) := by unfold Hid; rw [hv.out]; simp [hk]
        have hkb : (k == 0) = false := by simp [hk]
        clear hv
        go_enter Tryz.func10, Tryz.ntmps10
        go_wp2_with fail
        refine (C1.out _).mono ?_
        rintro e w1 ⟨rfl, rfl⟩
        go_wp2_with fail
        go_ret
        exact ⟨ret_of (congrArg Value.bool he.out.symm), below_one _ _⟩

set_option maxRecDepth 100000 in
theorem reqrec_c (key1 : ByteArray) (gone1 : Bool) (k1 n1 : Int) (s1 key2 : ByteArray) (gone2 : Bool) (k2 n2 : Int) (s2 : ByteArray) (w : World) :
    Calls Tryz.prog 16 #[recV key1 gone1 k1 n1 s1, recV key2 gone2 k2 n2 s2] w fun e w' => e = .returned (.bool (eqRec key1 gone1 k1 n1 s1 key2 gone2 k2 n2 s2)) ∧ Below w.heap.size w w' := by
  unfold recV
  have C := Go.Lib.hid fun W => eqval_c k1 n1 s1 k2 n2 s2 W
  unfold rawV at C
  by_cases h1 : key1 = key2
  · by_cases h2 : gone1 = gone2
    · have he : Hid (eqRec key1 gone1 k1 n1 s1 key2 gone2 k2 n2 s2 = eqR k1 n1 s1 k2 n2 s2) := by unfold Hid eqRec; simp [h1, h2]
      subst h1 h2
      go_enter Tryz.func16, Tryz.ntmps16
      go_wp2_with fail
      refine (C.out _).mono ?_
      rintro e w2 ⟨rfl, hb2⟩
      have hbb := (below_two w _ _).trans (hb2.mono (below_two w _ _).size)
      go_wp2_with fail
      go_ret
      exact ⟨ret_of (congrArg Value.bool he.out.symm), hbb⟩
    · have he : Hid (eqRec key1 gone1 k1 n1 s1 key2 gone2 k2 n2 s2 = false) := by unfold Hid eqRec; simp [h2]
      have hgb : (gone1 == gone2) = false := by simp [h2]
      subst h1
      go_enter Tryz.func16, Tryz.ntmps16
      go_wp2_with fail
      go_ret
      exact ⟨ret_of (congrArg Value.bool he.out.symm), below_two _ _ _⟩
  · have hkb : (key1.toList == key2.toList) = false := by
      rw [ByteArray.toList_eq, ByteArray.toList_eq]
      simp only [beq_eq_false_iff_ne, ne_eq]
      exact fun h => h1 (ByteArray.ext (Array.toList_inj.1 h))
    have he : Hid (eqRec key1 gone1 k1 n1 s1 key2 gone2 k2 n2 s2 = false) := by unfold Hid eqRec; rw [hkb]; rfl
    clear h1
    go_enter Tryz.func16, Tryz.ntmps16
    go_wp2_with fail
    go_ret
    exact ⟨ret_of (congrArg Value.bool he.out.symm), below_two _ _ _⟩

/-- The five cells of a record in a box of its own, whatever was made later. -/
theorem rec_box {w w' : World} (key : ByteArray) (gone : Bool) (k n : Int) (s : ByteArray) (hb : Below (w.alloc (recO key gone k n s)).heap.size (w.alloc (recO key gone k n s)) w') :
    w'.heap[w.heap.size]? = some (recO key gone k n s) ∧ w'.cell? ⟨w.heap.size, 0, none⟩ = some (.string key) ∧ w'.cell? ⟨w.heap.size, 1, none⟩ = some (.bool gone) ∧ w'.cell? ⟨w.heap.size, 2, none⟩ = some (.int .i64 k) ∧ w'.cell? ⟨w.heap.size, 3, none⟩ = some (.int .i64 n) ∧ w'.cell? ⟨w.heap.size, 4, none⟩ = some (.string s) := by
  have hg := heap_alloc_new w (recO key gone k n s)
  have hlt : w.heap.size < (w.alloc (recO key gone k n s)).heap.size := (Array.getElem?_eq_some_iff.1 hg).1
  have hh := (hb.block _ hlt).trans hg
  unfold recO at *
  have c (i : Nat) := cell_of_row w' w.heap.size i _ _ _ hh
  exact ⟨hh, c 0, c 1, c 2, c 3, c 4⟩

end Go.Proofs.YtkddleonmkhaiaaGreat
