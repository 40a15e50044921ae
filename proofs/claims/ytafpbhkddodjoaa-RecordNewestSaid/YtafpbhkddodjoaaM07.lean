/-
  Contract of the reference's GetText.
  Values as bytes: what is written, what is told again, and the contracts of the reference's PutVal, GetVal.
  Records: contracts of the reference's May, Eq, Bytes.
-/
import Derived.Test.YtafpbhkddodjoaaM06
import Derived.Test.YtafpbhkddodjoaaM05
import Derived.Test.YtafpbhkddodjoaaM01
namespace Go.Proofs.Ytafpbhkddodjoaa
open Go.RowKit
open Go.Lib (uvarint zigzag)

theorem rgetText_c (v : Value) (l : List UInt8) (w : World) (hv : RB w v l) :
    Calls Try.prog 50 #[v] w fun e w' => e = .returned (tv (textB l)) ∧ w = w' := by
  have hrb := hv
  obtain ⟨a, cap, rfl, h1, h2, h3, h4⟩ := hv
  have hm : l.length ≤ 9223372036854775807 := by unfold maxLen at h2; omega
  clear h4 h3
  have hget := rget_c (.slice a l.length cap) l w hrb
  have hfit := getB_fits l
  have htx : textB l = textB l := rfl
  conv at htx => rhs; unfold textB
  rcases hr : getB l with ⟨n, k, er⟩
  rw [hr] at hget hfit htx
  simp only [] at hfit htx
  obtain ⟨f1, f2, f3, f4, f5, f6⟩ := hfit
  have Hget := Go.Lib.hid hget; clear hget
  have Hr := Go.Lib.hid hr; clear hr
  have Htx := Go.Lib.hid htx; clear htx
  by_cases her : er = 0
  · subst her
    by_cases hn : n < 0 ∨ 65536 < n
    · have htx := Htx.out
      rw [if_neg (by simp), if_pos hn] at htx
      have Ht := Go.Lib.hid htx; clear htx
      by_cases hn0 : n < 0
      all_goals
        go_enter Try.func50, Try.ntmps50
        go_wp2_with (go_at_call 51; refine Hget.out.mono ?_; rintro e w1 ⟨rfl, rfl⟩; unfold gv)
        go_ret3
        exact ⟨ret_tv (r := ([], 0, 1)) rfl Ht.out.symm, rfl⟩
    · by_cases hlen : l.length < k + n.toNat
      · have htx := Htx.out
        rw [if_neg (by simp), if_neg hn, if_pos hlen] at htx
        have Ht := Go.Lib.hid htx; clear htx
        go_enter Try.func50, Try.ntmps50
        go_wp2_with (go_at_call 51; refine Hget.out.mono ?_; rintro e w1 ⟨rfl, rfl⟩; unfold gv)
        go_ret3
        exact ⟨ret_tv (r := ([], 0, 2)) rfl Ht.out.symm, rfl⟩
      · obtain ⟨m, rfl⟩ : ∃ m : Nat, n = (m : Int) := ⟨n.toNat, by omega⟩
        have htx := Htx.out
        rw [if_neg (by simp), if_neg hn, if_neg hlen, Int.toNat_natCast] at htx
        have ht2 : textB l = ((l.take (k + m)).drop k, k + m, 0) := by rw [htx, List.drop_take, show k + m - k = m from by omega]
        have Ht := Go.Lib.hid ht2; clear htx ht2
        rw [Int.toNat_natCast] at hlen
        go_enter Try.func50, Try.ntmps50
        go_wp2_with (first
          | (go_at_call 51; refine Hget.out.mono ?_; rintro e w1 ⟨rfl, rfl⟩; unfold gv)
          | (with_reducible show wpList _ _ _ (⟨some 34, _, _, _, _, _⟩ :: _) _ _; go_loud (refine wpList_slice_lh rfl (.tmp 29) (.tmp 30) (.tmp 33) 26 rfl 5 Try.underlying26 info8 (.slice a l.length cap) l .i64 .i64 _ _ k (k + m) rfl rfl rfl rfl (by omega) hrb (by omega) (by omega) ?_); intro v2 hv2)
          | (with_reducible show wpList _ _ _ (⟨some 35, _, _, _, _, _⟩ :: _) _ _; go_loud (refine wpList_string_RB rfl (.tmp 34) 26 9 rfl 5 Try.underlying26 Try.underlying5 Try.underlying9 v2 _ rfl hv2 ?_)))
        go_ret3
        exact ⟨ret_tv (r := ((l.take (k + m)).drop k, k + m, 0)) rfl Ht.out.symm, rfl⟩
  · have htx := Htx.out
    rw [if_pos her] at htx
    have Ht := Go.Lib.hid htx; clear htx
    go_enter Try.func50, Try.ntmps50
    go_wp2_with (go_at_call 51; refine Hget.out.mono ?_; rintro e w1 ⟨rfl, rfl⟩; unfold gv)
    go_ret3
    exact ⟨ret_tv (r := ([], 0, er)) rfl Ht.out.symm, rfl⟩

end Go.Proofs.Ytafpbhkddodjoaa

namespace Go.Proofs.Ytafpbhkddodjoaa
open Go.RowKit
open Go.Lib (uvarint zigzag)

/-- A value's bytes. -/
def putV (k n : Int) (s : List UInt8) : List UInt8 := uvarint (zigzag k) ++ (if k = 1 then uvarint (zigzag n) else putT s)

/-- What stands at the beginning of bytes. -/
def valB (l : List UInt8) : (Int × Int × List UInt8) × Nat × Int :=
  if (getB l).2.2 = 0 then
    if (getB l).1 = 1 then
      if (getB (l.drop (getB l).2.1)).2.2 = 0 then ((1, (getB (l.drop (getB l).2.1)).1, []), (getB l).2.1 + (getB (l.drop (getB l).2.1)).2.1, 0)
      else ((0, 0, []), 0, (getB (l.drop (getB l).2.1)).2.2)
    else if (getB l).1 = 2 then
      if (textB (l.drop (getB l).2.1)).2.2 = 0 then
        if mayR 2 0 (str (textB (l.drop (getB l).2.1)).1) then ((2, 0, (textB (l.drop (getB l).2.1)).1), (getB l).2.1 + (textB (l.drop (getB l).2.1)).2.1, 0)
        else ((0, 0, []), 0, 1)
      else ((0, 0, []), 0, (textB (l.drop (getB l).2.1)).2.2)
    else ((0, 0, []), 0, 1)
  else ((0, 0, []), 0, (getB l).2.2)

theorem mayR_cases {k n : Int} {s : List UInt8} (h : mayR k n (str s) = true) : (k = 1 ∧ s = []) ∨ (k = 2 ∧ n = 0 ∧ s.length ≤ 24) := by
  unfold mayR at h
  split at h
  · rename_i hk
    rw [ByteArray.toList_eq, List.isEmpty_iff] at h
    exact .inl ⟨hk, by simpa [str] using h⟩
  · split at h
    · rename_i hk
      rw [Bool.and_eq_true, Bool.and_eq_true, beq_iff_eq, decide_eq_true_eq, str_size] at h
      exact .inr ⟨hk, h.1.1, h.1.2⟩
    · cases h

theorem valB_put (k n : Int) (s r : List UInt8) (h : mayR k n (str s) = true) (h0 : -9223372036854775808 ≤ n) (h1 : n ≤ 9223372036854775807) : valB (putV k n s ++ r) = ((k, n, s), (putV k n s).length, 0) := by
  rcases mayR_cases h with ⟨rfl, rfl⟩ | ⟨rfl, rfl, hs⟩
  · have e1 : putV 1 n [] = uvarint (zigzag 1) ++ uvarint (zigzag n) := by simp [putV]
    have g1 := getB_put 1 (by omega) (by omega) (uvarint (zigzag n) ++ r)
    have g2 := getB_put n h0 h1 r
    rw [e1, List.append_assoc]
    unfold valB
    rw [g1]
    simp only [if_true, List.drop_left]
    rw [g2]
    simp
  · have e1 : putV 2 0 s = uvarint (zigzag 2) ++ putT s := by simp [putV]
    have g1 := getB_put 2 (by omega) (by omega) (putT s ++ r)
    have g2 := textB_put s r (by omega)
    rw [e1, List.append_assoc]
    unfold valB
    rw [g1]
    simp only [if_true, List.drop_left, show ¬ ((2 : Int) = 1) from by omega, if_false]
    rw [g2]
    simp [h]

theorem valB_cut (k n : Int) (s : List UInt8) (h : mayR k n (str s) = true) (h0 : -9223372036854775808 ≤ n) (h1 : n ≤ 9223372036854775807) (j : Nat) (hj : j < (putV k n s).length) : valB ((putV k n s).take j) = ((0, 0, []), 0, 2) := by
  rcases mayR_cases h with ⟨rfl, rfl⟩ | ⟨rfl, rfl, hs⟩
  · have e1 : putV 1 n [] = uvarint (zigzag 1) ++ uvarint (zigzag n) := by simp [putV]
    rw [e1] at hj ⊢
    rw [List.take_append]
    rcases Nat.lt_or_ge j (uvarint (zigzag 1)).length with hlt | hge
    · have g := getB_cut 1 (by omega) (by omega) j hlt
      rw [show j - (uvarint (zigzag 1)).length = 0 from by omega, List.take_zero, List.append_nil]
      unfold valB
      rw [g]
      simp
    · rw [List.take_of_length_le hge]
      rw [List.length_append] at hj
      have g1 := getB_put 1 (by omega) (by omega) ((uvarint (zigzag n)).take (j - (uvarint (zigzag 1)).length))
      have g2 := getB_cut n h0 h1 (j - (uvarint (zigzag 1)).length) (by omega)
      unfold valB
      rw [g1]
      simp only [if_true, List.drop_left]
      rw [g2]
      simp
  · have e1 : putV 2 0 s = uvarint (zigzag 2) ++ putT s := by simp [putV]
    rw [e1] at hj ⊢
    rw [List.take_append]
    rcases Nat.lt_or_ge j (uvarint (zigzag 2)).length with hlt | hge
    · have g := getB_cut 2 (by omega) (by omega) j hlt
      rw [show j - (uvarint (zigzag 2)).length = 0 from by omega, List.take_zero, List.append_nil]
      unfold valB
      rw [g]
      simp
    · rw [List.take_of_length_le hge]
      rw [List.length_append] at hj
      have g1 := getB_put 2 (by omega) (by omega) ((putT s).take (j - (uvarint (zigzag 2)).length))
      have g2 := textB_cut s (by omega) (j - (uvarint (zigzag 2)).length) (by omega)
      unfold valB
      rw [g1]
      simp only [if_true, List.drop_left, show ¬ ((2 : Int) = 1) from by omega, if_false]
      rw [g2]
      simp

/-- A raw value in a box of its own stands while what was made later changes. -/
theorem box_cells (w : World) (k n : Int) (s : ByteArray) (e : TypeId) (w' : World) (hb : Below (w.alloc (.cells #[.int .i64 k, .int .i64 n, .string s] e)).heap.size (w.alloc (.cells #[.int .i64 k, .int .i64 n, .string s] e)) w') :
    w'.cell? ⟨w.heap.size, 0, none⟩ = some (.int .i64 k) ∧ w'.cell? ⟨w.heap.size, 1, none⟩ = some (.int .i64 n) ∧ w'.cell? ⟨w.heap.size, 2, none⟩ = some (.string s) := by
  have hg := heap_alloc_new w (.cells #[.int .i64 k, .int .i64 n, .string s] e)
  have hlt : w.heap.size < (w.alloc (.cells #[.int .i64 k, .int .i64 n, .string s] e)).heap.size := (Array.getElem?_eq_some_iff.1 hg).1
  have c (i : Nat) := cell_of_row _ w.heap.size i #[.int .i64 k, .int .i64 n, .string s] e (0, 0) hg
  exact ⟨(hb.cell hlt).trans (c 0), (hb.cell hlt).trans (c 1), (hb.cell hlt).trans (c 2)⟩

set_option maxRecDepth 100000 in
theorem rputVal_c (k n : Int) (s : List UInt8) (w : World) (k0 : -9223372036854775808 ≤ k) (k1 : k ≤ 9223372036854775807) (h0 : -9223372036854775808 ≤ n) (h1 : n ≤ 9223372036854775807) (hs : s.length ≤ 60000) :
    Calls Try.prog 36 #[rawV k n (str s)] w fun e w' => ∃ v, e = .returned v ∧ Own 5 w' w.heap.size v (putV k n s) ∧ Below w.heap.size w w' := by
  unfold rawV
  have C1 := Go.Lib.hid fun W => rput_c k W k0 k1
  have hlk := Go.Lib.uvarint_length64 (Go.Lib.zigzag_lt k0 k1)
  have hln := Go.Lib.uvarint_length64 (Go.Lib.zigzag_lt h0 h1)
  have hbA := below_one w (.cells #[.int .i64 k, .int .i64 n, .string (str s)] 23)
  by_cases hk : k = 1
  · have C2 := Go.Lib.hid fun W => rput_c n W h0 h1
    have he : Hid (putV k n s = uvarint (zigzag k) ++ uvarint (zigzag n)) := by unfold Hid putV; rw [if_pos hk]
    have hkb : (k == 1) = true := by simp [hk]
    clear hk k0 k1 h0 h1
    generalize uvarint (zigzag k) = uk at *
    generalize uvarint (zigzag n) = un at *
    go_enter Try.func36, Try.ntmps36
    go_wp2_with fail
    refine (C1.out _).mono ?_
    rintro e w1 ⟨v1, rfl, hown1, hb1⟩
    obtain ⟨x0, x1, x2⟩ := box_cells _ _ _ _ _ _ hb1
    have hbb1 := hbA.trans (hb1.mono hbA.size)
    have hown1' := hown1.mono hbA.size
    clear hown1 hb1 hbA
    go_wp2_with fail
    refine (C2.out _).mono ?_
    rintro e w2 ⟨v2, rfl, hown2, hb2⟩
    have hbb2 := hbb1.trans (hb2.mono hbb1.size)
    have hownA := hown1'.below hb2
    have hrb2 := hown2.rb
    clear hown1' hown2 hb2 hbb1 x0 x1 x2
    go_wp2_with (first
      | (with_reducible show wpList _ _ _ (⟨some 14, _, _, _, _, _⟩ :: _) _ _; go_loud (refine wpList_append_RB rfl (.tmp 10) (.tmp 13) 26 rfl w.heap.size 5 Try.underlying26 info8 v1 v2 uk un rfl rfl hownA hrb2 (by omega) hbb2.size ?_); intro v3 w3 hown3 hg3; have hbb3 := hbb2.grown hg3 hbb2.size hownA.row)
      | fail)
    go_ret
    exact ⟨_, rfl, by rw [he.out]; exact hown3, hbb3⟩
  · have C2 := Go.Lib.hid fun W => rputText_c (str s) W (by rw [str_size]; omega)
    have e1 : putT (str s).data.toList = putT s := by simp [str]
    have e2 : (putT s).length ≤ 60010 := by
      rw [putT, List.length_append]
      have := Go.Lib.uvarint_length64 (Go.Lib.zigzag_lt (x := (s.length : Int)) (by omega) (by omega))
      omega
    have he : Hid (putV k n s = uvarint (zigzag k) ++ putT s) := by unfold Hid putV; rw [if_neg hk]
    have hkb : (k == 1) = false := by simp [hk]
    have C2 := C2.out
    rw [e1] at C2
    have C3 := Go.Lib.hid C2
    clear C2
    clear hk k0 k1 h0 h1 e1
    generalize uvarint (zigzag k) = uk at *
    generalize putT s = un at *
    go_enter Try.func36, Try.ntmps36
    go_wp2_with fail
    refine (C1.out _).mono ?_
    rintro e w1 ⟨v1, rfl, hown1, hb1⟩
    obtain ⟨x0, x1, x2⟩ := box_cells _ _ _ _ _ _ hb1
    have hbb1 := hbA.trans (hb1.mono hbA.size)
    have hown1' := hown1.mono hbA.size
    clear hown1 hb1 hbA
    go_wp2_with fail
    refine (C3.out _).mono ?_
    rintro e w2 ⟨v2, rfl, hown2, hb2⟩
    have hbb2 := hbb1.trans (hb2.mono hbb1.size)
    have hownA := hown1'.below hb2
    have hrb2 := hown2.rb
    clear hown1' hown2 hb2 hbb1 x0 x1 x2
    go_wp2_with (first
      | (with_reducible show wpList _ _ _ (⟨some 19, _, _, _, _, _⟩ :: _) _ _; go_loud (refine wpList_append_RB rfl (.tmp 15) (.tmp 18) 26 rfl w.heap.size 5 Try.underlying26 info8 v1 v2 uk un rfl rfl hownA hrb2 (by omega) hbb2.size ?_); intro v3 w3 hown3 hg3; have hbb3 := hbb2.grown hg3 hbb2.size hownA.row)
      | fail)
    go_ret
    exact ⟨_, rfl, by rw [he.out]; exact hown3, hbb3⟩

def vv (r : (Int × Int × List UInt8) × Nat × Int) : Value := .tuple #[rawV r.1.1 r.1.2.1 (str r.1.2.2), .int .i64 (r.2.1 : Int), .int .i64 r.2.2]
theorem ret_vv {e : Ending} {r s : (Int × Int × List UInt8) × Nat × Int} (he : e = .returned (vv r)) (h : r = s) : e = .returned (vv s) := by rw [he, h]

theorem valB_err (l : List UInt8) (k e : Int) (p : Nat) (h : getB l = (k, p, e)) (he : e ≠ 0) : valB l = ((0, 0, []), 0, e) := by
  unfold valB
  rw [h]
  simp [he]
theorem valB_num (l : List UInt8) (p m : Nat) (n e : Int) (h : getB l = (1, p, 0)) (g : getB (l.drop p) = (n, m, e)) : valB l = if e = 0 then ((1, n, []), p + m, 0) else ((0, 0, []), 0, e) := by
  unfold valB
  rw [h]
  simp only [if_true]
  rw [g]
theorem valB_text (l s : List UInt8) (p m : Nat) (e : Int) (h : getB l = (2, p, 0)) (g : textB (l.drop p) = (s, m, e)) : valB l = if e = 0 then (if mayR 2 0 (str s) then ((2, 0, s), p + m, 0) else ((0, 0, []), 0, 1)) else ((0, 0, []), 0, e) := by
  unfold valB
  rw [h]
  simp only [if_true, show ¬ ((2 : Int) = 1) from by omega, if_false]
  rw [g]
theorem valB_else (l : List UInt8) (k : Int) (p : Nat) (h : getB l = (k, p, 0)) (h1 : k ≠ 1) (h2 : k ≠ 2) : valB l = ((0, 0, []), 0, 1) := by
  unfold valB
  rw [h]
  simp [h1, h2]

/-- What is answered, in a cell of its own. -/
theorem ret_vv_at {w w0 : World} {tmps : Array Value} {k n : Int} {s : ByteArray} {m : Nat} {e : Int} {g : Nat} {fr : Nat × Nat} {r : (Int × Int × List UInt8) × Nat × Int}
    (hp : tmps.getD 2 undef = .pointer (some ⟨g, 0, none⟩)) (hg : w.heap[g]? = some (.cells #[.int .i64 k, .int .i64 n, .string s] 23 fr)) (h3 : tmps.getD 3 undef = .int .i64 (m : Int)) (h4 : tmps.getD 4 undef = .int .i64 e)
    (hr : ((k, n, bl s), m, e) = r) (hb : Below w0.heap.size w0 w) : bodyPost Try.prog Try.f52 (fun e w' => e = .returned (vv r) ∧ Below w0.heap.size w0 w') Exit.ret { tmps := tmps, defers := [] } w := by
  subst hr
  have h := results_row_two (P := Try.prog) (fn := Try.f52) (p := 2) (u := 3) (v := 4) (ty := 23) rfl tmps w g 23 #[.int .i64 k, .int .i64 n, .string s] fr _ hp hg Try.underlying23 rfl (by kernel_rfl)
  rw [h3, h4] at h
  refine bodyPost_ret h rfl ⟨?_, hb⟩
  unfold vv rawV
  rw [str_bl]

theorem raw_cells_one (k n : Int) (s : ByteArray) : (#[.int .i64 k, .int .i64 n, .string s] : Array Value).all (fun x => x.oneCell') = true := by simp [Value.oneCell']
theorem setRow_below {w0 w : World} {g : Nat} (cs : Array Value) (h : Below w0.heap.size w0 w) (hg : w0.heap.size ≤ g) : Below w0.heap.size w0 (w.setRow g cs) := h.trans ⟨rfl, rfl, rfl, by simp, fun k hk => setRow_other _ _ _ _ (by omega)⟩

theorem two_first (w : World) (o1 o2 : Obj) : ((w.alloc o1).alloc o2).heap[w.heap.size]? = some o1 := by
  have h := heap_alloc_new w o1
  rw [_root_.Go.heap_alloc_old (w.alloc o1) o2 (Array.getElem?_eq_some_iff.1 h).1]
  exact h

theorem textB_small {l s : List UInt8} {m : Nat} {e : Int} (h : textB l = (s, m, e)) (he : e = 0) : s.length ≤ 65536 ∧ m ≤ 70000 := by
  have hf := getB_fits l
  unfold textB at h
  split at h
  · simp only [Prod.mk.injEq] at h
    have := h.1
    have := h.2.1
    subst s
    subst m
    simp
  · split at h
    · simp only [Prod.mk.injEq] at h
      omega
    · split at h
      · simp only [Prod.mk.injEq] at h
        omega
      · simp only [Prod.mk.injEq] at h
        obtain ⟨h1, h2, -⟩ := h
        subst h1
        rw [List.length_take]
        omega

set_option maxHeartbeats 2000000 in
set_option maxRecDepth 100000 in
theorem rgetVal_c (v : Value) (l : List UInt8) (w : World) (hv : RB w v l) :
    Calls Try.prog 52 #[v] w fun e w' => e = .returned (vv (valB l)) ∧ Below w.heap.size w w' := by
  have hrb := hv
  obtain ⟨a, cap, rfl, h1, h2, h3, h4⟩ := hv
  have hm : l.length ≤ 9223372036854775807 := by unfold maxLen at h2; omega
  clear h4 h3 h1 h2
  have hfit := getB_fits l
  have c1 := fun W (h : RB W (.slice a l.length cap) l) => rget_c (.slice a l.length cap) l W h
  rcases hr : getB l with ⟨k, p, er⟩
  rw [hr] at hfit c1
  unfold gv at c1
  simp only [] at hfit c1
  obtain ⟨f1, f2, f3, f4, f5, f6⟩ := hfit
  have C1 := Go.Lib.hid c1; clear c1
  have Hr := Go.Lib.hid hr; clear hr
  have hR1 := Go.Lib.hid fun o => hrb.below (below_one w o)
  have hnew := fun o => heap_alloc_new w o
  by_cases he : er = 0
  · subst he
    clear f4 f5
    by_cases hk1 : k = 1
    · subst hk1
      have hfit2 := getB_fits (l.drop p)
      have hv := Go.Lib.hid fun n m e => valB_num l p m n e Hr.out
      have c2 := fun v' W (h : RB W v' (l.drop p)) => rget_c v' (l.drop p) W h
      rcases hr2 : getB (l.drop p) with ⟨n, m, e2⟩
      rw [hr2] at c2 hfit2
      unfold gv at c2
      simp only [List.length_drop] at c2 hfit2
      obtain ⟨q1, q2, q3, -, -, -⟩ := hfit2
      have hval := Go.Lib.hid (hv.out n m e2 hr2)
      have C2 := Go.Lib.hid c2; clear c2 hr2 hv
      by_cases he2 : e2 = 0
      · subst he2
        have hval2 := hval.out
        rw [if_pos rfl] at hval2
        have Hval := Go.Lib.hid hval2; clear hval2 hval
        clear f1 f2
        have hnew2 := Go.Lib.hid hnew; clear hnew
        go_enter Try.func52, Try.ntmps52
        go_wp2_with fail
        refine (C1.out _ (hR1.out _)).mono ?_
        rintro e w1 ⟨rfl, rfl⟩
        go_wp2_with (first
          | (with_reducible show wpList _ _ _ (⟨some 31, _, _, _, _, _⟩ :: _) _ _; go_loud (refine wpList_slice_l rfl (.tmp 29) (.tmp 30) 26 rfl 5 Try.underlying26 info8 (.slice a l.length cap) l .i64 _ p rfl rfl rfl (hR1.out _) f3 ?_); intro v3 hv3)
          | fail)
        refine (C2.out _ _ hv3).mono ?_
        rintro e w2 ⟨rfl, rfl⟩
        go_wp2_with fail
        refine ret_vv_at rfl (hnew2.out _) rfl rfl ?_ (below_one _ _)
        rw [Hval.out]
        rfl
      · have hval2 := hval.out
        rw [if_neg he2] at hval2
        have Hval := Go.Lib.hid hval2; clear hval2 hval
        have he2b : (e2 == 0) = false := by simp [he2]
        clear f1 f2 he2
        have hnew2 := Go.Lib.hid hnew; clear hnew
        go_enter Try.func52, Try.ntmps52
        go_wp2_with fail
        refine (C1.out _ (hR1.out _)).mono ?_
        rintro e w1 ⟨rfl, rfl⟩
        go_wp2_with (first
          | (with_reducible show wpList _ _ _ (⟨some 31, _, _, _, _, _⟩ :: _) _ _; go_loud (refine wpList_slice_l rfl (.tmp 29) (.tmp 30) 26 rfl 5 Try.underlying26 info8 (.slice a l.length cap) l .i64 _ p rfl rfl rfl (hR1.out _) f3 ?_); intro v3 hv3)
          | fail)
        refine (C2.out _ _ hv3).mono ?_
        rintro e w2 ⟨rfl, rfl⟩
        go_wp2_with fail
        refine ret_vv_at (m := 0) rfl (hnew2.out _) rfl rfl ?_ (below_one _ _)
        rw [Hval.out]
        rfl
    · have hk1b : (k == 1) = false := by simp [hk1]
      by_cases hk2 : k = 2
      · subst hk2
        have hv := Go.Lib.hid fun s m e => valB_text l s p m e Hr.out
        have c2 := fun v' W (h : RB W v' (l.drop p)) => rgetText_c v' (l.drop p) W h
        rcases hr2 : textB (l.drop p) with ⟨s, m, e2⟩
        have hs16 : e2 = 0 → s.length ≤ 65536 ∧ m ≤ 70000 := textB_small hr2
        rw [hr2] at c2
        unfold tv at c2
        simp only [] at c2
        have hval := Go.Lib.hid (hv.out s m e2 hr2)
        have C2 := Go.Lib.hid c2; clear c2 hr2 hv
        by_cases he2 : e2 = 0
        · subst he2
          obtain ⟨hsl, hml⟩ := hs16 rfl
          have hval2 := hval.out
          rw [if_pos rfl] at hval2
          have Hval := Go.Lib.hid hval2; clear hval2 hval hs16
          have C3 := Go.Lib.hid fun W => mayval_c 2 0 (str s) W (by rw [str_size]; unfold maxLen; omega)
          have hnew2 := Go.Lib.hid hnew; clear hnew
          clear f1 f2
          go_enter Try.func52, Try.ntmps52
          go_wp2_with fail
          refine (C1.out _ (hR1.out _)).mono ?_
          rintro e w1 ⟨rfl, rfl⟩
          go_wp2_with (first
            | (with_reducible show wpList _ _ _ (⟨some 50, _, _, _, _, _⟩ :: _) _ _; go_loud (refine wpList_slice_l rfl (.tmp 48) (.tmp 49) 26 rfl 5 Try.underlying26 info8 (.slice a l.length cap) l .i64 _ p rfl rfl rfl (hR1.out _) f3 ?_); intro v3 hv3)
            | fail)
          refine (C2.out _ _ hv3).mono ?_
          rintro e w2 ⟨rfl, rfl⟩
          go_wp2_with fail
          refine (C3.out _).mono ?_
          rintro e w3 ⟨rfl, hb3⟩
          have hlt0 : w.heap.size < ((w.alloc (.cells #[.int .i64 0, .int .i64 0, .string ⟨#[]⟩] 23)).alloc (.cells #[.int .i64 2, .int .i64 0, .string (str s)] 23)).heap.size := (Array.getElem?_eq_some_iff.1 (two_first w _ _)).1
          have hlt1 : w.heap.size + 1 < ((w.alloc (.cells #[.int .i64 0, .int .i64 0, .string ⟨#[]⟩] 23)).alloc (.cells #[.int .i64 2, .int .i64 0, .string (str s)] 23)).heap.size := (Array.getElem?_eq_some_iff.1 (heap_alloc2_new w _ _)).1
          have hA := (hb3.block _ hlt0).trans (two_first w _ _)
          have hB := (hb3.block _ hlt1).trans (heap_alloc2_new w _ _)
          have x0 := cell_of_row w3 (w.heap.size + 1) 0 _ _ _ hB
          have x1 := cell_of_row w3 (w.heap.size + 1) 1 _ _ _ hB
          have x2 := cell_of_row w3 (w.heap.size + 1) 2 _ _ _ hB
          have hbb3 := (below_two w (.cells #[.int .i64 0, .int .i64 0, .string ⟨#[]⟩] 23) (.cells #[.int .i64 2, .int .i64 0, .string (str s)] 23)).trans (hb3.mono (below_two w _ _).size)
          have HA := Go.Lib.hid hA; clear hA
          clear hlt0 hlt1 hb3 hB C1 C2 C3
          simp only [List.getElem?_toArray, List.getElem?_cons_zero, List.getElem?_cons_succ] at x0 x1 x2
          cases hmay : mayR 2 0 (str s) with
          | true =>
            rw [hmay] at Hval
            go_wp2_with (first
              | (with_reducible show wpList _ _ _ (⟨none, Op.store 23 (.tmp 2) (.tmp 65), _, _, _, _⟩ :: _) _ _; go_loud (refine wpList_store_row rfl 23 (.tmp 2) (.tmp 65) rfl w.heap.size #[.int .i64 2, .int .i64 0, .string (str s)] rfl rfl 23 _ HA.out (by kernel_rfl) rfl (raw_cells_one ..) ?_))
              | fail)
            refine ret_vv_at (m := p + m) rfl (setRow_heap _ _ _ _ _ (0, 0) HA.out) rfl rfl ?_ (setRow_below _ hbb3 (Nat.le_refl _))
            rw [Hval.out]
            rw [bl_str]
            rfl
          | false =>
            rw [hmay] at Hval
            clear x0 x1 x2
            go_wp2_with (first
              | (with_reducible show wpList _ _ _ (⟨none, Op.store 23 (.tmp 2) (.tmp 64), _, _, _, _⟩ :: _) _ _; go_loud (refine wpList_store_row rfl 23 (.tmp 2) (.tmp 64) rfl w.heap.size #[.int .i64 0, .int .i64 0, .string ⟨#[]⟩] rfl rfl 23 _ HA.out (by kernel_rfl) rfl (raw_cells_one ..) ?_))
              | fail)
            refine ret_vv_at (m := 0) rfl (setRow_heap _ _ _ _ _ (0, 0) HA.out) rfl rfl ?_ (setRow_below _ hbb3 (Nat.le_refl _))
            rw [Hval.out]
            rfl
        · have hval2 := hval.out
          rw [if_neg he2] at hval2
          have Hval := Go.Lib.hid hval2; clear hval2 hval
          have he2b : (e2 == 0) = false := by simp [he2]
          clear f1 f2 he2 hs16
          have hnew2 := Go.Lib.hid hnew; clear hnew
          go_enter Try.func52, Try.ntmps52
          go_wp2_with fail
          refine (C1.out _ (hR1.out _)).mono ?_
          rintro e w1 ⟨rfl, rfl⟩
          go_wp2_with (first
            | (with_reducible show wpList _ _ _ (⟨some 50, _, _, _, _, _⟩ :: _) _ _; go_loud (refine wpList_slice_l rfl (.tmp 48) (.tmp 49) 26 rfl 5 Try.underlying26 info8 (.slice a l.length cap) l .i64 _ p rfl rfl rfl (hR1.out _) f3 ?_); intro v3 hv3)
            | fail)
          refine (C2.out _ _ hv3).mono ?_
          rintro e w2 ⟨rfl, rfl⟩
          go_wp2_with fail
          refine ret_vv_at (m := 0) rfl (hnew2.out _) rfl rfl ?_ (below_one _ _)
          rw [Hval.out]
          rfl
      · have hk2b : (k == 2) = false := by simp [hk2]
        have hv2 := Go.Lib.hid (valB_else l k p Hr.out hk1 hk2)
        clear hk1 hk2 f1 f2
        have hnew2 := Go.Lib.hid hnew; clear hnew
        go_enter Try.func52, Try.ntmps52
        go_wp2_with fail
        refine (C1.out _ (hR1.out _)).mono ?_
        rintro e w1 ⟨rfl, rfl⟩
        go_wp2_with fail
        refine ret_vv_at (m := 0) rfl (hnew2.out _) rfl rfl ?_ (below_one _ _)
        rw [hv2.out]
        rfl
  · have hv2 := Go.Lib.hid (valB_err l k er p Hr.out he)
    have heb : (er == 0) = false := by simp [he]
    clear f4 f5 f6 he
    have hnew2 := Go.Lib.hid hnew; clear hnew
    go_enter Try.func52, Try.ntmps52
    go_wp2_with fail
    refine (C1.out _ (hR1.out _)).mono ?_
    rintro e w1 ⟨rfl, rfl⟩
    go_wp2_with fail
    refine ret_vv_at (m := 0) rfl (hnew2.out _) rfl rfl ?_ (below_one _ _)
    rw [hv2.out]
    rfl

end Go.Proofs.Ytafpbhkddodjoaa

namespace Go.Proofs.Ytafpbhkddodjoaa
open Go.RowKit
open Go.Lib (uvarint zigzag)

/-- What may be a record. -/
def mayRec (key : ByteArray) (gone : Bool) (k n : Int) (s : ByteArray) : Bool := mayK key && (if gone then k == 0 && n == 0 && s.toList.isEmpty else mayR k n s)
/-- The same Key, Gone, Val. -/
def eqRec (key1 : ByteArray) (gone1 : Bool) (k1 n1 : Int) (s1 key2 : ByteArray) (gone2 : Bool) (k2 n2 : Int) (s2 : ByteArray) : Bool := key1.toList == key2.toList && gone1 == gone2 && eqR k1 n1 s1 k2 n2 s2
/-- A record's bytes. -/
def recB (key : List UInt8) (gone : Bool) (k n : Int) (s : List UInt8) : List UInt8 := putT key ++ (if gone then uvarint (zigzag 0) else putV k n s)

def recO (key : ByteArray) (gone : Bool) (k n : Int) (s : ByteArray) : Obj := .cells #[.string key, .bool gone, .int .i64 k, .int .i64 n, .string s] 25

set_option maxRecDepth 100000 in
theorem rmayrec_c (key : ByteArray) (gone : Bool) (k n : Int) (s : ByteArray) (w : World) (hk : key.size ≤ maxLen) (hm : s.size ≤ maxLen) :
    Calls Try.prog 11 #[recV key gone k n s] w fun e w' => e = .returned (.bool (mayRec key gone k n s)) ∧ Below w.heap.size w w' := by
  unfold recV
  have C1 := Go.Lib.hid fun W => rmay_c key W hk
  have C2 := Go.Lib.hid fun W => mayval_c k n s W hm
  clear hk hm
  cases h1 : mayK key with
  | false =>
    have hv := Go.Lib.hid (show mayRec key gone k n s = false from by unfold mayRec; rw [h1]; rfl)
    rw [h1] at C1
    clear h1
    go_enter Try.func11, Try.ntmps11
    go_wp2_with fail
    refine (C1.out _).mono ?_
    rintro e w1 ⟨rfl, rfl⟩
    go_wp2_with fail
    go_ret
    exact ⟨ret_of (congrArg Value.bool hv.out.symm), below_one _ _⟩
  | true =>
    have hv := Go.Lib.hid (show mayRec key gone k n s = (if gone then k == 0 && n == 0 && s.toList.isEmpty else mayR k n s) from by unfold mayRec; rw [h1]; rfl)
    rw [h1] at C1
    clear h1
    cases gone with
    | false =>
      have hv := Go.Lib.hid (hv.out.trans (if_neg (by decide)))
      go_enter Try.func11, Try.ntmps11
      go_wp2_with fail
      refine (C1.out _).mono ?_
      rintro e w1 ⟨rfl, rfl⟩
      go_wp2_with fail
      refine (C2.out _).mono ?_
      rintro e w2 ⟨rfl, hb2⟩
      have hbb := (below_one w _).trans (hb2.mono (below_one w _).size)
      go_wp2_with fail
      go_ret
      exact ⟨ret_of (congrArg Value.bool hv.out.symm), hbb⟩
    | true =>
      have hv := Go.Lib.hid (hv.out.trans (if_pos rfl))
      clear C2
      by_cases hk : k = 0
      · by_cases hn : n = 0
        · have he : Hid (mayRec key true k n s = s.toList.isEmpty) := by
            unfold Hid
            rw [hv.out, hk, hn]
            cases s.toList <;> rfl
          clear hv
          go_enter Try.func11, Try.ntmps11
          go_wp2_with fail
          refine (C1.out _).mono ?_
          rintro e w1 ⟨rfl, rfl⟩
          go_wp2_with fail
          go_ret
          exact ⟨ret_of (congrArg Value.bool (by first | exact he.out.symm | (subst hk; subst hn; exact he.out.symm))), below_one _ _⟩
        · have he : Hid (mayRec key true k n s = false) := by unfold Hid; rw [hv.out]; simp [hn]
          have hnb : (n == 0) = false := by simp [hn]
          clear hv
          go_enter Try.func11, Try.ntmps11
          go_wp2_with fail
          refine (C1.out _).mono ?_
          rintro e w1 ⟨rfl, rfl⟩
          go_wp2_with fail
          go_ret
          exact ⟨ret_of (congrArg Value.bool (by first | exact he.out.symm | (subst hk; exact he.out.symm))), below_one _ _⟩
      · have he : Hid (mayRec key true k n s = false) := by unfold Hid; rw [hv.out]; simp [hk]
        have hkb : (k == 0) = false := by simp [hk]
        clear hv
        go_enter Try.func11, Try.ntmps11
        go_wp2_with fail
        refine (C1.out _).mono ?_
        rintro e w1 ⟨rfl, rfl⟩
        go_wp2_with fail
        go_ret
        exact ⟨ret_of (congrArg Value.bool he.out.symm), below_one _ _⟩

set_option maxRecDepth 100000 in
theorem reqrec_c (key1 : ByteArray) (gone1 : Bool) (k1 n1 : Int) (s1 key2 : ByteArray) (gone2 : Bool) (k2 n2 : Int) (s2 : ByteArray) (w : World) :
    Calls Try.prog 14 #[recV key1 gone1 k1 n1 s1, recV key2 gone2 k2 n2 s2] w fun e w' => e = .returned (.bool (eqRec key1 gone1 k1 n1 s1 key2 gone2 k2 n2 s2)) ∧ Below w.heap.size w w' := by
  unfold recV
  have C := Go.Lib.hid fun W => eqval_c k1 n1 s1 k2 n2 s2 W
  unfold rawV at C
  by_cases h1 : key1 = key2
  · by_cases h2 : gone1 = gone2
    · have he : Hid (eqRec key1 gone1 k1 n1 s1 key2 gone2 k2 n2 s2 = eqR k1 n1 s1 k2 n2 s2) := by unfold Hid eqRec; simp [h1, h2]
      subst h1 h2
      go_enter Try.func14, Try.ntmps14
      go_wp2_with fail
      refine (C.out _).mono ?_
      rintro e w2 ⟨rfl, hb2⟩
      have hbb := (below_two w _ _).trans (hb2.mono (below_two w _ _).size)
      go_wp2_with fail
      go_ret
      exact ⟨ret_of (congrArg Value.bool he.out.symm), hbb⟩
    · have he : Hid (eqRec key1 gone1 k1 n1 s1 key2 gone2 k2 n2 s2 = false) := by unfold Hid eqRec; simp [h2]
      have hgb : (gone1 == gone2) = false := by simp [h2]
      subst h1
      go_enter Try.func14, Try.ntmps14
      go_wp2_with fail
      go_ret
      exact ⟨ret_of (congrArg Value.bool he.out.symm), below_two _ _ _⟩
  · have hkb : (key1.toList == key2.toList) = false := by
      rw [ByteArray.toList_eq, ByteArray.toList_eq]
      simp only [beq_eq_false_iff_ne, ne_eq]
      exact fun h => h1 (ByteArray.ext (Array.toList_inj.1 h))
    have he : Hid (eqRec key1 gone1 k1 n1 s1 key2 gone2 k2 n2 s2 = false) := by unfold Hid eqRec; rw [hkb]; rfl
    clear h1
    go_enter Try.func14, Try.ntmps14
    go_wp2_with fail
    go_ret
    exact ⟨ret_of (congrArg Value.bool he.out.symm), below_two _ _ _⟩

/-- The five cells of a record in a box of its own, whatever was made later. -/
theorem rec_box {w w' : World} (key : ByteArray) (gone : Bool) (k n : Int) (s : ByteArray) (hb : Below (w.alloc (recO key gone k n s)).heap.size (w.alloc (recO key gone k n s)) w') :
    w'.heap[w.heap.size]? = some (recO key gone k n s) ∧ w'.cell? ⟨w.heap.size, 0, none⟩ = some (.string key) ∧ w'.cell? ⟨w.heap.size, 1, none⟩ = some (.bool gone) ∧ w'.cell? ⟨w.heap.size, 2, none⟩ = some (.int .i64 k) ∧ w'.cell? ⟨w.heap.size, 3, none⟩ = some (.int .i64 n) ∧ w'.cell? ⟨w.heap.size, 4, none⟩ = some (.string s) := by
  have hg := heap_alloc_new w (recO key gone k n s)
  have hlt : w.heap.size < (w.alloc (recO key gone k n s)).heap.size := (Array.getElem?_eq_some_iff.1 hg).1
  have hh := (hb.block _ hlt).trans hg
  unfold recO at *
  have c (i : Nat) := cell_of_row w' w.heap.size i _ _ _ hh
  exact ⟨hh, c 0, c 1, c 2, c 3, c 4⟩

end Go.Proofs.Ytafpbhkddodjoaa
