/-
  Contracts of package num's functions and of the reference's.
-/
import Derived.Test.YtmlndgkpbodnnaaNum
namespace Go.Proofs.Ytmlndgkpbodnnaa
open Go.RowKit
open Go.Lib (uvarint zigzag)

theorem i64_not_all (n : Int) (h0 : -9223372036854775808 ≤ n) (h1 : n ≤ 9223372036854775807) : bits .xor .i64 (-1) n = -n - 1 := by
  show IntKind.i64.wrap ((BitVec.ofInt 64 (-1) ^^^ BitVec.ofInt 64 n).toNat : Int) = _
  have e1 : BitVec.ofInt 64 (-1) = BitVec.allOnes 64 := by decide
  have e2 : BitVec.allOnes 64 ^^^ BitVec.ofInt 64 n = ~~~ (BitVec.ofInt 64 n) := by rw [BitVec.allOnes_xor]
  rw [e1, e2, BitVec.toNat_not, BitVec.toNat_ofInt, IntKind.wrap_i64]
  omega

theorem unsigned_neg (n : Int) (h0 : -9223372036854775808 ≤ n) (hn : n < 0) :
    bits BinOp.or IntKind.u64 (IntKind.u64.wrap (IntKind.u64.wrap (bits BinOp.xor IntKind.i64 (-1) n) * 2)) 1 = ((zigzag n : Nat) : Int) := by
  rw [i64_not_all n h0 (by omega), IntKind.wrap_u64, IntKind.wrap_u64]
  have e : (-n - 1) % 18446744073709551616 * 2 % 18446744073709551616 = 2 * (-n - 1) := by omega
  rw [e, bits_join .u64 64 (by decide) wraps_u64 1 _ _ (by omega) (by omega) (by omega) (by omega) (by omega) (by omega)]
  unfold Go.Lib.zigzag
  rw [if_neg (by omega)]
  omega

theorem unsigned_c (n : Int) (w : World) (h0 : -9223372036854775808 ≤ n) (h1 : n ≤ 9223372036854775807) :
    Calls Try.prog 59 #[.int .i64 n] w fun e w' => e = .returned (.int .u64 (zigzag n : Nat)) ∧ w = w' := by
  by_cases hn : n < 0
  · go_enter Try.func59, Try.ntmps59
    go_wp2
    go_ret
    exact ⟨ret_int (unsigned_neg n h0 hn), rfl⟩
  · have hn' : 0 ≤ n := by omega
    go_enter Try.func59, Try.ntmps59
    go_wp2
    go_ret
    exact ⟨ret_int (Go.Lib.zigzag_nonneg hn').symm, rfl⟩

theorem signed_c (n : Nat) (w : World) (h1 : n < 18446744073709551616) :
    Calls Try.prog 60 #[.int .u64 n] w fun e w' => e = .returned (.int .i64 (unzig n)) ∧ w = w' := by
  have hb := Go.Lib.u64_and1 n (by omega) (by omega)
  have hx := Go.Lib.i64_not (n / 2) (by omega)
  by_cases hn : n % 2 = 1
  · have hd : (bits .and .u64 (n : Int) 1 == 1) = true := by rw [hb]; simp; omega
    have Hb := Go.Lib.hid hb; clear hb
    have Hx := Go.Lib.hid hx; clear hx
    have Hn := Go.Lib.hid hn; clear hn
    go_enter Try.func60, Try.ntmps60
    go_wp2
    go_ret
    refine ⟨ret_int ?_, rfl⟩
    rw [unzig, if_pos Hn.out, ← Hx.out]
    rfl
  · have hd : (bits .and .u64 (n : Int) 1 == 1) = false := by rw [hb]; simp; omega
    have Hb := Go.Lib.hid hb; clear hb
    have Hx := Go.Lib.hid hx; clear hx
    have Hn := Go.Lib.hid hn; clear hn
    go_enter Try.func60, Try.ntmps60
    go_wp2
    go_ret
    refine ⟨ret_int ?_, rfl⟩
    rw [unzig, if_neg Hn.out]
    rfl

/-- 'copyWithRoom(b, more)'. -/
theorem copy_c (v : Value) (l : List UInt8) (n : Int) (w : World) (hv : RB w v l) (h0 : 0 ≤ n) (hn : l.length + n.toNat ≤ 140737488355328) :
    Calls Try.prog 47 #[v, .int .i64 n] w fun e w' => ∃ v', e = .returned v' ∧ Own 5 w' w.heap.size v' l ∧ Below w.heap.size w w' := by
  have hrb := hv
  obtain ⟨a, cap, rfl, h1, h2, h3, h4⟩ := hv
  have hs := h2
  unfold maxLen at hs
  clear h3 h4
  go_enter Try.func47, Try.ntmps47
  go_wp2_with (first
    | (at_make; refine wpList_make_len rfl (.tmp 7) (.tmp 11) 26 rfl 5 Try.underlying26 info8 .i64 .i64 _ _ l.length (l.length + n.toNat) rfl rfl rfl (by omega) (by omega) (by omega) ?_; intro v1 w1 hown1 hg1)
    | (with_reducible show wpList _ _ _ (⟨some 15, _, _, _, _, _⟩ :: _) _ _; go_loud (refine wpList_copy_RB rfl (.tmp 13) (.tmp 14) 26 rfl w.heap.size 5 Try.underlying26 info8 v1 (.slice a l.length cap) _ l rfl rfl hown1 (hrb.below (grown_below hg1 (Nat.le_refl _) (by simp))) (by simp) w (grown_below hg1 (Nat.le_refl _) (by simp)) ?_); intro w2 hown2 hb2))
  go_ret
  exact ⟨_, rfl, hown2, hb2⟩

set_option maxRecDepth 100000 in
/-- 'addNum(out, n)', out the call's own. -/
theorem add_c (B : Nat) (v : Value) (l : List UInt8) (n : Int) (w : World) (hv : Own 5 w B v l) (hB : B ≤ w.heap.size) (h0 : -9223372036854775808 ≤ n) (h1 : n ≤ 9223372036854775807) (hl : l.length + 10 ≤ 140737488355328) :
    Calls Try.prog 46 #[v, .int .i64 n] w fun e w' => ∃ v', e = .returned v' ∧ Own 5 w' B v' (l ++ uvarint (zigzag n)) ∧ Below B w w' := by
  have hz := Go.Lib.zigzag_lt h0 h1
  have hzl := Go.Lib.uvarint_length64 hz
  obtain ⟨z, Hz⟩ : ∃ z, z = zigzag n := ⟨_, rfl⟩
  rw [← Hz] at hz hzl ⊢
  have Hzl := Go.Lib.hid hzl; clear hzl
  have HZ := Go.Lib.hid Hz; clear Hz
  go_enter Try.func46, Try.ntmps46
  go_wp2_with (go_at_call 59; refine (unsigned_c n _ h0 h1).mono ?_; rintro e w1 ⟨rfl, rfl⟩; rw [← HZ.out])
  go_loopw [0, 5] (fun x u wr => ∃ (p : List UInt8) (y : Nat), y < 18446744073709551616 ∧ u = .int .u64 (y : Int) ∧ Own 5 wr B x (l ++ p) ∧ Below B w wr ∧ Hid (uvarint z = p ++ uvarint y)) (fun _ u _ => (intOf u).toNat)
  case atStart => exact ⟨[], z, hz, rfl, by simpa using hv, Below.refl _ _, by simp [Hid]⟩
  case round =>
    obtain ⟨p, y, hy, rfl, hown, hbel, hz1⟩ := hrel
    have hpl : Hid (p.length + (uvarint y).length ≤ 10) := by
      have := Hzl.out
      rw [hz1.out, List.length_append] at this
      exact this
    have hpl1 : p.length + 1 ≤ 10 := by have := hpl.out; have := Go.Lib.uvarint_pos y; omega
    by_cases hs : y < 128
    · have hc : (y : Int) = ((UInt8.ofNat y).toNat : Int) := by simp; omega
      have Hc := Go.Lib.hid hc; clear hc
      go_wp2_with (at_builtin; go_loud (refine wpList_append_RB rfl (.tmp 18) (.tmp 21) 26 rfl B 5 Try.underlying26 info8 u0 (.slice (some ⟨wr.heap.size, 0, none⟩) 1 1) (l ++ p) [UInt8.ofNat y] rfl rfl (hown.alloc _) (RB.one wr _ _ _ Hc.out) (by simp; omega) (by have := hbel.size; simp; omega) ?_); intro v2 w2 hown2 hg2)
      go_ret
      have hu : uvarint z = p ++ [UInt8.ofNat y] := by rw [hz1.out, Go.Lib.uvarint_small hs]
      refine ⟨_, rfl, ?_, (hbel.alloc (by have := hbel.size; omega) _).grown hg2 (by have := hbel.size; simp; omega) hown.row⟩
      rw [hu, ← List.append_assoc]
      exact hown2
    · have hc : bits BinOp.or IntKind.u8 ((y : Int) % 256) 128 = ((UInt8.ofNat (y % 128 + 128)).toNat : Int) := by
        rw [Go.Lib.u8_or128_any _ (by omega) (by omega)]; simp; omega
      have Hc := Go.Lib.hid hc; clear hc
      go_wp2_with (at_builtin; go_loud (refine wpList_append_RB rfl (.tmp 10) (.tmp 14) 26 rfl B 5 Try.underlying26 info8 u0 (.slice (some ⟨wr.heap.size, 0, none⟩) 1 1) (l ++ p) [UInt8.ofNat (y % 128 + 128)] rfl rfl (hown.alloc _) (RB.one wr _ _ _ Hc.out) (by simp; omega) (by have := hbel.size; simp; omega) ?_); intro v2 w2 hown2 hg2)
      have hu : uvarint z = (p ++ [UInt8.ofNat (y % 128 + 128)]) ++ uvarint (y / 128) := by rw [hz1.out, Go.Lib.uvarint_big (by omega)]; simp
      have Hu := Go.Lib.hid hu; clear hu
      have hbel2 : Below B w w2 := (hbel.alloc (by have := hbel.size; omega) _).grown hg2 (by have := hbel.size; simp; omega) hown.row
      clear hbel hg2 hz1 hpl
      go_roundw
      case rel => exact ⟨p ++ [UInt8.ofNat (y % 128 + 128)], y / 128, by omega, by go_num, by rw [← List.append_assoc]; exact hown2, hbel2, Hu⟩
      case measure => simp [intOf]; omega

/-- 'Put(b, n)'. -/
theorem put_c (v : Value) (l : List UInt8) (n : Int) (w : World) (hv : RB w v l) (h0 : -9223372036854775808 ≤ n) (h1 : n ≤ 9223372036854775807) (hl : l.length + 10 ≤ 140737488355328) :
    Calls Try.prog 32 #[v, .int .i64 n] w fun e w' => ∃ v', e = .returned v' ∧ Own 5 w' w.heap.size v' (l ++ uvarint (zigzag n)) ∧ Below w.heap.size w w' := by
  go_enter Try.func32, Try.ntmps32
  go_wp2_with fail
  refine (copy_c v l 10 w hv (by omega) (by omega)).mono ?_
  rintro e w1 ⟨v1, rfl, hown1, hb1⟩
  go_wp2_with fail
  refine (add_c w.heap.size v1 l n w1 hown1 hb1.size h0 h1 hl).mono ?_
  rintro e w2 ⟨v2, rfl, hown2, hb2⟩
  go_wp2_with fail
  go_ret
  exact ⟨_, rfl, hown2, hb1.trans hb2⟩

/-- 'PutText(b, s)'. -/
theorem putText_c (v : Value) (l : List UInt8) (q : ByteArray) (w : World) (hv : RB w v l) (hl : l.length + q.size + 10 ≤ 140737488355328) :
    Calls Try.prog 31 #[v, .string q] w fun e w' => ∃ v', e = .returned v' ∧ Own 5 w' w.heap.size v' (l ++ putT q.data.toList) ∧ Below w.heap.size w w' := by
  have e1 : IntKind.i64.wrap (10 + (q.size : Int)) = 10 + (q.size : Int) := IntWalk.i64_in _ (by omega)
  have hq : (q.data.toList.length : Int) = q.size := by rw [← Go.Lib.size_eq]
  have Hq := Go.Lib.hid hq; clear hq
  go_enter Try.func31, Try.ntmps31
  go_wp2_with fail
  refine (copy_c v l (10 + (q.size : Int)) w hv (by omega) (by omega)).mono ?_
  rintro e w1 ⟨v1, rfl, hown1, hb1⟩
  go_wp2_with fail
  refine (add_c w.heap.size v1 l (q.size : Int) w1 hown1 hb1.size (by omega) (by omega) (by omega)).mono ?_
  rintro e w2 ⟨v2, rfl, hown2, hb2⟩
  have hzl := Go.Lib.uvarint_length64 (Go.Lib.zigzag_lt (x := (q.size : Int)) (by omega) (by omega))
  have Hzl := Go.Lib.hid hzl; clear hzl
  have hb12 := hb1.trans hb2
  clear hb1 hb2
  go_wp2_with (at_builtin; go_loud (refine wpList_append_str rfl (.tmp 14) (.tmp 15) 26 9 rfl w.heap.size 5 Try.underlying26 Try.underlying9 info8 v2 (l ++ uvarint (zigzag (q.size : Int))) q rfl rfl hown2 (by have := Hzl.out; simp; omega) hb12.size ?_); intro v3 w3 hown3 hg3)
  go_ret
  refine ⟨_, rfl, ?_, hb12.grown hg3 hb12.size hown2.row⟩
  unfold putT
  rw [Hq.out, ← List.append_assoc]
  exact hown3

set_option maxRecDepth 100000 in
/-- The reference's Put. -/
theorem rput_c (n : Int) (w : World) (h0 : -9223372036854775808 ≤ n) (h1 : n ≤ 9223372036854775807) :
    Calls Try.prog 35 #[.int .i64 n] w fun e w' => ∃ v', e = .returned v' ∧ Own 5 w' w.heap.size v' (uvarint (zigzag n)) ∧ Below w.heap.size w w' := by
  have hz := Go.Lib.zigzag_lt h0 h1
  have hzl := Go.Lib.uvarint_length64 hz
  obtain ⟨z, Hz⟩ : ∃ z, z = zigzag n := ⟨_, rfl⟩
  rw [← Hz] at hz hzl ⊢
  have Hzl := Go.Lib.hid hzl; clear hzl
  have HZ := Go.Lib.hid Hz; clear Hz
  have hneg : n < 0 → bits BinOp.xor IntKind.u64 (IntKind.u64.max) (IntKind.u64.wrap (IntKind.u64.wrap n * 2)) = (z : Int) := fun h => by rw [HZ.out]; exact Go.Lib.zigzag_neg h0 h
  have hpos : 0 ≤ n → n * 2 = (z : Int) := fun h => by rw [HZ.out]; exact (Go.Lib.zigzag_nonneg h).symm
  have Hneg := Go.Lib.hid hneg; clear hneg
  have Hpos := Go.Lib.hid hpos; clear hpos
  by_cases hn : n < 0
  all_goals
    go_enter Try.func35, Try.ntmps35
    go_wp2_with fail
    go_loopw [4, 3] (fun x u wr => ∃ (p : List UInt8) (y : Nat), y < 18446744073709551616 ∧ u = .int .u64 (y : Int) ∧ Own 5 wr w.heap.size x p ∧ Below w.heap.size w wr ∧ Hid (uvarint z = p ++ uvarint y)) (fun _ u _ => (intOf u).toNat)
    case atStart => exact ⟨[], z, hz, by first | exact congrArg (Value.int .u64) (Hneg.out hn) | exact congrArg (Value.int .u64) (Hpos.out (by omega)), Own.nil _ _ _, Below.refl _ _, by simp [Hid]⟩
    case round =>
      obtain ⟨p, y, hy, rfl, hown, hbel, hz1⟩ := hrel
      have hpl : Hid (p.length + (uvarint y).length ≤ 10) := by
        have := Hzl.out
        rw [hz1.out, List.length_append] at this
        exact this
      have hpl1 : p.length + 1 ≤ 10 := by have := hpl.out; have := Go.Lib.uvarint_pos y; omega
      by_cases hs : y < 128
      · have hc : (y : Int) = ((UInt8.ofNat y).toNat : Int) := by simp; omega
        have Hc := Go.Lib.hid hc; clear hc
        go_wp2_with (at_builtin; go_loud (refine wpList_append_RB rfl (.tmp 23) (.tmp 26) 26 rfl w.heap.size 5 Try.underlying26 info8 u4 (.slice (some ⟨wr.heap.size, 0, none⟩) 1 1) p [UInt8.ofNat y] rfl rfl (hown.alloc _) (RB.one wr _ _ _ Hc.out) (by simp; omega) (by have := hbel.size; simp; omega) ?_); intro v2 w2 hown2 hg2)
        go_ret
        have hu : uvarint z = p ++ [UInt8.ofNat y] := by rw [hz1.out, Go.Lib.uvarint_small hs]
        refine ⟨_, rfl, ?_, (hbel.alloc (by have := hbel.size; omega) _).grown hg2 (by have := hbel.size; simp; omega) hown.row⟩
        rw [hu]
        exact hown2
      · have hc : (y : Int) % 128 + 128 = ((UInt8.ofNat (y % 128 + 128)).toNat : Int) := by simp; omega
        have Hc := Go.Lib.hid hc; clear hc
        go_wp2_with (at_builtin; go_loud (refine wpList_append_RB rfl (.tmp 14) (.tmp 19) 26 rfl w.heap.size 5 Try.underlying26 info8 u4 (.slice (some ⟨wr.heap.size, 0, none⟩) 1 1) p [UInt8.ofNat (y % 128 + 128)] rfl rfl (hown.alloc _) (RB.one wr _ _ _ Hc.out) (by simp; omega) (by have := hbel.size; simp; omega) ?_); intro v2 w2 hown2 hg2)
        have hu : uvarint z = (p ++ [UInt8.ofNat (y % 128 + 128)]) ++ uvarint (y / 128) := by rw [hz1.out, Go.Lib.uvarint_big (by omega)]; simp
        have Hu := Go.Lib.hid hu; clear hu
        have hbel2 : Below w.heap.size w w2 := (hbel.alloc (by have := hbel.size; omega) _).grown hg2 (by have := hbel.size; simp; omega) hown.row
        clear hbel hg2 hz1 hpl
        go_roundw
        case rel => exact ⟨p ++ [UInt8.ofNat (y % 128 + 128)], y / 128, by omega, by go_num, hown2, hbel2, Hu⟩
        case measure => simp [intOf]; omega

theorem rputText_c (q : ByteArray) (w : World) (hl : q.size + 10 ≤ 140737488355328) :
    Calls Try.prog 34 #[.string q] w fun e w' => ∃ v', e = .returned v' ∧ Own 5 w' w.heap.size v' (putT q.data.toList) ∧ Below w.heap.size w w' := by
  have hq : (q.data.toList.length : Int) = q.size := by rw [← Go.Lib.size_eq]
  have Hq := Go.Lib.hid hq; clear hq
  go_enter Try.func34, Try.ntmps34
  go_wp2_with fail
  refine (rput_c (q.size : Int) w (by omega) (by omega)).mono ?_
  rintro e w1 ⟨v1, rfl, hown1, hb1⟩
  have hzl := Go.Lib.uvarint_length64 (Go.Lib.zigzag_lt (x := (q.size : Int)) (by omega) (by omega))
  have Hzl := Go.Lib.hid hzl; clear hzl
  go_wp2_with (at_builtin; go_loud (refine wpList_append_str rfl (.tmp 5) (.tmp 6) 26 9 rfl w.heap.size 5 Try.underlying26 Try.underlying9 info8 v1 (uvarint (zigzag (q.size : Int))) q rfl rfl hown1 (by have := Hzl.out; omega) hb1.size ?_); intro v3 w3 hown3 hg3)
  go_ret
  refine ⟨_, rfl, ?_, hb1.grown hg3 hb1.size hown1.row⟩
  unfold putT
  rw [Hq.out]
  exact hown3

end Go.Proofs.Ytmlndgkpbodnnaa
