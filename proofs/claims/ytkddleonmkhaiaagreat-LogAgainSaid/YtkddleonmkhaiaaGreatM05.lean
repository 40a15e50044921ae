/-
  Values: contracts of the reference's EqVal, MayVal, of the laws' Cut.
  Package num: what each function answers, as plain functions on numbers and bytes, and the contracts of the Go functions that say so.
  Contracts of package num's functions and of the reference's.
-/
import Derived.Test.YtkddleonmkhaiaaGreatM02
import Derived.Test.YtkddleonmkhaiaaGreatM03
import Derived.Test.YtkddleonmkhaiaaGreatM04
import Derived.Test.YtkddleonmkhaiaaGreatM01
import Derived.Laws.DeepNot64
namespace Go.Proofs.YtkddleonmkhaiaaGreat
open Go.RowKit

/-- The same Kind, N, S. -/
def eqR (k1 n1 : Int) (s1 : ByteArray) (k2 n2 : Int) (s2 : ByteArray) : Bool := k1 == k2 && n1 == n2 && s1.toList == s2.toList
theorem eqR_iff (k1 n1 : Int) (s1 : ByteArray) (k2 n2 : Int) (s2 : ByteArray) : eqR k1 n1 s1 k2 n2 s2 = true ↔ k1 = k2 ∧ n1 = n2 ∧ s1 = s2 := by
  unfold eqR
  rw [Bool.and_eq_true, Bool.and_eq_true, beq_iff_eq, beq_iff_eq, beq_iff_eq, ByteArray.toList_eq, ByteArray.toList_eq, and_assoc]
  constructor
  · rintro ⟨h1, h2, h3⟩
    exact ⟨h1, h2, ByteArray.ext (Array.toList_inj.1 h3)⟩
  · rintro ⟨h1, h2, rfl⟩
    exact ⟨h1, h2, rfl⟩
theorem eqR_refl (k n : Int) (s : ByteArray) : eqR k n s k n s = true := (eqR_iff ..).2 ⟨rfl, rfl, rfl⟩

theorem below_one (w : World) (o : Obj) : Below w.heap.size w (w.alloc o) := (Below.refl _ w).alloc (Nat.le_refl _) o
theorem below_two (w : World) (o1 o2 : Obj) : Below w.heap.size w ((w.alloc o1).alloc o2) := (below_one w o1).alloc (below_one w o1).size o2

set_option maxRecDepth 100000 in
theorem eqval_c (k1 n1 : Int) (s1 : ByteArray) (k2 n2 : Int) (s2 : ByteArray) (w : World) :
    Calls Tryz.prog 34 #[rawV k1 n1 s1, rawV k2 n2 s2] w fun e w' => e = .returned (.bool (eqR k1 n1 s1 k2 n2 s2)) ∧ Below w.heap.size w w' := by
  unfold rawV
  by_cases h1 : k1 = k2
  · by_cases h2 : n1 = n2
    · have hr : Hid (eqR k1 n1 s1 k2 n2 s2 = (s1.toList == s2.toList)) := by unfold Hid eqR; simp [h1, h2]
      go_enter Tryz.func34, Tryz.ntmps34
      go_wp2_with fail
      go_ret
      exact ⟨ret_of (congrArg Value.bool (by first | exact hr.out.symm | (subst h1; subst h2; exact hr.out.symm))), below_two _ _ _⟩
    · have hr : Hid (eqR k1 n1 s1 k2 n2 s2 = false) := by unfold Hid eqR; simp [h1, h2]
      go_enter Tryz.func34, Tryz.ntmps34
      go_wp2_with fail
      go_ret
      exact ⟨ret_of (congrArg Value.bool (by first | exact hr.out.symm | (subst h1; exact hr.out.symm))), below_two _ _ _⟩
  · have hr : Hid (eqR k1 n1 s1 k2 n2 s2 = false) := by unfold Hid eqR; simp [h1]
    go_enter Tryz.func34, Tryz.ntmps34
    go_wp2_with fail
    go_ret
    exact ⟨ret_of (congrArg Value.bool hr.out.symm), below_two _ _ _⟩

/-- What may be a value. -/
def mayR (k n : Int) (s : ByteArray) : Bool := if k = 1 then s.toList.isEmpty else if k = 2 then n == 0 && decide (s.size ≤ 24) && wellB (toks (bl s)) else false

set_option maxRecDepth 100000 in
theorem mayval_c (k n : Int) (s : ByteArray) (w : World) (hm : s.size ≤ maxLen) :
    Calls Tryz.prog 26 #[rawV k n s] w fun e w' => e = .returned (.bool (mayR k n s)) ∧ Below w.heap.size w w' := by
  unfold rawV
  unfold maxLen at hm
  by_cases h1 : k = 1
  · subst h1
    go_enter Tryz.func26, Tryz.ntmps26
    go_wp2_with fail
    go_ret
    exact ⟨ret_of (congrArg Value.bool (by unfold mayR; simp)), below_one _ _⟩
  by_cases h2 : k = 2
  · subst h2
    by_cases h3 : n = 0
    · subst h3
      by_cases h4 : s.size ≤ 24
      · have C := Go.Lib.hid fun W => rvalid_c s W (by omega)
        go_enter Tryz.func26, Tryz.ntmps26
        go_wp2_with fail
        refine (C.out _).mono ?_
        rintro e w1 ⟨rfl, rfl⟩
        go_wp2_with fail
        go_ret
        exact ⟨ret_of (congrArg Value.bool (by unfold mayR; simp [h4])), below_one _ _⟩
      · go_enter Tryz.func26, Tryz.ntmps26
        go_wp2_with fail
        go_ret
        exact ⟨ret_of (congrArg Value.bool (by unfold mayR; simp [h4])), below_one _ _⟩
    · have h3' : (n == 0) = false := by simp [h3]
      go_enter Tryz.func26, Tryz.ntmps26
      go_wp2_with fail
      go_ret
      exact ⟨ret_of (congrArg Value.bool (by unfold mayR; simp [h3])), below_one _ _⟩
  · have h1' : (k == 1) = false := by simp [h1]
    have h2' : (k == 2) = false := by simp [h2]
    go_enter Tryz.func26, Tryz.ntmps26
    go_wp2_with fail
    go_ret
    exact ⟨ret_of (congrArg Value.bool (by unfold mayR; simp [h1, h2])), below_one _ _⟩

set_option maxRecDepth 100000 in
/-- The laws' 'Cut(r)'. -/
theorem vcut_c (k n : Int) (s : ByteArray) (w : World) (hm : s.size ≤ maxLen) :
    Calls Tryz.prog 42 #[rawV k n s] w fun e w' => e = .returned (rawV k n (str ((bl s).take 30))) ∧ Below w.heap.size w w' := by
  unfold rawV
  have C := Go.Lib.hid fun W => lcut_c s 30 W hm (by omega)
  clear hm
  go_enter Tryz.func42, Tryz.ntmps42
  go_wp2_with fail
  refine (C.out _).mono ?_
  rintro e w1 ⟨rfl, rfl⟩
  go_wp2_with fail
  refine bodyPost_ret (results_cell_row rfl _ _ (w.heap.size + 1) 31 #[.int .i64 k, .int .i64 n, .string (str ((bl s).take 30))] (0, 0) _ rfl (heap_alloc2_new w _ _) Tryz.underlying31 rfl (by kernel_rfl)) rfl ?_
  exact ⟨rfl, below_two _ _ _⟩

/-- A row and two more are what is answered. -/
theorem results_row_two {P : Program} {fn : Func} {p u v : Tmp} {ty : TypeId} (h : fn.results = #[.cell p ty, .tmp u, .tmp v]) (tmps : Array Value) (w : World) (g : Nat) (t : TypeId) (cs : Array Value) (fr : Nat × Nat) (d : TypeDesc)
    (hp : tmps.getD p undef = .pointer (some ⟨g, 0, none⟩)) (hg : w.heap[g]? = some (.cells cs t fr))
    (hu : P.underlying ty = some d) (hd : (match d with | .struct _ | .array _ _ => true | _ => false) = true) (hi : (P.info? ty).map (·.size) = some cs.size) :
    (results fn tmps).run P w = .ok (.tuple #[.agg cs, tmps.getD u undef, tmps.getD v undef]) w := by
  have hp' : tmps[p]?.getD undef = .pointer (some ⟨g, 0, none⟩) := by simpa using hp
  simp only [results, h]
  simp [Result.andThen, hp', asAddr, run_loadVar_row w g t ty cs fr d hg hu hd hi]

end Go.Proofs.YtkddleonmkhaiaaGreat

namespace Go.Proofs.YtkddleonmkhaiaaGreat
open Go.RowKit
open Go.Lib (uvarint zigzag)

/-! the plain functions -/
/-- What a zigzag number stands for. -/
def unzig (u : Nat) : Int := if u % 2 = 1 then -((u / 2 : Nat) : Int) - 1 else ((u / 2 : Nat) : Int)

/-- A number at the beginning of l, k bytes of it gone, u gathered: the number, its bytes, the error. -/
def getS : List UInt8 → Nat → Nat → Int × Nat × Int
  | [], _, _ => (0, 0, 2)
  | c :: r, k, u =>
    if k = 9 ∧ 1 < c.toNat then (0, 0, 1)
    else if 128 ≤ c.toNat then getS r (k + 1) (u + c.toNat % 128 * 128 ^ k)
    else if c.toNat = 0 ∧ 0 < k then (0, 0, 1)
    else (unzig (u + c.toNat * 128 ^ k), k + 1, 0)

def getB (l : List UInt8) : Int × Nat × Int := getS l 0 0

theorem getS_of (r : List UInt8) : ∀ (n x k u : Nat), x ≤ n → k ≤ 9 → x < 128 ^ (9 - k) * 2 → (0 < k → 0 < x) → getS (uvarint x ++ r) k u = (unzig (u + x * 128 ^ k), k + (uvarint x).length, 0) := by
  intro n
  induction n with
  | zero =>
    intro x k u hn hk hx hp
    obtain rfl : x = 0 := by omega
    have hk0 : k = 0 := by
      rcases Nat.eq_zero_or_pos k with h | h
      · exact h
      · exact absurd (hp h) (by omega)
    subst hk0
    rw [Go.Lib.uvarint_small (by omega)]
    simp [getS]
  | succ n ih =>
    intro x k u hn hk hx hp
    by_cases hs : x < 128
    · rw [Go.Lib.uvarint_small hs]
      have hc : (x.toUInt8).toNat = x := by simp; omega
      have h9 : ¬ (k = 9 ∧ 1 < x) := by
        rintro ⟨rfl, h⟩
        simp at hx
        omega
      have h0 : ¬ (x = 0 ∧ 0 < k) := by
        rintro ⟨h, h'⟩
        have := hp h'
        omega
      simp [getS, hc, h9, h0, show ¬ 128 ≤ x from by omega]
    · rw [Go.Lib.uvarint_big (by omega)]
      have hc : ((x % 128 + 128).toUInt8).toNat = x % 128 + 128 := by simp; omega
      have hk8 : k < 9 := by
        rcases Nat.lt_or_ge k 9 with h | h
        · exact h
        · obtain rfl : k = 9 := by omega
          simp at hx
          omega
      have hpow : 128 ^ (9 - k) = 128 * 128 ^ (9 - (k + 1)) := by
        rw [show 9 - k = (9 - (k + 1)) + 1 from by omega, Nat.pow_succ, Nat.mul_comm]
      have h2 : x / 128 < 128 ^ (9 - (k + 1)) * 2 := by
        rw [hpow, Nat.mul_assoc] at hx
        exact Nat.div_lt_of_lt_mul hx
      have := ih (x / 128) (k + 1) (u + x % 128 * 128 ^ k) (by omega) (by omega) h2 (fun _ => by omega)
      simp only [List.cons_append, getS, hc, show ¬ (k = 9 ∧ 1 < x % 128 + 128) from by omega, if_false, show 128 ≤ x % 128 + 128 from by omega, if_true, List.length_cons]
      rw [show (x % 128 + 128) % 128 = x % 128 from by omega, this]
      have e : u + x % 128 * 128 ^ k + x / 128 * 128 ^ (k + 1) = u + x * 128 ^ k := by
        rw [Nat.pow_succ, Nat.mul_comm (128 ^ k) 128, ← Nat.mul_assoc, Nat.add_assoc, ← Nat.add_mul]
        congr 2
        omega
      rw [e, show k + 1 + (uvarint (x / 128)).length = k + ((uvarint (x / 128)).length + 1) from by omega]

theorem unzig_zigzag (n : Int) : unzig (zigzag n) = n := by
  unfold unzig zigzag
  split <;> split <;> omega

/-- Whatever stands behind, the number comes back. -/
theorem getB_put (n : Int) (h0 : -9223372036854775808 ≤ n) (h1 : n ≤ 9223372036854775807) (r : List UInt8) : getB (uvarint (zigzag n) ++ r) = (n, (uvarint (zigzag n)).length, 0) := by
  have hz := Go.Lib.zigzag_lt h0 h1
  have := getS_of r (zigzag n) (zigzag n) 0 0 (Nat.le_refl _) (by omega) (by simpa using hz) (by omega)
  unfold getB
  rw [this]
  simp [unzig_zigzag]

/-- Cut off anywhere it is not all there. -/
theorem getS_cut : ∀ (n x k u j : Nat), x ≤ n → k ≤ 9 → x < 128 ^ (9 - k) * 2 → j < (uvarint x).length → getS ((uvarint x).take j) k u = (0, 0, 2) := by
  intro n
  induction n with
  | zero =>
    intro x k u j hn hk hx hj
    obtain rfl : x = 0 := by omega
    rw [Go.Lib.uvarint_small (by omega)] at hj ⊢
    obtain rfl : j = 0 := by simpa using hj
    simp [getS]
  | succ n ih =>
    intro x k u j hn hk hx hj
    by_cases hs : x < 128
    · rw [Go.Lib.uvarint_small hs] at hj ⊢
      obtain rfl : j = 0 := by simpa using hj
      simp [getS]
    · rw [Go.Lib.uvarint_big (by omega)] at hj ⊢
      have hc : ((x % 128 + 128).toUInt8).toNat = x % 128 + 128 := by simp; omega
      cases j with
      | zero => simp [getS]
      | succ j =>
        have hk8 : k < 9 := by
          rcases Nat.lt_or_ge k 9 with h | h
          · exact h
          · obtain rfl : k = 9 := by omega
            simp at hx
            omega
        have hpow : 128 ^ (9 - k) = 128 * 128 ^ (9 - (k + 1)) := by
          rw [show 9 - k = (9 - (k + 1)) + 1 from by omega, Nat.pow_succ, Nat.mul_comm]
        have h2 : x / 128 < 128 ^ (9 - (k + 1)) * 2 := by
          rw [hpow, Nat.mul_assoc] at hx
          exact Nat.div_lt_of_lt_mul hx
        simp only [List.length_cons] at hj
        have := ih (x / 128) (k + 1) (u + (x % 128 + 128) % 128 * 128 ^ k) j (by omega) (by omega) h2 (by omega)
        simp only [List.take_succ_cons, getS, hc, show ¬ (k = 9 ∧ 1 < x % 128 + 128) from by omega, if_false, show 128 ≤ x % 128 + 128 from by omega, if_true]
        exact this

theorem getB_cut (n : Int) (h0 : -9223372036854775808 ≤ n) (h1 : n ≤ 9223372036854775807) (j : Nat) (hj : j < (uvarint (zigzag n)).length) : getB ((uvarint (zigzag n)).take j) = (0, 0, 2) := by
  have hz := Go.Lib.zigzag_lt h0 h1
  exact getS_cut (zigzag n) (zigzag n) 0 0 j (Nat.le_refl _) (by omega) (by simpa using hz) hj

/-- What Get answers fits its kinds. -/
theorem getS_fits : ∀ (l : List UInt8) (k u : Nat), k ≤ 9 → u < 128 ^ k → -9223372036854775808 ≤ (getS l k u).1 ∧ (getS l k u).1 ≤ 9223372036854775807 ∧ (getS l k u).2.1 ≤ k + l.length ∧ ((getS l k u).2.2 = 0 ∨ (getS l k u).2.2 = 1 ∨ (getS l k u).2.2 = 2) ∧ ((getS l k u).2.2 = 0 → 1 ≤ (getS l k u).2.1) ∧ (getS l k u).2.1 ≤ 10 := by
  intro l
  induction l with
  | nil => intro k u _ _; simp [getS]
  | cons c r ih =>
    intro k u hk hu
    have hc : c.toNat < 256 := c.toNat_lt
    have hpow : 128 ^ k ≤ 128 ^ 9 := Nat.pow_le_pow_right (by omega) hk
    unfold getS
    split
    · simp
    · rename_i h9
      split
      · rename_i hbig
        have hk8 : k < 9 := by omega
        have hu' : u + c.toNat % 128 * 128 ^ k < 128 ^ (k + 1) := by
          rw [Nat.pow_succ]
          have : c.toNat % 128 * 128 ^ k ≤ 127 * 128 ^ k := Nat.mul_le_mul_right _ (by omega)
          omega
        have := ih (k + 1) _ (by omega) hu'
        simp only [List.length_cons]
        omega
      · split
        · simp
        · simp only [List.length_cons]
          have hb : u + c.toNat * 128 ^ k < 18446744073709551616 := by
            by_cases hk9 : k = 9
            · subst hk9
              have : c.toNat * 128 ^ 9 ≤ 1 * 128 ^ 9 := Nat.mul_le_mul_right _ (by omega)
              omega
            · have h8 : 128 ^ k ≤ 128 ^ 8 := Nat.pow_le_pow_right (by omega) (by omega)
              have : c.toNat * 128 ^ k ≤ 127 * 128 ^ k := Nat.mul_le_mul_right _ (by omega)
              omega
          unfold unzig
          refine ⟨?_, ?_, by omega, by simp, by simp, by omega⟩ <;> split <;> omega

theorem getB_fits (l : List UInt8) : -9223372036854775808 ≤ (getB l).1 ∧ (getB l).1 ≤ 9223372036854775807 ∧ (getB l).2.1 ≤ l.length ∧ ((getB l).2.2 = 0 ∨ (getB l).2.2 = 1 ∨ (getB l).2.2 = 2) ∧ ((getB l).2.2 = 0 → 1 ≤ (getB l).2.1) ∧ (getB l).2.1 ≤ 10 := by
  have := getS_fits l 0 0 (by omega) (by simp)
  unfold getB
  omega

/-- A text at the beginning of l. -/
def textB (l : List UInt8) : List UInt8 × Nat × Int :=
  if (getB l).2.2 ≠ 0 then ([], 0, (getB l).2.2)
  else if (getB l).1 < 0 ∨ 65536 < (getB l).1 then ([], 0, 1)
  else if l.length < (getB l).2.1 + (getB l).1.toNat then ([], 0, 2)
  else ((l.drop (getB l).2.1).take (getB l).1.toNat, (getB l).2.1 + (getB l).1.toNat, 0)

def putT (s : List UInt8) : List UInt8 := uvarint (zigzag s.length) ++ s

theorem textB_put (s r : List UInt8) (hs : s.length ≤ 65536) : textB (putT s ++ r) = (s, (putT s).length, 0) := by
  have h := getB_put (s.length : Int) (by omega) (by omega) (s ++ r)
  unfold putT textB
  rw [List.append_assoc, h]
  simp only [List.length_append]
  rw [if_neg (by simp), if_neg (by omega), if_neg (by omega)]
  simp

theorem textB_cut (s : List UInt8) (hs : s.length ≤ 65536) (j : Nat) (hj : j < (putT s).length) : textB ((putT s).take j) = ([], 0, 2) := by
  unfold putT at hj ⊢
  rw [List.length_append] at hj
  by_cases hc : j < (uvarint (zigzag s.length)).length
  · have h := getB_cut (s.length : Int) (by omega) (by omega) j hc
    rw [List.take_append_of_le_length (by omega)]
    unfold textB
    rw [h]
    simp
  · have h := getB_put (s.length : Int) (by omega) (by omega) (s.take (j - (uvarint (zigzag s.length)).length))
    rw [List.take_append, List.take_of_length_le (by omega)]
    unfold textB
    rw [h]
    simp only [List.length_append, List.length_take]
    rw [if_neg (by simp), if_neg (by omega), if_pos (by omega)]

end Go.Proofs.YtkddleonmkhaiaaGreat

namespace Go.Proofs.YtkddleonmkhaiaaGreat
open Go.RowKit
open Go.Lib (uvarint zigzag)

theorem i64_not_all (n : Int) (h0 : -9223372036854775808 ≤ n) (h1 : n ≤ 9223372036854775807) : bits .xor .i64 (-1) n = -n - 1 := by
  show IntKind.i64.wrap ((BitVec.ofInt 64 (-1) ^^^ BitVec.ofInt 64 n).toNat : Int) = _
  have e1 : BitVec.ofInt 64 (-1) = BitVec.allOnes 64 := by decide
  have e2 : BitVec.allOnes 64 ^^^ BitVec.ofInt 64 n = ~~~ (BitVec.ofInt 64 n) := by rw [BitVec.allOnes_xor]
  rw [e1, e2, BitVec.toNat_not, BitVec.toNat_ofInt, IntKind.wrap_i64]
  omega

theorem unsigned_neg (n : Int) (h0 : -9223372036854775808 ≤ n) (hn : n < 0) :
    bits BinOp.or IntKind.u64 (IntKind.u64.wrap (IntKind.u64.wrap (bits BinOp.xor IntKind.i64 (-1) n) * 2)) 1 = ((zigzag n : Nat) : Int) := by
  rw [i64_not_all n h0 (by omega), IntKind.wrap_u64, IntKind.wrap_u64]
  have e : (-n - 1) % 18446744073709551616 * 2 % 18446744073709551616 = 2 * (-n - 1) := by omega
  rw [e, bits_join .u64 64 (by decide) wraps_u64 1 _ _ (by omega) (by omega) (by omega) (by omega) (by omega) (by omega)]
  unfold Go.Lib.zigzag
  rw [if_neg (by omega)]
  omega

end Go.Proofs.YtkddleonmkhaiaaGreat
