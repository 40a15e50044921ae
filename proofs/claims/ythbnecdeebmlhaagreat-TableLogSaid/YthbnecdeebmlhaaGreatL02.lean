/-
  Values: contracts of the reference's EqVal, MayVal, of the laws' Cut.
  Package num: what each function answers, as plain functions on numbers and bytes, and the contracts of the Go functions that say so.
  Contracts of package num's functions and of the reference's.
  Contracts of Get and GetText, the program's and the reference's.
  Contracts of GetText, the program's and the reference's, and of the law's own numbers.
  Values as bytes: what is written, what is told again, and the contracts of the reference's PutVal, GetVal.
  Records: contracts of the reference's May, Eq, Bytes.
  Mathematics of stage 10 (of no code): rows that rise by their keys, and what the last of each key is.
  Slices of records: what one reads as, what the call itself makes.
  Mathematics: the order of bytes is an order of keys (of no code).
  Slices of records: contract of the reference's Set.
  Mathematics: slices' symMerge, rotate and swapRange over an array (of no code): two sorted rows that lie side by side become one.
-/
import Derived.Test.YthbnecdeebmlhaaGreatL01
import Derived.Laws.DeepNot64
import Derived.Lib.VarintBits
import Derived.Deep.QuietTactic
import Derived.BigQuiet
import Derived.Deep.DeepCutAuto
import Derived.LoopTactic
import Derived.Sort.LotA
namespace Go.Proofs.YthbnecdeebmlhaaGreat
open Go.RowKit

/-- The same Kind, N, S. -/
def eqR (k1 n1 : Int) (s1 : ByteArray) (k2 n2 : Int) (s2 : ByteArray) : Bool := k1 == k2 && n1 == n2 && s1.toList == s2.toList
theorem eqR_iff (k1 n1 : Int) (s1 : ByteArray) (k2 n2 : Int) (s2 : ByteArray) : eqR k1 n1 s1 k2 n2 s2 = true ↔ k1 = k2 ∧ n1 = n2 ∧ s1 = s2 := by
  unfold eqR
  rw [Bool.and_eq_true, Bool.and_eq_true, beq_iff_eq, beq_iff_eq, beq_iff_eq, ByteArray.toList_eq, ByteArray.toList_eq, and_assoc]
  constructor
  · rintro ⟨h1, h2, h3⟩
    exact ⟨h1, h2, ByteArray.ext (Array.toList_inj.1 h3)⟩
  · rintro ⟨h1, h2, rfl⟩
    exact ⟨h1, h2, rfl⟩
theorem below_one (w : World) (o : Obj) : Below w.heap.size w (w.alloc o) := (Below.refl _ w).alloc (Nat.le_refl _) o
theorem below_two (w : World) (o1 o2 : Obj) : Below w.heap.size w ((w.alloc o1).alloc o2) := (below_one w o1).alloc (below_one w o1).size o2

set_option maxRecDepth 100000 in
theorem eqval_c (k1 n1 : Int) (s1 : ByteArray) (k2 n2 : Int) (s2 : ByteArray) (w : World) :
    Calls Tryz.prog 62 #[rawV k1 n1 s1, rawV k2 n2 s2] w fun e w' => e = .returned (.bool (eqR k1 n1 s1 k2 n2 s2)) ∧ Below w.heap.size w w' := by
  unfold rawV
  by_cases h1 : k1 = k2
  · by_cases h2 : n1 = n2
    · have hr : Hid (eqR k1 n1 s1 k2 n2 s2 = (s1.toList == s2.toList)) := by unfold Hid eqR; simp [h1, h2]
      go_enter Tryz.func62, Tryz.ntmps62
      go_wp2_with fail
      go_ret
      exact ⟨ret_of (congrArg Value.bool (by first | exact hr.out.symm | (subst h1; subst h2; exact hr.out.symm))), below_two _ _ _⟩
    · have hr : Hid (eqR k1 n1 s1 k2 n2 s2 = false) := by unfold Hid eqR; simp [h1, h2]
      go_enter Tryz.func62, Tryz.ntmps62
      go_wp2_with fail
      go_ret
      exact ⟨ret_of (congrArg Value.bool (by first | exact hr.out.symm | (subst h1; exact hr.out.symm))), below_two _ _ _⟩
  · have hr : Hid (eqR k1 n1 s1 k2 n2 s2 = false) := by unfold Hid eqR; simp [h1]
    go_enter Tryz.func62, Tryz.ntmps62
    go_wp2_with fail
    go_ret
    exact ⟨ret_of (congrArg Value.bool hr.out.symm), below_two _ _ _⟩

/-- What may be a value. -/
def mayR (k n : Int) (s : ByteArray) : Bool := if k = 1 then s.toList.isEmpty else if k = 2 then n == 0 && decide (s.size ≤ 24) && wellB (toks (bl s)) else false

set_option maxRecDepth 100000 in
theorem mayval_c (k n : Int) (s : ByteArray) (w : World) (hm : s.size ≤ maxLen) :
    Calls Tryz.prog 68 #[rawV k n s] w fun e w' => e = .returned (.bool (mayR k n s)) ∧ Below w.heap.size w w' := by
  unfold rawV
  unfold maxLen at hm
  by_cases h1 : k = 1
  · subst h1
    go_enter Tryz.func68, Tryz.ntmps68
    go_wp2_with fail
    go_ret
    exact ⟨ret_of (congrArg Value.bool (by unfold mayR; simp)), below_one _ _⟩
  by_cases h2 : k = 2
  · subst h2
    by_cases h3 : n = 0
    · subst h3
      by_cases h4 : s.size ≤ 24
      · have C := Go.Lib.hid fun W => rvalid_c s W (by omega)
        go_enter Tryz.func68, Tryz.ntmps68
        go_wp2_with fail
        refine (C.out _).mono ?_
        rintro e w1 ⟨rfl, rfl⟩
        go_wp2_with fail
        go_ret
        exact ⟨ret_of (congrArg Value.bool (by unfold mayR; simp [h4])), below_one _ _⟩
      · go_enter Tryz.func68, Tryz.ntmps68
        go_wp2_with fail
        go_ret
        exact ⟨ret_of (congrArg Value.bool (by unfold mayR; simp [h4])), below_one _ _⟩
    · have h3' : (n == 0) = false := by simp [h3]
      go_enter Tryz.func68, Tryz.ntmps68
      go_wp2_with fail
      go_ret
      exact ⟨ret_of (congrArg Value.bool (by unfold mayR; simp [h3])), below_one _ _⟩
  · have h1' : (k == 1) = false := by simp [h1]
    have h2' : (k == 2) = false := by simp [h2]
    go_enter Tryz.func68, Tryz.ntmps68
    go_wp2_with fail
    go_ret
    exact ⟨ret_of (congrArg Value.bool (by unfold mayR; simp [h1, h2])), below_one _ _⟩

set_option maxRecDepth 100000 in
/-- The laws' 'Cut(r)'. -/
theorem vcut_c (k n : Int) (s : ByteArray) (w : World) (hm : s.size ≤ maxLen) :
    Calls Tryz.prog 65 #[rawV k n s] w fun e w' => e = .returned (rawV k n (str ((bl s).take 30))) ∧ Below w.heap.size w w' := by
  unfold rawV
  have C := Go.Lib.hid fun W => lcut_c s 30 W hm (by omega)
  clear hm
  go_enter Tryz.func65, Tryz.ntmps65
  go_wp2_with fail
  refine (C.out _).mono ?_
  rintro e w1 ⟨rfl, rfl⟩
  go_wp2_with fail
  refine bodyPost_ret (results_cell_row rfl _ _ (w.heap.size + 1) 26 #[.int .i64 k, .int .i64 n, .string (str ((bl s).take 30))] (0, 0) _ rfl (heap_alloc2_new w _ _) Tryz.underlying26 rfl (by kernel_rfl)) rfl ?_
  exact ⟨rfl, below_two _ _ _⟩

/-- A row and two more are what is answered. -/
theorem results_row_two {P : Program} {fn : Func} {p u v : Tmp} {ty : TypeId} (h : fn.results = #[.cell p ty, .tmp u, .tmp v]) (tmps : Array Value) (w : World) (g : Nat) (t : TypeId) (cs : Array Value) (fr : Nat × Nat) (d : TypeDesc)
    (hp : tmps.getD p undef = .pointer (some ⟨g, 0, none⟩)) (hg : w.heap[g]? = some (.cells cs t fr))
    (hu : P.underlying ty = some d) (hd : (match d with | .struct _ | .array _ _ => true | _ => false) = true) (hi : (P.info? ty).map (·.size) = some cs.size) :
    (results fn tmps).run P w = .ok (.tuple #[.agg cs, tmps.getD u undef, tmps.getD v undef]) w := by
  have hp' : tmps[p]?.getD undef = .pointer (some ⟨g, 0, none⟩) := by simpa using hp
  simp only [results, h]
  simp [Result.andThen, hp', asAddr, run_loadVar_row w g t ty cs fr d hg hu hd hi]

end Go.Proofs.YthbnecdeebmlhaaGreat

namespace Go.Proofs.YthbnecdeebmlhaaGreat
open Go.RowKit
open Go.Lib (uvarint zigzag)

/-! the plain functions -/
/-- What a zigzag number stands for. -/
def unzig (u : Nat) : Int := if u % 2 = 1 then -((u / 2 : Nat) : Int) - 1 else ((u / 2 : Nat) : Int)

/-- A number at the beginning of l, k bytes of it gone, u gathered: the number, its bytes, the error. -/
def getS : List UInt8 → Nat → Nat → Int × Nat × Int
  | [], _, _ => (0, 0, 2)
  | c :: r, k, u =>
    if k = 9 ∧ 1 < c.toNat then (0, 0, 1)
    else if 128 ≤ c.toNat then getS r (k + 1) (u + c.toNat % 128 * 128 ^ k)
    else if c.toNat = 0 ∧ 0 < k then (0, 0, 1)
    else (unzig (u + c.toNat * 128 ^ k), k + 1, 0)

def getB (l : List UInt8) : Int × Nat × Int := getS l 0 0

theorem getS_of (r : List UInt8) : ∀ (n x k u : Nat), x ≤ n → k ≤ 9 → x < 128 ^ (9 - k) * 2 → (0 < k → 0 < x) → getS (uvarint x ++ r) k u = (unzig (u + x * 128 ^ k), k + (uvarint x).length, 0) := by
  intro n
  induction n with
  | zero =>
    intro x k u hn hk hx hp
    obtain rfl : x = 0 := by omega
    have hk0 : k = 0 := by
      rcases Nat.eq_zero_or_pos k with h | h
      · exact h
      · exact absurd (hp h) (by omega)
    subst hk0
    rw [Go.Lib.uvarint_small (by omega)]
    simp [getS]
  | succ n ih =>
    intro x k u hn hk hx hp
    by_cases hs : x < 128
    · rw [Go.Lib.uvarint_small hs]
      have hc : (x.toUInt8).toNat = x := by simp; omega
      have h9 : ¬ (k = 9 ∧ 1 < x) := by
        rintro ⟨rfl, h⟩
        simp at hx
        omega
      have h0 : ¬ (x = 0 ∧ 0 < k) := by
        rintro ⟨h, h'⟩
        have := hp h'
        omega
      simp [getS, hc, h9, h0, show ¬ 128 ≤ x from by omega]
    · rw [Go.Lib.uvarint_big (by omega)]
      have hc : ((x % 128 + 128).toUInt8).toNat = x % 128 + 128 := by simp; omega
      have hk8 : k < 9 := by
        rcases Nat.lt_or_ge k 9 with h | h
        · exact h
        · obtain rfl : k = 9 := by omega
          simp at hx
          omega
      have hpow : 128 ^ (9 - k) = 128 * 128 ^ (9 - (k + 1)) := by
        rw [show 9 - k = (9 - (k + 1)) + 1 from by omega, Nat.pow_succ, Nat.mul_comm]
      have h2 : x / 128 < 128 ^ (9 - (k + 1)) * 2 := by
        rw [hpow, Nat.mul_assoc] at hx
        exact Nat.div_lt_of_lt_mul hx
      have := ih (x / 128) (k + 1) (u + x % 128 * 128 ^ k) (by omega) (by omega) h2 (fun _ => by omega)
      simp only [List.cons_append, getS, hc, show ¬ (k = 9 ∧ 1 < x % 128 + 128) from by omega, if_false, show 128 ≤ x % 128 + 128 from by omega, if_true, List.length_cons]
      rw [show (x % 128 + 128) % 128 = x % 128 from by omega, this]
      have e : u + x % 128 * 128 ^ k + x / 128 * 128 ^ (k + 1) = u + x * 128 ^ k := by
        rw [Nat.pow_succ, Nat.mul_comm (128 ^ k) 128, ← Nat.mul_assoc, Nat.add_assoc, ← Nat.add_mul]
        congr 2
        omega
      rw [e, show k + 1 + (uvarint (x / 128)).length = k + ((uvarint (x / 128)).length + 1) from by omega]

theorem unzig_zigzag (n : Int) : unzig (zigzag n) = n := by
  unfold unzig zigzag
  split <;> split <;> omega

/-- Whatever stands behind, the number comes back. -/
theorem getB_put (n : Int) (h0 : -9223372036854775808 ≤ n) (h1 : n ≤ 9223372036854775807) (r : List UInt8) : getB (uvarint (zigzag n) ++ r) = (n, (uvarint (zigzag n)).length, 0) := by
  have hz := Go.Lib.zigzag_lt h0 h1
  have := getS_of r (zigzag n) (zigzag n) 0 0 (Nat.le_refl _) (by omega) (by simpa using hz) (by omega)
  unfold getB
  rw [this]
  simp [unzig_zigzag]

/-- What Get answers fits its kinds. -/
theorem getS_fits : ∀ (l : List UInt8) (k u : Nat), k ≤ 9 → u < 128 ^ k → -9223372036854775808 ≤ (getS l k u).1 ∧ (getS l k u).1 ≤ 9223372036854775807 ∧ (getS l k u).2.1 ≤ k + l.length ∧ ((getS l k u).2.2 = 0 ∨ (getS l k u).2.2 = 1 ∨ (getS l k u).2.2 = 2) ∧ ((getS l k u).2.2 = 0 → 1 ≤ (getS l k u).2.1) ∧ (getS l k u).2.1 ≤ 10 := by
  intro l
  induction l with
  | nil => intro k u _ _; simp [getS]
  | cons c r ih =>
    intro k u hk hu
    have hc : c.toNat < 256 := c.toNat_lt
    have hpow : 128 ^ k ≤ 128 ^ 9 := Nat.pow_le_pow_right (by omega) hk
    unfold getS
    split
    · simp
    · rename_i h9
      split
      · rename_i hbig
        have hk8 : k < 9 := by omega
        have hu' : u + c.toNat % 128 * 128 ^ k < 128 ^ (k + 1) := by
          rw [Nat.pow_succ]
          have : c.toNat % 128 * 128 ^ k ≤ 127 * 128 ^ k := Nat.mul_le_mul_right _ (by omega)
          omega
        have := ih (k + 1) _ (by omega) hu'
        simp only [List.length_cons]
        omega
      · split
        · simp
        · simp only [List.length_cons]
          have hb : u + c.toNat * 128 ^ k < 18446744073709551616 := by
            by_cases hk9 : k = 9
            · subst hk9
              have : c.toNat * 128 ^ 9 ≤ 1 * 128 ^ 9 := Nat.mul_le_mul_right _ (by omega)
              omega
            · have h8 : 128 ^ k ≤ 128 ^ 8 := Nat.pow_le_pow_right (by omega) (by omega)
              have : c.toNat * 128 ^ k ≤ 127 * 128 ^ k := Nat.mul_le_mul_right _ (by omega)
              omega
          unfold unzig
          refine ⟨?_, ?_, by omega, by simp, by simp, by omega⟩ <;> split <;> omega

theorem getB_fits (l : List UInt8) : -9223372036854775808 ≤ (getB l).1 ∧ (getB l).1 ≤ 9223372036854775807 ∧ (getB l).2.1 ≤ l.length ∧ ((getB l).2.2 = 0 ∨ (getB l).2.2 = 1 ∨ (getB l).2.2 = 2) ∧ ((getB l).2.2 = 0 → 1 ≤ (getB l).2.1) ∧ (getB l).2.1 ≤ 10 := by
  have := getS_fits l 0 0 (by omega) (by simp)
  unfold getB
  omega

/-- A text at the beginning of l. -/
def textB (l : List UInt8) : List UInt8 × Nat × Int :=
  if (getB l).2.2 ≠ 0 then ([], 0, (getB l).2.2)
  else if (getB l).1 < 0 ∨ 65536 < (getB l).1 then ([], 0, 1)
  else if l.length < (getB l).2.1 + (getB l).1.toNat then ([], 0, 2)
  else ((l.drop (getB l).2.1).take (getB l).1.toNat, (getB l).2.1 + (getB l).1.toNat, 0)

def putT (s : List UInt8) : List UInt8 := uvarint (zigzag s.length) ++ s

theorem textB_put (s r : List UInt8) (hs : s.length ≤ 65536) : textB (putT s ++ r) = (s, (putT s).length, 0) := by
  have h := getB_put (s.length : Int) (by omega) (by omega) (s ++ r)
  unfold putT textB
  rw [List.append_assoc, h]
  simp only [List.length_append]
  rw [if_neg (by simp), if_neg (by omega), if_neg (by omega)]
  simp

end Go.Proofs.YthbnecdeebmlhaaGreat

namespace Go.Proofs.YthbnecdeebmlhaaGreat
open Go.RowKit
open Go.Lib (uvarint zigzag)

theorem i64_not_all (n : Int) (h0 : -9223372036854775808 ≤ n) (h1 : n ≤ 9223372036854775807) : bits .xor .i64 (-1) n = -n - 1 := by
  show IntKind.i64.wrap ((BitVec.ofInt 64 (-1) ^^^ BitVec.ofInt 64 n).toNat : Int) = _
  have e1 : BitVec.ofInt 64 (-1) = BitVec.allOnes 64 := by decide
  have e2 : BitVec.allOnes 64 ^^^ BitVec.ofInt 64 n = ~~~ (BitVec.ofInt 64 n) := by rw [BitVec.allOnes_xor]
  rw [e1, e2, BitVec.toNat_not, BitVec.toNat_ofInt, IntKind.wrap_i64]
  omega

theorem unsigned_neg (n : Int) (h0 : -9223372036854775808 ≤ n) (hn : n < 0) :
    bits BinOp.or IntKind.u64 (IntKind.u64.wrap (IntKind.u64.wrap (bits BinOp.xor IntKind.i64 (-1) n) * 2)) 1 = ((zigzag n : Nat) : Int) := by
  rw [i64_not_all n h0 (by omega), IntKind.wrap_u64, IntKind.wrap_u64]
  have e : (-n - 1) % 18446744073709551616 * 2 % 18446744073709551616 = 2 * (-n - 1) := by omega
  rw [e, bits_join .u64 64 (by decide) wraps_u64 1 _ _ (by omega) (by omega) (by omega) (by omega) (by omega) (by omega)]
  unfold Go.Lib.zigzag
  rw [if_neg (by omega)]
  omega

theorem unsigned_c (n : Int) (w : World) (h0 : -9223372036854775808 ≤ n) (h1 : n ≤ 9223372036854775807) :
    Calls Tryz.prog 173 #[.int .i64 n] w fun e w' => e = .returned (.int .u64 (zigzag n : Nat)) ∧ w = w' := by
  by_cases hn : n < 0
  · go_enter Tryz.func173, Tryz.ntmps173
    go_wp2
    go_ret
    exact ⟨ret_int (unsigned_neg n h0 hn), rfl⟩
  · have hn' : 0 ≤ n := by omega
    go_enter Tryz.func173, Tryz.ntmps173
    go_wp2
    go_ret
    exact ⟨ret_int (Go.Lib.zigzag_nonneg hn').symm, rfl⟩

theorem signed_c (n : Nat) (w : World) (h1 : n < 18446744073709551616) :
    Calls Tryz.prog 154 #[.int .u64 n] w fun e w' => e = .returned (.int .i64 (unzig n)) ∧ w = w' := by
  have hb := Go.Lib.u64_and1 n (by omega) (by omega)
  have hx := Go.Lib.i64_not (n / 2) (by omega)
  by_cases hn : n % 2 = 1
  · have hd : (bits .and .u64 (n : Int) 1 == 1) = true := by rw [hb]; simp; omega
    have Hb := Go.Lib.hid hb; clear hb
    have Hx := Go.Lib.hid hx; clear hx
    have Hn := Go.Lib.hid hn; clear hn
    go_enter Tryz.func154, Tryz.ntmps154
    go_wp2
    go_ret
    refine ⟨ret_int ?_, rfl⟩
    rw [unzig, if_pos Hn.out, ← Hx.out]
    rfl
  · have hd : (bits .and .u64 (n : Int) 1 == 1) = false := by rw [hb]; simp; omega
    have Hb := Go.Lib.hid hb; clear hb
    have Hx := Go.Lib.hid hx; clear hx
    have Hn := Go.Lib.hid hn; clear hn
    go_enter Tryz.func154, Tryz.ntmps154
    go_wp2
    go_ret
    refine ⟨ret_int ?_, rfl⟩
    rw [unzig, if_neg Hn.out]
    rfl

/-- 'copyWithRoom(b, more)'. -/
theorem copy_c (v : Value) (l : List UInt8) (n : Int) (w : World) (hv : RB w v l) (h0 : 0 ≤ n) (hn : l.length + n.toNat ≤ 140737488355328) :
    Calls Tryz.prog 153 #[v, .int .i64 n] w fun e w' => ∃ v', e = .returned v' ∧ Own 5 w' w.heap.size v' l ∧ Below w.heap.size w w' := by
  have hrb := hv
  obtain ⟨a, cap, rfl, h1, h2, h3, h4⟩ := hv
  have hs := h2
  unfold maxLen at hs
  clear h3 h4
  go_enter Tryz.func153, Tryz.ntmps153
  go_wp2_with (first
    | (at_make; refine wpList_make_len rfl (.tmp 7) (.tmp 11) 47 rfl 5 Tryz.underlying47 info8 .i64 .i64 _ _ l.length (l.length + n.toNat) rfl rfl rfl (by omega) (by omega) (by omega) ?_; intro v1 w1 hown1 hg1)
    | (with_reducible show wpList _ _ _ (⟨some 15, _, _, _, _, _⟩ :: _) _ _; go_loud (refine wpList_copy_RB rfl (.tmp 13) (.tmp 14) 47 rfl w.heap.size 5 Tryz.underlying47 info8 v1 (.slice a l.length cap) _ l rfl rfl hown1 (hrb.below (grown_below hg1 (Nat.le_refl _) (by simp))) (by simp) w (grown_below hg1 (Nat.le_refl _) (by simp)) ?_); intro w2 hown2 hb2))
  go_ret
  exact ⟨_, rfl, hown2, hb2⟩

set_option maxRecDepth 100000 in
/-- 'addNum(out, n)', out the call's own. -/
theorem add_c (B : Nat) (v : Value) (l : List UInt8) (n : Int) (w : World) (hv : Own 5 w B v l) (hB : B ≤ w.heap.size) (h0 : -9223372036854775808 ≤ n) (h1 : n ≤ 9223372036854775807) (hl : l.length + 10 ≤ 140737488355328) :
    Calls Tryz.prog 152 #[v, .int .i64 n] w fun e w' => ∃ v', e = .returned v' ∧ Own 5 w' B v' (l ++ uvarint (zigzag n)) ∧ Below B w w' := by
  have hz := Go.Lib.zigzag_lt h0 h1
  have hzl := Go.Lib.uvarint_length64 hz
  obtain ⟨z, Hz⟩ : ∃ z, z = zigzag n := ⟨_, rfl⟩
  rw [← Hz] at hz hzl ⊢
  have Hzl := Go.Lib.hid hzl; clear hzl
  have HZ := Go.Lib.hid Hz; clear Hz
  go_enter Tryz.func152, Tryz.ntmps152
  go_wp2_with (go_at_call 173; refine (unsigned_c n _ h0 h1).mono ?_; rintro e w1 ⟨rfl, rfl⟩; rw [← HZ.out])
  go_loopw [0, 5] (fun x u wr => ∃ (p : List UInt8) (y : Nat), y < 18446744073709551616 ∧ u = .int .u64 (y : Int) ∧ Own 5 wr B x (l ++ p) ∧ Below B w wr ∧ Hid (uvarint z = p ++ uvarint y)) (fun _ u _ => (intOf u).toNat)
  case atStart => exact ⟨[], z, hz, rfl, by simpa using hv, Below.refl _ _, by simp [Hid]⟩
  case round =>
    obtain ⟨p, y, hy, rfl, hown, hbel, hz1⟩ := hrel
    have hpl : Hid (p.length + (uvarint y).length ≤ 10) := by
      have := Hzl.out
      rw [hz1.out, List.length_append] at this
      exact this
    have hpl1 : p.length + 1 ≤ 10 := by have := hpl.out; have := Go.Lib.uvarint_pos y; omega
    by_cases hs : y < 128
    · have hc : (y : Int) = ((UInt8.ofNat y).toNat : Int) := by simp; omega
      have Hc := Go.Lib.hid hc; clear hc
      go_wp2_with (at_builtin; go_loud (refine wpList_append_RB rfl (.tmp 18) (.tmp 21) 47 rfl B 5 Tryz.underlying47 info8 u0 (.slice (some ⟨wr.heap.size, 0, none⟩) 1 1) (l ++ p) [UInt8.ofNat y] rfl rfl (hown.alloc _) (RB.one wr _ _ _ Hc.out) (by simp; omega) (by have := hbel.size; simp; omega) ?_); intro v2 w2 hown2 hg2)
      go_ret
      have hu : uvarint z = p ++ [UInt8.ofNat y] := by rw [hz1.out, Go.Lib.uvarint_small hs]
      refine ⟨_, rfl, ?_, (hbel.alloc (by have := hbel.size; omega) _).grown hg2 (by have := hbel.size; simp; omega) hown.row⟩
      rw [hu, ← List.append_assoc]
      exact hown2
    · have hc : bits BinOp.or IntKind.u8 ((y : Int) % 256) 128 = ((UInt8.ofNat (y % 128 + 128)).toNat : Int) := by
        rw [Go.Lib.u8_or128_any _ (by omega) (by omega)]; simp; omega
      have Hc := Go.Lib.hid hc; clear hc
      go_wp2_with (at_builtin; go_loud (refine wpList_append_RB rfl (.tmp 10) (.tmp 14) 47 rfl B 5 Tryz.underlying47 info8 u0 (.slice (some ⟨wr.heap.size, 0, none⟩) 1 1) (l ++ p) [UInt8.ofNat (y % 128 + 128)] rfl rfl (hown.alloc _) (RB.one wr _ _ _ Hc.out) (by simp; omega) (by have := hbel.size; simp; omega) ?_); intro v2 w2 hown2 hg2)
      have hu : uvarint z = (p ++ [UInt8.ofNat (y % 128 + 128)]) ++ uvarint (y / 128) := by rw [hz1.out, Go.Lib.uvarint_big (by omega)]; simp
      have Hu := Go.Lib.hid hu; clear hu
      have hbel2 : Below B w w2 := (hbel.alloc (by have := hbel.size; omega) _).grown hg2 (by have := hbel.size; simp; omega) hown.row
      clear hbel hg2 hz1 hpl
      go_roundw
      case rel => exact ⟨p ++ [UInt8.ofNat (y % 128 + 128)], y / 128, by omega, by go_num, by rw [← List.append_assoc]; exact hown2, hbel2, Hu⟩
      case measure => simp [intOf]; omega

/-- 'Put(b, n)'. -/
theorem put_c (v : Value) (l : List UInt8) (n : Int) (w : World) (hv : RB w v l) (h0 : -9223372036854775808 ≤ n) (h1 : n ≤ 9223372036854775807) (hl : l.length + 10 ≤ 140737488355328) :
    Calls Tryz.prog 130 #[v, .int .i64 n] w fun e w' => ∃ v', e = .returned v' ∧ Own 5 w' w.heap.size v' (l ++ uvarint (zigzag n)) ∧ Below w.heap.size w w' := by
  go_enter Tryz.func130, Tryz.ntmps130
  go_wp2_with fail
  refine (copy_c v l 10 w hv (by omega) (by omega)).mono ?_
  rintro e w1 ⟨v1, rfl, hown1, hb1⟩
  go_wp2_with fail
  refine (add_c w.heap.size v1 l n w1 hown1 hb1.size h0 h1 hl).mono ?_
  rintro e w2 ⟨v2, rfl, hown2, hb2⟩
  go_wp2_with fail
  go_ret
  exact ⟨_, rfl, hown2, hb1.trans hb2⟩

/-- 'PutText(b, s)'. -/
theorem putText_c (v : Value) (l : List UInt8) (q : ByteArray) (w : World) (hv : RB w v l) (hl : l.length + q.size + 10 ≤ 140737488355328) :
    Calls Tryz.prog 129 #[v, .string q] w fun e w' => ∃ v', e = .returned v' ∧ Own 5 w' w.heap.size v' (l ++ putT q.data.toList) ∧ Below w.heap.size w w' := by
  have e1 : IntKind.i64.wrap (10 + (q.size : Int)) = 10 + (q.size : Int) := IntWalk.i64_in _ (by omega)
  have hq : (q.data.toList.length : Int) = q.size := by rw [← Go.Lib.size_eq]
  have Hq := Go.Lib.hid hq; clear hq
  go_enter Tryz.func129, Tryz.ntmps129
  go_wp2_with fail
  refine (copy_c v l (10 + (q.size : Int)) w hv (by omega) (by omega)).mono ?_
  rintro e w1 ⟨v1, rfl, hown1, hb1⟩
  go_wp2_with fail
  refine (add_c w.heap.size v1 l (q.size : Int) w1 hown1 hb1.size (by omega) (by omega) (by omega)).mono ?_
  rintro e w2 ⟨v2, rfl, hown2, hb2⟩
  have hzl := Go.Lib.uvarint_length64 (Go.Lib.zigzag_lt (x := (q.size : Int)) (by omega) (by omega))
  have Hzl := Go.Lib.hid hzl; clear hzl
  have hb12 := hb1.trans hb2
  clear hb1 hb2
  go_wp2_with (at_builtin; go_loud (refine wpList_append_str rfl (.tmp 14) (.tmp 15) 47 9 rfl w.heap.size 5 Tryz.underlying47 Tryz.underlying9 info8 v2 (l ++ uvarint (zigzag (q.size : Int))) q rfl rfl hown2 (by have := Hzl.out; simp; omega) hb12.size ?_); intro v3 w3 hown3 hg3)
  go_ret
  refine ⟨_, rfl, ?_, hb12.grown hg3 hb12.size hown2.row⟩
  unfold putT
  rw [Hq.out, ← List.append_assoc]
  exact hown3

end Go.Proofs.YthbnecdeebmlhaaGreat

namespace Go.Proofs.YthbnecdeebmlhaaGreat
open Go.RowKit
open Go.Lib (uvarint zigzag)

/-- What Get answers, as values. -/
def gv (r : Int × Nat × Int) : Value := .tuple #[.int .i64 r.1, .int .i64 (r.2.1 : Int), .int .i64 r.2.2]

theorem getS_step (l : List UInt8) (k u : Nat) (h : k < l.length) : getS (l.drop k) k u =
    if k = 9 ∧ 1 < l[k].toNat then (0, 0, 1)
    else if 128 ≤ l[k].toNat then getS (l.drop (k + 1)) (k + 1) (u + l[k].toNat % 128 * 128 ^ k)
    else if l[k].toNat = 0 ∧ 0 < k then (0, 0, 1)
    else (unzig (u + l[k].toNat * 128 ^ k), k + 1, 0) := by
  rw [List.drop_eq_getElem_cons h, getS]

set_option maxRecDepth 100000 in
theorem gather (acc c k : Nat) (hk : k ≤ 9) (hc : c < 256) (hacc : acc < 128 ^ k) (hck : k = 9 → c % 128 ≤ 1) :
    bits BinOp.or IntKind.u64 (acc : Int) (IntKind.u64.wrap (IntKind.u64.wrap (bits BinOp.and IntKind.u8 (c : Int) 127) * 2 ^ (7 * k))) = ((acc + c % 128 * 128 ^ k : Nat) : Int) ∧ acc + c % 128 * 128 ^ k < 18446744073709551616 := by
  have hp : (2 : Nat) ^ (7 * k) = 128 ^ k := by rw [Nat.pow_mul]
  have hlt : c % 128 * 128 ^ k + 128 ^ k ≤ 18446744073709551616 := by
    clear hp
    by_cases h9 : k = 9
    · have := hck h9
      subst h9
      have h99 : (128 : Nat) ^ 9 = 9223372036854775808 := by decide
      rw [h99]
      clear hacc hck hk
      omega
    · have h8 : 128 ^ k ≤ 128 ^ 8 := Nat.pow_le_pow_right (by omega) (by omega)
      have : c % 128 * 128 ^ k ≤ 127 * 128 ^ k := Nat.mul_le_mul_right _ (by omega)
      omega
  have e1 : IntKind.u64.wrap (bits BinOp.and IntKind.u8 (c : Int) 127) = ((c % 128 : Nat) : Int) := by
    rw [u8_and127 _ (by omega) (by omega), IntKind.wrap_u64]; omega
  have e2 : ((c % 128 : Nat) : Int) * 2 ^ (7 * k) = ((c % 128 * 128 ^ k : Nat) : Int) := by
    rw [← hp]; simp
  have e3 : IntKind.u64.wrap ((c % 128 * 128 ^ k : Nat) : Int) = ((c % 128 * 128 ^ k : Nat) : Int) := by
    rw [IntKind.wrap_u64]
    have hpos : 0 < 128 ^ k := Nat.pow_pos (by omega)
    omega
  have hpos : 0 < 128 ^ k := Nat.pow_pos (by omega)
  rw [e1, e2, e3]
  refine ⟨?_, by omega⟩
  have hmod : ((c % 128 * 128 ^ k : Nat) : Int) % 2 ^ (7 * k) = 0 := by
    have : (c % 128 * 128 ^ k) % 2 ^ (7 * k) = 0 := by rw [hp]; exact Nat.mul_mod_left _ _
    exact_mod_cast this
  have hlow : ((acc : Nat) : Int) < 2 ^ (7 * k) := by
    have : acc < 2 ^ (7 * k) := by rw [hp]; exact hacc
    exact_mod_cast this
  rw [bits_join_low .u64 64 (by decide) wraps_u64 (7 * k) _ _ (by omega) hlow (by omega) (by omega) hmod (by omega)]
  simp

theorem gather_next (acc c k : Nat) (hacc : acc < 128 ^ k) : acc + c % 128 * 128 ^ k < 128 ^ (k + 1) := by
  rw [Nat.pow_succ]
  have : c % 128 * 128 ^ k ≤ 127 * 128 ^ k := Nat.mul_le_mul_right _ (by omega)
  omega

theorem ret_gv {e : Ending} {r s : Int × Nat × Int} (he : e = .returned (gv r)) (h : r = s) : e = .returned (gv s) := by rw [he, h]

set_option maxRecDepth 100000 in
theorem get_c (v : Value) (l : List UInt8) (w : World) (hv : RB w v l) :
    Calls Tryz.prog 134 #[v] w fun e w' => e = .returned (gv (getB l)) ∧ w = w' := by
  obtain ⟨a, cap, rfl, h1, h2, h3, h4⟩ := hv
  have hm : l.length ≤ 9223372036854775807 := by unfold maxLen at h2; omega
  have H4 := Go.Lib.hid h4; clear h4
  clear h3
  go_enter Tryz.func134, Tryz.ntmps134
  go_wp2_with fail
  go_loop [5, 10] (fun u i => ∃ k acc : Nat, k ≤ l.length ∧ k ≤ 9 ∧ i = .int .i64 (k : Int) ∧ u = .int .u64 (acc : Int) ∧ acc < 18446744073709551616 ∧ Hid (acc < 128 ^ k) ∧ Hid (getB l = getS (l.drop k) k acc)) (fun _ i => l.length - (intOf i).toNat)
  case atStart => exact ⟨0, 0, by omega, by omega, rfl, rfl, by omega, by simp [Hid], rfl⟩
  case round =>
    obtain ⟨k, acc, hk, hk9, rfl, rfl, hacc, hpow, hg⟩ := hrel
    by_cases hlt : k < l.length
    · obtain ⟨b, o, rfl, hc⟩ := H4.out (by intro e; subst e; simp at hlt)
      have hck := hc k hlt
      clear hc
      have hst := getS_step l k acc hlt
      obtain ⟨c, Hc⟩ : ∃ c, c = l[k] := ⟨_, rfl⟩
      have hc256 : c.toNat < 256 := c.toNat_lt
      rw [← Hc] at hck hst
      have Hst := Go.Lib.hid hst; clear hst
      have HC := Go.Lib.hid Hc; clear Hc
      by_cases hb9 : k = 9 ∧ 1 < c.toNat
      · have h9 : ((k : Int) == 9) = true := by simp; omega
        have hc1 : (1 : Int) < (c.toNat : Int) := by omega
        have Hb9 := Go.Lib.hid hb9; clear hb9
        go_wp2
        go_ret3
        exact ⟨ret_gv (r := (0, 0, 1)) rfl (by rw [hg.out, Hst.out, if_pos Hb9.out]), rfl⟩
      · obtain ⟨A, HA⟩ : ∃ A, A = acc + c.toNat % 128 * 128 ^ k := ⟨_, rfl⟩
        have hu0 := gather acc c.toNat k hk9 hc256 hpow.out (by intro h; omega)
        rw [← HA] at hu0
        obtain ⟨hu, hA⟩ := hu0
        have hnx := gather_next acc c.toNat k hpow.out
        rw [← HA] at hnx
        have Hnx := Go.Lib.hid hnx; clear hnx
        have HA' := Go.Lib.hid HA; clear HA
        have Hb9 := Go.Lib.hid hb9
        have hq9 : ¬ ((k : Int) = 9 ∧ (1 : Int) < (c.toNat : Int)) := by omega
        clear hb9
        by_cases h128 : 128 ≤ c.toNat
        · have hk9' : k < 9 := by omega
          have h9 : ((k : Int) == 9) = false := by simp; omega
          go_wp2
          go_round
          case rel => exact ⟨k + 1, A, by omega, by omega, by go_num, rfl, hA, Hnx, by rw [Hid, hg.out, Hst.out, if_neg Hb9.out, if_pos h128, HA'.out]⟩
          case measure => simp [intOf]; omega
        · by_cases h0 : c.toNat = 0 ∧ 0 < k
          · have H0 := Go.Lib.hid h0
            have hc0 : ((c.toNat : Int) == 0) = true := by simp; omega
            have hkp : 0 < k := h0.2
            have hc1 : ¬ (1 : Int) < (c.toNat : Int) := by omega
            have hd : decide ((1 : Int) < (c.toNat : Int)) = false := by simp; omega
            clear h0
            by_cases h9 : ((k : Int) == 9) = true
            all_goals
              go_wp2
              go_ret3
              exact ⟨ret_gv (r := (0, 0, 1)) rfl (by rw [hg.out, Hst.out, if_neg Hb9.out, if_neg h128, if_pos H0.out]), rfl⟩
          · have H0 := Go.Lib.hid h0
            have hfin : getB l = (unzig A, k + 1, 0) := by
              rw [hg.out, Hst.out, if_neg Hb9.out, if_neg h128, if_neg h0, HA'.out, Nat.mod_eq_of_lt (by omega)]
            have Hfin := Go.Lib.hid hfin
            clear h0 hfin
            by_cases hk9' : k = 9
            · have h9 : ((k : Int) == 9) = true := by simp; omega
              have hd : decide ((1 : Int) < (c.toNat : Int)) = false := by simp; omega
              have hc0 : ((c.toNat : Int) == 0) = false := by have := H0.out; simp; omega
              have Hk9 := Go.Lib.hid hk9'; clear hk9'
              go_wp2_with (go_at_call 154; refine (signed_c A _ hA).mono ?_; rintro e w1 ⟨rfl, rfl⟩)
              go_ret3
              exact ⟨ret_gv (r := (unzig A, k + 1, 0)) rfl Hfin.out.symm, rfl⟩
            · have h9 : ((k : Int) == 9) = false := by simp; omega
              by_cases hc0 : ((c.toNat : Int) == 0) = true
              · have hkp : ¬ (0 : Int) < (k : Int) := by have := H0.out; simp at hc0; omega
                have hd : decide ((0 : Int) < (k : Int)) = false := by simp; omega
                go_wp2_with (go_at_call 154; refine (signed_c A _ hA).mono ?_; rintro e w1 ⟨rfl, rfl⟩)
                go_ret3
                exact ⟨ret_gv (r := (unzig A, k + 1, 0)) rfl Hfin.out.symm, rfl⟩
              · have hc0' : ((c.toNat : Int) == 0) = false := by simpa using hc0
                clear hc0
                go_wp2_with (go_at_call 154; refine (signed_c A _ hA).mono ?_; rintro e w1 ⟨rfl, rfl⟩)
                go_ret3
                exact ⟨ret_gv (r := (unzig A, k + 1, 0)) rfl Hfin.out.symm, rfl⟩
    · go_wp2
      go_ret3
      exact ⟨ret_gv (r := (0, 0, 2)) rfl (by rw [hg.out, List.drop_of_length_le (by omega), getS]), rfl⟩

end Go.Proofs.YthbnecdeebmlhaaGreat

namespace Go.Proofs.YthbnecdeebmlhaaGreat
open Go.RowKit
open Go.Lib (uvarint zigzag)

/-- What GetText answers, as values. -/
def tv (r : List UInt8 × Nat × Int) : Value := .tuple #[.string (str r.1), .int .i64 (r.2.1 : Int), .int .i64 r.2.2]

theorem ret_tv {e : Ending} {r s : List UInt8 × Nat × Int} (he : e = .returned (tv r)) (h : r = s) : e = .returned (tv s) := by rw [he, h]

theorem getText_c (v : Value) (l : List UInt8) (w : World) (hv : RB w v l) :
    Calls Tryz.prog 117 #[v] w fun e w' => e = .returned (tv (textB l)) ∧ w = w' := by
  have hrb := hv
  obtain ⟨a, cap, rfl, h1, h2, h3, h4⟩ := hv
  have hm : l.length ≤ 9223372036854775807 := by unfold maxLen at h2; omega
  clear h4 h3
  have hget := get_c (.slice a l.length cap) l w hrb
  have hfit := getB_fits l
  have htx : textB l = textB l := rfl
  conv at htx => rhs; unfold textB
  rcases hr : getB l with ⟨n, k, er⟩
  rw [hr] at hget hfit htx
  simp only [] at hfit htx
  obtain ⟨f1, f2, f3, f4, f5, f6⟩ := hfit
  have Hget := Go.Lib.hid hget; clear hget
  have Hr := Go.Lib.hid hr; clear hr
  have Htx := Go.Lib.hid htx; clear htx
  by_cases her : er = 0
  · subst her
    by_cases hn : n < 0 ∨ 65536 < n
    · have htx := Htx.out
      rw [if_neg (by simp), if_pos hn] at htx
      have Ht := Go.Lib.hid htx; clear htx
      by_cases hn0 : n < 0
      all_goals
        go_enter Tryz.func117, Tryz.ntmps117
        go_wp2_with (go_at_call 134; refine Hget.out.mono ?_; rintro e w1 ⟨rfl, rfl⟩; unfold gv)
        go_ret3
        exact ⟨ret_tv (r := ([], 0, 1)) rfl Ht.out.symm, rfl⟩
    · by_cases hlen : l.length < k + n.toNat
      · have htx := Htx.out
        rw [if_neg (by simp), if_neg hn, if_pos hlen] at htx
        have Ht := Go.Lib.hid htx; clear htx
        go_enter Tryz.func117, Tryz.ntmps117
        go_wp2_with (go_at_call 134; refine Hget.out.mono ?_; rintro e w1 ⟨rfl, rfl⟩; unfold gv)
        go_ret3
        exact ⟨ret_tv (r := ([], 0, 2)) rfl Ht.out.symm, rfl⟩
      · obtain ⟨m, rfl⟩ : ∃ m : Nat, n = (m : Int) := ⟨n.toNat, by omega⟩
        have htx := Htx.out
        rw [if_neg (by simp), if_neg hn, if_neg hlen, Int.toNat_natCast] at htx
        have ht2 : textB l = ((l.take (k + m)).drop k, k + m, 0) := by rw [htx, List.drop_take, show k + m - k = m from by omega]
        have Ht := Go.Lib.hid ht2; clear htx ht2
        rw [Int.toNat_natCast] at hlen
        go_enter Tryz.func117, Tryz.ntmps117
        go_wp2_with (first
          | (go_at_call 134; refine Hget.out.mono ?_; rintro e w1 ⟨rfl, rfl⟩; unfold gv)
          | (with_reducible show wpList _ _ _ (⟨some 34, _, _, _, _, _⟩ :: _) _ _; go_loud (refine wpList_slice_lh rfl (.tmp 31) (.tmp 32) (.tmp 33) 47 rfl 5 Tryz.underlying47 info8 (.slice a l.length cap) l .i64 .i64 _ _ k (k + m) rfl rfl rfl rfl (by omega) hrb (by omega) (by omega) ?_); intro v2 hv2)
          | (with_reducible show wpList _ _ _ (⟨some 35, _, _, _, _, _⟩ :: _) _ _; go_loud (refine wpList_string_RB rfl (.tmp 34) 47 9 rfl 5 Tryz.underlying47 Tryz.underlying5 Tryz.underlying9 v2 _ rfl hv2 ?_)))
        go_ret3
        exact ⟨ret_tv (r := ((l.take (k + m)).drop k, k + m, 0)) rfl Ht.out.symm, rfl⟩
  · have htx := Htx.out
    rw [if_pos her] at htx
    have Ht := Go.Lib.hid htx; clear htx
    go_enter Tryz.func117, Tryz.ntmps117
    go_wp2_with (go_at_call 134; refine Hget.out.mono ?_; rintro e w1 ⟨rfl, rfl⟩; unfold gv)
    go_ret3
    exact ⟨ret_tv (r := ([], 0, er)) rfl Ht.out.symm, rfl⟩

end Go.Proofs.YthbnecdeebmlhaaGreat

namespace Go.Proofs.YthbnecdeebmlhaaGreat
open Go.RowKit
open Go.Lib (uvarint zigzag)

/-- A value's bytes. -/
def putV (k n : Int) (s : List UInt8) : List UInt8 := uvarint (zigzag k) ++ (if k = 1 then uvarint (zigzag n) else putT s)

/-- What stands at the beginning of bytes. -/
def valB (l : List UInt8) : (Int × Int × List UInt8) × Nat × Int :=
  if (getB l).2.2 = 0 then
    if (getB l).1 = 1 then
      if (getB (l.drop (getB l).2.1)).2.2 = 0 then ((1, (getB (l.drop (getB l).2.1)).1, []), (getB l).2.1 + (getB (l.drop (getB l).2.1)).2.1, 0)
      else ((0, 0, []), 0, (getB (l.drop (getB l).2.1)).2.2)
    else if (getB l).1 = 2 then
      if (textB (l.drop (getB l).2.1)).2.2 = 0 then
        if mayR 2 0 (str (textB (l.drop (getB l).2.1)).1) then ((2, 0, (textB (l.drop (getB l).2.1)).1), (getB l).2.1 + (textB (l.drop (getB l).2.1)).2.1, 0)
        else ((0, 0, []), 0, 1)
      else ((0, 0, []), 0, (textB (l.drop (getB l).2.1)).2.2)
    else ((0, 0, []), 0, 1)
  else ((0, 0, []), 0, (getB l).2.2)

theorem mayR_cases {k n : Int} {s : List UInt8} (h : mayR k n (str s) = true) : (k = 1 ∧ s = []) ∨ (k = 2 ∧ n = 0 ∧ s.length ≤ 24) := by
  unfold mayR at h
  split at h
  · rename_i hk
    rw [ByteArray.toList_eq, List.isEmpty_iff] at h
    exact .inl ⟨hk, by simpa [str] using h⟩
  · split at h
    · rename_i hk
      rw [Bool.and_eq_true, Bool.and_eq_true, beq_iff_eq, decide_eq_true_eq, str_size] at h
      exact .inr ⟨hk, h.1.1, h.1.2⟩
    · cases h

theorem valB_put (k n : Int) (s r : List UInt8) (h : mayR k n (str s) = true) (h0 : -9223372036854775808 ≤ n) (h1 : n ≤ 9223372036854775807) : valB (putV k n s ++ r) = ((k, n, s), (putV k n s).length, 0) := by
  rcases mayR_cases h with ⟨rfl, rfl⟩ | ⟨rfl, rfl, hs⟩
  · have e1 : putV 1 n [] = uvarint (zigzag 1) ++ uvarint (zigzag n) := by simp [putV]
    have g1 := getB_put 1 (by omega) (by omega) (uvarint (zigzag n) ++ r)
    have g2 := getB_put n h0 h1 r
    rw [e1, List.append_assoc]
    unfold valB
    rw [g1]
    simp only [if_true, List.drop_left]
    rw [g2]
    simp
  · have e1 : putV 2 0 s = uvarint (zigzag 2) ++ putT s := by simp [putV]
    have g1 := getB_put 2 (by omega) (by omega) (putT s ++ r)
    have g2 := textB_put s r (by omega)
    rw [e1, List.append_assoc]
    unfold valB
    rw [g1]
    simp only [if_true, List.drop_left, show ¬ ((2 : Int) = 1) from by omega, if_false]
    rw [g2]
    simp [h]

/-- A raw value in a box of its own stands while what was made later changes. -/
theorem box_cells (w : World) (k n : Int) (s : ByteArray) (e : TypeId) (w' : World) (hb : Below (w.alloc (.cells #[.int .i64 k, .int .i64 n, .string s] e)).heap.size (w.alloc (.cells #[.int .i64 k, .int .i64 n, .string s] e)) w') :
    w'.cell? ⟨w.heap.size, 0, none⟩ = some (.int .i64 k) ∧ w'.cell? ⟨w.heap.size, 1, none⟩ = some (.int .i64 n) ∧ w'.cell? ⟨w.heap.size, 2, none⟩ = some (.string s) := by
  have hg := heap_alloc_new w (.cells #[.int .i64 k, .int .i64 n, .string s] e)
  have hlt : w.heap.size < (w.alloc (.cells #[.int .i64 k, .int .i64 n, .string s] e)).heap.size := (Array.getElem?_eq_some_iff.1 hg).1
  have c (i : Nat) := cell_of_row _ w.heap.size i #[.int .i64 k, .int .i64 n, .string s] e (0, 0) hg
  exact ⟨(hb.cell hlt).trans (c 0), (hb.cell hlt).trans (c 1), (hb.cell hlt).trans (c 2)⟩

def vv (r : (Int × Int × List UInt8) × Nat × Int) : Value := .tuple #[rawV r.1.1 r.1.2.1 (str r.1.2.2), .int .i64 (r.2.1 : Int), .int .i64 r.2.2]
theorem valB_err (l : List UInt8) (k e : Int) (p : Nat) (h : getB l = (k, p, e)) (he : e ≠ 0) : valB l = ((0, 0, []), 0, e) := by
  unfold valB
  rw [h]
  simp [he]
theorem valB_num (l : List UInt8) (p m : Nat) (n e : Int) (h : getB l = (1, p, 0)) (g : getB (l.drop p) = (n, m, e)) : valB l = if e = 0 then ((1, n, []), p + m, 0) else ((0, 0, []), 0, e) := by
  unfold valB
  rw [h]
  simp only [if_true]
  rw [g]
theorem valB_text (l s : List UInt8) (p m : Nat) (e : Int) (h : getB l = (2, p, 0)) (g : textB (l.drop p) = (s, m, e)) : valB l = if e = 0 then (if mayR 2 0 (str s) then ((2, 0, s), p + m, 0) else ((0, 0, []), 0, 1)) else ((0, 0, []), 0, e) := by
  unfold valB
  rw [h]
  simp only [if_true, show ¬ ((2 : Int) = 1) from by omega, if_false]
  rw [g]
theorem valB_else (l : List UInt8) (k : Int) (p : Nat) (h : getB l = (k, p, 0)) (h1 : k ≠ 1) (h2 : k ≠ 2) : valB l = ((0, 0, []), 0, 1) := by
  unfold valB
  rw [h]
  simp [h1, h2]

theorem raw_cells_one (k n : Int) (s : ByteArray) : (#[.int .i64 k, .int .i64 n, .string s] : Array Value).all (fun x => x.oneCell') = true := by simp [Value.oneCell']
theorem setRow_below {w0 w : World} {g : Nat} (cs : Array Value) (h : Below w0.heap.size w0 w) (hg : w0.heap.size ≤ g) : Below w0.heap.size w0 (w.setRow g cs) := h.trans ⟨rfl, rfl, rfl, by simp, fun k hk => setRow_other _ _ _ _ (by omega)⟩

theorem two_first (w : World) (o1 o2 : Obj) : ((w.alloc o1).alloc o2).heap[w.heap.size]? = some o1 := by
  have h := heap_alloc_new w o1
  rw [_root_.Go.heap_alloc_old (w.alloc o1) o2 (Array.getElem?_eq_some_iff.1 h).1]
  exact h

theorem textB_small {l s : List UInt8} {m : Nat} {e : Int} (h : textB l = (s, m, e)) (he : e = 0) : s.length ≤ 65536 ∧ m ≤ 70000 := by
  have hf := getB_fits l
  unfold textB at h
  split at h
  · simp only [Prod.mk.injEq] at h
    have := h.1
    have := h.2.1
    subst s
    subst m
    simp
  · split at h
    · simp only [Prod.mk.injEq] at h
      omega
    · split at h
      · simp only [Prod.mk.injEq] at h
        omega
      · simp only [Prod.mk.injEq] at h
        obtain ⟨h1, h2, -⟩ := h
        subst h1
        rw [List.length_take]
        omega

end Go.Proofs.YthbnecdeebmlhaaGreat

namespace Go.Proofs.YthbnecdeebmlhaaGreat
open Go.RowKit
open Go.Lib (uvarint zigzag)

/-- What may be a record. -/
def mayRec (key : ByteArray) (gone : Bool) (k n : Int) (s : ByteArray) : Bool := mayK key && (if gone then k == 0 && n == 0 && s.toList.isEmpty else mayR k n s)
/-- The same Key, Gone, Val. -/
def eqRec (key1 : ByteArray) (gone1 : Bool) (k1 n1 : Int) (s1 key2 : ByteArray) (gone2 : Bool) (k2 n2 : Int) (s2 : ByteArray) : Bool := key1.toList == key2.toList && gone1 == gone2 && eqR k1 n1 s1 k2 n2 s2
/-- A record's bytes. -/
def recB (key : List UInt8) (gone : Bool) (k n : Int) (s : List UInt8) : List UInt8 := putT key ++ (if gone then uvarint (zigzag 0) else putV k n s)

def recO (key : ByteArray) (gone : Bool) (k n : Int) (s : ByteArray) : Obj := .cells #[.string key, .bool gone, .int .i64 k, .int .i64 n, .string s] 28

set_option maxRecDepth 100000 in
theorem rmayrec_c (key : ByteArray) (gone : Bool) (k n : Int) (s : ByteArray) (w : World) (hk : key.size ≤ maxLen) (hm : s.size ≤ maxLen) :
    Calls Tryz.prog 37 #[recV key gone k n s] w fun e w' => e = .returned (.bool (mayRec key gone k n s)) ∧ Below w.heap.size w w' := by
  unfold recV
  have C1 := Go.Lib.hid fun W => rmay_c key W hk
  have C2 := Go.Lib.hid fun W => mayval_c k n s W hm
  clear hk hm
  cases h1 : mayK key with
  | false =>
    have hv := Go.Lib.hid (show mayRec key gone k n s = false from by unfold mayRec; rw [h1]; rfl)
    rw [h1] at C1
    clear h1
    go_enter Tryz.func37, Tryz.ntmps37
    go_wp2_with fail
    refine (C1.out _).mono ?_
    rintro e w1 ⟨rfl, rfl⟩
    go_wp2_with fail
    go_ret
    exact ⟨ret_of (congrArg Value.bool hv.out.symm), below_one _ _⟩
  | true =>
    have hv := Go.Lib.hid (show mayRec key gone k n s = (if gone then k == 0 && n == 0 && s.toList.isEmpty else mayR k n s) from by unfold mayRec; rw [h1]; rfl)
    rw [h1] at C1
    clear h1
    cases gone with
    | false =>
      have hv := Go.Lib.hid (hv.out.trans (if_neg (by decide)))
      go_enter Tryz.func37, Tryz.ntmps37
      go_wp2_with fail
      refine (C1.out _).mono ?_
      rintro e w1 ⟨rfl, rfl⟩
      go_wp2_with fail
      refine (C2.out _).mono ?_
      rintro e w2 ⟨rfl, hb2⟩
      have hbb := (below_one w _).trans (hb2.mono (below_one w _).size)
      go_wp2_with fail
      go_ret
      exact ⟨ret_of (congrArg Value.bool hv.out.symm), hbb⟩
    | true =>
      have hv := Go.Lib.hid (hv.out.trans (if_pos rfl))
      clear C2
      by_cases hk : k = 0
      · by_cases hn : n = 0
        · have he : Hid (mayRec key true k n s = s.toList.isEmpty) := by
            unfold Hid
            rw [hv.out, hk, hn]
            cases s.toList <;> rfl
          clear hv
          go_enter Tryz.func37, Tryz.ntmps37
          go_wp2_with fail
          refine (C1.out _).mono ?_
          rintro e w1 ⟨rfl, rfl⟩
          go_wp2_with fail
          go_ret
          exact ⟨ret_of (congrArg Value.bool (by first | exact he.out.symm | (subst hk; subst hn; exact he.out.symm))), below_one _ _⟩
        · have he : Hid (mayRec key true k n s = false) := by unfold Hid; rw [hv.out]; simp [hn]
          have hnb : (n == 0) = false := by simp [hn]
          clear hv
          go_enter Tryz.func37, Tryz.ntmps37
          go_wp2_with fail
          refine (C1.out _).mono ?_
          rintro e w1 ⟨rfl, rfl⟩
          go_wp2_with fail
          go_ret
          exact ⟨ret_of (congrArg Value.bool (by first | exact he.out.symm | (subst hk; exact he.out.symm))), below_one _ _⟩
      · have he : Hid (mayRec key true k n s = false) := by unfold Hid; rw [hv.out]; simp [hk]
        have hkb : (k == 0) = false := by simp [hk]
        clear hv
        go_enter Tryz.func37, Tryz.ntmps37
        go_wp2_with fail
        refine (C1.out _).mono ?_
        rintro e w1 ⟨rfl, rfl⟩
        go_wp2_with fail
        go_ret
        exact ⟨ret_of (congrArg Value.bool he.out.symm), below_one _ _⟩

set_option maxRecDepth 100000 in
theorem reqrec_c (key1 : ByteArray) (gone1 : Bool) (k1 n1 : Int) (s1 key2 : ByteArray) (gone2 : Bool) (k2 n2 : Int) (s2 : ByteArray) (w : World) :
    Calls Tryz.prog 30 #[recV key1 gone1 k1 n1 s1, recV key2 gone2 k2 n2 s2] w fun e w' => e = .returned (.bool (eqRec key1 gone1 k1 n1 s1 key2 gone2 k2 n2 s2)) ∧ Below w.heap.size w w' := by
  unfold recV
  have C := Go.Lib.hid fun W => eqval_c k1 n1 s1 k2 n2 s2 W
  unfold rawV at C
  by_cases h1 : key1 = key2
  · by_cases h2 : gone1 = gone2
    · have he : Hid (eqRec key1 gone1 k1 n1 s1 key2 gone2 k2 n2 s2 = eqR k1 n1 s1 k2 n2 s2) := by unfold Hid eqRec; simp [h1, h2]
      subst h1 h2
      go_enter Tryz.func30, Tryz.ntmps30
      go_wp2_with fail
      refine (C.out _).mono ?_
      rintro e w2 ⟨rfl, hb2⟩
      have hbb := (below_two w _ _).trans (hb2.mono (below_two w _ _).size)
      go_wp2_with fail
      go_ret
      exact ⟨ret_of (congrArg Value.bool he.out.symm), hbb⟩
    · have he : Hid (eqRec key1 gone1 k1 n1 s1 key2 gone2 k2 n2 s2 = false) := by unfold Hid eqRec; simp [h2]
      have hgb : (gone1 == gone2) = false := by simp [h2]
      subst h1
      go_enter Tryz.func30, Tryz.ntmps30
      go_wp2_with fail
      go_ret
      exact ⟨ret_of (congrArg Value.bool he.out.symm), below_two _ _ _⟩
  · have hkb : (key1.toList == key2.toList) = false := by
      rw [ByteArray.toList_eq, ByteArray.toList_eq]
      simp only [beq_eq_false_iff_ne, ne_eq]
      exact fun h => h1 (ByteArray.ext (Array.toList_inj.1 h))
    have he : Hid (eqRec key1 gone1 k1 n1 s1 key2 gone2 k2 n2 s2 = false) := by unfold Hid eqRec; rw [hkb]; rfl
    clear h1
    go_enter Tryz.func30, Tryz.ntmps30
    go_wp2_with fail
    go_ret
    exact ⟨ret_of (congrArg Value.bool he.out.symm), below_two _ _ _⟩

/-- The five cells of a record in a box of its own, whatever was made later. -/
theorem rec_box {w w' : World} (key : ByteArray) (gone : Bool) (k n : Int) (s : ByteArray) (hb : Below (w.alloc (recO key gone k n s)).heap.size (w.alloc (recO key gone k n s)) w') :
    w'.heap[w.heap.size]? = some (recO key gone k n s) ∧ w'.cell? ⟨w.heap.size, 0, none⟩ = some (.string key) ∧ w'.cell? ⟨w.heap.size, 1, none⟩ = some (.bool gone) ∧ w'.cell? ⟨w.heap.size, 2, none⟩ = some (.int .i64 k) ∧ w'.cell? ⟨w.heap.size, 3, none⟩ = some (.int .i64 n) ∧ w'.cell? ⟨w.heap.size, 4, none⟩ = some (.string s) := by
  have hg := heap_alloc_new w (recO key gone k n s)
  have hlt : w.heap.size < (w.alloc (recO key gone k n s)).heap.size := (Array.getElem?_eq_some_iff.1 hg).1
  have hh := (hb.block _ hlt).trans hg
  unfold recO at *
  have c (i : Nat) := cell_of_row w' w.heap.size i _ _ _ hh
  exact ⟨hh, c 0, c 1, c 2, c 3, c 4⟩

end Go.Proofs.YthbnecdeebmlhaaGreat

namespace Go.Proofs.YthbnecdeebmlhaaGreat

section
variable {R K : Type} [DecidableEq K] (key : R → K) (lt : K → K → Bool)

/-- The order of keys. -/
structure Ordered : Prop where
  irr : ∀ a, lt a a = false
  trans : ∀ a b c, lt a b = true → lt b c = true → lt a c = true
  tri : ∀ a b, lt a b = true ∨ a = b ∨ lt b a = true

def Rising (l : List R) : Prop := l.Pairwise fun a b => lt (key a) (key b) = true
def findK (l : List R) (k : K) : Option R := l.find? fun x => decide (key x = k)
/-- One record more: the walk of the reference. -/
def setGo (r : R) : List R → Bool → List R
  | [], done => if done then [] else [r]
  | x :: t, done => (if !done && !(lt (key x) (key r)) then [r] else []) ++ ((if key x = key r then [] else [x]) ++ setGo r t (done || (!done && !(lt (key x) (key r)))))
def newestK (l : List R) : List R := l.foldl (fun a r => setGo key lt r a false) []

variable {key lt}
theorem setGo_done (r : R) : ∀ l : List R, (∀ x ∈ l, key x ≠ key r) → setGo key lt r l true = l := by
  intro l
  induction l with
  | nil => intro _; rfl
  | cons x t ih =>
    intro h
    have hx := h x (List.mem_cons_self ..)
    simp [setGo, hx, ih fun y hy => h y (List.mem_cons_of_mem _ hy)]

/-- Of a row that rises: what lies below, the record, what lies above. -/
theorem setGo_mem (O : Ordered lt) (r : R) : ∀ l : List R, Rising key lt l → ∀ y, y ∈ setGo key lt r l false → y = r ∨ (y ∈ l ∧ key y ≠ key r) := by
  intro l
  induction l with
  | nil => intro _ y hy; simp [setGo] at hy; exact .inl hy
  | cons x t ih =>
    intro hl y hy
    have ht : Rising key lt t := (List.pairwise_cons.1 hl).2
    have hxt := (List.pairwise_cons.1 hl).1
    cases hb : lt (key x) (key r) with
    | true =>
      have hne : key x ≠ key r := fun e => by rw [e, O.irr] at hb; cases hb
      simp [setGo, hb, hne] at hy
      rcases hy with rfl | hy
      · exact .inr ⟨List.mem_cons_self .., hne⟩
      · rcases ih ht y hy with h | h
        · exact .inl h
        · exact .inr ⟨List.mem_cons_of_mem _ h.1, h.2⟩
    | false =>
      have hd : ∀ z ∈ t, key z ≠ key r := by
        intro z hz e
        have := hxt z hz
        rw [e, hb] at this
        cases this
      have e := setGo_done (lt := lt) r t hd
      by_cases hk : key x = key r
      · simp [setGo, hk, O.irr, e] at hy
        rcases hy with h | h
        · exact .inl h
        · exact .inr ⟨List.mem_cons_of_mem _ h, hd y h⟩
      · simp [setGo, hb, hk, e] at hy
        rcases hy with h | h | h
        · exact .inl h
        · subst h; exact .inr ⟨List.mem_cons_self .., hk⟩
        · exact .inr ⟨List.mem_cons_of_mem _ h, hd y h⟩

theorem setGo_rising (O : Ordered lt) (r : R) : ∀ l : List R, Rising key lt l → Rising key lt (setGo key lt r l false) := by
  intro l
  induction l with
  | nil => intro _; simp [setGo, Rising]
  | cons x t ih =>
    intro hl
    have ht : Rising key lt t := (List.pairwise_cons.1 hl).2
    have hxt := (List.pairwise_cons.1 hl).1
    cases hb : lt (key x) (key r) with
    | true =>
      have hne : key x ≠ key r := fun e => by rw [e, O.irr] at hb; cases hb
      have e : setGo key lt r (x :: t) false = x :: setGo key lt r t false := by simp [setGo, hb, hne]
      rw [e]
      refine List.pairwise_cons.2 ⟨fun y hy => ?_, ih ht⟩
      rcases setGo_mem O r t ht y hy with rfl | h
      · exact hb
      · exact hxt y h.1
    | false =>
      have hd : ∀ z ∈ t, key z ≠ key r := by
        intro z hz e
        have := hxt z hz
        rw [e, hb] at this
        cases this
      have e := setGo_done (lt := lt) r t hd
      by_cases hk : key x = key r
      · have e2 : setGo key lt r (x :: t) false = r :: t := by simp [setGo, hk, O.irr, e]
        rw [e2]
        exact List.pairwise_cons.2 ⟨fun y hy => by rw [← hk]; exact hxt y hy, ht⟩
      · have e2 : setGo key lt r (x :: t) false = r :: x :: t := by simp [setGo, hb, hk, e]
        rw [e2]
        have hrx : lt (key r) (key x) = true := by
          rcases O.tri (key x) (key r) with h | h | h
          · rw [h] at hb; cases hb
          · exact absurd h hk
          · exact h
        refine List.pairwise_cons.2 ⟨fun y hy => ?_, hl⟩
        rcases List.mem_cons.1 hy with rfl | h
        · exact hrx
        · exact O.trans _ _ _ hrx (hxt y h)

theorem setGo_find (O : Ordered lt) (r : R) (k : K) : ∀ l : List R, Rising key lt l → findK key (setGo key lt r l false) k = if key r = k then some r else findK key l k := by
  intro l
  induction l with
  | nil => intro _; by_cases h : key r = k <;> simp [setGo, findK, h]
  | cons x t ih =>
    intro hl
    have ht : Rising key lt t := (List.pairwise_cons.1 hl).2
    have hxt := (List.pairwise_cons.1 hl).1
    cases hb : lt (key x) (key r) with
    | true =>
      have hne : key x ≠ key r := fun e => by rw [e, O.irr] at hb; cases hb
      have e : setGo key lt r (x :: t) false = x :: setGo key lt r t false := by simp [setGo, hb, hne]
      rw [e]
      have := ih ht
      unfold findK at this ⊢
      rw [List.find?_cons, List.find?_cons]
      by_cases hx : key x = k
      · have hr : ¬ key r = k := fun h => hne (hx.trans h.symm)
        simp [hx, hr]
      · simp [hx, this]
    | false =>
      have hd : ∀ z ∈ t, key z ≠ key r := by
        intro z hz e
        have := hxt z hz
        rw [e, hb] at this
        cases this
      have e := setGo_done (lt := lt) r t hd
      by_cases hk : key x = key r
      · have e2 : setGo key lt r (x :: t) false = r :: t := by simp [setGo, hk, O.irr, e]
        rw [e2]
        unfold findK
        rw [List.find?_cons, List.find?_cons]
        by_cases hr : key r = k
        · simp [hr]
        · simp [hr, hk]
      · have e2 : setGo key lt r (x :: t) false = r :: x :: t := by simp [setGo, hb, hk, e]
        rw [e2]
        unfold findK
        rw [List.find?_cons]
        by_cases hr : key r = k <;> simp [hr]

theorem rising_ext (O : Ordered lt) : ∀ l m : List R, Rising key lt l → Rising key lt m → (∀ k, findK key l k = findK key m k) → l = m := by
  have hnone : ∀ l : List R, (∀ k, findK key l k = none) → l = [] := by
    intro l h
    cases l with
    | nil => rfl
    | cons x t => have := h (key x); simp [findK] at this
  have habove : ∀ (x : R) (t : List R) (k : K), (∀ a ∈ t, lt (key x) (key a) = true) → lt k (key x) = true ∨ k = key x → findK key t k = none := by
    intro x t k h hk
    unfold findK
    rw [List.find?_eq_none]
    intro a ha
    simp only [decide_eq_true_eq]
    intro e
    have h1 := h a ha
    rw [e] at h1
    rcases hk with h2 | h2
    · have := O.trans _ _ _ h2 h1
      rw [O.irr] at this; cases this
    · rw [h2, O.irr] at h1; cases h1
  intro l
  induction l with
  | nil => intro m _ _ h; exact (hnone m fun k => (h k).symm).symm
  | cons x t ih =>
    intro m hl hm h
    cases m with
    | nil => have := h (key x); simp [findK] at this
    | cons y u =>
      have hxt := (List.pairwise_cons.1 hl).1
      have hyu := (List.pairwise_cons.1 hm).1
      have hx := h (key x)
      have hy := h (key y)
      have hkk : key x = key y := by
        rcases O.tri (key x) (key y) with g | g | g
        · have hne : key y ≠ key x := fun e => by rw [e, O.irr] at g; cases g
          have := habove y u (key x) hyu (.inl g)
          unfold findK at hx this
          rw [List.find?_cons, List.find?_cons, this] at hx
          simp [hne] at hx
        · exact g
        · have hne : key x ≠ key y := fun e => by rw [e, O.irr] at g; cases g
          have := habove x t (key y) hxt (.inl g)
          unfold findK at hy this
          rw [List.find?_cons, List.find?_cons, this] at hy
          simp [hne] at hy
      have hxy : x = y := by
        unfold findK at hx
        rw [List.find?_cons, List.find?_cons] at hx
        simpa [hkk] using hx
      subst hxy
      refine congrArg (x :: ·) (ih u (List.pairwise_cons.1 hl).2 (List.pairwise_cons.1 hm).2 fun k => ?_)
      by_cases hk : key x = k
      · subst hk
        rw [habove x t _ hxt (.inr rfl), habove x u _ hyu (.inr rfl)]
      · have := h k
        unfold findK at this ⊢
        rw [List.find?_cons, List.find?_cons] at this
        simpa [hk] using this

theorem newestK_rising (O : Ordered lt) (l : List R) : Rising key lt (newestK key lt l) := by
  have : ∀ (l a : List R), Rising key lt a → Rising key lt (l.foldl (fun a r => setGo key lt r a false) a) := by
    intro l
    induction l with
    | nil => intro a h; exact h
    | cons r l ih => intro a h; exact ih _ (setGo_rising O r a h)
  exact this l [] List.Pairwise.nil
theorem newestK_find (O : Ordered lt) (l : List R) (k : K) : findK key (newestK key lt l) k = findK key l.reverse k := by
  have : ∀ (l a : List R), Rising key lt a → findK key (l.foldl (fun a r => setGo key lt r a false) a) k = findK key (l.reverse ++ a) k := by
    intro l
    induction l with
    | nil => intro a _; rfl
    | cons r l ih =>
      intro a h
      rw [List.foldl_cons, ih _ (setGo_rising O r a h), List.reverse_cons, List.append_assoc]
      have := setGo_find O r k a h
      unfold findK at this ⊢
      rw [List.find?_append, List.find?_append, this, List.singleton_append, List.find?_cons]
      by_cases hr : key r = k <;> simp [hr]
  have h := this l [] List.Pairwise.nil
  rw [List.append_nil] at h
  exact h
/-- What rises and has of each key the last one is the reference's answer. -/
theorem newestK_of (O : Ordered lt) (l n : List R) (hn : Rising key lt n) (h : ∀ k, findK key n k = findK key l.reverse k) : n = newestK key lt l :=
  rising_ext O n _ hn (newestK_rising O l) fun k => by rw [h, newestK_find O]
end

end Go.Proofs.YthbnecdeebmlhaaGreat

namespace Go.Proofs.YthbnecdeebmlhaaGreat
open Go.RowKit

def rc5 (x : RecT) : List Value := [.string x.1, .bool x.2.1, .int .i64 x.2.2.1, .int .i64 x.2.2.2.1, .string x.2.2.2.2]
def flat5 (l : List RecT) : List Value := l.flatMap rc5
def recOf (x : RecT) : Value := recV x.1 x.2.1 x.2.2.1 x.2.2.2.1 x.2.2.2.2

theorem rc5_one (x : RecT) : ∀ v ∈ rc5 x, v.oneCell' = true := by
  intro v hv
  simp only [rc5, List.mem_cons, List.not_mem_nil, or_false] at hv
  rcases hv with rfl | rfl | rfl | rfl | rfl <;> rfl

/-- v, a slice of records, reads as l. -/
def RS (w : World) (v : Value) (l : List RecT) : Prop :=
  ∃ a cap, v = .slice a l.length cap ∧ l.length ≤ cap ∧ cap ≤ maxLen ∧ (a = none → cap = 0) ∧
    (l ≠ [] → ∃ b o, a = some ⟨b, o, none⟩ ∧ ∀ i (h : i < l.length), w.cell? ⟨b, o + i * 5, none⟩ = some (.string l[i].1) ∧ w.cell? ⟨b, o + i * 5 + 1, none⟩ = some (.bool l[i].2.1) ∧ w.cell? ⟨b, o + i * 5 + 2, none⟩ = some (.int .i64 l[i].2.2.1) ∧ w.cell? ⟨b, o + i * 5 + 3, none⟩ = some (.int .i64 l[i].2.2.2.1) ∧ w.cell? ⟨b, o + i * 5 + 4, none⟩ = some (.string l[i].2.2.2.2))
theorem RRec.rs {w : World} {v : Value} {l : List RecT} (h : RRec w v l) : RS w v l := by
  obtain ⟨a, cap, hv, h1, h2, h3, -, h5⟩ := h
  exact ⟨a, cap, hv, h1, h2, h3, h5⟩
theorem RRec.ok {w : World} {v : Value} {l : List RecT} (h : RRec w v l) : ∀ x ∈ l, RecOk x := by
  obtain ⟨a, cap, hv, h1, h2, h3, h4, h5⟩ := h
  exact h4
theorem RS.form {w : World} {v : Value} {l : List RecT} (h : RS w v l) : ∃ a cap, v = .slice a l.length cap ∧ l.length ≤ 9223372036854775807 := by
  obtain ⟨a, cap, hv, h1, h2, -⟩ := h
  exact ⟨a, cap, hv, by unfold maxLen at h2; omega⟩
theorem RS.at {w : World} {a : Option Addr} {n cap : Nat} {l : List RecT} (h : RS w (.slice a n cap) l) (i : Nat) (hi : i < l.length) :
    ∃ b o, a = some ⟨b, o, none⟩ ∧ n = l.length ∧ b < w.heap.size ∧ w.cell? ⟨b, o + i * 5, none⟩ = some (.string l[i].1) ∧ w.cell? ⟨b, o + i * 5 + 1, none⟩ = some (.bool l[i].2.1) ∧ w.cell? ⟨b, o + i * 5 + 2, none⟩ = some (.int .i64 l[i].2.2.1) ∧ w.cell? ⟨b, o + i * 5 + 3, none⟩ = some (.int .i64 l[i].2.2.2.1) ∧ w.cell? ⟨b, o + i * 5 + 4, none⟩ = some (.string l[i].2.2.2.2) := by
  obtain ⟨a', cap', hv, h1, h2, h3, h5⟩ := h
  simp only [Value.slice.injEq] at hv
  obtain ⟨rfl, rfl, rfl⟩ := hv
  obtain ⟨b, o, ha, hc⟩ := h5 (by intro e; subst e; simp at hi)
  obtain ⟨c0, c1, c2, c3, c4⟩ := hc i hi
  exact ⟨b, o, ha, rfl, World.block_lt_of_cell? w _ c0, c0, c1, c2, c3, c4⟩
theorem cell_kept {w w' : World} {p : Addr} {c : Value} (h : w.cell? p = some c) (hb : Below w.heap.size w w') : w'.cell? p = some c :=
  (hb.cell (World.block_lt_of_cell? w _ h)).trans h
theorem RS.below {w w' : World} {v : Value} {l : List RecT} (h : RS w v l) (hb : Below w.heap.size w w') : RS w' v l := by
  obtain ⟨a, cap, hv, h1, h2, h3, h5⟩ := h
  refine ⟨a, cap, hv, h1, h2, h3, fun hl => ?_⟩
  obtain ⟨b, o, ha, hc⟩ := h5 hl
  exact ⟨b, o, ha, fun i hi => ⟨cell_kept (hc i hi).1 hb, cell_kept (hc i hi).2.1 hb, cell_kept (hc i hi).2.2.1 hb, cell_kept (hc i hi).2.2.2.1 hb, cell_kept (hc i hi).2.2.2.2 hb⟩⟩
theorem RS.nil (w : World) : RS w (.slice none 0 0) [] := ⟨none, 0, rfl, Nat.le_refl _, by simp [maxLen], fun _ => rfl, fun h => absurd rfl h⟩

/-- v, a slice that was made from block B on, holds l. -/
def OwnRec (w : World) (B : Nat) (v : Value) (l : List RecT) : Prop := w.ownsRow B 28 5 v l.length (flat5 l)
theorem flat5_at : ∀ (l : List RecT) (i j : Nat) (hi : i < l.length), j < 5 → (flat5 l)[i * 5 + j]? = (rc5 l[i])[j]?
  | [], i, j, hi, _ => absurd hi (by simp)
  | x :: l, 0, j, hi, hj => by
    show (rc5 x ++ flat5 l)[0 * 5 + j]? = (rc5 x)[j]?
    rw [Nat.zero_mul, Nat.zero_add, List.getElem?_append_left (by simpa [rc5] using hj)]
  | x :: l, i + 1, j, hi, hj => by
    show (rc5 x ++ flat5 l)[(i + 1) * 5 + j]? = _
    rw [List.getElem?_append_right (by simp [rc5]; omega), show (i + 1) * 5 + j - (rc5 x).length = i * 5 + j from by simp [rc5]; omega]
    exact flat5_at l i j (by simpa using hi) hj
theorem OwnRec.nil (w : World) (B : Nat) : OwnRec w B (.slice none 0 0) [] := World.ownsRow_nil w B _ 5
theorem OwnRec.below {w w' : World} {B : Nat} {v : Value} {l : List RecT} (h : OwnRec w B v l) (hb : Below w.heap.size w w') : OwnRec w' B v l := by
  refine ⟨h.1, ?_⟩
  rcases h.2 with h' | ⟨g, cap, cur, h1, hB, h2, h3⟩
  · exact .inl h'
  · exact .inr ⟨g, cap, cur, h1, hB, (hb.block g (Array.getElem?_eq_some_iff.1 h2).1).trans h2, h3⟩
theorem OwnRec.mono {w : World} {B B' : Nat} {v : Value} {l : List RecT} (h : OwnRec w B v l) (hB : B' ≤ B) : OwnRec w B' v l := by
  refine ⟨h.1, ?_⟩
  rcases h.2 with h' | ⟨g, cap, cur, h1, hb, h2⟩
  · exact .inl h'
  · exact .inr ⟨g, cap, cur, h1, Nat.le_trans hB hb, h2⟩
theorem OwnRec.row {w : World} {B : Nat} {v : Value} {l : List RecT} (h : OwnRec w B v l) : ∀ k, v.ownBlock = some k → B ≤ k := fun k hk => (World.ownsRow.lt h k hk).1
theorem OwnRec.kept {w w' : World} {B : Nat} {v : Value} {l : List RecT} {row : Option Nat} (h : OwnRec w B v l) (hg : w.grownBy w' row) (hne : v.ownBlock = none ∨ v.ownBlock ≠ row) : OwnRec w' B v l := World.ownsRow.kept h hg hne
theorem OwnRec.rs {w : World} {B : Nat} {v : Value} {l : List RecT} (h : OwnRec w B v l) : RS w v l := by
  have c0 := fun (i j : Nat) (hi : i < l.length) (hj : j < 5) => flat5_at l i j hi hj
  rcases h.2 with ⟨h', hn⟩ | ⟨g, cap, cur, rfl, hB, h2, h3, h4, -⟩
  · obtain rfl : l = [] := List.eq_nil_of_length_eq_zero hn
    rw [h']
    exact RS.nil w
  · refine ⟨_, cap, rfl, h3, h4, (fun h => by cases h), fun hl => ⟨g, 0, rfl, fun i hi => ?_⟩⟩
    have c := fun j (hj : j < 5) => (World.ownsRow.cellAt h (i * 5 + j) (by omega)).trans (flat5_at l i j hi hj)
    simp only [Nat.zero_add]
    exact ⟨c 0 (by omega), c 1 (by omega), c 2 (by omega), c 3 (by omega), c 4 (by omega)⟩

theorem info5 : (Tryz.prog.info? 28).map (fun i => (i.zero, i.size, i.bytes)) = some (some (.agg #[.string ⟨#[]⟩, .bool false, .int .i64 0, .int .i64 0, .string ⟨#[]⟩]), 5, 56) := by kernel_rfl

/-- 'l[j]', in whatever world. -/
theorem run_idx5 (b o n cap j : Nat) (h : j < n) (W : World) : (Instr.indexAt 22 (.slice (some ⟨b, o, none⟩) n cap) (.int .i64 (j : Int))).run Tryz.prog W = .ok (.pointer (some ⟨b, o + j * 5, none⟩)) W := by
  obtain ⟨i, hi, -, hsize, -⟩ := info_parts info5
  have he : Tryz.prog.elem 22 = 28 := by kernel_rfl
  have hs : (sizeOf 28).run Tryz.prog W = .ok 5 W := by simp [sizeOf, typeInfo, hi, hsize]
  have hadd : (⟨b, o, none⟩ : Addr).add (j * 5) = ⟨b, o + j * 5, none⟩ := by unfold Addr.add; split <;> simp_all
  rw [run_indexAt_slice W _ _ _ _ _ _ (by rw [he]; exact Tryz.underlying22), if_pos ⟨by omega, by omega⟩, he, hs]
  simp [Result.andThen, hadd]

/-- 'append(s, l...)', s the call's own. -/
theorem wpList_append_recs {ops : Array Oper} {rest : List Oper} {o : Oper} {a : Act} {w : World} {Q : Exit → Act → World → Prop} (hgd : o.guard = none) (s x : Operand)
    (ho : o.op = .call { callee := .builtin .append, args := #[s, x], argTypes := #[22, 22] })
    (B : Nat) (v xv : Value) (l m : List RecT) (hs : a.eval s = v) (hx : a.eval x = xv) (hown : OwnRec w B v l) (hrb : RS w xv m) (hl : l.length + m.length ≤ 1000000) (hbase : B ≤ w.heap.size)
    (h : ∀ v' w', OwnRec w' B v' (l ++ m) → w.grownBy w' v.ownBlock → wpList Tryz.prog ops Q rest (a.put o.dst v') w') : wpList Tryz.prog ops Q (o :: rest) a w := by
  obtain ⟨i, hi, hz, hsize, hby⟩ := info_parts info5
  have hfl : ∀ l : List RecT, (flat5 l).length = l.length * 5 := by
    intro l
    induction l with
    | nil => rfl
    | cons x l ih =>
      show (rc5 x ++ flat5 l).length = _
      rw [List.length_append, ih, List.length_cons]
      simp [rc5]
      omega
  obtain ⟨ad, cap, rfl, h1, h2, h3, h4⟩ := hrb
  cases ad with
  | none =>
    obtain rfl := h3 rfl
    obtain rfl : m = [] := List.eq_nil_of_length_eq_zero (by omega)
    refine wpList_append_own_none hgd s x _ ho B 28 i 5 Tryz.underlying22 hi v l.length (flat5 l) hs hown hx ?_
    exact h v w (by simpa using hown) (World.grownBy.refl _ _)
  | some ad =>
    refine wpList_append_own w hgd s x _ ho B 28 i _ 5 56 Tryz.underlying22 hi hz hsize hby rfl (by decide) v l.length (flat5 l) hs hown ad m.length cap (flat5 m) hx (by rw [hfl]) ?_ ?_ (by unfold maxLen; omega) (by omega) hbase ?_
    · intro j u hj
      have hjm : j < m.length * 5 := by
        rw [← hfl]
        exact (List.getElem?_eq_some_iff.1 hj).1
      have hi5 : j / 5 < m.length := by omega
      obtain ⟨b, o', hao, hc⟩ := h4 (by intro hm; subst hm; simp at hi5)
      cases hao
      have hadd : (⟨b, o', none⟩ : Addr).add j = ⟨b, o' + j, none⟩ := by unfold Addr.add; split <;> simp_all
      rw [hadd]
      obtain ⟨c0, c1, c2, c3, c4⟩ := hc (j / 5) hi5
      have hr := flat5_at m (j / 5) (j % 5) hi5 (by omega)
      rw [show j / 5 * 5 + j % 5 = j from by omega, hj] at hr
      have h5 : j % 5 < 5 := by omega
      rw [show o' + j = o' + j / 5 * 5 + j % 5 from by omega]
      generalize j % 5 = r at *
      match r, h5 with
      | 0, _ => rw [Nat.add_zero, c0]; exact hr.symm
      | 1, _ => rw [c1]; exact hr.symm
      | 2, _ => rw [c2]; exact hr.symm
      | 3, _ => rw [c3]; exact hr.symm
      | 4, _ => rw [c4]; exact hr.symm
      | r + 5, h5 => omega
    · intro u hu
      obtain ⟨x, -, hx⟩ := List.mem_flatMap.1 hu
      simp only [rc5, List.mem_cons, List.not_mem_nil, or_false] at hx
      rcases hx with rfl | rfl | rfl | rfl | rfl <;> rfl
    · intro v' w' hown' hg _
      refine h v' w' ?_ hg
      unfold OwnRec
      rw [List.length_append]
      unfold flat5 at *
      rw [List.flatMap_append]
      exact hown'

/-- One record in a new block of its own. -/
theorem RS.one (w : World) (x : RecT) : RS (w.alloc (.cells #[.string x.1, .bool x.2.1, .int .i64 x.2.2.1, .int .i64 x.2.2.2.1, .string x.2.2.2.2] 28)) (.slice (some ⟨w.heap.size, 0, none⟩) 1 1) [x] := by
  refine ⟨some ⟨w.heap.size, 0, none⟩, 1, rfl, Nat.le_refl _, by simp [maxLen], (fun h => by cases h), fun _ => ⟨w.heap.size, 0, rfl, fun i hi => ?_⟩⟩
  obtain rfl : i = 0 := by simpa using hi
  have c := fun j => cell_of_row _ w.heap.size j _ _ _ (heap_alloc_new w (.cells #[.string x.1, .bool x.2.1, .int .i64 x.2.2.1, .int .i64 x.2.2.2.1, .string x.2.2.2.2] 28))
  exact ⟨c 0, c 1, c 2, c 3, c 4⟩

theorem eqRec_iff (x y : RecT) : eqRec x.1 x.2.1 x.2.2.1 x.2.2.2.1 x.2.2.2.2 y.1 y.2.1 y.2.2.1 y.2.2.2.1 y.2.2.2.2 = decide (x = y) := by
  obtain ⟨k1, g1, a1, b1, s1⟩ := x
  obtain ⟨k2, g2, a2, b2, s2⟩ := y
  rw [Bool.eq_iff_iff, decide_eq_true_eq]
  unfold eqRec
  rw [Bool.and_eq_true, Bool.and_eq_true, eqR_iff, beq_iff_eq, beq_iff_eq]
  constructor
  · rintro ⟨⟨h1, h2⟩, h3, h4, h5⟩
    have : k1 = k2 := by
      rw [ByteArray.toList_eq, ByteArray.toList_eq] at h1
      exact ByteArray.ext (Array.toList_inj.1 h1)
    simp only [] at h2 h3 h4 h5
    subst this h2 h3 h4 h5
    rfl
  · intro h
    cases h
    exact ⟨⟨rfl, rfl⟩, rfl, rfl, rfl⟩

end Go.Proofs.YthbnecdeebmlhaaGreat

namespace Go.Proofs.YthbnecdeebmlhaaGreat
open Go.Op

theorem less_irr : ∀ x, bytesLess x x = false
  | [] => rfl
  | a :: x => by simp [bytesLess, less_irr x]
theorem less_trans : ∀ x y z, bytesLess x y = true → bytesLess y z = true → bytesLess x z = true
  | [], [], _, h, _ => by cases h
  | [], _ :: _, [], _, h => by cases h
  | [], _ :: _, _ :: _, _, _ => rfl
  | _ :: _, [], _, h, _ => by cases h
  | _ :: _, _ :: _, [], _, h => by cases h
  | a :: x, b :: y, c :: z, h, g => by
    simp only [bytesLess, Bool.or_eq_true, decide_eq_true_eq, Bool.and_eq_true, beq_iff_eq] at h g ⊢
    rcases h with h | ⟨rfl, h⟩
    · rcases g with g | ⟨rfl, -⟩
      · exact .inl (UInt8.lt_trans h g)
      · exact .inl h
    · rcases g with g | ⟨rfl, g⟩
      · exact .inl g
      · exact .inr ⟨rfl, less_trans x y z h g⟩
theorem less_tri : ∀ x y, bytesLess x y = true ∨ x = y ∨ bytesLess y x = true
  | [], [] => .inr (.inl rfl)
  | [], _ :: _ => .inl rfl
  | _ :: _, [] => .inr (.inr rfl)
  | a :: x, b :: y => by
    simp only [bytesLess, Bool.or_eq_true, decide_eq_true_eq, Bool.and_eq_true, beq_iff_eq]
    rcases Nat.lt_trichotomy a.toNat b.toNat with h | h | h
    · exact .inl (.inl (UInt8.lt_iff_toNat_lt.2 h))
    · obtain rfl := UInt8.toNat_inj.1 h
      rcases less_tri x y with h | h | h
      · exact .inl (.inr ⟨rfl, h⟩)
      · exact .inr (.inl (by rw [h]))
      · exact .inr (.inr (.inr ⟨rfl, h⟩))
    · exact .inr (.inr (.inl (UInt8.lt_iff_toNat_lt.2 h)))
theorem ordR : Ordered bytesLess := ⟨less_irr, less_trans, less_tri⟩

end Go.Proofs.YthbnecdeebmlhaaGreat

namespace Go.Proofs.YthbnecdeebmlhaaGreat
open Go.RowKit Go.Op

def keyR (x : RecT) : List UInt8 := x.1.toList
abbrev setR (l : List RecT) (r : RecT) : List RecT := setGo keyR bytesLess r l false

theorem setGo_step (r : RecT) (l : List RecT) (k : Nat) (h : k < l.length) (d : Bool) (acc : List RecT) (p q d' : Bool) (hp : (!d && !(bytesLess (keyR l[k]) (keyR r))) = p) (hq : decide (keyR l[k] = keyR r) = q) (hd : (d || p) = d') (he : acc ++ setGo keyR bytesLess r (l.drop k) d = setR l r) :
    acc ++ (if p then [r] else []) ++ (if q then [] else [l[k]]) ++ setGo keyR bytesLess r (l.drop (k + 1)) d' = setR l r := by
  rw [← he, List.drop_eq_getElem_cons h, setGo, hp, hd]
  subst hq
  simp [List.append_assoc]

/-- The box of the record, in whatever world came later. -/
theorem box_later {w w' : World} {key : ByteArray} {gone : Bool} {k n : Int} {s : ByteArray} (hb : Below (w.alloc (recO key gone k n s)).heap.size (w.alloc (recO key gone k n s)) w') :
    w'.cell? ⟨w.heap.size, 0, none⟩ = some (.string key) ∧ w'.cell? ⟨w.heap.size, 1, none⟩ = some (.bool gone) ∧ w'.cell? ⟨w.heap.size, 2, none⟩ = some (.int .i64 k) ∧ w'.cell? ⟨w.heap.size, 3, none⟩ = some (.int .i64 n) ∧ w'.cell? ⟨w.heap.size, 4, none⟩ = some (.string s) := (rec_box key gone k n s hb).2
theorem setR_len (r : RecT) : ∀ (l : List RecT) (d : Bool), (setGo keyR bytesLess r l d).length ≤ l.length + 1 ∧ (d = true → (setGo keyR bytesLess r l d).length ≤ l.length) := by
  intro l
  induction l with
  | nil => intro d; cases d <;> simp [setGo]
  | cons x t ih =>
    intro d
    rw [setGo]
    simp only [List.length_append, List.length_cons]
    cases d with
    | true =>
      have := (ih true).2 rfl
      simp only [Bool.not_true, Bool.false_and, Bool.false_eq_true, if_false, Bool.true_or, List.length_nil]
      split <;> simp <;> omega
    | false =>
      cases hb : bytesLess (keyR x) (keyR r) with
      | true =>
        have := (ih false).1
        simp only [Bool.not_true, Bool.and_false, Bool.false_eq_true, if_false, Bool.or_false, List.length_nil]
        split <;> simp <;> omega
      | false =>
        have := (ih true).2 rfl
        simp only [Bool.not_false, Bool.and_true, if_true, Bool.or_true, List.length_cons, List.length_nil]
        split <;> simp <;> omega
/-- Nothing is longer than what it becomes. -/
theorem acc_len {acc m l : List RecT} {r : RecT} (h : acc ++ m = setR l r) (hl : l.length ≤ 1000) : acc.length ≤ 1001 := by
  have h1 := (setR_len r l false).1
  unfold setR at h
  rw [← h, List.length_append] at h1
  omega

set_option maxHeartbeats 8000000 in
set_option maxRecDepth 100000 in
theorem rset_c (v : Value) (l : List RecT) (key : ByteArray) (gone : Bool) (rk rn : Int) (rs : ByteArray) (w : World) (hv : RS w v l) (hl : l.length ≤ 1000) :
    Calls Tryz.prog 66 #[v, recV key gone rk rn rs] w fun e w' => ∃ v', e = .returned v' ∧ OwnRec w' w.heap.size v' (setR l (key, gone, rk, rn, rs)) ∧ Below w.heap.size w w' := by
  obtain ⟨a, cap, rfl, hm⟩ := hv.form
  unfold recV
  have HW := Go.Lib.hid fun o => hv.below (below_one w o)
  have hB0 := below_one w (recO key gone rk rn rs)
  have HB0 := Go.Lib.hid hB0
  clear hv
  go_enter Tryz.func66, Tryz.ntmps66
  go_wp2_with fail
  have hid := Below.refl (w.alloc (recO key gone rk rn rs)).heap.size (w.alloc (recO key gone rk rn rs))
  go_loopw [5, 6, 7] (fun vb dv i w2 => ∃ (k : Nat) (d : Bool) (acc : List RecT), k ≤ l.length ∧ i = .int .i64 (k : Int) ∧ dv = .bool d ∧ OwnRec w2 (w.alloc (recO key gone rk rn rs)).heap.size vb acc ∧ acc ++ setGo keyR bytesLess (key, gone, rk, rn, rs) (l.drop k) d = setR l (key, gone, rk, rn, rs) ∧ Below (w.alloc (recO key gone rk rn rs)).heap.size (w.alloc (recO key gone rk rn rs)) w2) (fun _ _ i _ => l.length - (intOf i).toNat)
  case atStart => exact ⟨0, false, [], by omega, rfl, rfl, OwnRec.nil _ _, by simp, hid⟩
  case round =>
    obtain ⟨k, d, acc, hk, rfl, rfl, hown, hacc, hbc⟩ := hrel
    have Hacc := Go.Lib.hid hacc; clear hacc
    by_cases hlt : k < l.length
    · obtain ⟨b, o, rfl, -, hbs, c0, c1, c2, c3, c4⟩ := ((HW.out _).below hbc).at k hlt
      obtain ⟨r0, r1, r2, r3, r4⟩ := box_later hbc
      have Hst := Go.Lib.hid fun p q d' hp hq hd => setGo_step (key, gone, rk, rn, rs) l k hlt d acc p q d' hp hq hd Hacc.out
      have Hal := Go.Lib.hid (acc_len Hacc.out hl)
      have Hix := Go.Lib.hid (run_idx5 b o l.length cap k hlt)
      have HC := Go.Lib.hid (fun W (h : Below (w.alloc (recO key gone rk rn rs)).heap.size (w.alloc (recO key gone rk rn rs)) W) => ((HW.out _).below h).at k hlt)
      generalize hx : l[k] = x at *
      obtain ⟨kx, gx, ax, nx, sx⟩ := x
      simp only [keyR] at c0 c1 c2 c3 c4 Hst HC
      clear hx
      have hix := fun W => Hix.out W
      have hlti : (k : Int) < (l.length : Int) := by omega
      cases d with
      | true =>
        by_cases heq : kx.toList = key.toList
        · have hqb : (kx.toList == key.toList) = true := by simpa using heq
          have hacc := Hst.out false true true rfl (decide_eq_true heq) rfl
          simp only [if_true, if_false, Bool.false_eq_true, List.append_nil] at hacc
          have Hac2 := Go.Lib.hid hacc; clear hacc heq Hst Hacc
          go_upto_region 6 with (fail)
          go_quiet (fail)
          have hbq := below_drewN hbc nq
          have hownq := hown.below (below_drewN (Below.refl _ wr) nq)
          clear hbc hown c0 c1 c2 c3 c4 r0 r1 r2 r3 r4 hbs
          generalize wr.drewN nq = wq at *
          obtain ⟨b9, o9, e9, -, hbs, c0, c1, c2, c3, c4⟩ := HC.out _ hbq
          cases e9
          obtain ⟨r0, r1, r2, r3, r4⟩ := box_later hbq
          go_upto_region 9 with (fail)
          go_quiet (fail)
          have hbr := below_drewN hbq nq
          have hownr := hownq.below (below_drewN (Below.refl _ wq) nq)
          clear hownq hbq c0 c1 c2 c3 c4 r0 r1 r2 r3 r4 hbs
          generalize wq.drewN nq = wz at *
          obtain ⟨b9, o9, e9, -, hbs, c0, c1, c2, c3, c4⟩ := HC.out _ hbr
          cases e9
          obtain ⟨r0, r1, r2, r3, r4⟩ := box_later hbr
          go_wp2_with fail
          exact ⟨⟨k + 1, true, _, by omega, by go_num, rfl, hownr, Hac2.out, hbr⟩, by simp only [intOf]; omega⟩
        · have hqb : (kx.toList == key.toList) = false := by simpa using heq
          have hacc := Hst.out false false true rfl (decide_eq_false heq) rfl
          simp only [if_false, Bool.false_eq_true, List.append_nil] at hacc
          have Hac2 := Go.Lib.hid hacc; clear hacc heq Hst Hacc
          go_upto_region 6 with (fail)
          go_quiet (fail)
          have hbq := below_drewN hbc nq
          have hownq := hown.below (below_drewN (Below.refl _ wr) nq)
          clear hbc hown c0 c1 c2 c3 c4 r0 r1 r2 r3 r4 hbs
          generalize wr.drewN nq = wq at *
          obtain ⟨b9, o9, e9, -, hbs, c0, c1, c2, c3, c4⟩ := HC.out _ hbq
          cases e9
          obtain ⟨r0, r1, r2, r3, r4⟩ := box_later hbq
          go_upto_region 9 with (fail)
          go_quiet (fail)
          have hbr := below_drewN hbq nq
          have hownr := hownq.below (below_drewN (Below.refl _ wq) nq)
          clear hownq hbq c0 c1 c2 c3 c4 r0 r1 r2 r3 r4 hbs
          generalize wq.drewN nq = wz at *
          obtain ⟨b9, o9, e9, -, hbs, c0, c1, c2, c3, c4⟩ := HC.out _ hbr
          cases e9
          obtain ⟨r0, r1, r2, r3, r4⟩ := box_later hbr
          have ha2 := OwnRec.below hownr (below_one wz (.cells #[.string kx, .bool gx, .int .i64 ax, .int .i64 nx, .string sx] 28))
          have hone2 := RS.one wz (kx, gx, ax, nx, sx)
          simp only [] at hone2
          have hbx2 := hbr.trans ((below_one wz (.cells #[.string kx, .bool gx, .int .i64 ax, .int .i64 nx, .string sx] 28)).mono hbr.size)
          have hbz2 := hbx2.size
          skip
          go_wp2_with (first
            | (with_reducible show wpList _ _ _ (⟨some 44, _, _, _, _, _⟩ :: _) _ _; go_loud (refine wpList_append_recs rfl (.tmp 38) (.tmp 43) rfl (w.alloc (recO key gone rk rn rs)).heap.size u5 (.slice (some ⟨(wz).heap.size, 0, none⟩) 1 1) acc [(kx, gx, ax, nx, sx)] rfl rfl ha2 hone2 (by have := Hal.out; simp <;> omega) hbz2 ?_); intro v6 w2 hown2 hg2; have hbc2 := hbx2.grown hg2 hbz2 ha2.row)
            | fail)
          exact ⟨⟨k + 1, true, _, by omega, by go_num, rfl, hown2, Hac2.out, hbc2⟩, by simp only [intOf]; omega⟩
      | false =>
        cases hb : bytesLess kx.toList key.toList with
        | true =>
          by_cases heq : kx.toList = key.toList
          · exact absurd hb (by rw [heq]; simp [less_irr])
          · have hqb : (kx.toList == key.toList) = false := by simpa using heq
            have hacc := Hst.out false false false (by rw [hb]; rfl) (decide_eq_false heq) rfl
            simp only [if_false, Bool.false_eq_true, List.append_nil] at hacc
            have Hac2 := Go.Lib.hid hacc; clear hacc heq Hst Hacc
            go_upto_region 6 with (fail)
            go_quiet (fail)
            have hbq := below_drewN hbc nq
            have hownq := hown.below (below_drewN (Below.refl _ wr) nq)
            clear hbc hown c0 c1 c2 c3 c4 r0 r1 r2 r3 r4 hbs
            generalize wr.drewN nq = wq at *
            obtain ⟨b9, o9, e9, -, hbs, c0, c1, c2, c3, c4⟩ := HC.out _ hbq
            cases e9
            obtain ⟨r0, r1, r2, r3, r4⟩ := box_later hbq
            go_upto_region 9 with (fail)
            go_quiet (fail)
            have hbr := below_drewN hbq nq
            have hownr := hownq.below (below_drewN (Below.refl _ wq) nq)
            clear hownq hbq c0 c1 c2 c3 c4 r0 r1 r2 r3 r4 hbs
            generalize wq.drewN nq = wz at *
            obtain ⟨b9, o9, e9, -, hbs, c0, c1, c2, c3, c4⟩ := HC.out _ hbr
            cases e9
            obtain ⟨r0, r1, r2, r3, r4⟩ := box_later hbr
            have ha2 := OwnRec.below hownr (below_one wz (.cells #[.string kx, .bool gx, .int .i64 ax, .int .i64 nx, .string sx] 28))
            have hone2 := RS.one wz (kx, gx, ax, nx, sx)
            simp only [] at hone2
            have hbx2 := hbr.trans ((below_one wz (.cells #[.string kx, .bool gx, .int .i64 ax, .int .i64 nx, .string sx] 28)).mono hbr.size)
            have hbz2 := hbx2.size
            skip
            go_wp2_with (first
              | (with_reducible show wpList _ _ _ (⟨some 44, _, _, _, _, _⟩ :: _) _ _; go_loud (refine wpList_append_recs rfl (.tmp 38) (.tmp 43) rfl (w.alloc (recO key gone rk rn rs)).heap.size u5 (.slice (some ⟨(wz).heap.size, 0, none⟩) 1 1) acc [(kx, gx, ax, nx, sx)] rfl rfl ha2 hone2 (by have := Hal.out; simp <;> omega) hbz2 ?_); intro v6 w2 hown2 hg2; have hbc2 := hbx2.grown hg2 hbz2 ha2.row)
              | fail)
            exact ⟨⟨k + 1, false, _, by omega, by go_num, rfl, hown2, Hac2.out, hbc2⟩, by simp only [intOf]; omega⟩
        | false =>
          by_cases heq : kx.toList = key.toList
          · have hqb : (kx.toList == key.toList) = true := by simpa using heq
            have hacc := Hst.out true true true (by rw [hb]; rfl) (decide_eq_true heq) rfl
            simp only [if_true, List.append_nil] at hacc
            have Hac2 := Go.Lib.hid hacc; clear hacc heq Hst Hacc
            go_upto_region 6 with (fail)
            go_quiet (fail)
            have hbq := below_drewN hbc nq
            have hownq := hown.below (below_drewN (Below.refl _ wr) nq)
            clear hbc hown c0 c1 c2 c3 c4 r0 r1 r2 r3 r4 hbs
            generalize wr.drewN nq = wq at *
            obtain ⟨b9, o9, e9, -, hbs, c0, c1, c2, c3, c4⟩ := HC.out _ hbq
            cases e9
            obtain ⟨r0, r1, r2, r3, r4⟩ := box_later hbq
            have ha1 := OwnRec.below hownq (below_one wq (.cells #[.string key, .bool gone, .int .i64 rk, .int .i64 rn, .string rs] 28))
            have hone1 := RS.one wq (key, gone, rk, rn, rs)
            simp only [] at hone1
            have hbx1 := hbq.trans ((below_one wq (.cells #[.string key, .bool gone, .int .i64 rk, .int .i64 rn, .string rs] 28)).mono hbq.size)
            have hbz1 := hbx1.size
            go_upto_region 9 with (first
              | (with_reducible show wpList _ _ _ (⟨some 29, _, _, _, _, _⟩ :: _) _ _; go_loud (refine wpList_append_recs rfl (.tmp 26) (.tmp 28) rfl (w.alloc (recO key gone rk rn rs)).heap.size u5 (.slice (some ⟨(wq).heap.size, 0, none⟩) 1 1) acc [(key, gone, rk, rn, rs)] rfl rfl ha1 hone1 (by have := Hal.out; simp <;> omega) hbz1 ?_); intro v5 w1 hown1 hg1; have hbc1 := hbx1.grown hg1 hbz1 ha1.row)
              | fail)
            clear c0 c1 c2 c3 c4 r0 r1 r2 r3 r4 hbs ha1 hone1 hbx1 hbz1 hg1 hownq hbq
            obtain ⟨b9, o9, e9, -, hbs, c0, c1, c2, c3, c4⟩ := HC.out _ hbc1
            cases e9
            obtain ⟨r0, r1, r2, r3, r4⟩ := box_later hbc1
            go_quiet (fail)
            have hbr := below_drewN hbc1 nq
            have hownr := hown1.below (below_drewN (Below.refl _ w1) nq)
            clear hown1 hbc1 c0 c1 c2 c3 c4 r0 r1 r2 r3 r4 hbs
            generalize w1.drewN nq = wz at *
            obtain ⟨b9, o9, e9, -, hbs, c0, c1, c2, c3, c4⟩ := HC.out _ hbr
            cases e9
            obtain ⟨r0, r1, r2, r3, r4⟩ := box_later hbr
            go_wp2_with fail
            exact ⟨⟨k + 1, true, _, by omega, by go_num, rfl, hownr, Hac2.out, hbr⟩, by simp only [intOf]; omega⟩
          · have hqb : (kx.toList == key.toList) = false := by simpa using heq
            have hacc := Hst.out true false true (by rw [hb]; rfl) (decide_eq_false heq) rfl
            simp only [if_true, if_false, Bool.false_eq_true] at hacc
            have Hac2 := Go.Lib.hid hacc; clear hacc heq Hst Hacc
            go_upto_region 6 with (fail)
            go_quiet (fail)
            have hbq := below_drewN hbc nq
            have hownq := hown.below (below_drewN (Below.refl _ wr) nq)
            clear hbc hown c0 c1 c2 c3 c4 r0 r1 r2 r3 r4 hbs
            generalize wr.drewN nq = wq at *
            obtain ⟨b9, o9, e9, -, hbs, c0, c1, c2, c3, c4⟩ := HC.out _ hbq
            cases e9
            obtain ⟨r0, r1, r2, r3, r4⟩ := box_later hbq
            have ha1 := OwnRec.below hownq (below_one wq (.cells #[.string key, .bool gone, .int .i64 rk, .int .i64 rn, .string rs] 28))
            have hone1 := RS.one wq (key, gone, rk, rn, rs)
            simp only [] at hone1
            have hbx1 := hbq.trans ((below_one wq (.cells #[.string key, .bool gone, .int .i64 rk, .int .i64 rn, .string rs] 28)).mono hbq.size)
            have hbz1 := hbx1.size
            go_upto_region 9 with (first
              | (with_reducible show wpList _ _ _ (⟨some 29, _, _, _, _, _⟩ :: _) _ _; go_loud (refine wpList_append_recs rfl (.tmp 26) (.tmp 28) rfl (w.alloc (recO key gone rk rn rs)).heap.size u5 (.slice (some ⟨(wq).heap.size, 0, none⟩) 1 1) acc [(key, gone, rk, rn, rs)] rfl rfl ha1 hone1 (by have := Hal.out; simp <;> omega) hbz1 ?_); intro v5 w1 hown1 hg1; have hbc1 := hbx1.grown hg1 hbz1 ha1.row)
              | fail)
            clear c0 c1 c2 c3 c4 r0 r1 r2 r3 r4 hbs ha1 hone1 hbx1 hbz1 hg1 hownq hbq
            obtain ⟨b9, o9, e9, -, hbs, c0, c1, c2, c3, c4⟩ := HC.out _ hbc1
            cases e9
            obtain ⟨r0, r1, r2, r3, r4⟩ := box_later hbc1
            go_quiet (fail)
            have hbr := below_drewN hbc1 nq
            have hownr := hown1.below (below_drewN (Below.refl _ w1) nq)
            clear hown1 hbc1 c0 c1 c2 c3 c4 r0 r1 r2 r3 r4 hbs
            generalize w1.drewN nq = wz at *
            obtain ⟨b9, o9, e9, -, hbs, c0, c1, c2, c3, c4⟩ := HC.out _ hbr
            cases e9
            obtain ⟨r0, r1, r2, r3, r4⟩ := box_later hbr
            have ha2 := OwnRec.below hownr (below_one wz (.cells #[.string kx, .bool gx, .int .i64 ax, .int .i64 nx, .string sx] 28))
            have hone2 := RS.one wz (kx, gx, ax, nx, sx)
            simp only [] at hone2
            have hbx2 := hbr.trans ((below_one wz (.cells #[.string kx, .bool gx, .int .i64 ax, .int .i64 nx, .string sx] 28)).mono hbr.size)
            have hbz2 := hbx2.size
            skip
            go_wp2_with (first
              | (with_reducible show wpList _ _ _ (⟨some 44, _, _, _, _, _⟩ :: _) _ _; go_loud (refine wpList_append_recs rfl (.tmp 38) (.tmp 43) rfl (w.alloc (recO key gone rk rn rs)).heap.size v5 (.slice (some ⟨(wz).heap.size, 0, none⟩) 1 1) (acc ++ [(key, gone, rk, rn, rs)]) [(kx, gx, ax, nx, sx)] rfl rfl ha2 hone2 (by have := Hal.out; simp <;> omega) hbz2 ?_); intro v6 w2 hown2 hg2; have hbc2 := hbx2.grown hg2 hbz2 ha2.row)
              | fail)
            exact ⟨⟨k + 1, true, _, by omega, by go_num, rfl, hown2, Hac2.out, hbc2⟩, by simp only [intOf]; omega⟩
    · obtain rfl : k = l.length := by omega
      have hacc := Hacc.out
      rw [List.drop_of_length_le (Nat.le_refl _)] at hacc
      obtain ⟨r0, r1, r2, r3, r4⟩ := box_later hbc
      cases d with
      | true =>
        simp only [setGo, if_true, List.append_nil] at hacc
        have hacc2 := Go.Lib.hid hacc; clear hacc Hacc
        go_wp2_with fail
        go_ret
        refine ⟨_, rfl, ?_, ?_⟩
        · rw [← hacc2.out]
          exact hown.mono (HB0.out.size)
        · exact HB0.out.trans (hbc.mono HB0.out.size)
      | false =>
        simp only [setGo, Bool.false_eq_true, if_false] at hacc
        have hacc2 := Go.Lib.hid hacc; clear hacc Hacc
        have Hal := Go.Lib.hid (show acc.length ≤ 1001 from acc_len hacc2.out hl)
        have hbs := hbc.size
        have ha1 := OwnRec.below hown (below_one wr (.cells #[.string key, .bool gone, .int .i64 rk, .int .i64 rn, .string rs] 28))
        have hone1 := RS.one wr (key, gone, rk, rn, rs)
        simp only [] at hone1
        have hbx1 := hbc.trans ((below_one wr (.cells #[.string key, .bool gone, .int .i64 rk, .int .i64 rn, .string rs] 28)).mono hbc.size)
        have hbz1 := hbx1.size
        go_wp2_with (first
          | (with_reducible show wpList _ _ _ (⟨some 50, _, _, _, _, _⟩ :: _) _ _; go_loud (refine wpList_append_recs rfl (.tmp 47) (.tmp 49) rfl (w.alloc (recO key gone rk rn rs)).heap.size u5 (.slice (some ⟨(wr).heap.size, 0, none⟩) 1 1) acc [(key, gone, rk, rn, rs)] rfl rfl ha1 hone1 (by have := Hal.out; simp <;> omega) hbz1 ?_); intro v5 w1 hown1 hg1; have hbc1 := hbx1.grown hg1 hbz1 ha1.row)
          | fail)
        go_ret
        refine ⟨_, rfl, ?_, ?_⟩
        · rw [← hacc2.out]
          exact hown1.mono (HB0.out.size)
        · exact HB0.out.trans (hbc1.mono HB0.out.size)

end Go.Proofs.YthbnecdeebmlhaaGreat

namespace Go.Proofs.YthbnecdeebmlhaaGreat
open Go.Sort
section
variable {α : Type} [Inhabited α] {lt : α → α → Bool}

/-! ### swapRange -/
def swR (a b r x : Nat) : Nat := if a ≤ x ∧ x < a + r then x + (b - a) else if b ≤ x ∧ x < b + r then x - (b - a) else x
structure SwpR (d : Array α) (a b hi r : Nat) (dk : Array α) : Prop where
  perm : PermIn a hi d dk
  get : ∀ x, dk[x]! = d[swR a b r x]!
theorem SwpR.size {d dk : Array α} {a b hi r : Nat} (h : SwpR d a b hi r dk) : dk.size = d.size := h.perm.1
theorem SwpR.start (d : Array α) (a b hi : Nat) : SwpR d a b hi 0 d := by
  refine ⟨permIn_refl d a hi, fun x => ?_⟩
  have : swR a b 0 x = x := by unfold swR; split <;> (try split) <;> omega
  rw [this]
theorem SwpR.step {d dk : Array α} {a b hi r : Nat} (h : SwpR d a b hi r dk) (hab : a + r < b) (hb : b + r < hi) (hh : hi ≤ d.size) : SwpR d a b hi (r + 1) (swp dk (a + r) (b + r)) := by
  have hs := h.size
  refine ⟨permIn_trans _ _ _ _ _ h.perm (swp_permIn dk a hi (a + r) (b + r) (by omega) (by omega) (by omega) hb (by omega)), fun x => ?_⟩
  by_cases e1 : x = b + r
  · subst e1
    rw [swp_right dk _ _ (by omega), h.get]
    have e2 : swR a b r (a + r) = a + r := by unfold swR; split <;> (try split) <;> omega
    have e3 : swR a b (r + 1) (b + r) = a + r := by unfold swR; split <;> (try split) <;> omega
    rw [e2, e3]
  · by_cases e4 : x = a + r
    · subst e4
      rw [swp_left dk _ _ (by omega) (by omega), h.get]
      have e2 : swR a b r (b + r) = b + r := by unfold swR; split <;> (try split) <;> omega
      have e3 : swR a b (r + 1) (a + r) = b + r := by unfold swR; split <;> (try split) <;> omega
      rw [e2, e3]
    · rw [swp_other dk _ _ _ e4 e1, h.get]
      have e3 : swR a b (r + 1) x = swR a b r x := by unfold swR; repeat' split
                                                      all_goals omega
      rw [e3]

/-! ### rotate -/
def rotI (m i j x : Nat) : Nat := if x < m - i then x else if x < m - i + j then x + i else if x < m + j then x - j else x
structure RotR (d : Array α) (a m b i j : Nat) (dk : Array α) : Prop where
  perm : PermIn a b d dk
  i0 : 1 ≤ i
  j0 : 1 ≤ j
  hi : a + i ≤ m
  hj : m + j ≤ b
  get : ∀ x, d[rotI m (m - a) (b - m) x]! = dk[rotI m i j x]!
structure Rotd (d : Array α) (a m b : Nat) (d' : Array α) : Prop where
  perm : PermIn a b d d'
  get : ∀ x, d'[x]! = d[rotI m (m - a) (b - m) x]!
theorem RotR.start (d : Array α) {a m b : Nat} (h1 : a < m) (h2 : m < b) : RotR d a m b (m - a) (b - m) d :=
  ⟨permIn_refl d a b, by omega, by omega, by omega, by omega, fun _ => rfl⟩
theorem RotR.gt {d dk dk' : Array α} {a m b i j : Nat} (h : RotR d a m b i j dk) (hij : j < i) (hb : b ≤ d.size) (s : SwpR dk (m - i) m (m + j) j dk') : RotR d a m b (i - j) j dk' := by
  have h1 := h.hi; have h2 := h.hj; have h3 := h.i0; have h4 := h.j0
  have hs : dk.size = d.size := h.perm.1
  refine ⟨permIn_trans _ _ _ _ _ h.perm (permIn_mono _ _ _ _ _ _ (by omega) h2 (by omega) s.perm), by omega, h4, by omega, h2, fun x => ?_⟩
  rw [h.get, s.get]
  have e : rotI m i j x = swR (m - i) m j (rotI m (i - j) j x) := by unfold swR rotI; repeat' split
                                                                     all_goals omega
  rw [e]
theorem RotR.less {d dk dk' : Array α} {a m b i j : Nat} (h : RotR d a m b i j dk) (hij : i < j) (hb : b ≤ d.size) (s : SwpR dk (m - i) (m + j - i) (m + j) i dk') : RotR d a m b i (j - i) dk' := by
  have h1 := h.hi; have h2 := h.hj; have h3 := h.i0; have h4 := h.j0
  have hs : dk.size = d.size := h.perm.1
  refine ⟨permIn_trans _ _ _ _ _ h.perm (permIn_mono _ _ _ _ _ _ (by omega) h2 (by omega) s.perm), h3, by omega, h1, by omega, fun x => ?_⟩
  rw [h.get, s.get]
  have e : rotI m i j x = swR (m - i) (m + j - i) i (rotI m i (j - i) x) := by unfold swR rotI; repeat' split
                                                                               all_goals omega
  rw [e]
theorem RotR.done {d dk dk' : Array α} {a m b i : Nat} (h : RotR d a m b i i dk) (hb : b ≤ d.size) (s : SwpR dk (m - i) m (m + i) i dk') : Rotd d a m b dk' := by
  have h1 := h.hi; have h2 := h.hj; have h3 := h.i0
  have hs : dk.size = d.size := h.perm.1
  refine ⟨permIn_trans _ _ _ _ _ h.perm (permIn_mono _ _ _ _ _ _ (by omega) h2 (by omega) s.perm), fun x => ?_⟩
  rw [h.get, s.get]
  have e : rotI m i i x = swR (m - i) m i x := by unfold swR rotI; repeat' split
                                                  all_goals omega
  rw [e]
theorem Rotd.none (d : Array α) {a m b : Nat} (h1 : a ≤ m) (h2 : m ≤ b) (h : a = m ∨ m = b) : Rotd d a m b d := by
  refine ⟨permIn_refl d a b, fun x => ?_⟩
  have e : rotI m (m - a) (b - m) x = x := by unfold rotI; repeat' split
                                              all_goals omega
  rw [e]

/-! ### One element into a sorted row. -/
theorem sorted_le (hO : SWO lt) {a b : Nat} {d : Array α} (h : SortedIn lt a b d) {i j : Nat} (hi : a ≤ i) (hij : i ≤ j) (hj : j < b) : lt d[j]! d[i]! = false := by
  rcases Nat.lt_or_ge i j with e | e
  · exact h i j hi e hj
  · obtain rfl : i = j := by omega
    exact hO.irrefl _
theorem sorted_congr {a b : Nat} {d d' : Array α} (hs : SortedIn lt a b d) (h : ∀ i, a ≤ i → i < b → d'[i]! = d[i]!) : SortedIn lt a b d' := fun i j hi hij hj => by
  rw [h i hi (by omega), h j (by omega) hj]
  exact hs i j hi hij hj
/-- The first element lies before place k. -/
structure ShU (d : Array α) (a hi k : Nat) (dk : Array α) : Prop where
  perm : PermIn a hi d dk
  get : ∀ x, dk[x]! = d[if a ≤ x ∧ x < k then x + 1 else if x = k then a else x]!
theorem ShU.start (d : Array α) (a hi : Nat) : ShU d a hi a d := by
  refine ⟨permIn_refl d a hi, fun x => ?_⟩
  have : (if a ≤ x ∧ x < a then x + 1 else if x = a then a else x) = x := by split <;> (try split) <;> omega
  rw [this]
theorem ShU.step {d dk : Array α} {a hi k : Nat} (h : ShU d a hi k dk) (hk : a ≤ k) (hb : k + 1 < hi) (hh : hi ≤ d.size) : ShU d a hi (k + 1) (swp dk k (k + 1)) := by
  have hs : dk.size = d.size := h.perm.1
  refine ⟨permIn_trans _ _ _ _ _ h.perm (swp_permIn dk a hi k (k + 1) (by omega) (by omega) (by omega) hb (by omega)), fun x => ?_⟩
  by_cases e1 : x = k + 1
  · subst e1
    rw [swp_right dk _ _ (by omega), h.get]
    congr 1
    split <;> split <;> (try split) <;> (try split) <;> omega
  · by_cases e4 : x = k
    · subst e4
      rw [swp_left dk _ _ (by omega) (by omega), h.get]
      congr 1
      split <;> split <;> (try split) <;> (try split) <;> omega
    · rw [swp_other dk _ _ _ e4 e1, h.get]
      congr 1
      split <;> split <;> (try split) <;> (try split) <;> omega
theorem ShU.sorted (hO : SWO lt) {d dk : Array α} {a b i : Nat} (h : ShU d a b (i - 1) dk) (h0 : SortedIn lt (a + 1) b d) (hi : a + 1 ≤ i) (hib : i ≤ b)
    (hl : ∀ x, a + 1 ≤ x → x < i → lt d[x]! d[a]! = true) (hr : ∀ x, i ≤ x → x < b → lt d[x]! d[a]! = false) : SortedIn lt a b dk := by
  have asym : ∀ x y, lt x y = true → lt y x = false := fun x y h1 => by
    cases h2 : lt y x with
    | false => rfl
    | true => have := hO.trans _ _ _ h1 h2; rw [hO.irrefl] at this; cases this
  intro x y hx hxy hy
  rw [h.get, h.get]
  by_cases c1 : y < i - 1
  · rw [if_pos ⟨by omega, c1⟩, if_pos ⟨hx, by omega⟩]
    exact h0 _ _ (by omega) (by omega) (by omega)
  · rw [if_neg (by omega)]
    by_cases c2 : y = i - 1
    · rw [if_pos c2, if_pos ⟨hx, by omega⟩]
      exact asym _ _ (hl _ (by omega) (by omega))
    · rw [if_neg c2]
      by_cases c3 : x < i - 1
      · rw [if_pos ⟨hx, c3⟩]
        exact h0 _ _ (by omega) (by omega) hy
      · rw [if_neg (by omega)]
        by_cases c4 : x = i - 1
        · rw [if_pos c4]
          exact hr _ (by omega) hy
        · rw [if_neg c4]
          exact h0 _ _ (by omega) hxy hy
/-- The last element (at m) lies at place k. -/
structure ShD (d : Array α) (a m k : Nat) (dk : Array α) : Prop where
  perm : PermIn a (m + 1) d dk
  get : ∀ x, dk[x]! = d[if k < x ∧ x ≤ m then x - 1 else if x = k then m else x]!
theorem ShD.start (d : Array α) (a m : Nat) : ShD d a m m d := by
  refine ⟨permIn_refl d a _, fun x => ?_⟩
  have : (if m < x ∧ x ≤ m then x - 1 else if x = m then m else x) = x := by split <;> (try split) <;> omega
  rw [this]
theorem ShD.step {d dk : Array α} {a m k : Nat} (h : ShD d a m (k + 1) dk) (hk : a ≤ k) (hm : k + 1 ≤ m) (hh : m < d.size) : ShD d a m k (swp dk (k + 1) k) := by
  have hs : dk.size = d.size := h.perm.1
  refine ⟨permIn_trans _ _ _ _ _ h.perm (swp_permIn dk a (m + 1) (k + 1) k (by omega) (by omega) (by omega) (by omega) (by omega)), fun x => ?_⟩
  by_cases e1 : x = k
  · subst e1
    rw [swp_right dk _ _ (by omega), h.get]
    congr 1
    split <;> split <;> (try split) <;> (try split) <;> omega
  · by_cases e4 : x = k + 1
    · subst e4
      rw [swp_left dk _ _ (by omega) (by omega), h.get]
      congr 1
      split <;> split <;> (try split) <;> (try split) <;> omega
    · rw [swp_other dk _ _ _ e4 e1, h.get]
      congr 1
      split <;> split <;> (try split) <;> (try split) <;> omega
theorem ShD.sorted (hO : SWO lt) {d dk : Array α} {a m i : Nat} (h : ShD d a m i dk) (h0 : SortedIn lt a m d) (hi : a ≤ i) (him : i ≤ m)
    (hl : ∀ x, a ≤ x → x < i → lt d[m]! d[x]! = false) (hr : ∀ x, i ≤ x → x < m → lt d[m]! d[x]! = true) : SortedIn lt a (m + 1) dk := by
  have asym : ∀ x y, lt x y = true → lt y x = false := fun x y h1 => by
    cases h2 : lt y x with
    | false => rfl
    | true => have := hO.trans _ _ _ h1 h2; rw [hO.irrefl] at this; cases this
  intro x y hx hxy hy
  rw [h.get, h.get]
  by_cases c1 : i < y
  · rw [if_pos ⟨c1, by omega⟩]
    by_cases c2 : i < x
    · rw [if_pos ⟨c2, by omega⟩]
      exact h0 _ _ (by omega) (by omega) (by omega)
    · rw [if_neg (by omega)]
      by_cases c3 : x = i
      · rw [if_pos c3]
        exact asym _ _ (hr _ (by omega) (by omega))
      · rw [if_neg c3]
        exact h0 _ _ hx (by omega) (by omega)
  · rw [if_neg (show ¬ (i < y ∧ y ≤ m) by omega), if_neg (show ¬ (i < x ∧ x ≤ m) by omega), if_neg (show ¬ x = i by omega)]
    by_cases c2 : y = i
    · rw [if_pos c2]
      exact hl _ hx (by omega)
    · rw [if_neg c2]
      exact h0 _ _ hx hxy (by omega)

/-! ### The searches. -/
theorem search_lt (hO : SWO lt) {d : Array α} {m b H : Nat} {v : α} (h : SortedIn lt m b d) (hH : H < b) (hl : lt d[H]! v = true) : ∀ x, m ≤ x → x ≤ H → lt d[x]! v = true := by
  intro x hx hxH
  cases hq : lt d[x]! v with
  | true => rfl
  | false => rw [hO.ntrans _ _ _ (sorted_le hO h hx hxH hH) hq] at hl; cases hl
theorem search_ge (hO : SWO lt) {d : Array α} {m b H : Nat} {v : α} (h : SortedIn lt m b d) (hH : m ≤ H) (hl : lt d[H]! v = false) : ∀ x, H ≤ x → x < b → lt d[x]! v = false :=
  fun _ hx hxb => hO.ntrans _ _ _ (sorted_le hO h hH hx hxb) hl
theorem search_le (hO : SWO lt) {d : Array α} {a m H : Nat} {v : α} (h : SortedIn lt a m d) (hH : H < m) (hl : lt v d[H]! = false) : ∀ x, a ≤ x → x ≤ H → lt v d[x]! = false :=
  fun _ hx hxH => hO.ntrans _ _ _ hl (sorted_le hO h hx hxH hH)
theorem search_gt (hO : SWO lt) {d : Array α} {a m H : Nat} {v : α} (h : SortedIn lt a m d) (hH : a ≤ H) (hl : lt v d[H]! = true) : ∀ x, H ≤ x → x < m → lt v d[x]! = true := by
  intro x hx hxm
  cases hq : lt v d[x]! with
  | true => rfl
  | false => rw [hO.ntrans _ _ _ hq (sorted_le hO h hH hx hxm)] at hl; cases hl

/-! ### symMerge -/
theorem rot_split (hO : SWO lt) {d d1 : Array α} {a m b s e mid : Nat} (R : Rotd d s m e d1) (S1 : SortedIn lt a m d) (S2 : SortedIn lt m b d) (h1 : a ≤ s) (h2 : s ≤ m) (h3 : m ≤ e) (h4 : e ≤ b) (hse : s + e = mid + m)
    (hL : a = s ∨ e = b ∨ lt d[e]! d[s - 1]! = false) (hR : s = m ∨ e = m ∨ lt d[e - 1]! d[s]! = true) :
    (∀ x y, a ≤ x → x < mid → mid ≤ y → y < b → lt d1[y]! d1[x]! = false) ∧ SortedIn lt a s d1 ∧ SortedIn lt s mid d1 ∧ SortedIn lt mid e d1 ∧ SortedIn lt e b d1 := by
  have g1 : ∀ x, x < s → d1[x]! = d[x]! := fun x hx => by
    rw [R.get]; congr 1; unfold rotI; repeat' split
    all_goals omega
  have g2 : ∀ x, s ≤ x → x < mid → d1[x]! = d[x + (m - s)]! := fun x hx hx2 => by
    rw [R.get]; congr 1; unfold rotI; repeat' split
    all_goals omega
  have g3 : ∀ x, mid ≤ x → x < e → d1[x]! = d[x - (e - m)]! := fun x hx hx2 => by
    rw [R.get]; congr 1; unfold rotI; repeat' split
    all_goals omega
  have g4 : ∀ x, e ≤ x → d1[x]! = d[x]! := fun x hx => by
    rw [R.get]; congr 1; unfold rotI; repeat' split
    all_goals omega
  refine ⟨fun x y hx hxm hy hyb => ?_, fun i j hi hij hj => ?_, fun i j hi hij hj => ?_, fun i j hi hij hj => ?_, fun i j hi hij hj => ?_⟩
  · by_cases c1 : x < s
    · rw [g1 x c1]
      by_cases c2 : y < e
      · rw [g3 y hy c2]
        exact S1 _ _ hx (by omega) (by omega)
      · rw [g4 y (by omega)]
        have hc : lt d[e]! d[s - 1]! = false := by
          rcases hL with h | h | h
          · omega
          · omega
          · exact h
        have l1 := sorted_le hO S2 (i := e) (j := y) h3 (by omega) hyb
        have l2 := sorted_le hO S1 (i := x) (j := s - 1) hx (by omega) (by omega)
        exact hO.ntrans _ _ _ l1 (hO.ntrans _ _ _ hc l2)
    · rw [g2 x (by omega) hxm]
      by_cases c2 : y < e
      · rw [g3 y hy c2]
        have hc : lt d[e - 1]! d[s]! = true := by
          rcases hR with h | h | h
          · omega
          · omega
          · exact h
        have l1 := sorted_le hO S2 (i := x + (m - s)) (j := e - 1) (by omega) (by omega) (by omega)
        have l2 := sorted_le hO S1 (i := s) (j := y - (e - m)) h1 (by omega) (by omega)
        cases hq : lt d[y - (e - m)]! d[x + (m - s)]! with
        | false => rfl
        | true =>
          cases hp : lt d[e - 1]! d[y - (e - m)]! with
          | false => rw [hO.ntrans _ _ _ hp l2] at hc; cases hc
          | true => rw [hO.trans _ _ _ hp hq] at l1; cases l1
      · rw [g4 y (by omega)]
        exact S2 _ _ (by omega) (by omega) hyb
  · rw [g1 i (by omega), g1 j hj]; exact S1 _ _ hi hij (by omega)
  · rw [g2 i hi (by omega), g2 j (by omega) hj]; exact S2 _ _ (by omega) (by omega) (by omega)
  · rw [g3 i hi (by omega), g3 j (by omega) hj]; exact S1 _ _ (by omega) (by omega) (by omega)
  · rw [g4 i hi, g4 j (by omega)]; exact S2 _ _ (by omega) hij hj

theorem merge_done {d d1 d2 d3 : Array α} {a m b s e mid : Nat} (hb : b ≤ d.size) (R : Rotd d s m e d1) (h1 : a ≤ s) (h4 : e ≤ b) (hm1 : a ≤ mid) (hm2 : mid ≤ b)
    (hx : ∀ x y, a ≤ x → x < mid → mid ≤ y → y < b → lt d1[y]! d1[x]! = false) (p2 : PermIn a mid d1 d2) (s2 : SortedIn lt a mid d2) (p3 : PermIn mid b d2 d3) (s3 : SortedIn lt mid b d3) :
    PermIn a b d d3 ∧ SortedIn lt a b d3 := by
  have e1 : d1.size = d.size := R.perm.1
  have e2 : d2.size = d1.size := p2.1
  refine ⟨permIn_trans _ _ _ _ _ (permIn_mono _ _ _ _ _ _ h1 h4 hb R.perm) (permIn_trans _ _ _ _ _ (permIn_mono _ _ _ _ _ _ (Nat.le_refl _) hm2 (by omega) p2) (permIn_mono _ _ _ _ _ _ hm1 (Nat.le_refl _) (by omega) p3)), ?_⟩
  have x2 : ∀ x, a ≤ x → x < mid → ∀ y, mid ≤ y → y < b → lt d2[y]! d2[x]! = false := by
    intro x ha hxm y hy hyb
    have := permIn_all d1 d2 a mid (fun v => ∀ y, mid ≤ y → y < b → lt d1[y]! v = false) (by omega) p2 (fun i hi hi2 y hy hyb => hx i y hi hi2 hy hyb) x ha hxm y hy hyb
    rw [p2.2.1 y (.inr hy)]
    exact this
  have x3 : ∀ y, mid ≤ y → y < b → ∀ x, a ≤ x → x < mid → lt d3[y]! d3[x]! = false := by
    intro y hy hyb x ha hxm
    have := permIn_all d2 d3 mid b (fun v => ∀ x, a ≤ x → x < mid → lt v d2[x]! = false) (by omega) p3 (fun i hi hi2 x ha hxm => x2 x ha hxm i hi hi2) y hy hyb x ha hxm
    rw [p3.2.1 x (.inl hxm)]
    exact this
  intro i j hi hij hj
  by_cases c1 : j < mid
  · rw [p3.2.1 i (.inl (by omega)), p3.2.1 j (.inl c1)]
    exact s2 i j hi hij c1
  · by_cases c2 : i < mid
    · exact x3 j (by omega) hj i hi c2
    · exact s3 i j (by omega) hij hj
theorem sorted_join {d : Array α} {a s b : Nat} (h1 : SortedIn lt a s d) (h2 : SortedIn lt s b d) (h : a = s ∨ s = b) : SortedIn lt a b d := by
  rcases h with rfl | rfl
  · exact h2
  · exact h1
end
end Go.Proofs.YthbnecdeebmlhaaGreat
