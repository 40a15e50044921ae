/-
  CRC-32 as a plain function on bits: one bit, one nibble by the table, one byte, a text; it is linear in what comes in, and of what differs within four bytes it differs. Plain facts, of no one program.
-/
import Derived.Test.YtiejjiccncmeiaaDoorBase
namespace Go.Proofs.YtiejjiccncmeiaaDoor

abbrev U := BitVec 32

/-- One bit of the reference. -/
def bit1 (s : U) : U := if s.getLsbD 0 then (s >>> 1) ^^^ 0xedb88320#32 else s >>> 1
def bitn : Nat → U → U
  | 0, s => s
  | n + 1, s => bitn n (bit1 s)

theorem bitn_add (m n : Nat) (s : U) : bitn (m + n) s = bitn n (bitn m s) := by
  induction m generalizing s with
  | zero => simp [bitn]
  | succ m ih => rw [Nat.succ_add, bitn, bitn, ih]

theorem bit1_xor (a b : U) : bit1 (a ^^^ b) = bit1 a ^^^ bit1 b := by
  unfold bit1
  have e : (a ^^^ b) >>> 1 = (a >>> 1) ^^^ (b >>> 1) := by
    apply BitVec.eq_of_getLsbD_eq
    intro i hi
    simp
  rw [e, BitVec.getLsbD_xor]
  generalize a >>> 1 = x
  generalize b >>> 1 = y
  generalize 0xedb88320#32 = p
  cases a.getLsbD 0 <;> cases b.getLsbD 0 <;> simp
  · rw [BitVec.xor_assoc]
  · rw [BitVec.xor_assoc, BitVec.xor_comm y p, ← BitVec.xor_assoc]
  · rw [BitVec.xor_assoc x p, BitVec.xor_comm y p, ← BitVec.xor_assoc p, BitVec.xor_self, BitVec.zero_xor]

theorem bitn_xor (n : Nat) (a b : U) : bitn n (a ^^^ b) = bitn n a ^^^ bitn n b := by
  induction n generalizing a b with
  | zero => rfl
  | succ n ih => rw [bitn, bit1_xor, ih, bitn, bitn]

theorem bit1_zero : bit1 0#32 = 0#32 := by decide
theorem bitn_zero (n : Nat) : bitn n 0#32 = 0#32 := by
  induction n with
  | zero => rfl
  | succ n ih => rw [bitn, bit1_zero, ih]

/-- A bit loses nothing. -/
theorem bit1_ne (a : U) (h : bit1 a = 0#32) : a = 0#32 := by
  unfold bit1 at h
  split at h
  · rename_i h0
    have h31 := congrArg (fun x : U => x.getLsbD 31) h
    simp at h31
  · rename_i h0
    apply BitVec.eq_of_getLsbD_eq
    intro i hi
    cases i with
    | zero => simpa using h0
    | succ i =>
      have := congrArg (fun x : U => x.getLsbD i) h
      simpa [Nat.add_comm 1 i] using this

theorem bitn_ne (n : Nat) (a : U) (h : bitn n a = 0#32) : a = 0#32 := by
  induction n generalizing a with
  | zero => exact h
  | succ n ih => exact bit1_ne a (ih _ h)

/-- Where the lowest n bits are noughts, n bits are a shift. -/
theorem bitn_shift (n : Nat) (a : U) (h : ∀ i, i < n → a.getLsbD i = false) : bitn n a = a >>> n := by
  induction n generalizing a with
  | zero => simp [bitn]
  | succ n ih =>
    have e : bit1 a = a >>> 1 := by unfold bit1; rw [h 0 (by omega)]; simp
    rw [bitn, e, ih]
    · rw [← BitVec.shiftRight_add, Nat.add_comm]
    · intro i hi
      rw [BitVec.getLsbD_ushiftRight]
      exact h (1 + i) (by omega)

/-- The table. -/
def nibTab : List Int := [0, 498536548, 997073096, 651767980, 1994146192, 1802195444, 1303535960, 1342533948, 3988292384, 4027552580, 3604390888, 3412177804, 2607071920, 2262029012, 2685067896, 3183342108]
def nib (s : U) : U := BitVec.ofInt 32 (nibTab.getD (s &&& 15#32).toNat 0) ^^^ (s >>> 4)

theorem low_lt (s : U) : (s &&& 15#32).toNat < 16 := by
  rw [BitVec.toNat_and]
  exact Nat.lt_of_le_of_lt Nat.and_le_right (by decide)

theorem nib_low : ∀ k, k < 16 → BitVec.ofInt 32 (nibTab.getD k 0) = bitn 4 (BitVec.ofNat 32 k) := by decide

theorem nib_bits (s : U) : nib s = bitn 4 s := by
  have e : s = (s &&& 15#32) ^^^ ((s >>> 4) <<< 4) := by
    apply BitVec.eq_of_getLsbD_eq
    intro i hi
    have h15 : (15#32 : U).getLsbD i = decide (i < 4) := by
      have : (15#32 : U) = BitVec.ofNat 32 (2 ^ 4 - 1) := rfl
      rw [this, BitVec.getLsbD_ofNat, Nat.testBit_two_pow_sub_one]
      simp [hi]
    simp only [BitVec.getLsbD_xor, BitVec.getLsbD_and, h15, BitVec.getLsbD_shiftLeft, BitVec.getLsbD_ushiftRight, hi, decide_true, Bool.true_and]
    by_cases h4 : i < 4
    · simp [h4]
    · simp [h4, show 4 + (i - 4) = i from by omega]
  have hs : bitn 4 ((s >>> 4) <<< 4) = s >>> 4 := by
    rw [bitn_shift]
    · apply BitVec.eq_of_getLsbD_eq
      intro i hi
      simp only [BitVec.getLsbD_ushiftRight, BitVec.getLsbD_shiftLeft]
      by_cases h : i < 28
      · simp [show 4 + i < 32 from by omega]
      · have : s.getLsbD (4 + i) = false := BitVec.getLsbD_of_ge _ _ (by omega)
        simp [this, show ¬ 4 + i < 32 from by omega]
    · intro i hi
      simp [hi]
  rw [e, bitn_xor, hs, ← e]
  unfold nib
  rw [nib_low _ (low_lt s), BitVec.ofNat_toNat, BitVec.setWidth_eq]

/-- A byte. -/
def byte8 (c : UInt8) : U := BitVec.ofNat 32 c.toNat
def upd (s : U) (c : UInt8) : U := bitn 8 (s ^^^ byte8 c)
theorem upd_nib (s : U) (c : UInt8) : nib (nib (s ^^^ byte8 c)) = upd s c := by
  rw [nib_bits, nib_bits, ← bitn_add]
  rfl

/-- A text, behind s. -/
def run (s : U) (l : List UInt8) : U := l.foldl upd s
def crcMore (s : U) (l : List UInt8) : U := ~~~ (run (~~~ s) l)
def crcSum (l : List UInt8) : U := crcMore 0#32 l

theorem run_append (s : U) (l m : List UInt8) : run s (l ++ m) = run (run s l) m := by simp [run]
theorem run_cons (s : U) (c : UInt8) (l : List UInt8) : run s (c :: l) = run (upd s c) l := rfl

theorem more_append (s : U) (l m : List UInt8) : crcMore (crcMore s l) m = crcMore s (l ++ m) := by
  unfold crcMore
  rw [BitVec.not_not, run_append]

theorem more_sum (l m : List UInt8) : crcMore (crcSum l) m = crcSum (l ++ m) := more_append _ _ _

/-! what comes in comes in by exclusive or -/
theorem byte8_xor (a b : UInt8) : byte8 (a ^^^ b) = byte8 a ^^^ byte8 b := by
  unfold byte8
  rw [UInt8.toNat_xor]
  apply BitVec.eq_of_toNat_eq
  simp only [BitVec.toNat_ofNat, BitVec.toNat_xor]
  have ha := a.toNat_lt
  have hb := b.toNat_lt
  rw [Nat.mod_eq_of_lt (show a.toNat < 2 ^ 32 from by omega), Nat.mod_eq_of_lt (show b.toNat < 2 ^ 32 from by omega)]
  exact Nat.mod_eq_of_lt (Nat.lt_of_lt_of_le (Nat.xor_lt_two_pow (n := 8) (by omega) (by omega)) (by decide))

theorem upd_xor (s t : U) (a b : UInt8) : upd (s ^^^ t) (a ^^^ b) = upd s a ^^^ upd t b := by
  unfold upd
  rw [byte8_xor, ← bitn_xor]
  congr 1
  rw [BitVec.xor_assoc, BitVec.xor_assoc]
  congr 1
  rw [← BitVec.xor_assoc, ← BitVec.xor_assoc, BitVec.xor_comm t]

def xorL : List UInt8 → List UInt8 → List UInt8 := List.zipWith fun a b => a ^^^ b

theorem run_xor (s t : U) (l m : List UInt8) (h : l.length = m.length) : run (s ^^^ t) (xorL l m) = run s l ^^^ run t m := by
  induction l generalizing s t m with
  | nil => cases m with
    | nil => rfl
    | cons b m => simp at h
  | cons a l ih => cases m with
    | nil => simp at h
    | cons b m =>
      simp only [List.length_cons, Nat.add_right_cancel_iff] at h
      have e : xorL (a :: l) (b :: m) = (a ^^^ b) :: xorL l m := rfl
      rw [e, run_cons, run_cons, run_cons, upd_xor, ih _ _ _ h]

theorem sum_three (a b c : List UInt8) (hab : a.length = b.length) (hbc : b.length = c.length) : crcSum (xorL (xorL a b) c) = crcSum a ^^^ crcSum b ^^^ crcSum c := by
  have h1 : (xorL a b).length = c.length := by simp [xorL]; omega
  have e : ~~~ (0#32 : U) = (~~~ 0#32 ^^^ ~~~ 0#32) ^^^ ~~~ 0#32 := by decide
  have hr := run_xor (~~~ 0#32 ^^^ ~~~ 0#32) (~~~ 0#32) (xorL a b) c h1
  rw [run_xor _ _ a b hab] at hr
  unfold crcSum crcMore
  rw [e, hr, ← e]
  generalize run (~~~ 0#32) a = x
  generalize run (~~~ 0#32) b = y
  generalize run (~~~ 0#32) c = z
  apply BitVec.eq_of_getLsbD_eq
  intro i hi
  simp only [BitVec.getLsbD_not, BitVec.getLsbD_xor, hi, decide_true, Bool.true_and]
  cases x.getLsbD i <;> cases y.getLsbD i <;> cases z.getLsbD i <;> rfl

/-! up to four bytes -/
/-- The bytes as one number, the first one lowest. -/
def packN : List UInt8 → Nat
  | [] => 0
  | c :: l => c.toNat + 256 * packN l
theorem packN_lt (l : List UInt8) : packN l < 256 ^ l.length := by
  induction l with
  | nil => simp [packN]
  | cons c l ih =>
    have := c.toNat_lt
    rw [packN, List.length_cons, Nat.pow_succ]
    omega
theorem packN_zero (l : List UInt8) (h : packN l = 0) : ∀ c ∈ l, c = 0 := by
  induction l with
  | nil => intro c hc; cases hc
  | cons a l ih =>
    rw [packN] at h
    intro c hc
    rcases List.mem_cons.1 hc with rfl | hc
    · apply UInt8.toNat_inj.1
      simpa using (show c.toNat = 0 by omega)
    · exact ih (by omega) c hc

theorem pack_cons (c : UInt8) (l : List UInt8) (h : l.length ≤ 3) : BitVec.ofNat 32 (packN (c :: l)) = byte8 c ^^^ (BitVec.ofNat 32 (packN l) <<< 8) := by
  have hl := packN_lt l
  have hp : 256 ^ l.length ≤ 256 ^ 3 := Nat.pow_le_pow_right (by omega) h
  have hc := c.toNat_lt
  have h3 : (256 : Nat) ^ 3 = 16777216 := by decide
  rw [h3] at hp
  apply BitVec.eq_of_toNat_eq
  rw [packN, byte8, BitVec.toNat_xor, BitVec.toNat_shiftLeft, BitVec.toNat_ofNat, BitVec.toNat_ofNat, BitVec.toNat_ofNat, Nat.shiftLeft_eq]
  rw [Nat.mod_eq_of_lt (show c.toNat < 2 ^ 32 from by omega), Nat.mod_eq_of_lt (show packN l < 2 ^ 32 from by omega), Nat.mod_eq_of_lt (show packN l * 2 ^ 8 < 2 ^ 32 from by omega), Nat.mod_eq_of_lt (by omega)]
  have := Nat.two_pow_add_eq_or_of_lt (i := 8) (b := c.toNat) (by omega) (packN l)
  rw [show c.toNat + 256 * packN l = 2 ^ 8 * packN l + c.toNat from by omega, this, Nat.mul_comm (packN l)]
  apply Nat.eq_of_testBit_eq
  intro i
  rw [Nat.testBit_or, Nat.testBit_xor]
  by_cases h8 : i < 8
  · have : (2 ^ 8 * packN l).testBit i = false := by
      rw [Nat.testBit_two_pow_mul]; simp; omega
    rw [this]; simp
  · have : c.toNat.testBit i = false := Nat.testBit_lt_two_pow (Nat.lt_of_lt_of_le (show c.toNat < 2 ^ 8 from by omega) (Nat.pow_le_pow_right (by omega) (by omega)))
    rw [this]; simp

theorem run_pack (l : List UInt8) (h : l.length ≤ 4) (s : U) : run s l = bitn (8 * l.length) (s ^^^ BitVec.ofNat 32 (packN l)) := by
  induction l generalizing s with
  | nil => simp [run, packN, bitn]
  | cons c l ih =>
    simp only [List.length_cons] at h
    rw [run_cons, ih (by omega), pack_cons c l (by omega), List.length_cons, Nat.mul_add, Nat.mul_one, Nat.add_comm, bitn_add, upd]
    congr 1
    rw [← BitVec.xor_assoc, bitn_xor 8 (s ^^^ byte8 c)]
    congr 1
    have hl := packN_lt l
    have hp : 256 ^ l.length ≤ 256 ^ 3 := Nat.pow_le_pow_right (by omega) (by omega)
    have h3 : (256 : Nat) ^ 3 = 16777216 := by decide
    rw [h3] at hp
    rw [bitn_shift]
    · apply BitVec.eq_of_toNat_eq
      rw [BitVec.toNat_ushiftRight, BitVec.toNat_shiftLeft, BitVec.toNat_ofNat, Nat.shiftLeft_eq, Nat.shiftRight_eq_div_pow, Nat.mod_eq_of_lt (show packN l < 2 ^ 32 from by omega), Nat.mod_eq_of_lt (show packN l * 2 ^ 8 < 2 ^ 32 from by omega)]
      omega
    · intro i hi
      simp [hi]

theorem run_noughts (n : Nat) (s : U) : run s (List.replicate n 0) = bitn (8 * n) s := by
  induction n generalizing s with
  | zero => simp [run, bitn]
  | succ n ih =>
    have e : s ^^^ byte8 0 = s := by
      have : byte8 0 = 0#32 := by decide
      rw [this, BitVec.xor_zero]
    rw [List.replicate_succ, run_cons, ih, upd, e, Nat.mul_add, Nat.mul_one, Nat.add_comm, bitn_add]

/-- b, and x laid over it at n by exclusive or. -/
theorem sum_burst (p b q x : List UInt8) (hb : b.length = x.length) (h4 : x.length ≤ 4) (hx : ¬ ∀ c ∈ x, c = 0) : crcSum (p ++ b ++ q) ≠ crcSum (p ++ xorL b x ++ q) := by
  intro h
  apply hx
  apply packN_zero
  unfold crcSum crcMore at h
  have h1 := congrArg (fun y : U => ~~~ y) h
  simp only [BitVec.not_not, run_append] at h1
  generalize run (~~~ 0#32) p = s at h1
  have h2 : run s (xorL b x) = run s b ^^^ run 0#32 x := by
    have := run_xor s 0#32 b x hb
    rwa [BitVec.xor_zero] at this
  rw [h2] at h1
  have h3 : run (run s b ^^^ run 0#32 x) q = run (run s b) q ^^^ run (run 0#32 x) (List.replicate q.length 0) := by
    have := run_xor (run s b) (run 0#32 x) q (List.replicate q.length 0) (by simp)
    rw [← this]
    congr 1
    unfold xorL
    apply List.ext_getElem
    · simp
    · intro i h1 h2
      simp
  rw [h3] at h1
  have h4' : run (run 0#32 x) (List.replicate q.length 0) = 0#32 := by
    generalize run (run s b) q = y at h1
    generalize run (run 0#32 x) (List.replicate q.length 0) = z at h1
    have := congrArg (fun v : U => y ^^^ v) h1
    simpa [← BitVec.xor_assoc] using this.symm
  rw [run_noughts] at h4'
  have h5 := bitn_ne _ _ h4'
  rw [run_pack x h4, BitVec.zero_xor] at h5
  have h6 := bitn_ne _ _ h5
  have hl := packN_lt x
  have hp : 256 ^ x.length ≤ 256 ^ 4 := Nat.pow_le_pow_right (by omega) h4
  have h7 := congrArg BitVec.toNat h6
  rw [BitVec.toNat_ofNat, Nat.mod_eq_of_lt (Nat.lt_of_lt_of_le hl (Nat.le_trans hp (by decide)))] at h7
  simpa using h7

end Go.Proofs.YtiejjiccncmeiaaDoor
