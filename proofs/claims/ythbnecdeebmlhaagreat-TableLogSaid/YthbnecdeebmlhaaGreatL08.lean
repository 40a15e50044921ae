/-
  How many binary digits of a number are set, by halves: mathematics alone.
  Bits by words of 64, the last one filled up with noughts; the n-th one of a word: mathematics alone.
  The contract of math/bits.OnesCount64: how many binary digits are set; the world stays.
  What a *rank.Rank is; the contracts of Len and Ones.
  Slices of records: cut, kept beside a row that is stored.
  Stage 17: how entries, hashes, numbers lie; the reference's Near, Room.
  Of the blocks that there were all but one are as they were.
  Stage 17: a *cuckoo.Dir in memory: eight buckets of four slots, three cells each. Plain facts; the small contracts (may, pair, New).
  Stage 17: At, Len.
  Stage 17: slices of places; places.
  Stage 17: Set; what lies where, told by its places.
  slices.Sort of ints: the library's contract laid at this program (made by gen/SortI.py).
-/
import Derived.Test.YthbnecdeebmlhaaGreatL06
import Derived.Test.YthbnecdeebmlhaaGreatL07
import Derived.Laws.BitsAllLaws
import Derived.Laws.Bits128
import Derived.Deep.QuietTactic
import Derived.BigQuiet
import Derived.Test.YthbnecdeebmlhaaGreatL03
import Derived.Test.YthbnecdeebmlhaaGreatL04
import Derived.LoopTactic
import Derived.Test.YthbnecdeebmlhaaGreatL01
import Derived.Deep.MidRow
import Derived.Deep.DeepCutAuto
import Derived.Shelf.SlGeneric
import Derived.Shelf.SortM.Plain
import Derived.Shelf.SortM.SortNone
import Derived.Ground.SlgmProg
import Derived.Test.YthbnecdeebmlhaaGreatProg
namespace Go.Proofs.YthbnecdeebmlhaaGreat

/-- A byte n times. -/
def rep (c : Nat) : Nat → Nat
  | 0 => 0
  | n + 1 => rep c n * 256 + c
set_option maxRecDepth 100000 in
theorem rep85 : rep 85 8 = 6148914691236517205 := by decide
theorem rep51 : rep 51 8 = 3689348814741910323 := by decide
theorem rep15 : rep 15 8 = 1085102592571150095 := by decide
def popS1 (n x : Nat) : Nat := (x / 2 &&& rep 85 n) + (x &&& rep 85 n)
def popS2 (n x : Nat) : Nat := (x / 4 &&& rep 51 n) + (x &&& rep 51 n)
def popS3 (n x : Nat) : Nat := (x / 16 + x) &&& rep 15 n
def pop8 (b : Nat) : Nat := (numB b 8).count true
def popT : Nat → Nat → Nat
  | 0, _ => 0
  | n + 1, x => popT n (x / 256) * 256 + pop8 (x % 256)

theorem and_split (a c m d : Nat) (hc : c < 256) (hd : d < 256) : (a * 256 + c) &&& (m * 256 + d) = (a &&& m) * 256 + (c &&& d) := by
  have key : ∀ k, k = 256 → c < k → d < k → k = 2 ^ 8 → (a * k + c) &&& (m * k + d) = (a &&& m) * k + (c &&& d) := by
    intro k _ hck hdk hk
    have hp : 0 < k := by omega
    have h1 := Nat.and_div_two_pow (a := a * k + c) (b := m * k + d) (n := 8)
    have h2 := Nat.and_mod_two_pow (a := a * k + c) (b := m * k + d) (n := 8)
    rw [← hk] at h1 h2
    have e1 : (a * k + c) / k = a := by rw [Nat.mul_comm, Nat.mul_add_div hp, Nat.div_eq_of_lt hck]; rfl
    have e2 : (m * k + d) / k = m := by rw [Nat.mul_comm, Nat.mul_add_div hp, Nat.div_eq_of_lt hdk]; rfl
    have e3 : (a * k + c) % k = c := by rw [Nat.mul_comm, Nat.mul_add_mod, Nat.mod_eq_of_lt hck]
    have e4 : (m * k + d) % k = d := by rw [Nat.mul_comm, Nat.mul_add_mod, Nat.mod_eq_of_lt hdk]
    rw [e1, e2] at h1
    rw [e3, e4] at h2
    have h3 := Nat.div_add_mod ((a * k + c) &&& (m * k + d)) k
    rw [h1, h2, Nat.mul_comm] at h3
    exact h3.symm
  exact key 256 rfl hc hd (by decide)

def bq1 (b : Nat) : Nat := (b / 2 &&& 85) + (b &&& 85)
def bq2 (b : Nat) : Nat := (b / 4 &&& 51) + (b &&& 51)
set_option maxRecDepth 100000 in
theorem b1_fin : ∀ c : Fin 2, ∀ b : Fin 256, (c.val * 128 + b.val / 2 &&& 85) = (b.val / 2 &&& 85) := by decide +kernel
set_option maxRecDepth 100000 in
theorem b2_fin : ∀ c : Fin 4, ∀ b : Fin 256, (c.val * 64 + b.val / 4 &&& 51) = (b.val / 4 &&& 51) := by decide +kernel
set_option maxRecDepth 100000 in
theorem bq_fin : ∀ b : Fin 256, bq1 b.val < 256 ∧ bq2 (bq1 b.val) < 256 ∧ bq2 (bq1 b.val) % 16 ≤ 4 ∧ bq2 (bq1 b.val) / 16 ≤ 4 ∧ (bq2 (bq1 b.val) / 16 + bq2 (bq1 b.val) % 16 = pop8 b.val) ∧ pop8 b.val ≤ 8 := by decide +kernel
set_option maxRecDepth 100000 in
theorem and15_fin : ∀ b : Fin 256, (b.val &&& 15) = b.val % 16 := by decide +kernel

theorem popS1_succ (n y b : Nat) (hb : b < 256) : popS1 (n + 1) (y * 256 + b) = popS1 n y * 256 + bq1 b := by
  unfold popS1 bq1 
  rw [rep]
  have e : (y * 256 + b) / 2 = (y / 2) * 256 + (y % 2 * 128 + b / 2) := by omega
  have h1 := b1_fin ⟨y % 2, by omega⟩ ⟨b, hb⟩
  simp only [] at h1
  rw [e, and_split _ _ _ _ (by omega) (by decide), and_split _ _ _ _ hb (by decide), h1]
  omega
theorem popS2_succ (n y b : Nat) (hb : b < 256) : popS2 (n + 1) (y * 256 + b) = popS2 n y * 256 + bq2 b := by
  unfold popS2 bq2
  rw [rep]
  have e : (y * 256 + b) / 4 = (y / 4) * 256 + (y % 4 * 64 + b / 4) := by omega
  have h1 := b2_fin ⟨y % 4, by omega⟩ ⟨b, hb⟩
  simp only [] at h1
  rw [e, and_split _ _ _ _ (by omega) (by decide), and_split _ _ _ _ hb (by decide), h1]
  omega
theorem popS2_zero (z : Nat) : popS2 0 z = 0 := by unfold popS2; simp [rep]
theorem popS3_zero (z : Nat) : popS3 0 z = 0 := by unfold popS3; simp [rep]
theorem popS1_at (n x : Nat) : popS1 (n + 1) x = popS1 n (x / 256) * 256 + bq1 (x % 256) := by
  have := popS1_succ n (x / 256) (x % 256) (by omega)
  rwa [show (x / 256 * 256 + x % 256) = x from by omega] at this
theorem popZ_low (n x : Nat) : popS2 n (popS1 n x) % 16 ≤ 4 := by
  cases n with
  | zero => rw [popS2_zero]; omega
  | succ n =>
    obtain ⟨h1, h2, h3, -, -, -⟩ := bq_fin ⟨x % 256, by omega⟩
    simp only [] at h1 h2 h3
    rw [popS1_at, popS2_succ _ _ _ h1]
    omega
theorem popS_T : ∀ n x, popS3 n (popS2 n (popS1 n x)) = popT n x
  | 0, x => by rw [popS3_zero]; rfl
  | n + 1, x => by
    have ih := popS_T n (x / 256)
    have hl := popZ_low n (x / 256)
    obtain ⟨h1, h2, h3, h4, h5, h6⟩ := bq_fin ⟨x % 256, by omega⟩
    simp only [] at h1 h2 h3 h4 h5 h6
    rw [popS1_at, popS2_succ _ _ _ h1]
    unfold popS3 at ih ⊢
    generalize popS2 n (popS1 n (x / 256)) = Z at ih hl ⊢
    generalize bq2 (bq1 (x % 256)) = q at h2 h3 h4 h5 ⊢
    have e2 : (Z * 256 + q) / 16 + (Z * 256 + q) = (Z / 16 + Z) * 256 + (Z % 16 * 16 + q / 16 + q) := by omega
    rw [e2, rep, and_split _ _ _ _ (by omega) (by decide), ih, popT]
    have h7 := and15_fin ⟨Z % 16 * 16 + q / 16 + q, by omega⟩
    simp only [] at h7
    rw [h7]
    omega
theorem pop8_le (x : Nat) : pop8 (x % 256) ≤ 8 := (bq_fin ⟨x % 256, by omega⟩).2.2.2.2.2
theorem count_succ (n x : Nat) : (numB x (8 * (n + 1))).count true = (numB (x / 256) (8 * n)).count true + pop8 (x % 256) := by
  have h := numB_split x 8 (8 * n)
  rw [show 8 * (n + 1) = 8 * n + 8 from by omega, h, List.count_append]
  congr 1
  unfold pop8
  have := numB_mod x 8 8 (by omega)
  rw [show (256 : Nat) = 2 ^ 8 from by decide, this]
/-- The bytes' sums, added up in three steps. -/
theorem popT_sum (x : Nat) : ∃ T A B C : Nat, popT 8 x = T ∧ T ≤ 578721382704613384 ∧ A = T + T / 256 ∧ A ≤ 1157442765409226768 ∧ B = A + A / 65536 ∧ B ≤ 2314885530818453536 ∧ C = B + B / 4294967296 ∧ C ≤ 4629771061636907072 ∧ C % 128 = (numB x 64).count true := by
  have hc : (numB x 64).count true = pop8 (x % 256) + pop8 (x / 256 % 256) + pop8 (x / 256 / 256 % 256) + pop8 (x / 256 / 256 / 256 % 256) + pop8 (x / 256 / 256 / 256 / 256 % 256) + pop8 (x / 256 / 256 / 256 / 256 / 256 % 256) + pop8 (x / 256 / 256 / 256 / 256 / 256 / 256 % 256) + pop8 (x / 256 / 256 / 256 / 256 / 256 / 256 / 256 % 256) := by
    rw [show (64 : Nat) = 8 * (7 + 1) from rfl, count_succ, show 8 * 7 = 8 * (6 + 1) from rfl, count_succ, show 8 * 6 = 8 * (5 + 1) from rfl, count_succ, show 8 * 5 = 8 * (4 + 1) from rfl, count_succ, show 8 * 4 = 8 * (3 + 1) from rfl, count_succ, show 8 * 3 = 8 * (2 + 1) from rfl, count_succ, show 8 * 2 = 8 * (1 + 1) from rfl, count_succ, show 8 * 1 = 8 * (0 + 1) from rfl, count_succ]
    simp only [numB, List.count_nil]
    omega
  have b0 := pop8_le x
  have b1 := pop8_le (x / 256)
  have b2 := pop8_le (x / 256 / 256)
  have b3 := pop8_le (x / 256 / 256 / 256)
  have b4 := pop8_le (x / 256 / 256 / 256 / 256)
  have b5 := pop8_le (x / 256 / 256 / 256 / 256 / 256)
  have b6 := pop8_le (x / 256 / 256 / 256 / 256 / 256 / 256)
  have b7 := pop8_le (x / 256 / 256 / 256 / 256 / 256 / 256 / 256)
  rw [hc]
  simp only [popT]
  generalize pop8 (x % 256) = p0 at *
  generalize pop8 (x / 256 % 256) = p1 at *
  generalize pop8 (x / 256 / 256 % 256) = p2 at *
  generalize pop8 (x / 256 / 256 / 256 % 256) = p3 at *
  generalize pop8 (x / 256 / 256 / 256 / 256 % 256) = p4 at *
  generalize pop8 (x / 256 / 256 / 256 / 256 / 256 % 256) = p5 at *
  generalize pop8 (x / 256 / 256 / 256 / 256 / 256 / 256 % 256) = p6 at *
  generalize pop8 (x / 256 / 256 / 256 / 256 / 256 / 256 / 256 % 256) = p7 at *
  clear hc
  obtain ⟨K7, hK7⟩ : ∃ K, K = 0 * 256 + p7 := ⟨_, rfl⟩
  obtain ⟨K6, hK6⟩ : ∃ K, K = K7 * 256 + p6 := ⟨_, rfl⟩
  obtain ⟨K5, hK5⟩ : ∃ K, K = K6 * 256 + p5 := ⟨_, rfl⟩
  obtain ⟨K4, hK4⟩ : ∃ K, K = K5 * 256 + p4 := ⟨_, rfl⟩
  obtain ⟨K3, hK3⟩ : ∃ K, K = K4 * 256 + p3 := ⟨_, rfl⟩
  obtain ⟨K2, hK2⟩ : ∃ K, K = K3 * 256 + p2 := ⟨_, rfl⟩
  obtain ⟨K1, hK1⟩ : ∃ K, K = K2 * 256 + p1 := ⟨_, rfl⟩
  obtain ⟨T, hT⟩ : ∃ K, K = K1 * 256 + p0 := ⟨_, rfl⟩
  rw [← hK7, ← hK6, ← hK5, ← hK4, ← hK3, ← hK2, ← hK1, ← hT]
  rw [Nat.zero_mul, Nat.zero_add] at hK7
  have l7 : K7 ≤ 8 := by omega
  have l6 : K6 ≤ 2056 := by omega
  have l5 : K5 ≤ 526344 := by omega
  have l4 : K4 ≤ 134744072 := by omega
  have l3 : K3 ≤ 34494482440 := by omega
  have l2 : K2 ≤ 8830587504648 := by omega
  have l1 : K1 ≤ 2260630401189896 := by omega
  have l0 : T ≤ 578721382704613384 := by omega
  have d1 : T / 256 = K1 := by omega
  have d2 : (T + K1) / 65536 = K2 + K3 := by clear hK7 hK6 hK5 hK4; omega
  have d3 : (T + K1 + (K2 + K3)) / 4294967296 = K4 + K5 + (K6 + K7) := by
    have e : T + K1 + (K2 + K3) = (K4 + K5 + (K6 + K7)) * 4294967296 + ((p3 + p4 + (p5 + p6)) * 16777216 + (p2 + p3 + (p4 + p5)) * 65536 + (p1 + p2 + (p3 + p4)) * 256 + (p0 + p1 + (p2 + p3))) := by omega
    rw [e]
    clear e hK7 hK6 hK5 hK4 hK3 hK2 hK1 hT d1 d2
    omega
  refine ⟨T, T + K1, T + K1 + (K2 + K3), T + K1 + (K2 + K3) + (K4 + K5 + (K6 + K7)), rfl, l0, by rw [d1], by omega, by rw [d2], by omega, by rw [d3], by omega, ?_⟩
  clear d1 d2 d3 l0 l1 l2 l3 l4 l5 l6 l7
  have e : T + K1 + (K2 + K3) + (K4 + K5 + (K6 + K7)) = 128 * (2 * (K1 + K2 + K3 + K4 + K5 + K6 + K7)) + (p0 + p1 + p2 + p3 + p4 + p5 + p6 + p7) := by omega
  rw [e, Nat.mul_add_mod]
  clear e
  omega

end Go.Proofs.YthbnecdeebmlhaaGreat

namespace Go.Proofs.YthbnecdeebmlhaaGreat

/-- Bits with noughts behind them: 64. -/
def wbits (l : List Bool) (k : Nat) : List Bool := (l.drop (64 * k)).take 64 ++ List.replicate (64 - ((l.drop (64 * k)).take 64).length) false
def word (l : List Bool) (k : Nat) : Nat := val (wbits l k)
def words (l : List Bool) (n : Nat) : List Nat := (List.range n).map (word l)
def aheads (l : List Bool) (n : Nat) : List Nat := (List.range n).map fun k => ones l (64 * k)
/-- How many words. -/
def nw (l : List Bool) : Nat := (l.length + 63) / 64

theorem words_length (l : List Bool) (n : Nat) : (words l n).length = n := by simp [words]
theorem aheads_length (l : List Bool) (n : Nat) : (aheads l n).length = n := by simp [aheads]
theorem words_at (l : List Bool) (n k : Nat) (h : k < n) : (words l n)[k]'(by rw [words_length]; exact h) = word l k := by simp [words]
theorem aheads_at (l : List Bool) (n k : Nat) (h : k < n) : (aheads l n)[k]'(by rw [aheads_length]; exact h) = ones l (64 * k) := by simp [aheads]
theorem words_succ (l : List Bool) (n : Nat) : words l (n + 1) = words l n ++ [word l n] := by simp [words, List.range_succ]
theorem aheads_succ (l : List Bool) (n : Nat) : aheads l (n + 1) = aheads l n ++ [ones l (64 * n)] := by simp [aheads, List.range_succ]
theorem wbits_length (l : List Bool) (k : Nat) : (wbits l k).length = 64 := by
  unfold wbits
  rw [List.length_append, List.length_replicate, List.length_take]
  omega
theorem word_lt (l : List Bool) (k : Nat) : word l k < 18446744073709551616 := by
  have h := val_lt (wbits l k)
  rw [wbits_length] at h
  exact h
theorem val_false (n : Nat) : val (List.replicate n false) = 0 := by
  induction n with
  | zero => rfl
  | succ n ih => rw [List.replicate_succ, val_cons, ih]; simp [bv]
/-- A word, by the number that its bits are. -/
theorem word_shift (l : List Bool) (k t : Nat) (ht : t = min 64 (l.length - 64 * k)) : word l k = val ((l.drop (64 * k)).take t) * 2 ^ (64 - t) := by
  have h1 : (l.drop (64 * k)).take 64 = (l.drop (64 * k)).take t := by
    rcases Nat.lt_or_ge (l.length - 64 * k) 64 with h | h
    · rw [List.take_of_length_le (by rw [List.length_drop]; omega), List.take_of_length_le (by rw [List.length_drop]; omega)]
    · rw [show t = 64 from by omega]
  unfold word wbits
  rw [h1]
  have h2 : ((l.drop (64 * k)).take t).length = t := by rw [List.length_take, List.length_drop]; omega
  rw [h2, val_append, val_false, List.length_replicate, Nat.add_zero]
/-- How many of a number's digits are set: of bits as many as they have. -/
theorem pop_val (m : List Bool) (h : m.length ≤ 64) : (numB (val m) 64).count true = m.count true := by
  have h1 := numB_split (val m) m.length (64 - m.length)
  rw [show 64 - m.length + m.length = 64 from by omega, numB_val, Nat.div_eq_of_lt (val_lt m)] at h1
  rw [h1, List.count_append]
  have h2 : ∀ n, (numB 0 n).count true = 0 := by
    intro n
    induction n with
    | zero => rfl
    | succ n ih => rw [numB, List.count_cons, ih]; simp [bit]
  rw [h2, Nat.zero_add]
theorem ones_more (l : List Bool) (a t : Nat) : ones l (a + t) = ones l a + ((l.drop a).take t).count true := by
  unfold ones
  rw [List.take_add, List.count_append]
theorem wbits_take (l : List Bool) (k t : Nat) (h : t ≤ 64) : ((wbits l k).take t).count true = ((l.drop (64 * k)).take t).count true := by
  unfold wbits
  rw [List.take_append, List.take_take, Nat.min_eq_left h, List.count_append]
  have : ((List.replicate (64 - ((l.drop (64 * k)).take 64).length) false).take (t - ((l.drop (64 * k)).take 64).length)).count true = 0 := by
    rw [List.count_eq_zero]
    intro hm
    have := List.mem_of_mem_take hm
    rw [List.mem_replicate] at this
    cases this.2
  omega
/-- The ones ahead of a place, by its word. -/
theorem ones_word (l : List Bool) (i k s : Nat) (h0 : 0 < i) (hk : k = (i - 1) / 64) (hs : s = (k + 1) * 64 - i) : ones l i = ones l (64 * k) + (numB (word l k / 2 ^ s) 64).count true := by
  have h1 := ones_more l (64 * k) (64 - s)
  rw [show 64 * k + (64 - s) = i from by omega] at h1
  have h2 := val_take (wbits l k) (64 - s)
  rw [wbits_length, show 64 - (64 - s) = s from by omega] at h2
  rw [h1]
  unfold word
  rw [← h2, pop_val _ (by rw [List.length_take, wbits_length]; omega), wbits_take _ _ _ (by omega)]
/-- The ones behind a word. -/
theorem ones_word_all (l : List Bool) (k : Nat) : ones l (64 * (k + 1)) = ones l (64 * k) + (wbits l k).count true := by
  have h1 := ones_more l (64 * k) 64
  rw [show 64 * k + 64 = 64 * (k + 1) from by omega] at h1
  rw [h1]
  have h2 := wbits_take l k 64 (Nat.le_refl _)
  rw [List.take_of_length_le (by rw [wbits_length]; omega)] at h2
  rw [h2]
/-- The ones of a word's digits as they stand at the lower end. -/
theorem pop_low (l : List Bool) (k t : Nat) (ht : t = min 64 (l.length - 64 * k)) : ones l (64 * (k + 1)) = ones l (64 * k) + (numB (val ((l.drop (64 * k)).take t)) 64).count true := by
  have h1 := ones_more l (64 * k) 64
  rw [show 64 * k + 64 = 64 * (k + 1) from by omega] at h1
  have h2 : (l.drop (64 * k)).take 64 = (l.drop (64 * k)).take t := by
    rcases Nat.lt_or_ge (l.length - 64 * k) 64 with h | h
    · rw [List.take_of_length_le (by rw [List.length_drop]; omega), List.take_of_length_le (by rw [List.length_drop]; omega)]
    · rw [show t = 64 from by omega]
  rw [h1, h2, pop_val _ (by rw [List.length_take]; omega)]
theorem wbits_at (l : List Bool) (k q : Nat) (hq : q < 64) : (wbits l k).getD q false = l.getD (64 * k + q) false := by
  unfold wbits
  simp only [List.getD_eq_getElem?_getD]
  rcases Nat.lt_or_ge q ((l.drop (64 * k)).take 64).length with h | h
  · rw [List.getElem?_append_left h, List.getElem?_take, if_pos hq, List.getElem?_drop]
  · rw [List.getElem?_append_right h]
    rw [List.length_take, List.length_drop] at h
    rw [List.getElem?_eq_none (l := l) (by omega)]
    rw [List.getElem?_replicate]
    split <;> rfl
theorem wbits_ones (l : List Bool) (k q : Nat) (hq : q ≤ 64) : ones l (64 * k + q) = ones l (64 * k) + ones (wbits l k) q := by
  rw [ones_more]
  unfold ones
  rw [wbits_take l k q hq]
/-- The place of the n-th one by that in its word. -/
theorem place_word (l : List Bool) (n k q : Nat) (h0 : ones l (64 * k) ≤ n) (hp : place (wbits l k) (n - ones l (64 * k)) = some q) : place l n = some (64 * k + q) := by
  obtain ⟨h1, h2, h3⟩ := place_some hp
  rw [wbits_length] at h1
  rw [wbits_at l k q h1] at h2
  have h4 := wbits_ones l k q (by omega)
  rw [h3] at h4
  have hlen : 64 * k + q < l.length := by
    rcases Nat.lt_or_ge (64 * k + q) l.length with h | h
    · exact h
    · rw [List.getD_eq_getElem?_getD, List.getElem?_eq_none h] at h2
      cases h2
  rw [List.getD_eq_getElem?_getD, List.getElem?_eq_getElem hlen] at h2
  have h5 := place_at l (64 * k + q) hlen (by simpa using h2)
  rw [show ones l (64 * k + q) = n from by omega] at h5
  exact h5
/-- The next one that is set, from a place on. -/
theorem next_one (m : List Bool) (q k : Nat) (hq : ones m q = k) (hk : k < m.count true) : ∃ p, q ≤ p ∧ p < m.length ∧ place m k = some p ∧ ones m (p + 1) = k + 1 ∧ val (m.drop q) = 2 ^ (m.length - (p + 1)) + val (m.drop (p + 1)) ∧ val (m.drop (p + 1)) < 2 ^ (m.length - (p + 1)) ∧ digits (val (m.drop q)) = m.length - p := by
  cases hp : place m k with
  | none => have := (place_none m k).1 hp; omega
  | some p =>
    obtain ⟨h1, h2, h3⟩ := place_some hp
    have hb : m[p] = true := by simpa [List.getD_eq_getElem?_getD, h1] using h2
    have hs := ones_succ m p h1
    rw [hb, h3] at hs
    have hqp : q ≤ p := by
      rcases Nat.lt_or_ge p q with h | h
      · have := ones_mono m (show p + 1 ≤ q from h)
        simp [bv] at hs
        omega
      · exact h
    have hval : ∀ d, q + d ≤ p → val (m.drop q) = val (m.drop (q + d)) := by
      intro d
      induction d with
      | zero => intro _; rfl
      | succ d ih =>
        intro hd
        rw [ih (by omega)]
        have hlt : q + d < m.length := by omega
        rw [List.drop_eq_getElem_cons hlt, val_cons]
        have e1 := ones_mono m (show q ≤ q + d from by omega)
        have e2 := ones_mono m (show q + d + 1 ≤ p from by omega)
        have e3 := ones_succ m (q + d) hlt
        have e4 : bv m[q + d] = 0 := by omega
        rw [e4, Nat.zero_mul, Nat.zero_add, Nat.add_assoc]
    have hv := hval (p - q) (by omega)
    rw [show q + (p - q) = p from by omega, List.drop_eq_getElem_cons h1, val_cons, hb] at hv
    have hl : (m.drop (p + 1)).length = m.length - (p + 1) := List.length_drop
    have hlt := val_lt (m.drop (p + 1))
    rw [hl] at hv hlt
    have e1 : bv true = 1 := rfl
    rw [e1, Nat.one_mul] at hv
    refine ⟨p, hqp, h1, rfl, by simpa [bv] using hs, hv, hlt, ?_⟩
    rw [hv, digits_eq (k := m.length - (p + 1)) (by omega) (by rw [Nat.pow_succ]; omega)]
    omega
theorem xor_top (y k : Nat) (h : y < 2 ^ k) : (2 ^ k + y) ^^^ 2 ^ k = y := by
  have e : 2 ^ k + y = y ^^^ 2 ^ k := by
    apply Nat.eq_of_testBit_eq
    intro i
    rw [Nat.testBit_xor, Nat.testBit_two_pow]
    by_cases hi : k = i
    · subst hi
      rw [Nat.testBit_two_pow_add_eq, Nat.testBit_lt_two_pow h]
      simp
    · rcases Nat.lt_or_gt_of_ne hi with h1 | h1
      · rw [Nat.testBit_lt_two_pow (x := y) (Nat.lt_trans h (Nat.pow_lt_pow_right (by omega) h1))]
        have : 2 ^ k + y < 2 ^ i := by
          have h2 : 2 ^ (k + 1) ≤ 2 ^ i := Nat.pow_le_pow_right (by omega) h1
          rw [Nat.pow_succ] at h2
          omega
        rw [Nat.testBit_lt_two_pow this]
        simp [hi]
      · rw [Nat.testBit_two_pow_add_gt h1]
        simp [hi]
  rw [e, Nat.xor_assoc, Nat.xor_self, Nat.xor_zero]

end Go.Proofs.YthbnecdeebmlhaaGreat

namespace Go.Proofs.YthbnecdeebmlhaaGreat
open Go.RowKit

theorem and_le_r (a m : Nat) : (a &&& m) ≤ m := Nat.and_le_right
set_option maxHeartbeats 1000000 in
set_option maxRecDepth 100000 in
theorem ones64_c (x : Nat) (w : World) (hx : x < 18446744073709551616) :
    Calls Tryz.prog 76 #[.int .u64 (x : Int)] w fun e w' => e = .returned (.int .i64 ((numB x 64).count true : Int)) ∧ w = w' := by
  have hT := popS_T 8 x
  obtain ⟨T, A, B, C, h1, h2, h3, h4, h5, h6, h7, h8, h9⟩ := popT_sum x
  rw [h1] at hT
  unfold popS3 popS2 popS1 at hT
  rw [rep85, rep51, rep15] at hT
  generalize (numB x 64).count true = c at *
  obtain ⟨a1, ea1⟩ : ∃ q, q = x / 2 &&& 6148914691236517205 := ⟨_, rfl⟩
  obtain ⟨a2, ea2⟩ : ∃ q, q = x &&& 6148914691236517205 := ⟨_, rfl⟩
  have la1 : a1 ≤ 6148914691236517205 := by rw [ea1]; exact and_le_r _ _
  have la2 : a2 ≤ 6148914691236517205 := by rw [ea2]; exact and_le_r _ _
  rw [← ea1, ← ea2] at hT
  obtain ⟨s1, es1⟩ : ∃ q, q = a1 + a2 := ⟨_, rfl⟩
  rw [← es1] at hT
  obtain ⟨b1, eb1⟩ : ∃ q, q = s1 / 4 &&& 3689348814741910323 := ⟨_, rfl⟩
  obtain ⟨b2, eb2⟩ : ∃ q, q = s1 &&& 3689348814741910323 := ⟨_, rfl⟩
  have lb1 : b1 ≤ 3689348814741910323 := by rw [eb1]; exact and_le_r _ _
  have lb2 : b2 ≤ 3689348814741910323 := by rw [eb2]; exact and_le_r _ _
  rw [← eb1, ← eb2] at hT
  obtain ⟨s2, es2⟩ : ∃ q, q = b1 + b2 := ⟨_, rfl⟩
  rw [← es2] at hT
  obtain ⟨s3, es3⟩ : ∃ q, q = s2 / 16 + s2 := ⟨_, rfl⟩
  rw [← es3] at hT
  have k1 := u64_and_nat (x / 2) 6148914691236517205 (by omega) (by omega)
  have k2 := u64_and_nat x 6148914691236517205 hx (by omega)
  have k3 := u64_and_nat (s1 / 4) 3689348814741910323 (by omega) (by omega)
  have k4 := u64_and_nat s1 3689348814741910323 (by omega) (by omega)
  have k5 := u64_and_nat s3 1085102592571150095 (by omega) (by omega)
  rw [show ((x / 2 : Nat) : Int) = (x : Int) / 2 from by omega] at k1
  rw [show ((s1 / 4 : Nat) : Int) = (s1 : Int) / 4 from by omega] at k3
  rw [show ((6148914691236517205 : Nat) : Int) = 6148914691236517205 from rfl] at k1 k2
  rw [show ((3689348814741910323 : Nat) : Int) = 3689348814741910323 from rfl] at k3 k4
  rw [show ((1085102592571150095 : Nat) : Int) = 1085102592571150095 from rfl] at k5
  have w1 : IntKind.u64.wrap ((a1 : Int) + (a2 : Int)) = (s1 : Int) := by rw [IntKind.wrap_u64]; omega
  have w2 : IntKind.u64.wrap ((b1 : Int) + (b2 : Int)) = (s2 : Int) := by rw [IntKind.wrap_u64]; omega
  have w3 : IntKind.u64.wrap ((s2 : Int) / 16 + (s2 : Int)) = (s3 : Int) := by rw [IntKind.wrap_u64]; omega
  have w4 : IntKind.u64.wrap ((T : Int) + (T : Int) / 256) = (A : Int) := by rw [IntKind.wrap_u64]; omega
  have w5 : IntKind.u64.wrap ((A : Int) + (A : Int) / 65536) = (B : Int) := by rw [IntKind.wrap_u64]; omega
  have w6 : IntKind.u64.wrap ((B : Int) + (B : Int) / 4294967296) = (C : Int) := by rw [IntKind.wrap_u64]; omega
  have w7 : IntKind.i64.wrap (C : Int) = (C : Int) := by rw [IntKind.wrap_i64]; omega
  rw [← ea1] at k1
  rw [← ea2] at k2
  rw [← eb1] at k3
  rw [← eb2] at k4
  rw [hT] at k5
  have w8 : bits .and .i64 (C : Int) 127 = (c : Int) := by
    rw [i64_and127]
    omega
  clear ea1 ea2 eb1 eb2 es1 es2 es3 hT h1 h2 h3 h4 h5 h6 h7 h8 h9 la1 la2 lb1 lb2
  go_enter Tryz.func76, Tryz.ntmps76
  go_wp2_with fail

  go_ret
  exact ⟨rfl, rfl⟩

end Go.Proofs.YthbnecdeebmlhaaGreat

namespace Go.Proofs.YthbnecdeebmlhaaGreat
open Go.RowKit

/-- The struct at block b: the first j words of l, the counts ahead of the first k; all lies from block B on. -/
structure RKW (w : World) (B b : Nat) (v1 v2 : Value) (l : List Bool) (j k : Nat) : Prop where
  blk : w.heap[b]? = some (.cells #[v1, v2, .int .i64 (l.length : Int)] 123)
  ws : OwnV 74 w B v1 (zi .u64 (words l j))
  hs : OwnV 3 w B v2 (zi .i64 (aheads l k))
  low : B ≤ b

section
variable {w w' : World} {B b : Nat} {v1 v2 : Value} {l : List Bool} {j k : Nat}
theorem RKW.lt (h : RKW w B b v1 v2 l j k) : b < w.heap.size := (Array.getElem?_eq_some_iff.1 h.blk).1
theorem RKW.c0 (h : RKW w B b v1 v2 l j k) : w.cell? ⟨b, 0, none⟩ = some v1 := by rw [cell_of_row w b 0 _ _ _ h.blk]; rfl
theorem RKW.c1 (h : RKW w B b v1 v2 l j k) : w.cell? ⟨b, 1, none⟩ = some v2 := by rw [cell_of_row w b 1 _ _ _ h.blk]; rfl
theorem RKW.c2 (h : RKW w B b v1 v2 l j k) : w.cell? ⟨b, 2, none⟩ = some (.int .i64 (l.length : Int)) := by rw [cell_of_row w b 2 _ _ _ h.blk]; rfl
theorem RKW.below (h : RKW w B b v1 v2 l j k) (hb : Below w.heap.size w w') : RKW w' B b v1 v2 l j k := ⟨(hb.block b h.lt).trans h.blk, h.ws.below hb, h.hs.below hb, h.low⟩
theorem OwnV.same {e : TypeId} {v : Value} {xs : List Value} (h : OwnV e w B v xs) (hk : ∀ g, g < w.heap.size → B ≤ g → v.ownBlock = some g → w'.heap[g]? = w.heap[g]?) : OwnV e w' B v xs := by
  refine ⟨h.1, ?_⟩
  rcases h.2 with h' | ⟨g, cap, cur, e1, hB, e2, e3⟩
  · exact .inl h'
  · subst e1
    exact .inr ⟨g, cap, cur, rfl, hB, (hk g (Array.getElem?_eq_some_iff.1 e2).1 hB rfl).trans e2, e3⟩
end

/-- r, a *rank.Rank, counts the bits l; what it holds lies from block B on. -/
def RK (w : World) (B : Nat) (r : Option Addr) (l : List Bool) : Prop :=
  l.length ≤ 1000000 ∧ ((r = none ∧ l = []) ∨ ∃ b v1 v2, r = some ⟨b, 0, none⟩ ∧ RKW w B b v1 v2 l (nw l) (nw l))
theorem RK.below {w w' : World} {B : Nat} {r : Option Addr} {l : List Bool} (h : RK w B r l) (hb : Below w.heap.size w w') : RK w' B r l := by
  refine ⟨h.1, ?_⟩
  rcases h.2 with h' | ⟨b, v1, v2, h1, h2⟩
  · exact .inl h'
  · exact .inr ⟨b, v1, v2, h1, h2.below hb⟩
set_option maxRecDepth 100000 in
theorem rlen_w (w : World) (B : Nat) (r : Option Addr) (l : List Bool) (h : RK w B r l) :
    Calls Tryz.prog 113 #[.pointer r] w fun e w' => e = .returned (.int .i64 (l.length : Int)) ∧ w = w' := by
  rcases h.2 with ⟨rfl, rfl⟩ | ⟨b, v1, v2, rfl, h2⟩
  · clear h
    go_enter Tryz.func113, Tryz.ntmps113
    go_wp2_with fail
    go_ret
    exact ⟨rfl, rfl⟩
  · have c2 := h2.c2
    clear h h2
    go_enter Tryz.func113, Tryz.ntmps113
    go_wp2_with fail
    go_ret
    exact ⟨rfl, rfl⟩
theorem run_idxW (b n cap j : Nat) (h : j < n) (W : World) : (Instr.indexAt 121 (.slice (some ⟨b, 0, none⟩) n cap) (.int .i64 (j : Int))).run Tryz.prog W = .ok (.pointer (some ⟨b, j, none⟩)) W := by
  obtain ⟨i, hi, -, hsize, -⟩ := info_parts (show (Tryz.prog.info? 74).map (fun i => (i.zero, i.size, i.bytes)) = some (some (.int .u64 0), 1, 8) by kernel_rfl)
  have he : Tryz.prog.elem 121 = 74 := by kernel_rfl
  have hs : (sizeOf 74).run Tryz.prog W = .ok 1 W := by simp [sizeOf, typeInfo, hi, hsize]
  have hadd : (⟨b, 0, none⟩ : Addr).add j = ⟨b, j, none⟩ := by unfold Addr.add; split <;> simp_all
  rw [run_indexAt_slice W _ _ _ _ _ _ (by rw [he]; exact Tryz.underlying121), if_pos ⟨by omega, by omega⟩, he, hs]
  simp [Result.andThen, hadd]
theorem run_idxA (b n cap j : Nat) (h : j < n) (W : World) : (Instr.indexAt 108 (.slice (some ⟨b, 0, none⟩) n cap) (.int .i64 (j : Int))).run Tryz.prog W = .ok (.pointer (some ⟨b, j, none⟩)) W := by
  obtain ⟨i, hi, -, hsize, -⟩ := info_parts (show (Tryz.prog.info? 3).map (fun i => (i.zero, i.size, i.bytes)) = some (some (.int .i64 0), 1, 8) by kernel_rfl)
  have he : Tryz.prog.elem 108 = 3 := by kernel_rfl
  have hs : (sizeOf 3).run Tryz.prog W = .ok 1 W := by simp [sizeOf, typeInfo, hi, hsize]
  have hadd : (⟨b, 0, none⟩ : Addr).add j = ⟨b, j, none⟩ := by unfold Addr.add; split <;> simp_all
  rw [run_indexAt_slice W _ _ _ _ _ _ (by rw [he]; exact Tryz.underlying108), if_pos ⟨by omega, by omega⟩, he, hs]
  simp [Result.andThen, hadd]
/-- A row of the call's own, open: its block and cells. -/
theorem OwnV.open {e : TypeId} {w : World} {B : Nat} {v : Value} {xs : List Value} (h : OwnV e w B v xs) (hne : 0 < xs.length) : ∃ g cap, v = .slice (some ⟨g, 0, none⟩) xs.length cap ∧ g < w.heap.size ∧ B ≤ g ∧ ∀ i (hi : i < xs.length), w.cell? ⟨g, i, none⟩ = some xs[i] := by
  rcases h.2 with ⟨-, h0⟩ | ⟨g, cap, cur, rfl, hB, hg, h1, h2, h3, h4⟩
  · omega
  · refine ⟨g, cap, rfl, (Array.getElem?_eq_some_iff.1 hg).1, hB, fun i hi => ?_⟩
    rw [cell_of_row w g i _ _ _ hg]
    obtain ⟨y, hy⟩ : ∃ y, y = xs[i] := ⟨_, rfl⟩
    have h5 : xs[i]? = some y := by rw [hy]; exact List.getElem?_eq_getElem hi
    rw [← hy]
    clear hy
    rw [← h4, List.getElem?_take] at h5
    split at h5
    · rw [Array.getElem?_toList] at h5
      exact h5
    · cases h5

set_option maxHeartbeats 1000000 in
set_option maxRecDepth 100000 in
theorem rones_d (i : Int) (w : World) (B : Nat) (r : Option Addr) (l : List Bool) (h : RK w B r l) (h0 : -9223372036854775808 ≤ i) (h1 : i ≤ 9223372036854775807) :
    Calls Tryz.prog 112 #[.pointer r, .int .i64 i] w fun e w' => e = .returned (.int .i64 (onesI l i : Int)) ∧ ∃ m, w' = w.drewN m := by
  have C := Go.Lib.hid (rlen_w w B r l h)
  have hl := h.1
  by_cases hle : min i (l.length : Int) ≤ 0
  · have hz : onesI l i = 0 := by
      unfold onesI
      split
      · rfl
      · by_cases h2 : i ≤ 0
        · rw [show i.toNat = 0 from by omega]; rfl
        · have : l.length = 0 := by omega
          rw [List.eq_nil_of_length_eq_zero this]
          simp [ones]
    rw [hz]
    generalize l.length = n at *
    clear h hz
    go_enter Tryz.func112, Tryz.ntmps112
    go_wp2_with fail
    refine C.out.mono ?_
    rintro e w1 ⟨rfl, rfl⟩
    go_wp2_with fail
    go_ret
    exact ⟨rfl, 0, rfl⟩
  · obtain ⟨m, hm⟩ : ∃ m : Nat, min i (l.length : Int) = (m : Int) := ⟨(min i (l.length : Int)).toNat, by omega⟩
    have hm0 : 0 < m := by omega
    have hml : m ≤ l.length := by omega
    have ho : onesI l i = ones l m := by
      unfold onesI
      rw [if_neg (by omega)]
      rcases Int.le_total i (l.length : Int) with h2 | h2
      · rw [show i.toNat = m from by omega]
      · rw [ones_all l i.toNat (by omega), show m = l.length from by omega, ones_all l _ (Nat.le_refl _)]
    rw [ho]
    obtain ⟨k, hk⟩ : ∃ k, k = (m - 1) / 64 := ⟨_, rfl⟩
    obtain ⟨s, hs⟩ : ∃ s, s = (k + 1) * 64 - m := ⟨_, rfl⟩
    rw [ones_word l m k s hm0 hk hs]
    have hkn : k < nw l := by unfold nw; omega
    rcases h.2 with ⟨rfl, rfl⟩ | ⟨b, v1, v2, rfl, h2⟩
    · simp at hml; omega
    · have cW := Go.Lib.hid h2
      clear h
      have hwl := Nat.lt_of_le_of_lt (Nat.div_le_self (word l k) (2 ^ s)) (word_lt l k)
      have hones := ones_le l (64 * k)
      obtain ⟨g1, p1, e1, l1, -, c1⟩ := h2.ws.open (by rw [zi_length, words_length]; omega)
      obtain ⟨g2, p2, e2, l2, -, c2⟩ := h2.hs.open (by rw [zi_length, aheads_length]; omega)
      have d1 := c1 k (by rw [zi_length, words_length]; exact hkn)
      have d2 := c2 k (by rw [zi_length, aheads_length]; exact hkn)
      rw [zi_at _ _ _ (by rw [words_length]; exact hkn), words_at l _ _ hkn] at d1
      rw [zi_at _ _ _ (by rw [aheads_length]; exact hkn), aheads_at l _ _ hkn] at d2
      rw [zi_length, words_length] at e1
      rw [zi_length, aheads_length] at e2
      subst e1 e2
      have q0 := h2.c0
      have q1 := h2.c1
      have hbl := h2.lt
      clear c1 c2 h2 cW ho
      have hcp := ones64_c (word l k / 2 ^ s)
      have hc64 : (numB (word l k / 2 ^ s) 64).count true ≤ 64 := by
        have : (numB (word l k / 2 ^ s) 64).count true ≤ (numB (word l k / 2 ^ s) 64).length := List.count_le_length
        rwa [numB_length] at this
      have hx : (word l k : Int) / 2 ^ s = ((word l k / 2 ^ s : Nat) : Int) := by simp
      have hqk : ((m : Int) - 1) / 64 = (k : Int) := by omega
      have hss : ((k : Int) + 1) * 64 - (m : Int) = (s : Int) := by omega
      have hlm : k + 1 ≤ 15626 := by omega
      have hs64 : s < 64 := by omega
      generalize (numB (word l k / 2 ^ s) 64).count true = c at *
      generalize word l k / 2 ^ s = y at *
      generalize ones l (64 * k) = o at *
      generalize word l k = x at *
      generalize l.length = n at *
      generalize nw l = nn at *
      have ix1 := run_idxW g1 nn p1 k hkn
      have ix2 := run_idxA g2 nn p2 k hkn
      have CP := fun W => Go.Lib.hid (hcp W hwl)
      clear hcp hk hs hle h0 h1 hl
      go_enter Tryz.func112, Tryz.ntmps112
      go_wp2_with fail
      refine C.out.mono ?_
      rintro e w1 ⟨rfl, rfl⟩
      go_upto_region 6 with (fail)
      rw [hqk]
      have hwr : IntKind.i64.wrap ((o : Int) + (c : Int)) = ((o + c : Nat) : Int) := by rw [IntKind.wrap_i64]; omega
      have hdv : (x : Int) / 2 ^ s = (y : Int) := hx
      go_quiet ((go_at_call 76; exact Calls.quiet_of_same ((CP _).out.mono fun _ _ ⟨h, hw⟩ => ⟨h, hw.symm⟩)))
      go_wp2_with fail
      go_ret
      exact ⟨by first | rfl | (rw [hwr]), _, rfl⟩
end Go.Proofs.YthbnecdeebmlhaaGreat

namespace Go.Proofs.YthbnecdeebmlhaaGreat
open Go.RowKit

/-- A piece of what reads as l reads as that piece. -/
theorem RS.cut {w : World} {a : Option Addr} {len cap : Nat} {l : List RecT} (h : RS w (.slice a len cap) l) (i j : Nat) (hij : i ≤ j) (hj : j ≤ l.length) : RS w (sliced a i j cap 5) ((l.take j).drop i) := by
  obtain ⟨a', cap', hv, h1, h2, h3, h4⟩ := h
  cases hv
  have hlen : ((l.take j).drop i).length = j - i := by simp; omega
  unfold sliced
  refine ⟨_, cap - i, by rw [hlen], by rw [hlen]; omega, by omega, ?_, fun hne => ?_⟩
  · intro hn
    by_cases hc : cap = i
    · omega
    · rw [if_neg hc] at hn
      have := h3 (by simpa using hn)
      omega
  · have hji : i < j := by
      rcases Nat.lt_or_ge i j with h | h
      · exact h
      · exact absurd (List.eq_nil_of_length_eq_zero (by rw [hlen]; omega)) hne
    have hl : l ≠ [] := by intro e; subst e; simp at hj; omega
    obtain ⟨b, o, rfl, hc⟩ := h4 hl
    refine ⟨b, o + i * 5, ?_, fun q hq => ?_⟩
    · rw [if_neg (by omega)]
      have hadd : (⟨b, o, none⟩ : Addr).add (i * 5) = ⟨b, o + i * 5, none⟩ := by unfold Addr.add; split <;> simp_all
      simpa using hadd
    · rw [hlen] at hq
      have hc := hc (i + q) (by omega)
      have e : ((l.take j).drop i)[q] = l[i + q] := by simp
      rw [e, show o + i * 5 + q * 5 = o + (i + q) * 5 by omega]
      exact hc
theorem sizeR (W : World) : (sizeOf (Tryz.prog.elem 22)).run Tryz.prog W = .ok 5 W := by
  obtain ⟨i, hi, -, hsize, -⟩ := info_parts info5
  have he : Tryz.prog.elem 22 = 28 := by kernel_rfl
  rw [he]
  simp [sizeOf, typeInfo, hi, hsize]
theorem elemR : Tryz.prog.underlying 22 = some (.slice (Tryz.prog.elem 22)) := by
  have he : Tryz.prog.elem 22 = 28 := by kernel_rfl
  rw [he]; exact Tryz.underlying22
theorem RS.len {w : World} {a : Option Addr} {len cap : Nat} {l : List RecT} (h : RS w (.slice a len cap) l) : len = l.length ∧ len ≤ cap ∧ cap ≤ maxLen := by
  obtain ⟨a', cap', hv, h1, h2, -⟩ := h
  cases hv
  exact ⟨rfl, h1, h2⟩
end Go.Proofs.YthbnecdeebmlhaaGreat

namespace Go.Proofs.YthbnecdeebmlhaaGreat
open Go.RowKit

def KI : Lay Int := ⟨fun n => [.int .i64 n], 1, 3, 108, .int .i64 0, 8⟩
theorem KI_ok : KI.Ok Tryz.prog := ⟨by decide, fun _ => rfl, fun x u hu => by rw [List.mem_singleton.1 hu]; rfl, Tryz.underlying108, by kernel_rfl, rfl, by decide⟩

theorem KI.at' {w : World} {a : Option Addr} {n cap : Nat} {l : List Int} (h : KI.R w (.slice a n cap) l) (i : Nat) (hi : i < l.length) : ∃ b o, a = some ⟨b, o, none⟩ ∧ n = l.length ∧ b < w.heap.size ∧ w.cell? ⟨b, o + i, none⟩ = some (.int .i64 l[i]) := by
  obtain ⟨b, o, h1, h2, h3, h4⟩ := h.at KI_ok i hi
  exact ⟨b, o, h1, h2, h3, by have := h4 0 _ rfl; simpa [KI] using this⟩
theorem idxI (b o n cap j : Nat) (h : j < n) (W : World) : (Instr.indexAt 108 (.slice (some ⟨b, o, none⟩) n cap) (.int .i64 (j : Int))).run Tryz.prog W = .ok (.pointer (some ⟨b, o + j, none⟩)) W := by
  have := KI_ok.run_idx b o n cap j h W
  simpa [KI] using this

end Go.Proofs.YthbnecdeebmlhaaGreat

namespace Go.Proofs.YthbnecdeebmlhaaGreat
open Go.RowKit

/-- Of the blocks that there were all but g are as they were. -/
structure Off1 (g : Nat) (w w' : World) : Prop where
  os : w'.os = w.os
  tape : w'.tape = w.tape
  output : w'.output = w.output
  size : w.heap.size ≤ w'.heap.size
  block : ∀ k, k < w.heap.size → k ≠ g → w'.heap[k]? = w.heap[k]?
section
variable {g : Nat} {w w1 w2 w' : World}
theorem Off1.trans (h : Off1 g w w1) (k : Off1 g w1 w2) : Off1 g w w2 :=
  ⟨k.os.trans h.os, k.tape.trans h.tape, k.output.trans h.output, Nat.le_trans h.size k.size, fun i hi hn => (k.block i (Nat.lt_of_lt_of_le hi h.size) hn).trans (h.block i hi hn)⟩
theorem Off1.of_below (h : Below w.heap.size w w') : Off1 g w w' := ⟨h.os, h.tape, h.output, h.size, fun k hk _ => h.block k hk⟩
theorem Off1.above (h : Off1 g w w1) (k : Below w1.heap.size w1 w2) : Off1 g w w2 := h.trans (Off1.of_below k)
end

end Go.Proofs.YthbnecdeebmlhaaGreat

namespace Go.Proofs.YthbnecdeebmlhaaGreat
open Go.RowKit

def hasO (x : Option (Nat × Int)) : Bool := x.isSome
def tagO : Option (Nat × Int) → Nat
  | some x => x.1
  | none => 0
def idO : Option (Nat × Int) → Int
  | some x => x.2
  | none => 0
/-- A slot's cells. -/
def encO (x : Option (Nat × Int)) : List Value := [.bool (hasO x), .int .i64 (tagO x : Int), .int .i64 (idO x)]
/-- A bucket's cells. -/
def rowO (T : SlT) (b : Nat) : List Value := encO (T (4 * b)) ++ (encO (T (4 * b + 1)) ++ (encO (T (4 * b + 2)) ++ encO (T (4 * b + 3))))
theorem rowO_at (T : SlT) (b s j : Nat) (hs : s < 4) (hj : j < 3) : (rowO T b)[3 * s + j]? = (encO (T (4 * b + s)))[j]? := by
  rcases (by omega : s = 0 ∨ s = 1 ∨ s = 2 ∨ s = 3) with rfl | rfl | rfl | rfl <;> rcases (by omega : j = 0 ∨ j = 1 ∨ j = 2) with rfl | rfl | rfl <;> rfl

/-- Block d is a directory whose slots hold T. -/
structure CK (w : World) (d : Nat) (T : SlT) : Prop where
  row : ∃ cs fr, w.heap[d]? = some (.cells cs 143 fr)
  tok : TOk T
  fr : ∀ o, w.frozen? ⟨d, o, none⟩ = false
  has : ∀ q, q < 32 → w.cell? ⟨d, 3 * q, none⟩ = some (.bool (hasO (T q)))
  tag : ∀ q, q < 32 → w.cell? ⟨d, 3 * q + 1, none⟩ = some (.int .i64 (tagO (T q) : Int))
  id : ∀ q, q < 32 → w.cell? ⟨d, 3 * q + 2, none⟩ = some (.int .i64 (idO (T q)))

section
variable {w w' : World} {d : Nat} {T : SlT}
theorem CK.same (h : CK w d T) (hb : w'.heap[d]? = w.heap[d]?) : CK w' d T := by
  have hc : ∀ o, w'.cell? ⟨d, o, none⟩ = w.cell? ⟨d, o, none⟩ := fun o => World.cell?_of_block (w := w) (a := ⟨d, o, none⟩) hb
  obtain ⟨cs, fr, hr⟩ := h.row
  have hf := h.fr 0
  refine ⟨⟨cs, fr, hb.trans hr⟩, h.tok, fun o => ?_, fun q hq => (hc _).trans (h.has q hq), fun q hq => (hc _).trans (h.tag q hq), fun q hq => (hc _).trans (h.id q hq)⟩
  have e := h.fr o
  unfold World.frozen? at e ⊢
  simp only [] at e ⊢
  rw [hb]
  exact e
theorem CK.lt (h : CK w d T) : d < w.heap.size := World.block_lt_of_cell? w _ (h.has 0 (by omega))
theorem CK.below (h : CK w d T) (hb : Below w.heap.size w w') : CK w' d T := h.same (hb.block d h.lt)
theorem CK.cell (h : CK w d T) (q j : Nat) (hq : q < 32) (hj : j < 3) : w.cell? ⟨d, 3 * q + j, none⟩ = (encO (T q))[j]? := by
  rcases (by omega : j = 0 ∨ j = 1 ∨ j = 2) with rfl | rfl | rfl
  · exact h.has q hq
  · exact h.tag q hq
  · exact h.id q hq
theorem CK.range (h : CK w d T) (b : Nat) (hb : b < 8) : w.rangeAt d (12 * b) (rowO T b) := by
  intro k v hv
  have hk : k < 12 := (List.getElem?_eq_some_iff.1 hv).1
  have e := rowO_at T b (k / 3) (k % 3) (by omega) (by omega)
  rw [show 3 * (k / 3) + k % 3 = k by omega, hv] at e
  have c := h.cell (4 * b + k / 3) (k % 3) (by omega) (by omega)
  rw [show 12 * b + k = 3 * (4 * b + k / 3) + k % 3 by omega, c]
  exact e.symm
theorem CK.rangeS (h : CK w d T) (q : Nat) (hq : q < 32) : w.rangeAt d (3 * q) (encO (T q)) := by
  intro k v hv
  have hk : k < 3 := (List.getElem?_eq_some_iff.1 hv).1
  rw [h.cell q k hq hk]
  exact hv
end

theorem keepC {w w' : World} {p : Addr} {u : Value} (h : w.cell? p = some u) (hb : Below w.heap.size w w') : w'.cell? p = some u := (hb.cell (World.block_lt_of_cell? w _ h)).trans h
def idOk (i : Int) : Bool := decide (0 ≤ i ∧ i ≤ 1099511627776)
set_option maxRecDepth 100000 in
theorem cmay_c (i : Int) (w : World) : Calls Tryz.prog 95 #[.int .i64 i] w fun e w' => e = .returned (.bool (idOk i)) ∧ w = w' := by
  by_cases h1 : 0 ≤ i
  · have E := Go.Lib.hid (show idOk i = decide (i ≤ 1099511627776) by unfold idOk; simp [h1])
    go_enter Tryz.func95, Tryz.ntmps95
    go_wp2_with fail
    go_ret
    exact ⟨by rw [E.out]; rfl, rfl⟩
  · have E := Go.Lib.hid (show idOk i = false by unfold idOk; simp [h1])
    go_enter Tryz.func95, Tryz.ntmps95
    go_wp2_with fail
    go_ret
    exact ⟨by rw [E.out]; rfl, rfl⟩

set_option maxRecDepth 100000 in
theorem cpair_c (x : Nat) (w : World) (hx : x < 18446744073709551616) : Calls Tryz.prog 97 #[.int .u64 (x : Int)] w fun e w' => e = .returned (.tuple #[.int .i64 (firstN x : Int), .int .i64 (othN (firstN x) (tagN x) : Int)]) ∧ w = w' := by
  have FA := Go.Lib.hid fun W => hfirst_c x W hx
  have TA := Go.Lib.hid fun W => htag_c x W hx
  have OA := Go.Lib.hid fun W => hother_c (firstN x : Int) (tagN x : Int) W (by have := first_lt x; omega) (by have := first_lt x; omega) (by have := tag_lt x; omega) (by have := tag_lt x; omega)
  rw [otherI_nat (first_lt _) (tag_lt _)] at OA
  generalize othN (firstN x) (tagN x) = o at *
  generalize firstN x = f at *
  generalize tagN x = t at *
  clear hx
  go_enter Tryz.func97, Tryz.ntmps97
  go_wp2_with fail
  refine (FA.out _).mono ?_
  rintro e w1 ⟨rfl, rfl⟩
  go_wp2_with fail
  refine (TA.out _).mono ?_
  rintro e w1 ⟨rfl, rfl⟩
  go_wp2_with fail
  refine (OA.out _).mono ?_
  rintro e w1 ⟨rfl, rfl⟩
  go_wp2_with fail
  go_ret2
  exact ⟨rfl, rfl⟩

def zeroC : Array Value := ((List.replicate 32 [Value.bool false, .int .i64 0, .int .i64 0]).flatten).toArray
theorem infoC : (Tryz.prog.info? 143).map (fun i => (i.zero, i.size)) = some (some (.agg zeroC), 96) := by kernel_rfl
theorem zero_run (W : World) : (zeroValue 143).run Tryz.prog W = .ok (.agg zeroC) W := by
  have h := infoC
  cases hi : Tryz.prog.info? 143 with
  | none => rw [hi] at h; cases h
  | some i =>
    rw [hi] at h
    simp only [Option.map_some, Option.some.injEq, Prod.mk.injEq] at h
    simp [zeroValue, typeInfo, hi, h.1]
set_option maxRecDepth 100000 in
theorem cnew_w (w : World) : Calls Tryz.prog 55 #[] w fun e w' => e = .returned (.pointer (some ⟨w.heap.size, 0, none⟩)) ∧ w' = w.alloc (.cells zeroC 143) := by
  have hz := zero_run
  generalize zeroC = Z at *
  go_enter Tryz.func55, Tryz.ntmps55
  go_wp2_with fail
  go_ret
  exact ⟨rfl, rfl⟩
theorem rep3_at {α : Type} (l : List α) (hl : l.length = 3) (j : Nat) (hj : j < 3) : ∀ n q : Nat, q < n → ((List.replicate n l).flatten)[3 * q + j]? = l[j]?
  | 0, q, h => absurd h (by omega)
  | n + 1, 0, _ => by rw [List.replicate_succ, List.flatten_cons, List.getElem?_append_left (by omega)]; congr 1; omega
  | n + 1, q + 1, h => by
    rw [List.replicate_succ, List.flatten_cons, List.getElem?_append_right (by omega), show 3 * (q + 1) + j - l.length = 3 * q + j by omega]
    exact rep3_at l hl j hj n q (by omega)
theorem zeroC_at (q j : Nat) (hq : q < 32) (hj : j < 3) : zeroC[3 * q + j]? = (encO none)[j]? := by
  unfold zeroC
  rw [List.getElem?_toArray]
  exact rep3_at _ rfl j hj 32 q hq
theorem cnew_c (w : World) : Calls Tryz.prog 55 #[] w fun e w' => ∃ d, e = .returned (.pointer (some ⟨d, 0, none⟩)) ∧ w.heap.size ≤ d ∧ CK w' d (fun _ => none) ∧ Below w.heap.size w w' := by
  refine (cnew_w w).mono ?_
  rintro e w' ⟨rfl, rfl⟩
  have hh := heap_alloc_new w (.cells zeroC 143)
  have hc : ∀ o, (w.alloc (.cells zeroC 143)).cell? ⟨w.heap.size, o, none⟩ = zeroC[o]? := fun o => cell_of_row _ _ _ _ _ _ hh
  refine ⟨w.heap.size, rfl, Nat.le_refl _, ⟨⟨_, _, hh⟩, (fun q x h => by cases h), (fun o => frozen_of_row _ _ _ _ _ hh), fun q hq => ?_, fun q hq => ?_, fun q hq => ?_⟩, (Below.refl _ _).alloc (Nat.le_refl _) _⟩
  · rw [hc]; exact zeroC_at q 0 hq (by omega)
  · rw [hc]; exact zeroC_at q 1 hq (by omega)
  · rw [hc]; exact zeroC_at q 2 hq (by omega)

end Go.Proofs.YthbnecdeebmlhaaGreat

namespace Go.Proofs.YthbnecdeebmlhaaGreat
open Go.RowKit

theorem idxB (d b : Nat) (hb : b < 8) (W : World) : (Instr.indexAt 141 (.pointer (some ⟨d, 0, none⟩)) (.int .i64 (b : Int))).run Tryz.prog W = .ok (.pointer (some ⟨d, 12 * b, none⟩)) W := by
  have hu : Tryz.prog.underlying 141 = some (.array 8 140) := by kernel_rfl
  have hs : (Tryz.prog.info? 140).map (fun i => i.size) = some 12 := by kernel_rfl
  have h8 : ¬ 8 ≤ b := by omega
  have h8' : (b : Int) < 8 := by omega
  cases hi : Tryz.prog.info? 140 with
  | none => rw [hi] at hs; cases hs
  | some i =>
    rw [hi] at hs
    have hs' : i.size = 12 := by simpa using hs
    simp [Instr.indexAt, run_underlying hu, Instr.sureAddr, asIntOf, h8, sizeOf, typeInfo, hi, hs', Result.andThen, Addr.add_mid, Nat.mul_comm]
theorem idxS (d o s : Nat) (hs4 : s < 4) (W : World) : (Instr.indexAt 140 (.pointer (some ⟨d, o, none⟩)) (.int .i64 (s : Int))).run Tryz.prog W = .ok (.pointer (some ⟨d, o + 3 * s, none⟩)) W := by
  have hu : Tryz.prog.underlying 140 = some (.array 4 139) := by kernel_rfl
  have hs : (Tryz.prog.info? 139).map (fun i => i.size) = some 3 := by kernel_rfl
  have h8 : ¬ 4 ≤ s := by omega
  have h8' : (s : Int) < 4 := by omega
  cases hi : Tryz.prog.info? 139 with
  | none => rw [hi] at hs; cases hs
  | some i =>
    rw [hi] at hs
    have hs' : i.size = 3 := by simpa using hs
    simp [Instr.indexAt, run_underlying hu, Instr.sureAddr, asIntOf, h8, sizeOf, typeInfo, hi, hs', Result.andThen, Addr.add_mid, Nat.mul_comm]
/-- What lies in slot s of bucket b. -/
theorem CK.at {w : World} {d : Nat} {T : SlT} (h : CK w d T) {b s : Nat} (hb : b < 8) (hs : s < 4) : w.cell? ⟨d, 12 * b + 3 * s, none⟩ = some (.bool (hasO (T (4 * b + s)))) ∧ w.cell? ⟨d, 12 * b + 3 * s + 1, none⟩ = some (.int .i64 (tagO (T (4 * b + s)) : Int)) ∧ w.cell? ⟨d, 12 * b + 3 * s + 2, none⟩ = some (.int .i64 (idO (T (4 * b + s)))) := by
  rw [show 12 * b + 3 * s = 3 * (4 * b + s) by omega]
  exact ⟨h.has _ (by omega), h.tag _ (by omega), h.id _ (by omega)⟩

set_option maxRecDepth 100000 in
theorem cat_w {w : World} {d : Nat} {T : SlT} (h : CK w d T) {b s : Nat} (hb : b < 8) (hs : s < 4) :
    Calls Tryz.prog 60 #[.pointer (some ⟨d, 0, none⟩), .int .i64 (b : Int), .int .i64 (s : Int)] w fun e w' => e = .returned (.tuple #[.int .i64 (idO (T (4 * b + s))), .int .i64 (tagO (T (4 * b + s)) : Int), .bool (hasO (T (4 * b + s)))]) ∧ Below w.heap.size w w' := by
  obtain ⟨c0, c1, c2⟩ := h.at hb hs
  have hlt := h.lt
  have h1 := idxB d b hb w
  have h2 := idxS d (12 * b) s hs w
  have hbI : (b : Int) < 8 := by omega
  have hsI : (s : Int) < 4 := by omega
  generalize hasO (T (4 * b + s)) = H at *
  generalize tagO (T (4 * b + s)) = t at *
  generalize idO (T (4 * b + s)) = i at *
  go_enter Tryz.func60, Tryz.ntmps60
  go_wp2_with fail
  go_quiet (fail)
  go_wp2_with fail
  go_ret3
  exact ⟨rfl, below_drewN ((Below.refl _ _).alloc (Nat.le_refl _) _) _⟩
theorem cat_some {w : World} {d : Nat} {T : SlT} (h : CK w d T) {b s t : Nat} {i : Int} (hb : b < 8) (hs : s < 4) (ht : T (4 * b + s) = some (t, i)) :
    Calls Tryz.prog 60 #[.pointer (some ⟨d, 0, none⟩), .int .i64 (b : Int), .int .i64 (s : Int)] w fun e w' => e = .returned (.tuple #[.int .i64 i, .int .i64 (t : Int), .bool true]) ∧ Below w.heap.size w w' := by
  have e := cat_w h hb hs
  rw [ht] at e
  exact e
theorem cat_none {w : World} {d : Nat} {T : SlT} (h : CK w d T) {b s : Nat} (hb : b < 8) (hs : s < 4) (ht : T (4 * b + s) = none) :
    Calls Tryz.prog 60 #[.pointer (some ⟨d, 0, none⟩), .int .i64 (b : Int), .int .i64 (s : Int)] w fun e w' => e = .returned (.tuple #[.int .i64 0, .int .i64 0, .bool false]) ∧ Below w.heap.size w w' := by
  have e := cat_w h hb hs
  rw [ht] at e
  exact e
/-! ### Len. -/
theorem idxRow (T : SlT) (b s : Nat) (hs : s < 4) (W : World) : (Instr.index 140 (.agg (rowO T b).toArray) (.int .i64 (s : Int))).run Tryz.prog W = .ok (.agg #[.bool (hasO (T (4 * b + s))), .int .i64 (tagO (T (4 * b + s)) : Int), .int .i64 (idO (T (4 * b + s)))]) W := by
  rcases (by omega : s = 0 ∨ s = 1 ∨ s = 2 ∨ s = 3) with rfl | rfl | rfl | rfl <;> kernel_rfl
def cntT (T : SlT) (k : Nat) : Nat := (List.range k).countP fun q => hasO (T q)
theorem cntT_le (T : SlT) (k : Nat) : cntT T k ≤ k := by
  have := List.countP_le_length (p := fun q => hasO (T q)) (l := List.range k)
  rw [List.length_range] at this
  exact this
theorem cntT_all (T : SlT) : cntT T 32 = (slL T).length := by
  unfold cntT slL
  induction List.range 32 with
  | nil => rfl
  | cons q l ih =>
    rw [List.countP_cons, List.filterMap_cons, ih]
    cases hT : T q <;> simp [hasO]

end Go.Proofs.YthbnecdeebmlhaaGreat

namespace Go.Proofs.YthbnecdeebmlhaaGreat
open Go.RowKit

def KP : Lay (Nat × Nat) := ⟨fun e => [.int .i64 (e.1 : Int), .int .i64 (e.2 : Int)], 2, 149, 144, .agg #[.int .i64 0, .int .i64 0], 16⟩
theorem KP_ok : KP.Ok Tryz.prog := ⟨by decide, fun _ => rfl, fun x u hu => by
  rcases List.mem_cons.1 hu with rfl | hu
  · rfl
  · rw [List.mem_singleton.1 hu]; rfl, Tryz.underlying144, by kernel_rfl, rfl, by decide⟩
theorem KP.one' (w : World) (b s : Nat) : KP.R (w.alloc (.cells #[.int .i64 (b : Int), .int .i64 (s : Int)] 149)) (.slice (some ⟨w.heap.size, 0, none⟩) 1 1) [(b, s)] := Lay.R.one w KP_ok (b, s) 149 (0, 0)
theorem KP.at' {w : World} {a : Option Addr} {n cap : Nat} {l : List (Nat × Nat)} (h : KP.R w (.slice a n cap) l) (i : Nat) (hi : i < l.length) : ∃ b o, a = some ⟨b, o, none⟩ ∧ n = l.length ∧ b < w.heap.size ∧ w.cell? ⟨b, o + i * 2, none⟩ = some (.int .i64 (l[i].1 : Int)) ∧ w.cell? ⟨b, o + i * 2 + 1, none⟩ = some (.int .i64 (l[i].2 : Int)) := by
  obtain ⟨b, o, h1, h2, h3, h4⟩ := h.at KP_ok i hi
  exact ⟨b, o, h1, h2, h3, h4 0 _ rfl, h4 1 _ rfl⟩
theorem idxP (b o n cap j : Nat) (h : j < n) (W : World) : (Instr.indexAt 144 (.slice (some ⟨b, o, none⟩) n cap) (.int .i64 (j : Int))).run Tryz.prog W = .ok (.pointer (some ⟨b, o + j * 2, none⟩)) W := KP_ok.run_idx b o n cap j h W

/-! ### Where entries of a tag lie. -/
def hitO (t : Nat) : Option (Nat × Int) → Bool
  | some x => x.1 == t
  | none => false
theorem hitO_eq (t : Nat) (x : Option (Nat × Int)) : hitO t x = (hasO x && tagO x == t) := by
  cases x <;> rfl
def hitsT (T : SlT) (t b k : Nat) : List (Nat × Nat) := ((List.range k).filter fun s => hitO t (T (4 * b + s))).map fun s => (b, s)
theorem hitsT_succ (T : SlT) (t b k : Nat) : hitsT T t b (k + 1) = hitsT T t b k ++ (if hitO t (T (4 * b + k)) = true then [(b, k)] else []) := by
  unfold hitsT
  rw [List.range_succ, List.filter_append, List.map_append]
  congr 1
  rw [List.filter_cons, List.filter_nil]
  split <;> rfl
theorem hitsT_len (T : SlT) (t b k : Nat) : (hitsT T t b k).length ≤ k := by
  unfold hitsT
  rw [List.length_map]
  have := List.length_filter_le (fun s => hitO t (T (4 * b + s))) (List.range k)
  rw [List.length_range] at this
  exact this
def bkX (x i : Nat) : Nat := if i = 0 then firstN x else othN (firstN x) (tagN x)
theorem bkX_lt (x i : Nat) : bkX x i < 8 := by
  unfold bkX
  split
  · exact first_lt x
  · exact oth_lt _ (first_lt x)
def foundT (T : SlT) (x : Nat) : Nat → List (Nat × Nat)
  | 0 => []
  | i + 1 => foundT T x i ++ hitsT T (tagN x) (bkX x i) 4
theorem foundT_len (T : SlT) (x : Nat) : ∀ i, (foundT T x i).length ≤ 4 * i
  | 0 => by simp [foundT]
  | i + 1 => by have := foundT_len T x i; have := hitsT_len T (tagN x) (bkX x i) 4; rw [foundT, List.length_append]; omega
def placesT (T : SlT) (x : Nat) : List (Nat × Nat) := foundT T x 2

theorem idx2 (f o i : Nat) (hi : i < 2) (W : World) : (Instr.index 133 (.agg #[.int .i64 (f : Int), .int .i64 (o : Int)]) (.int .i64 (i : Int))).run Tryz.prog W = .ok (.int .i64 ((if i = 0 then f else o : Nat) : Int)) W := by
  rcases (by omega : i = 0 ∨ i = 1) with rfl | rfl <;> kernel_rfl

set_option maxHeartbeats 1000000 in
set_option maxRecDepth 100000 in
theorem cplaces_c {w : World} {d : Nat} {T : SlT} (h : CK w d T) {x : Nat} (hx : x < 18446744073709551616) :
    Calls Tryz.prog 101 #[.pointer (some ⟨d, 0, none⟩), .int .u64 (x : Int)] w fun e w' => ∃ v, e = .returned v ∧ KP.O w' w.heap.size v (placesT T x) ∧ Below w.heap.size w w' := by
  have HD := Go.Lib.hid fun W (hW : Below w.heap.size w W) => h.below hW
  have PA := Go.Lib.hid fun W => cpair_c x W hx
  have TA := Go.Lib.hid fun W => htag_c x W hx
  have HR := Go.Lib.hid (idxRow T)
  have HI2 := Go.Lib.hid (show ∀ i : Nat, i < 2 → ∀ W, (Instr.index 133 (.agg #[.int .i64 (firstN x : Int), .int .i64 (othN (firstN x) (tagN x) : Int)]) (.int .i64 (i : Int))).run Tryz.prog W = .ok (.int .i64 (bkX x i : Int)) W from fun i hi W => idx2 _ _ i hi W)
  have HBK := Go.Lib.hid (bkX_lt x)
  have HLEN := Go.Lib.hid (fun b => show (Tryz.prog.info? 140).map (·.size) = some (rowO T b).length by kernel_rfl)
  clear h hx
  generalize hfx : firstN x = fx at *
  generalize hox : othN fx (tagN x) = ox at *
  go_enter Tryz.func101, Tryz.ntmps101
  go_wp2_with fail
  refine (PA.out _).mono ?_
  rintro e w1 ⟨rfl, rfl⟩
  go_wp2_with fail
  go_loopw [5, 22] (fun lv iv wr => ∃ (i : Nat) (u : Value), u = lv ∧ i ≤ 2 ∧ iv = .int .i64 (i : Int) ∧ KP.O wr w.heap.size u (foundT T x i) ∧ Below w.heap.size w wr) (fun _ iv _ => 2 - (intOf iv).toNat)
  case atStart => exact ⟨0, _, rfl, by omega, rfl, Lay.O.nil _ _, Below.refl _ _⟩
  case round =>
    obtain ⟨i, u, rfl, hi, rfl, hO, hbc⟩ := hrel
    by_cases hi2 : i < 2
    · have hiI : (i : Int) < 2 := by omega
      have h2 := HI2.out i hi2
      have hbk := HBK.out i
      have HLB := Go.Lib.hid (foundT_len T x i)
      have HF1 := Go.Lib.hid (show foundT T x (i + 1) = foundT T x i ++ hitsT T (tagN x) (bkX x i) 4 from rfl)
      generalize hbb : bkX x i = bk at *
      have h1 := fun W => idxB d bk hbk W
      have HRG := Go.Lib.hid ((HD.out wr hbc).range bk hbk)
      have HO := Go.Lib.hid hO
      have HB := Go.Lib.hid hbc
      have hir := HR.out bk
      have HL2 := Go.Lib.hid (HLEN.out bk)
      have HS0 := Go.Lib.hid (hitsT_succ T (tagN x) bk)
      have HSL := Go.Lib.hid (hitsT_len T (tagN x) bk)
      have HIT := Go.Lib.hid (fun s => hitO_eq (tagN x) (T (4 * bk + s)))
      generalize foundT T x i = F at *
      generalize rowO T bk = R at *
      clear hO hbc hbb
      go_wp2_with (first
        | ((with_reducible show wpList _ _ _ (⟨some 30, _, _, _, _, _⟩ :: _) _ _); go_loud (refine wpList_load_mid rfl 140 (.tmp 29) rfl d (12 * bk) rfl R _ HRG.out Tryz.underlying140 rfl HL2.out ?_))
        | fail)
      clear h1 h2
      go_loopw [5, 31] (fun lv sv w2 => ∃ (s : Nat) (u : Value), u = lv ∧ s ≤ 4 ∧ sv = .int .i64 (s : Int) ∧ KP.O w2 w.heap.size u (F ++ hitsT T (tagN x) bk s) ∧ Below w.heap.size w w2) (fun _ sv _ => 4 - (intOf sv).toNat)
      case atStart => exact ⟨0, _, rfl, by omega, rfl, by rw [show hitsT T (tagN x) bk 0 = [] from rfl, List.append_nil]; exact HO.out, HB.out⟩
      case round =>
        obtain ⟨s, u2, rfl, hs, rfl, hO, hbc⟩ := hrel
        by_cases hs4 : s < 4
        · have hsI : (s : Int) < 4 := by omega
          have hie := hir s hs4
          have H1 := Go.Lib.hid (HS0.out s)
          have HT1 := Go.Lib.hid (HIT.out s)
          have HLX := Go.Lib.hid (show (F ++ hitsT T (tagN x) bk s).length ≤ 100 by have := HSL.out s; have := HLB.out; rw [List.length_append]; omega)
          have HO2 := Go.Lib.hid hO
          have HB2 := Go.Lib.hid hbc
          clear hO hbc hir
          have hZ0 : ∃ Z, Z = hitsT T (tagN x) bk (s + 1) := ⟨_, rfl⟩
          obtain ⟨Z, hZ0⟩ := hZ0
          rw [← hZ0] at H1
          have HZ0 := Go.Lib.hid hZ0
          clear hZ0
          generalize hitsT T (tagN x) bk s = Y at *
          generalize hitO (tagN x) (T (4 * bk + s)) = hit at *
          generalize tagO (T (4 * bk + s)) = tt at *
          generalize idO (T (4 * bk + s)) = ii at *
          generalize tagN x = tx at *
          have hb1 := (Below.refl wr.heap.size wr).alloc (Nat.le_refl _) (.cells #[.bool (hasO (T (4 * bk + s))), .int .i64 (tt : Int), .int .i64 ii] 139)
          have HO3 := Go.Lib.hid (HO2.out.below hb1)
          have HB3 := Go.Lib.hid (HB2.out.trans (hb1.mono HB2.out.size))
          clear hb1
          generalize hasO (T (4 * bk + s)) = hh at *
          cases hh with
          | false =>
            have HZ := Go.Lib.hid (show F ++ Z = F ++ Y by rw [H1.out, HT1.out]; simp)
            clear H1 HT1
            go_upto_region 11 with (fail)
            go_quiet (fail)
            go_wp2_with fail
            go_roundw
            case rel => exact ⟨s + 1, _, rfl, by omega, by go_num, by rw [← HZ0.out, HZ.out]; exact HO3.out.below (below_drewN (Below.refl _ _) _), below_drewN HB3.out _⟩
            case measure => simp only [intOf]; omega
          | true =>
            by_cases ht : tt = tx
            · have b1 : ((tt : Int) == (tx : Int)) = true := by simp [ht]
              have HZ := Go.Lib.hid (show F ++ Z = (F ++ Y) ++ [(bk, s)] by rw [H1.out, HT1.out]; simp [ht])
              clear H1 HT1 ht
              generalize F ++ Y = FY at *
              go_upto_region 11 with (fail)
              go_quiet ((go_at_call 86; exact Calls.quiet_of_same ((TA.out _).mono fun _ _ ⟨h, hw⟩ => ⟨h, hw.symm⟩)))
              have HOQ := Go.Lib.hid (HO3.out.below (below_drewN (Below.refl _ _) nq))
              have HBQ := Go.Lib.hid (below_drewN HB3.out nq)
              generalize ((wr.alloc (.cells #[.bool true, .int .i64 (tt : Int), .int .i64 ii] 139)).drewN nq) = w3 at *
              have hb4 := (Below.refl w3.heap.size w3).alloc (Nat.le_refl _) (.cells #[.int .i64 (bk : Int), .int .i64 (s : Int)] 149)
              have HO4 := Go.Lib.hid (HOQ.out.below hb4)
              have HB4 := Go.Lib.hid (HBQ.out.trans (hb4.mono HBQ.out.size))
              have HONE := Go.Lib.hid (KP.one' w3 bk s)
              clear hb4 HO3 HB3 HO2 HB2
              go_wp2_with (first
                | ((with_reducible show wpList _ _ _ (⟨some 49, _, _, _, _, _⟩ :: _) _ _); go_loud (refine KP_ok.append rfl (.tmp 44) (.tmp 48) rfl w.heap.size u2 (.slice (some ⟨w3.heap.size, 0, none⟩) 1 1) FY [(bk, s)] rfl rfl HO4.out HONE.out (by have := HLX.out; simp; omega) HB4.out.size ?_); intro v5 w5 hown5 hg5; have HB5 := Go.Lib.hid (HB4.out.grown hg5 HB4.out.size HO4.out.row); have HO5 := Go.Lib.hid hown5; clear hown5 hg5)
                | fail)
              go_roundw
              case rel => exact ⟨s + 1, _, rfl, by omega, by go_num, by rw [← HZ0.out, HZ.out]; exact HO5.out, HB5.out⟩
              case measure => simp only [intOf]; omega
            · have b1 : ((tt : Int) == (tx : Int)) = false := by simp only [beq_eq_false_iff_ne, ne_eq]; omega
              have HZ := Go.Lib.hid (show F ++ Z = F ++ Y by rw [H1.out, HT1.out]; simp [ht])
              clear H1 HT1 ht
              go_upto_region 11 with (fail)
              go_quiet ((go_at_call 86; exact Calls.quiet_of_same ((TA.out _).mono fun _ _ ⟨h, hw⟩ => ⟨h, hw.symm⟩)))
              go_wp2_with fail
              go_roundw
              case rel => exact ⟨s + 1, _, rfl, by omega, by go_num, by rw [← HZ0.out, HZ.out]; exact HO3.out.below (below_drewN (Below.refl _ _) _), below_drewN HB3.out _⟩
              case measure => simp only [intOf]; omega
        · obtain rfl : s = 4 := by omega
          have HO3 := Go.Lib.hid hO
          have HB3 := Go.Lib.hid hbc
          clear hO hbc hir hs4
          go_wp2_with fail
          go_roundw
          case rel => exact ⟨i + 1, _, rfl, by omega, by go_num, by rw [HF1.out]; exact HO3.out, HB3.out⟩
          case measure => simp only [intOf]; omega
    · obtain rfl : i = 2 := by omega
      have HO3 := Go.Lib.hid hO
      have HB3 := Go.Lib.hid hbc
      clear hO hbc hi2
      go_wp2_with fail
      go_ret
      exact ⟨_, rfl, HO3.out, HB3.out⟩

end Go.Proofs.YthbnecdeebmlhaaGreat

namespace Go.Proofs.YthbnecdeebmlhaaGreat
open Go.RowKit

/-! ### Mathematics: places and entries. -/
theorem hits_mem {T : SlT} {t b k : Nat} {p : Nat × Nat} : p ∈ hitsT T t b k ↔ p.1 = b ∧ p.2 < k ∧ hitO t (T (4 * b + p.2)) = true := by
  unfold hitsT
  rw [List.mem_map]
  constructor
  · rintro ⟨s, hs, rfl⟩
    rw [List.mem_filter, List.mem_range] at hs
    exact ⟨rfl, hs.1, hs.2⟩
  · rintro ⟨h1, h2, h3⟩
    exact ⟨p.2, by rw [List.mem_filter, List.mem_range]; exact ⟨h2, h3⟩, by rw [← h1]⟩
theorem hitO_some {t : Nat} {x : Option (Nat × Int)} (h : hitO t x = true) : x = some (t, idO x) := by
  cases x with
  | none => cases h
  | some y =>
    have h1 : y.1 = t := by simpa [hitO] using h
    rw [← h1]
    rfl
theorem places_mem {T : SlT} {x : Nat} {p : Nat × Nat} : p ∈ placesT T x ↔ (p.1 = firstN x ∨ p.1 = othN (firstN x) (tagN x)) ∧ p.2 < 4 ∧ hitO (tagN x) (T (4 * p.1 + p.2)) = true := by
  show p ∈ ([] ++ hitsT T (tagN x) (bkX x 0) 4) ++ hitsT T (tagN x) (bkX x 1) 4 ↔ _
  rw [List.nil_append, List.mem_append, hits_mem, hits_mem]
  have e0 : bkX x 0 = firstN x := rfl
  have e1 : bkX x 1 = othN (firstN x) (tagN x) := rfl
  rw [e0, e1]
  constructor
  · rintro (⟨h1, h2, h3⟩ | ⟨h1, h2, h3⟩)
    · exact ⟨.inl h1, h2, by rw [h1]; exact h3⟩
    · exact ⟨.inr h1, h2, by rw [h1]; exact h3⟩
  · rintro ⟨h1 | h1, h2, h3⟩
    · exact .inl ⟨h1, h2, by rw [h1] at h3; exact h3⟩
    · exact .inr ⟨h1, h2, by rw [h1] at h3; exact h3⟩
theorem places_lt {T : SlT} {x : Nat} {p : Nat × Nat} (h : p ∈ placesT T x) : p.1 < 8 ∧ p.2 < 4 ∧ T (4 * p.1 + p.2) = some (tagN x, idO (T (4 * p.1 + p.2))) ∧ keyN p.1 (tagN x) = keyH x := by
  obtain ⟨h1, h2, h3⟩ := places_mem.1 h
  have hf := first_lt x
  have ho := oth_lt (tagN x) hf
  refine ⟨by omega, h2, hitO_some h3, ?_⟩
  unfold keyH
  rcases h1 with h1 | h1
  · rw [h1]
  · rw [h1, keyN_oth _ hf]
theorem places_of {T : SlT} {x q : Nat} {i : Int} (hT : T q = some (tagN x, i)) (hq : q < 32) (hk : keyN (q / 4) (tagN x) = keyH x) : (q / 4, q % 4) ∈ placesT T x := by
  rw [places_mem]
  refine ⟨?_, Nat.mod_lt _ (by omega), ?_⟩
  · unfold keyH at hk
    exact ((keyN_iff (by omega) (first_lt x)).1 hk).2
  · rw [show 4 * (q / 4) + q % 4 = q by omega, hT]
    simp [hitO]
/-- What lies in a slot is there. -/
theorem Fits.entry {T : SlT} {es : List EnT} (h : Fits T es) {q t : Nat} {i : Int} (hq : q < 32) (hT : T q = some (t, i)) : ∃ k, ∃ hk : k < es.length, keyE es[k] = (keyN (q / 4) t, i) := by
  have h1 : (keyN (q / 4) t, i) ∈ es.map keyE := (List.Perm.mem_iff h).1 (List.mem_map.2 ⟨(q / 4, t, i), List.mem_filterMap.2 ⟨q, List.mem_range.2 hq, by rw [hT]; rfl⟩, rfl⟩)
  obtain ⟨e, he, hee⟩ := List.mem_map.1 h1
  obtain ⟨k, hk, rfl⟩ := List.mem_iff_getElem.1 he
  exact ⟨k, hk, hee⟩

/-! ### A slot is written. -/
section
variable {w w' : World} {d : Nat} {T : SlT}
theorem CK.setSlot (h : CK w d T) {q : Nat} (hq : q < 32) (x : Option (Nat × Int)) (hx : ∀ y, x = some y → y.1 < 32768) : CK (w.setCells d (3 * q) (encO x)) d (layT T q x) := by
  obtain ⟨cs, fr, hr⟩ := h.row
  have hin : ∀ j, j < 3 → (w.setCells d (3 * q) (encO x)).cell? ⟨d, 3 * q + j, none⟩ = (encO x)[j]? := fun j hj => by
    rw [World.cell?_setCells_in d (encO x) (3 * q) w (fun i hi => by rw [h.cell q i hq hi, List.getElem?_eq_getElem (show i < (encO (T q)).length from hi)]; rfl) j hj]
    exact (List.getElem?_eq_getElem hj).symm
  have hout : ∀ p j, p < 32 → j < 3 → p ≠ q → (w.setCells d (3 * q) (encO x)).cell? ⟨d, 3 * p + j, none⟩ = w.cell? ⟨d, 3 * p + j, none⟩ := fun p j hp hj hne =>
    World.cell?_setCells_out d (encO x) (3 * q) w ⟨d, 3 * p + j, none⟩ (fun _ _ => by show 3 * p + j < 3 * q ∨ 3 * q + 3 ≤ 3 * p + j; omega)
  have hall : ∀ p j, p < 32 → j < 3 → (w.setCells d (3 * q) (encO x)).cell? ⟨d, 3 * p + j, none⟩ = (encO (layT T q x p))[j]? := fun p j hp hj => by
    unfold layT
    by_cases hpq : p = q
    · rw [if_pos hpq, hpq]; exact hin j hj
    · rw [if_neg hpq, hout p j hp hj hpq]; exact h.cell p j hp hj
  refine ⟨?_, ?_, fun o => by rw [World.frozen?_setCells]; exact h.fr o, fun p hp => hall p 0 hp (by omega), fun p hp => hall p 1 hp (by omega), fun p hp => hall p 2 hp (by omega)⟩
  · have key : ∀ (vs : List Value) (w : World) (o : Nat) (cs : Array Value), w.heap[d]? = some (.cells cs 143 fr) → ∃ cs', (w.setCells d o vs).heap[d]? = some (.cells cs' 143 fr) := by
      intro vs
      induction vs with
      | nil => intro w o cs hr; exact ⟨cs, hr⟩
      | cons v r ih =>
        intro w o cs hr
        rw [World.setCells]
        exact ih (w.setCell ⟨d, o, none⟩ v) (o + 1) (cs.setIfInBounds o v) (by simp [World.setCell, Array.getElem?_modify, hr])
    obtain ⟨cs', hc⟩ := key (encO x) w (3 * q) cs hr
    exact ⟨cs', fr, hc⟩
  · intro p y hy
    unfold layT at hy
    split at hy
    · rename_i e
      exact ⟨by omega, hx y hy⟩
    · exact h.tok p y hy
end

/-! ### Set. -/
/-- The first place whose number is old, if there is one. -/
def idP (T : SlT) (p : Nat × Nat) : Int := idO (T (4 * p.1 + p.2))
end Go.Proofs.YthbnecdeebmlhaaGreat

namespace Go.Proofs.YthbnecdeebmlhaaGreat
open Go.RowKit Go.Sort Go.Shelf
def sortIL_ren : Go.Shelf.Ren := ⟨fun | 5 => 102 | 8 => 128 | 7 => 127 | 19 => 151 | 20 => 132 | 10 => 142 | 11 => 143 | 12 => 144 | 13 => 145 | 14 => 146 | 15 => 147 | 16 => 148 | 17 => 149 | 18 => 150 | 30 => 167 | 31 => 168 | 32 => 169 | 33 => 170 | 34 => 171 | 35 => 172 | 40 => 180 | n => n, fun | 23 => 108 | 25 => 3 | 3 => 3 | 32 => 117 | 22 => 108 | 0 => 0 | 44 => 209 | 46 => 74 | 4 => 4 | 36 => 201 | 35 => 200 | 41 => 206 | 5 => 5 | 9 => 9 | 53 => 218 | 57 => 222 | 63 => 227 | 64 => 146 | n => n, fun | n => n⟩
theorem sortIL : Go.Proofs.SlLaysM.n5 Tryz.prog sortIL_ren := {
  mixed := by kernel_rfl
  f5 := ⟨Tryz.f102.name, by decide, Tryz.func102.trans (congrArg some (by kernel_rfl))⟩
  f7 := ⟨Tryz.f127.name, by decide, Tryz.func127.trans (congrArg some (by kernel_rfl))⟩
  f8 := Tryz.func128.trans (congrArg some (by kernel_rfl))
  f10 := ⟨Tryz.f142.name, by decide, Tryz.func142.trans (congrArg some (by kernel_rfl))⟩
  f11 := ⟨Tryz.f143.name, by decide, Tryz.func143.trans (congrArg some (by kernel_rfl))⟩
  f12 := ⟨Tryz.f144.name, by decide, Tryz.func144.trans (congrArg some (by kernel_rfl))⟩
  f13 := ⟨Tryz.f145.name, by decide, Tryz.func145.trans (congrArg some (by kernel_rfl))⟩
  f14 := ⟨Tryz.f146.name, by decide, Tryz.func146.trans (congrArg some (by kernel_rfl))⟩
  f15 := ⟨Tryz.f147.name, by decide, Tryz.func147.trans (congrArg some (by kernel_rfl))⟩
  f16 := ⟨Tryz.f148.name, by decide, Tryz.func148.trans (congrArg some (by kernel_rfl))⟩
  f17 := ⟨Tryz.f149.name, by decide, Tryz.func149.trans (congrArg some (by kernel_rfl))⟩
  f18 := ⟨Tryz.f150.name, by decide, Tryz.func150.trans (congrArg some (by kernel_rfl))⟩
  f19 := Tryz.func151.trans (congrArg some (by kernel_rfl))
  f20 := Tryz.func132.trans (congrArg some (by kernel_rfl))
  f30 := ⟨Tryz.f167.name, by decide, Tryz.func167.trans (congrArg some (by kernel_rfl))⟩
  f31 := Tryz.func168.trans (congrArg some (by kernel_rfl))
  f32 := Tryz.func169.trans (congrArg some (by kernel_rfl))
  f33 := ⟨Tryz.f170.name, by decide, Tryz.func170.trans (congrArg some (by kernel_rfl))⟩
  f34 := ⟨Tryz.f171.name, by decide, Tryz.func171.trans (congrArg some (by kernel_rfl))⟩
  f35 := ⟨Tryz.f172.name, by decide, Tryz.func172.trans (congrArg some (by kernel_rfl))⟩
  f40 := ⟨Tryz.f180.name, by decide, Tryz.func180.trans (congrArg some (by kernel_rfl))⟩
  t0 := Tryz.underlying0
  a0 := Tryz.isAgg0
  z0 := Tryz.sizeOf0
  v0 := Tryz.zeroValue0
  t3 := Tryz.underlying3
  a3 := Tryz.isAgg3
  z3 := Tryz.sizeOf3
  v3 := Tryz.zeroValue3
  t4 := Tryz.underlying4
  a4 := Tryz.isAgg4
  z4 := Tryz.sizeOf4
  v4 := Tryz.zeroValue4
  t5 := Tryz.underlying5
  a5 := Tryz.isAgg5
  z5 := Tryz.sizeOf5
  v5 := Tryz.zeroValue5
  t9 := Tryz.underlying9
  a9 := Tryz.isAgg9
  z9 := Tryz.sizeOf9
  v9 := Tryz.zeroValue9
  t22 := Tryz.underlying108
  a22 := Tryz.isAgg108
  z22 := Tryz.sizeOf108
  v22 := Tryz.zeroValue108
  t23 := Tryz.underlying108
  a23 := Tryz.isAgg108
  z23 := Tryz.sizeOf108
  v23 := Tryz.zeroValue108
  t25 := Tryz.underlying3
  a25 := Tryz.isAgg3
  z25 := Tryz.sizeOf3
  v25 := Tryz.zeroValue3
  t32 := Tryz.underlying117
  a32 := Tryz.isAgg117
  z32 := Tryz.sizeOf117
  v32 := Tryz.zeroValue117
  t35 := Tryz.underlying200
  a35 := Tryz.isAgg200
  z35 := Tryz.sizeOf200
  v35 := Tryz.zeroValue200
  t36 := Tryz.underlying201
  a36 := Tryz.isAgg201
  z36 := Tryz.sizeOf201
  v36 := Tryz.zeroValue201
  t41 := Tryz.underlying206
  a41 := Tryz.isAgg206
  z41 := Tryz.sizeOf206
  v41 := Tryz.zeroValue206
  t44 := Tryz.underlying209
  a44 := Tryz.isAgg209
  z44 := Tryz.sizeOf209
  v44 := Tryz.zeroValue209
  t46 := Tryz.underlying74
  a46 := Tryz.isAgg74
  z46 := Tryz.sizeOf74
  v46 := Tryz.zeroValue74
  t53 := Tryz.underlying218
  a53 := Tryz.isAgg218
  z53 := Tryz.sizeOf218
  v53 := Tryz.zeroValue218
  t57 := Tryz.underlying222
  a57 := Tryz.isAgg222
  z57 := Tryz.sizeOf222
  v57 := Tryz.zeroValue222
  t63 := Tryz.underlying227
  a63 := Tryz.isAgg227
  z63 := Tryz.sizeOf227
  v63 := Tryz.zeroValue227
  t64 := Tryz.underlying146
  a64 := Tryz.isAgg146
  z64 := Tryz.sizeOf146
  v64 := Tryz.zeroValue146 }

end Go.Proofs.YthbnecdeebmlhaaGreat
