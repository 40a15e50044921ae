/-
  How many binary digits of a number are set, by halves: mathematics alone.
-/
import Derived.Test.YtiakpjkpmepmoaaBitC
namespace Go.Proofs.Ytiakpjkpmepmoaa

/-- A byte n times. -/
def rep (c : Nat) : Nat → Nat
  | 0 => 0
  | n + 1 => rep c n * 256 + c
set_option maxRecDepth 100000 in
theorem rep85 : rep 85 8 = 6148914691236517205 := by decide
theorem rep51 : rep 51 8 = 3689348814741910323 := by decide
theorem rep15 : rep 15 8 = 1085102592571150095 := by decide
def popS1 (n x : Nat) : Nat := (x / 2 &&& rep 85 n) + (x &&& rep 85 n)
def popS2 (n x : Nat) : Nat := (x / 4 &&& rep 51 n) + (x &&& rep 51 n)
def popS3 (n x : Nat) : Nat := (x / 16 + x) &&& rep 15 n
def pop8 (b : Nat) : Nat := (numB b 8).count true
def popT : Nat → Nat → Nat
  | 0, _ => 0
  | n + 1, x => popT n (x / 256) * 256 + pop8 (x % 256)

theorem and_split (a c m d : Nat) (hc : c < 256) (hd : d < 256) : (a * 256 + c) &&& (m * 256 + d) = (a &&& m) * 256 + (c &&& d) := by
  have key : ∀ k, k = 256 → c < k → d < k → k = 2 ^ 8 → (a * k + c) &&& (m * k + d) = (a &&& m) * k + (c &&& d) := by
    intro k _ hck hdk hk
    have hp : 0 < k := by omega
    have h1 := Nat.and_div_two_pow (a := a * k + c) (b := m * k + d) (n := 8)
    have h2 := Nat.and_mod_two_pow (a := a * k + c) (b := m * k + d) (n := 8)
    rw [← hk] at h1 h2
    have e1 : (a * k + c) / k = a := by rw [Nat.mul_comm, Nat.mul_add_div hp, Nat.div_eq_of_lt hck]; rfl
    have e2 : (m * k + d) / k = m := by rw [Nat.mul_comm, Nat.mul_add_div hp, Nat.div_eq_of_lt hdk]; rfl
    have e3 : (a * k + c) % k = c := by rw [Nat.mul_comm, Nat.mul_add_mod, Nat.mod_eq_of_lt hck]
    have e4 : (m * k + d) % k = d := by rw [Nat.mul_comm, Nat.mul_add_mod, Nat.mod_eq_of_lt hdk]
    rw [e1, e2] at h1
    rw [e3, e4] at h2
    have h3 := Nat.div_add_mod ((a * k + c) &&& (m * k + d)) k
    rw [h1, h2, Nat.mul_comm] at h3
    exact h3.symm
  exact key 256 rfl hc hd (by decide)

def bq1 (b : Nat) : Nat := (b / 2 &&& 85) + (b &&& 85)
def bq2 (b : Nat) : Nat := (b / 4 &&& 51) + (b &&& 51)
set_option maxRecDepth 100000 in
theorem b1_fin : ∀ c : Fin 2, ∀ b : Fin 256, (c.val * 128 + b.val / 2 &&& 85) = (b.val / 2 &&& 85) := by decide +kernel
set_option maxRecDepth 100000 in
theorem b2_fin : ∀ c : Fin 4, ∀ b : Fin 256, (c.val * 64 + b.val / 4 &&& 51) = (b.val / 4 &&& 51) := by decide +kernel
set_option maxRecDepth 100000 in
theorem bq_fin : ∀ b : Fin 256, bq1 b.val < 256 ∧ bq2 (bq1 b.val) < 256 ∧ bq2 (bq1 b.val) % 16 ≤ 4 ∧ bq2 (bq1 b.val) / 16 ≤ 4 ∧ (bq2 (bq1 b.val) / 16 + bq2 (bq1 b.val) % 16 = pop8 b.val) ∧ pop8 b.val ≤ 8 := by decide +kernel
set_option maxRecDepth 100000 in
theorem and15_fin : ∀ b : Fin 256, (b.val &&& 15) = b.val % 16 := by decide +kernel

theorem popS1_succ (n y b : Nat) (hb : b < 256) : popS1 (n + 1) (y * 256 + b) = popS1 n y * 256 + bq1 b := by
  unfold popS1 bq1 
  rw [rep]
  have e : (y * 256 + b) / 2 = (y / 2) * 256 + (y % 2 * 128 + b / 2) := by omega
  have h1 := b1_fin ⟨y % 2, by omega⟩ ⟨b, hb⟩
  simp only [] at h1
  rw [e, and_split _ _ _ _ (by omega) (by decide), and_split _ _ _ _ hb (by decide), h1]
  omega
theorem popS2_succ (n y b : Nat) (hb : b < 256) : popS2 (n + 1) (y * 256 + b) = popS2 n y * 256 + bq2 b := by
  unfold popS2 bq2
  rw [rep]
  have e : (y * 256 + b) / 4 = (y / 4) * 256 + (y % 4 * 64 + b / 4) := by omega
  have h1 := b2_fin ⟨y % 4, by omega⟩ ⟨b, hb⟩
  simp only [] at h1
  rw [e, and_split _ _ _ _ (by omega) (by decide), and_split _ _ _ _ hb (by decide), h1]
  omega
theorem popS2_zero (z : Nat) : popS2 0 z = 0 := by unfold popS2; simp [rep]
theorem popS1_zero (z : Nat) : popS1 0 z = 0 := by unfold popS1; simp [rep]
theorem popS3_zero (z : Nat) : popS3 0 z = 0 := by unfold popS3; simp [rep]
theorem popS1_at (n x : Nat) : popS1 (n + 1) x = popS1 n (x / 256) * 256 + bq1 (x % 256) := by
  have := popS1_succ n (x / 256) (x % 256) (by omega)
  rwa [show (x / 256 * 256 + x % 256) = x from by omega] at this
theorem popZ_low (n x : Nat) : popS2 n (popS1 n x) % 16 ≤ 4 := by
  cases n with
  | zero => rw [popS2_zero]; omega
  | succ n =>
    obtain ⟨h1, h2, h3, -, -, -⟩ := bq_fin ⟨x % 256, by omega⟩
    simp only [] at h1 h2 h3
    rw [popS1_at, popS2_succ _ _ _ h1]
    omega
theorem popS_T : ∀ n x, popS3 n (popS2 n (popS1 n x)) = popT n x
  | 0, x => by rw [popS3_zero]; rfl
  | n + 1, x => by
    have ih := popS_T n (x / 256)
    have hl := popZ_low n (x / 256)
    obtain ⟨h1, h2, h3, h4, h5, h6⟩ := bq_fin ⟨x % 256, by omega⟩
    simp only [] at h1 h2 h3 h4 h5 h6
    rw [popS1_at, popS2_succ _ _ _ h1]
    unfold popS3 at ih ⊢
    generalize popS2 n (popS1 n (x / 256)) = Z at ih hl ⊢
    generalize bq2 (bq1 (x % 256)) = q at h2 h3 h4 h5 ⊢
    have e2 : (Z * 256 + q) / 16 + (Z * 256 + q) = (Z / 16 + Z) * 256 + (Z % 16 * 16 + q / 16 + q) := by omega
    rw [e2, rep, and_split _ _ _ _ (by omega) (by decide), ih, popT]
    have h7 := and15_fin ⟨Z % 16 * 16 + q / 16 + q, by omega⟩
    simp only [] at h7
    rw [h7]
    omega
theorem pop8_le (x : Nat) : pop8 (x % 256) ≤ 8 := (bq_fin ⟨x % 256, by omega⟩).2.2.2.2.2
theorem count_succ (n x : Nat) : (numB x (8 * (n + 1))).count true = (numB (x / 256) (8 * n)).count true + pop8 (x % 256) := by
  have h := numB_split x 8 (8 * n)
  rw [show 8 * (n + 1) = 8 * n + 8 from by omega, h, List.count_append]
  congr 1
  unfold pop8
  have := numB_mod x 8 8 (by omega)
  rw [show (256 : Nat) = 2 ^ 8 from by decide, this]
/-- The bytes' sums, added up in three steps. -/
theorem popT_sum (x : Nat) : ∃ T A B C : Nat, popT 8 x = T ∧ T ≤ 578721382704613384 ∧ A = T + T / 256 ∧ A ≤ 1157442765409226768 ∧ B = A + A / 65536 ∧ B ≤ 2314885530818453536 ∧ C = B + B / 4294967296 ∧ C ≤ 4629771061636907072 ∧ C % 128 = (numB x 64).count true := by
  have hc : (numB x 64).count true = pop8 (x % 256) + pop8 (x / 256 % 256) + pop8 (x / 256 / 256 % 256) + pop8 (x / 256 / 256 / 256 % 256) + pop8 (x / 256 / 256 / 256 / 256 % 256) + pop8 (x / 256 / 256 / 256 / 256 / 256 % 256) + pop8 (x / 256 / 256 / 256 / 256 / 256 / 256 % 256) + pop8 (x / 256 / 256 / 256 / 256 / 256 / 256 / 256 % 256) := by
    rw [show (64 : Nat) = 8 * (7 + 1) from rfl, count_succ, show 8 * 7 = 8 * (6 + 1) from rfl, count_succ, show 8 * 6 = 8 * (5 + 1) from rfl, count_succ, show 8 * 5 = 8 * (4 + 1) from rfl, count_succ, show 8 * 4 = 8 * (3 + 1) from rfl, count_succ, show 8 * 3 = 8 * (2 + 1) from rfl, count_succ, show 8 * 2 = 8 * (1 + 1) from rfl, count_succ, show 8 * 1 = 8 * (0 + 1) from rfl, count_succ]
    simp only [numB, List.count_nil]
    omega
  have b0 := pop8_le x
  have b1 := pop8_le (x / 256)
  have b2 := pop8_le (x / 256 / 256)
  have b3 := pop8_le (x / 256 / 256 / 256)
  have b4 := pop8_le (x / 256 / 256 / 256 / 256)
  have b5 := pop8_le (x / 256 / 256 / 256 / 256 / 256)
  have b6 := pop8_le (x / 256 / 256 / 256 / 256 / 256 / 256)
  have b7 := pop8_le (x / 256 / 256 / 256 / 256 / 256 / 256 / 256)
  rw [hc]
  simp only [popT]
  generalize pop8 (x % 256) = p0 at *
  generalize pop8 (x / 256 % 256) = p1 at *
  generalize pop8 (x / 256 / 256 % 256) = p2 at *
  generalize pop8 (x / 256 / 256 / 256 % 256) = p3 at *
  generalize pop8 (x / 256 / 256 / 256 / 256 % 256) = p4 at *
  generalize pop8 (x / 256 / 256 / 256 / 256 / 256 % 256) = p5 at *
  generalize pop8 (x / 256 / 256 / 256 / 256 / 256 / 256 % 256) = p6 at *
  generalize pop8 (x / 256 / 256 / 256 / 256 / 256 / 256 / 256 % 256) = p7 at *
  clear hc
  obtain ⟨K7, hK7⟩ : ∃ K, K = 0 * 256 + p7 := ⟨_, rfl⟩
  obtain ⟨K6, hK6⟩ : ∃ K, K = K7 * 256 + p6 := ⟨_, rfl⟩
  obtain ⟨K5, hK5⟩ : ∃ K, K = K6 * 256 + p5 := ⟨_, rfl⟩
  obtain ⟨K4, hK4⟩ : ∃ K, K = K5 * 256 + p4 := ⟨_, rfl⟩
  obtain ⟨K3, hK3⟩ : ∃ K, K = K4 * 256 + p3 := ⟨_, rfl⟩
  obtain ⟨K2, hK2⟩ : ∃ K, K = K3 * 256 + p2 := ⟨_, rfl⟩
  obtain ⟨K1, hK1⟩ : ∃ K, K = K2 * 256 + p1 := ⟨_, rfl⟩
  obtain ⟨T, hT⟩ : ∃ K, K = K1 * 256 + p0 := ⟨_, rfl⟩
  rw [← hK7, ← hK6, ← hK5, ← hK4, ← hK3, ← hK2, ← hK1, ← hT]
  rw [Nat.zero_mul, Nat.zero_add] at hK7
  have l7 : K7 ≤ 8 := by omega
  have l6 : K6 ≤ 2056 := by omega
  have l5 : K5 ≤ 526344 := by omega
  have l4 : K4 ≤ 134744072 := by omega
  have l3 : K3 ≤ 34494482440 := by omega
  have l2 : K2 ≤ 8830587504648 := by omega
  have l1 : K1 ≤ 2260630401189896 := by omega
  have l0 : T ≤ 578721382704613384 := by omega
  have d1 : T / 256 = K1 := by omega
  have d2 : (T + K1) / 65536 = K2 + K3 := by clear hK7 hK6 hK5 hK4; omega
  have d3 : (T + K1 + (K2 + K3)) / 4294967296 = K4 + K5 + (K6 + K7) := by
    have e : T + K1 + (K2 + K3) = (K4 + K5 + (K6 + K7)) * 4294967296 + ((p3 + p4 + (p5 + p6)) * 16777216 + (p2 + p3 + (p4 + p5)) * 65536 + (p1 + p2 + (p3 + p4)) * 256 + (p0 + p1 + (p2 + p3))) := by omega
    rw [e]
    clear e hK7 hK6 hK5 hK4 hK3 hK2 hK1 hT d1 d2
    omega
  refine ⟨T, T + K1, T + K1 + (K2 + K3), T + K1 + (K2 + K3) + (K4 + K5 + (K6 + K7)), rfl, l0, by rw [d1], by omega, by rw [d2], by omega, by rw [d3], by omega, ?_⟩
  clear d1 d2 d3 l0 l1 l2 l3 l4 l5 l6 l7
  have e : T + K1 + (K2 + K3) + (K4 + K5 + (K6 + K7)) = 128 * (2 * (K1 + K2 + K3 + K4 + K5 + K6 + K7)) + (p0 + p1 + p2 + p3 + p4 + p5 + p6 + p7) := by omega
  rw [e, Nat.mul_add_mod]
  clear e
  omega

end Go.Proofs.Ytiakpjkpmepmoaa
