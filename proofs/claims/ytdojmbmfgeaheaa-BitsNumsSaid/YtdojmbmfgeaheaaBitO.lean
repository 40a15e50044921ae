/-
  The contracts of bits: Bytes, Of; bytes.Clone.
-/
import Derived.Test.YtdojmbmfgeaheaaBitF
import Derived.Lib.SliceRun
namespace Go.Proofs.Ytdojmbmfgeaheaa
open Go.RowKit

theorem own_empty (w : World) (e : TypeId) : Own e (w.alloc (.cells #[] e)) w.heap.size (.slice (some ⟨w.heap.size, 0, none⟩) 0 0) [] :=
  ⟨rfl, .inr ⟨w.heap.size, 0, #[], rfl, Nat.le_refl _, heap_alloc_new w _, Nat.le_refl _, by simp [maxLen], rfl, rfl⟩⟩

set_option maxRecDepth 100000 in
theorem bclone_c (v : Value) (l : List UInt8) (w : World) (h : RB w v l) (hl : l.length ≤ 140737488355328) :
    Calls Try.prog 16 #[v] w fun e w' => ∃ v', e = .returned v' ∧ Own 5 w' w.heap.size v' l ∧ Below w.heap.size w w' := by
  obtain ⟨a, cap, rfl, h1, h2, h3, h4⟩ := id h
  have hq := fun w => Go.Lib.run_eql_slice_nil (P := Try.prog) w 22 5 a l.length cap 0 0 Try.underlying22
  cases a with
  | none =>
    obtain rfl := h3 rfl
    obtain rfl : l = [] := List.eq_nil_of_length_eq_zero (by omega)
    clear h h3 h4 hq
    have hq := fun w => Go.Lib.run_eql_slice_nil (P := Try.prog) w 22 5 none 0 0 0 0 Try.underlying22
    simp only [List.length_nil]
    go_enter Try.func16, Try.ntmps16
    go_wp2_with fail
    go_ret
    exact ⟨_, rfl, Own.nil _ _ _, Below.refl _ _⟩
  | some ad =>
    clear h3 h4 h1 h2
    go_enter Try.func16, Try.ntmps16
    have ho := own_empty w 5
    have hr := h.below ((Below.refl _ w).alloc (Nat.le_refl _) (.cells #[] 5))
    have hsz : w.heap.size ≤ (w.alloc (.cells #[] 5)).heap.size := by simp
    go_wp2_with (first
      | (with_reducible show wpList _ _ _ (⟨some 7, _, _, _, _, _⟩ :: _) _ _; go_must (refine wpList_append_RB rfl (.tmp 5) (.tmp 6) 22 rfl w.heap.size 5 Try.underlying22 info8 (.slice (some ⟨w.heap.size, 0, none⟩) 0 0) (.slice (some ad) l.length cap) [] l rfl rfl ho hr (by simpa using hl) hsz ?_); intro v' w2 ho2 hg2; rw [List.nil_append] at ho2)
      | fail)
    go_ret
    exact ⟨v', rfl, ho2, ((Below.refl _ w).alloc (Nat.le_refl _) _).grown hg2 hsz (fun k hk => by cases hk; exact Nat.le_refl _)⟩

/-- As bytes. -/
theorem bytes_nil (w : World) : Calls Try.prog 10 #[.pointer none] w fun e w' => e = .returned (.slice none 0 0) ∧ w = w' := by
  go_enter Try.func10, Try.ntmps10
  go_wp2_with fail
  go_ret
  exact ⟨rfl, rfl⟩
theorem bytes_c (w : World) (B b : Nat) (v : Value) (p : List UInt8) (n : Nat) (h : BB w B b v p n) (hl : p.length ≤ 140737488355328) :
    Calls Try.prog 10 #[.pointer (some ⟨b, 0, none⟩)] w fun e w' => ∃ v', e = .returned v' ∧ Own 5 w' w.heap.size v' p ∧ Below w.heap.size w w' := by
  have hc0 := h.c0
  have C := Go.Lib.hid (bclone_c v p w h.row.rb hl)
  clear h
  go_enter Try.func10, Try.ntmps10
  go_wp2_with fail
  refine C.out.mono ?_
  rintro e w1 ⟨v', rfl, h1, h2⟩
  go_wp2_with fail
  go_ret
  exact ⟨v', rfl, h1, h2⟩

theorem bytesFor_c (n : Nat) (w : World) (hn : n ≤ 9223372036854775807) : Calls Try.prog 15 #[.int .i64 (n : Int)] w fun e w' => e = .returned (.int .i64 (((n + 7) / 8 : Nat) : Int)) ∧ w = w' := by
  have hn' : (n : Int) ≤ 9223372036854775807 := by omega
  by_cases h : 0 < n % 8
  · have e1 := Go.Lib.hid (show (n + 7) / 8 = n / 8 + 1 from by omega)
    go_enter Try.func15, Try.ntmps15
    go_wp2_with fail
    go_ret
    exact ⟨by rw [e1.out]; rfl, rfl⟩
  · have e1 := Go.Lib.hid (show (n + 7) / 8 = n / 8 from by omega)
    go_enter Try.func15, Try.ntmps15
    go_wp2_with fail
    go_ret
    exact ⟨by rw [e1.out]; rfl, rfl⟩

/-- Would the bytes of n bits be just p? -/
def okP (p : List UInt8) (n : Int) : Prop := 0 ≤ n ∧ p.length = (n.toNat + 7) / 8 ∧ ∀ i, n.toNat ≤ i → i < 8 * p.length → bitAt p i = false
theorem okP_pack {p : List UInt8} {n : Nat} (h : okP p (n : Int)) : pack ((unpack p).take n) = p ∧ ((unpack p).take n).length = n := by
  obtain ⟨-, h1, h2⟩ := h
  rw [Int.toNat_natCast] at h1 h2
  refine ⟨(pack_first p n).2 ?_, by rw [List.length_take]; simp only [unpack, List.length_map, List.length_range]; omega⟩
  rcases Nat.lt_or_ge n (8 * p.length) with h | h
  · exact .inr ⟨by omega, h2⟩
  · exact .inl h
theorem last_zero (p : List UInt8) (n : Nat) (hlen : p.length = (n + 7) / 8) (hu : 0 < n % 8) (hp : p.length - 1 < p.length) :
    (p[p.length - 1].toNat * 2 ^ (n % 8) % 256 = 0) ↔ ∀ i, n ≤ i → i < 8 * p.length → bitAt p i = false := by
  have hk : p.length - 1 = n / 8 := by omega
  have hb : ∀ i, n ≤ i → i < 8 * p.length → bitAt p i = bit p[p.length - 1].toNat (7 - i % 8) := by
    intro i h1 h2
    unfold bitAt
    rw [show i / 8 = p.length - 1 from by omega, List.getD_eq_getElem?_getD, List.getElem?_eq_getElem hp]
    rfl
  generalize p[p.length - 1].toNat = c at hb ⊢
  have e : 256 = 2 ^ (8 - n % 8) * 2 ^ (n % 8) := by rw [← Nat.pow_add, show 8 - n % 8 + n % 8 = 8 from by omega]
  have hz : c * 2 ^ (n % 8) % 256 = 0 ↔ c % 2 ^ (8 - n % 8) = 0 := by
    rw [e, Nat.mul_mod_mul_right]
    constructor
    · intro h
      rcases Nat.mul_eq_zero.1 h with h | h
      · exact h
      · have : 0 < 2 ^ (n % 8) := Nat.pow_pos (by omega)
        omega
    · intro h; rw [h, Nat.zero_mul]
  rw [hz]
  constructor
  · intro h i h1 h2
    rw [hb i h1 h2, bit_test]
    have h3 := Nat.testBit_mod_two_pow c (8 - n % 8) (7 - i % 8)
    rw [h, Nat.zero_testBit, decide_eq_true (by omega), Bool.true_and] at h3
    exact h3.symm
  · intro h
    refine Nat.eq_of_testBit_eq fun j => ?_
    rw [Nat.zero_testBit, Nat.testBit_mod_two_pow]
    by_cases hj : j < 8 - n % 8
    · have h3 := h (8 * (p.length - 1) + (7 - j)) (by omega) (by omega)
      rw [hb _ (by omega) (by omega), bit_test, show 7 - (8 * (p.length - 1) + (7 - j)) % 8 = j from by omega] at h3
      rw [h3, Bool.and_false]
    · rw [decide_eq_false hj, Bool.false_and]

end Go.Proofs.Ytdojmbmfgeaheaa
