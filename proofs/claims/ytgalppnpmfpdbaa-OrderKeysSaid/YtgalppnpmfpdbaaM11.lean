/-
  The contracts of bits: Bytes; bytes.Clone.
  The contracts of bits: Of.
  Stage 19, mathematics: a table's bytes, and what is read of bytes.
  Records: contract of the reference's Bytes.
  Package value: contracts of Put, of what may be.
  Package record: contract of Put.
  Stage 19: order.entry, Encode.
  Records: contract of the reference's Read.
-/
import Derived.Test.YtgalppnpmfpdbaaM10
import Derived.Lib.SliceRun
import Derived.Test.YtgalppnpmfpdbaaM07
import Derived.Test.YtgalppnpmfpdbaaM04
import Derived.Test.YtgalppnpmfpdbaaM09
namespace Go.Proofs.Ytgalppnpmfpdbaa
open Go.RowKit

theorem own_empty (w : World) (e : TypeId) : Own e (w.alloc (.cells #[] e)) w.heap.size (.slice (some ⟨w.heap.size, 0, none⟩) 0 0) [] :=
  ⟨rfl, .inr ⟨w.heap.size, 0, #[], rfl, Nat.le_refl _, heap_alloc_new w _, Nat.le_refl _, by simp [maxLen], rfl, rfl⟩⟩

set_option maxRecDepth 100000 in
theorem bclone_c (v : Value) (l : List UInt8) (w : World) (h : RB w v l) (hl : l.length ≤ 140737488355328) :
    Calls Try.prog 54 #[v] w fun e w' => ∃ v', e = .returned v' ∧ Own 5 w' w.heap.size v' l ∧ Below w.heap.size w w' := by
  obtain ⟨a, cap, rfl, h1, h2, h3, h4⟩ := id h
  have hq := fun w => Go.Lib.run_eql_slice_nil (P := Try.prog) w 40 5 a l.length cap 0 0 Try.underlying40
  cases a with
  | none =>
    obtain rfl := h3 rfl
    obtain rfl : l = [] := List.eq_nil_of_length_eq_zero (by omega)
    clear h h3 h4 hq
    have hq := fun w => Go.Lib.run_eql_slice_nil (P := Try.prog) w 40 5 none 0 0 0 0 Try.underlying40
    simp only [List.length_nil]
    go_enter Try.func54, Try.ntmps54
    go_wp2_with fail
    go_ret
    exact ⟨_, rfl, Own.nil _ _ _, Below.refl _ _⟩
  | some ad =>
    clear h3 h4 h1 h2
    go_enter Try.func54, Try.ntmps54
    have ho := own_empty w 5
    have hr := h.below ((Below.refl _ w).alloc (Nat.le_refl _) (.cells #[] 5))
    have hsz : w.heap.size ≤ (w.alloc (.cells #[] 5)).heap.size := by simp
    go_wp2_with (first
      | (with_reducible show wpList _ _ _ (⟨some 7, _, _, _, _, _⟩ :: _) _ _; go_must (refine wpList_append_RB rfl (.tmp 5) (.tmp 6) 40 rfl w.heap.size 5 Try.underlying40 info8 (.slice (some ⟨w.heap.size, 0, none⟩) 0 0) (.slice (some ad) l.length cap) [] l rfl rfl ho hr (by simpa using hl) hsz ?_); intro v' w2 ho2 hg2; rw [List.nil_append] at ho2)
      | fail)
    go_ret
    exact ⟨v', rfl, ho2, ((Below.refl _ w).alloc (Nat.le_refl _) _).grown hg2 hsz (fun k hk => by cases hk; exact Nat.le_refl _)⟩

/-- As bytes. -/
theorem bytes_nil (w : World) : Calls Try.prog 32 #[.pointer none] w fun e w' => e = .returned (.slice none 0 0) ∧ w = w' := by
  go_enter Try.func32, Try.ntmps32
  go_wp2_with fail
  go_ret
  exact ⟨rfl, rfl⟩
theorem bytes_c (w : World) (B b : Nat) (v : Value) (p : List UInt8) (n : Nat) (h : BB w B b v p n) (hl : p.length ≤ 140737488355328) :
    Calls Try.prog 32 #[.pointer (some ⟨b, 0, none⟩)] w fun e w' => ∃ v', e = .returned v' ∧ Own 5 w' w.heap.size v' p ∧ Below w.heap.size w w' := by
  have hc0 := h.c0
  have C := Go.Lib.hid (bclone_c v p w h.row.rb hl)
  clear h
  go_enter Try.func32, Try.ntmps32
  go_wp2_with fail
  refine C.out.mono ?_
  rintro e w1 ⟨v', rfl, h1, h2⟩
  go_wp2_with fail
  go_ret
  exact ⟨v', rfl, h1, h2⟩

end Go.Proofs.Ytgalppnpmfpdbaa

namespace Go.Proofs.Ytgalppnpmfpdbaa
open Go.RowKit

theorem bytesFor_c (n : Nat) (w : World) (hn : n ≤ 9223372036854775807) : Calls Try.prog 55 #[.int .i64 (n : Int)] w fun e w' => e = .returned (.int .i64 (((n + 7) / 8 : Nat) : Int)) ∧ w = w' := by
  have hn' : (n : Int) ≤ 9223372036854775807 := by omega
  by_cases h : 0 < n % 8
  · have e1 := Go.Lib.hid (show (n + 7) / 8 = n / 8 + 1 from by omega)
    go_enter Try.func55, Try.ntmps55
    go_wp2_with fail
    go_ret
    exact ⟨by rw [e1.out]; rfl, rfl⟩
  · have e1 := Go.Lib.hid (show (n + 7) / 8 = n / 8 from by omega)
    go_enter Try.func55, Try.ntmps55
    go_wp2_with fail
    go_ret
    exact ⟨by rw [e1.out]; rfl, rfl⟩

/-- Would the bytes of n bits be just p? -/
def okP (p : List UInt8) (n : Int) : Prop := 0 ≤ n ∧ p.length = (n.toNat + 7) / 8 ∧ ∀ i, n.toNat ≤ i → i < 8 * p.length → bitAt p i = false
theorem okP_pack {p : List UInt8} {n : Nat} (h : okP p (n : Int)) : pack ((unpack p).take n) = p ∧ ((unpack p).take n).length = n := by
  obtain ⟨-, h1, h2⟩ := h
  rw [Int.toNat_natCast] at h1 h2
  refine ⟨(pack_first p n).2 ?_, by rw [List.length_take]; simp only [unpack, List.length_map, List.length_range]; omega⟩
  rcases Nat.lt_or_ge n (8 * p.length) with h | h
  · exact .inr ⟨by omega, h2⟩
  · exact .inl h
theorem last_zero (p : List UInt8) (n : Nat) (hlen : p.length = (n + 7) / 8) (hu : 0 < n % 8) (hp : p.length - 1 < p.length) :
    (p[p.length - 1].toNat * 2 ^ (n % 8) % 256 = 0) ↔ ∀ i, n ≤ i → i < 8 * p.length → bitAt p i = false := by
  have hk : p.length - 1 = n / 8 := by omega
  have hb : ∀ i, n ≤ i → i < 8 * p.length → bitAt p i = bit p[p.length - 1].toNat (7 - i % 8) := by
    intro i h1 h2
    unfold bitAt
    rw [show i / 8 = p.length - 1 from by omega, List.getD_eq_getElem?_getD, List.getElem?_eq_getElem hp]
    rfl
  generalize p[p.length - 1].toNat = c at hb ⊢
  have e : 256 = 2 ^ (8 - n % 8) * 2 ^ (n % 8) := by rw [← Nat.pow_add, show 8 - n % 8 + n % 8 = 8 from by omega]
  have hz : c * 2 ^ (n % 8) % 256 = 0 ↔ c % 2 ^ (8 - n % 8) = 0 := by
    rw [e, Nat.mul_mod_mul_right]
    constructor
    · intro h
      rcases Nat.mul_eq_zero.1 h with h | h
      · exact h
      · have : 0 < 2 ^ (n % 8) := Nat.pow_pos (by omega)
        omega
    · intro h; rw [h, Nat.zero_mul]
  rw [hz]
  constructor
  · intro h i h1 h2
    rw [hb i h1 h2, bit_test]
    have h3 := Nat.testBit_mod_two_pow c (8 - n % 8) (7 - i % 8)
    rw [h, Nat.zero_testBit, decide_eq_true (by omega), Bool.true_and] at h3
    exact h3.symm
  · intro h
    refine Nat.eq_of_testBit_eq fun j => ?_
    rw [Nat.zero_testBit, Nat.testBit_mod_two_pow]
    by_cases hj : j < 8 - n % 8
    · have h3 := h (8 * (p.length - 1) + (7 - j)) (by omega) (by omega)
      rw [hb _ (by omega) (by omega), bit_test, show 7 - (8 * (p.length - 1) + (7 - j)) % 8 = j from by omega] at h3
      rw [h3, Bool.and_false]
    · rw [decide_eq_false hj, Bool.false_and]

set_option maxRecDepth 100000 in
theorem bof_no1 (a : Option Addr) (len cap : Nat) (n : Int) (w : World) (h : n < 0) :
    Calls Try.prog 33 #[.slice a len cap, .int .i64 n] w fun e w' => e = .returned (.tuple #[.pointer none, .bool false]) ∧ w = w' := by
  go_enter Try.func33, Try.ntmps33
  go_wp2_with fail
  go_ret2
  exact ⟨rfl, rfl⟩
set_option maxRecDepth 100000 in
theorem bof_no2 (a : Option Addr) (len cap : Nat) (n : Nat) (w : World) (hn : n ≤ 9223372036854775807) (h : len ≠ (n + 7) / 8) :
    Calls Try.prog 33 #[.slice a len cap, .int .i64 (n : Int)] w fun e w' => e = .returned (.tuple #[.pointer none, .bool false]) ∧ w = w' := by
  have C := Go.Lib.hid fun W => bytesFor_c n W hn
  have hb : ((len : Int) != (((n + 7) / 8 : Nat) : Int)) = true := by simp; omega
  generalize (n + 7) / 8 = m at *
  go_enter Try.func33, Try.ntmps33
  go_wp2_with fail
  refine (C.out _).mono ?_
  rintro e w1 ⟨rfl, rfl⟩
  go_wp2_with fail
  go_ret2
  exact ⟨rfl, rfl⟩
set_option maxRecDepth 100000 in
theorem bof_no3 (a : Option Addr) (len cap : Nat) (n : Nat) (w : World) (p : List UInt8) (hr : RB w (.slice a len cap) p) (hn : n ≤ 9223372036854775807) (h : p.length = (n + 7) / 8) (hu : 0 < n % 8) (hp : p.length - 1 < p.length) (hz : p[p.length - 1].toNat * 2 ^ (n % 8) % 256 ≠ 0) :
    Calls Try.prog 33 #[.slice a len cap, .int .i64 (n : Int)] w fun e w' => e = .returned (.tuple #[.pointer none, .bool false]) ∧ w = w' := by
  have C0 := fun W => bytesFor_c n W hn
  rw [← h] at C0
  have C := Go.Lib.hid C0
  clear C0
  obtain ⟨rfl, hlc, hcm⟩ := hr.len
  obtain ⟨b, o, rfl, hc, hb⟩ := hr.at (p.length - 1) hp
  generalize p[p.length - 1].toNat = c at hc hz
  have hz' : ((c : Int) * 2 ^ (n % 8) % 256 != 0) = true := by
    have e : (c : Int) * 2 ^ (n % 8) = ((c * 2 ^ (n % 8) : Nat) : Int) := by simp
    rw [e]
    simp only [bne_iff_ne, ne_eq]
    omega
  have hm63 : p.length ≤ 9223372036854775807 := by unfold maxLen at hcm; omega
  clear hr h hlc hcm
  generalize p.length = len at *
  go_enter Try.func33, Try.ntmps33
  go_wp2_with fail
  refine (C.out _).mono ?_
  rintro e w1 ⟨rfl, rfl⟩
  go_wp2_with fail
  go_ret2
  exact ⟨rfl, rfl⟩

/-- A new *bits.Bits over a row that was made. -/
theorem BB.box {w0 w : World} {v : Value} {p : List UInt8} (h : Own 5 w w0.heap.size v p) (hb : Below w0.heap.size w0 w) (n : Nat) :
    BB (w.alloc (.cells #[v, .int .i64 (n : Int)] 69)) w0.heap.size w.heap.size v p n := ⟨heap_alloc_new w _, h.alloc _, hb.size⟩

set_option maxRecDepth 100000 in
theorem bof_yes (v : Value) (n : Nat) (w : World) (p : List UInt8) (hr : RB w v p) (hn : n ≤ 562949953421312) (h : okP p (n : Int)) :
    Calls Try.prog 33 #[v, .int .i64 (n : Int)] w fun e w' => ∃ b v', e = .returned (.tuple #[.pointer (some ⟨b, 0, none⟩), .bool true]) ∧ BT w' w.heap.size b v' ((unpack p).take n) ∧ Below w.heap.size w w' := by
  obtain ⟨hpk, hpl⟩ := okP_pack h
  obtain ⟨-, h1, h2⟩ := h
  rw [Int.toNat_natCast] at h1 h2
  have C0 := fun W => bytesFor_c n W (by omega)
  rw [← h1] at C0
  have C := Go.Lib.hid C0
  have C2 := Go.Lib.hid (bclone_c v p w hr (by omega))
  have Hpk := Go.Lib.hid hpk
  have Hpl := Go.Lib.hid hpl
  clear C0 hpk hpl
  obtain ⟨a, cap, rfl, hlc, hcm, hnone, -⟩ := id hr
  have hm63 : p.length ≤ 9223372036854775807 := by unfold maxLen at hcm; omega
  have fin : ∀ w1 v', Own 5 w1 w.heap.size v' p → Below w.heap.size w w1 → BT (w1.alloc (.cells #[v', .int .i64 (n : Int)] 69)) w.heap.size w1.heap.size v' ((unpack p).take n) ∧ Below w.heap.size w (w1.alloc (.cells #[v', .int .i64 (n : Int)] 69)) := by
    intro w1 v' ho hb
    refine ⟨?_, hb.alloc hb.size _⟩
    show BB _ _ _ _ _ _
    rw [Hpk.out, Hpl.out]
    exact BB.box ho hb n
  have Fin := Go.Lib.hid fin
  clear fin
  by_cases hu : 0 < n % 8
  · have hp : p.length - 1 < p.length := by omega
    have hz := (last_zero p n h1 hu hp).2 h2
    obtain ⟨b, o, rfl, hc, hb⟩ := hr.at (p.length - 1) hp
    generalize p[p.length - 1].toNat = c at hc hz
    have hz' : ((c : Int) * 2 ^ (n % 8) % 256 != 0) = false := by
      have e : (c : Int) * 2 ^ (n % 8) = ((c * 2 ^ (n % 8) : Nat) : Int) := by simp
      rw [e]
      simp only [bne_eq_false_iff_eq]
      omega
    clear hr h1 h2 hz hlc hcm hnone
    generalize p.length = len at *
    go_enter Try.func33, Try.ntmps33
    go_wp2_with fail
    refine (C.out _).mono ?_
    rintro e w1 ⟨rfl, rfl⟩
    go_wp2_with fail
    refine C2.out.mono ?_
    rintro e w1 ⟨v', rfl, ho, hb'⟩
    obtain ⟨a2, cap2, rfl, -⟩ := id ho.rb
    have F2 := Go.Lib.hid (Fin.out _ _ ho hb')
    clear Fin ho hb'
    go_wp2_with fail
    go_ret2
    exact ⟨_, _, rfl, F2.out⟩
  · clear hr h1 h2 hlc hcm hnone
    generalize p.length = len at *
    go_enter Try.func33, Try.ntmps33
    go_wp2_with fail
    refine (C.out _).mono ?_
    rintro e w1 ⟨rfl, rfl⟩
    go_wp2_with fail
    refine C2.out.mono ?_
    rintro e w1 ⟨v', rfl, ho, hb'⟩
    obtain ⟨a2, cap2, rfl, -⟩ := id ho.rb
    have F2 := Go.Lib.hid (Fin.out _ _ ho hb')
    clear Fin ho hb'
    go_wp2_with fail
    go_ret2
    exact ⟨_, _, rfl, F2.out⟩

/-- They would not. -/
theorem bof_no (v : Value) (n : Int) (w : World) (p : List UInt8) (hr : RB w v p) (hn : n ≤ 9223372036854775807) (h : ¬ okP p n) :
    Calls Try.prog 33 #[v, .int .i64 n] w fun e w' => e = .returned (.tuple #[.pointer none, .bool false]) ∧ w = w' := by
  obtain ⟨a, cap, rfl, hlc, hcm, -, -⟩ := id hr
  by_cases h0 : n < 0
  · exact bof_no1 _ _ _ _ _ h0
  obtain ⟨n, rfl⟩ : ∃ k : Nat, n = (k : Int) := ⟨n.toNat, by omega⟩
  by_cases h1 : p.length = (n + 7) / 8
  · have hu : 0 < n % 8 := by
      rcases Nat.eq_zero_or_pos (n % 8) with hu | hu
      · exact absurd ⟨by omega, by rw [Int.toNat_natCast]; exact h1, fun i h3 h4 => by rw [Int.toNat_natCast] at h3; omega⟩ h
      · exact hu
    have hp : p.length - 1 < p.length := by omega
    refine bof_no3 a _ cap n w p hr (by omega) h1 hu hp fun hz => h ⟨by omega, by rw [Int.toNat_natCast]; exact h1, ?_⟩
    rw [Int.toNat_natCast]
    exact (last_zero p n h1 hu hp).1 hz
  · exact bof_no2 a _ cap n w (by omega) h1

end Go.Proofs.Ytgalppnpmfpdbaa

namespace Go.Proofs.Ytgalppnpmfpdbaa
open Go.RowKit

def zeroT : TabT := fun _ => (false, nullR)
def entB (x : RecT) : List UInt8 := UInt8.ofNat (tagN (hR x) / 256) :: UInt8.ofNat (tagN (hR x) % 256) :: recT x
def hasL (TT : TabT) (n : Nat) : List Bool := (List.range n).map fun q => (TT q).1
def bodyB (TT : TabT) (n : Nat) : List UInt8 := (recsT TT n).flatMap entB
def tabB (TT : TabT) : List UInt8 := pack (hasL TT 32) ++ bodyB TT 32
theorem hasL_len (TT : TabT) (n : Nat) : (hasL TT n).length = n := by simp [hasL]
theorem hasL_at (TT : TabT) (n i : Nat) (h : i < (hasL TT n).length) : (hasL TT n)[i] = (TT i).1 := by simp [hasL]
theorem hasL_succ (TT : TabT) (n : Nat) : hasL TT (n + 1) = hasL TT n ++ [(TT n).1] := by simp [hasL, List.range_succ]
theorem bodyB_succ (TT : TabT) (n : Nat) : bodyB TT (n + 1) = bodyB TT n ++ (if (TT n).1 then entB (TT n).2 else []) := by
  unfold bodyB
  rw [recsT_succ, List.flatMap_append]
  cases (TT n).1 <;> simp
theorem headB_len (TT : TabT) : (pack (hasL TT 32)).length = 4 := by rw [pack_length, hasL_len]

/-- A table's slots are as a table's records are: numbers that fit. -/
def TabOk (TT : TabT) : Prop := ∀ q, q < 32 → RecOk (TT q).2
/-- The entry at the beginning. -/
def getE (l : List UInt8) : Option (RecT × Nat) :=
  if l.length < 2 then none
  else if (readB (l.drop 2)).2.2 ≠ 0 ∨ (l.getD 0 0).toNat * 256 + (l.getD 1 0).toNat ≠ tagN (hR (unR (readB (l.drop 2)).1)) then none
  else some (unR (readB (l.drop 2)).1, 2 + (readB (l.drop 2)).2.1)
def decGo (bs : List Bool) (l : List UInt8) : Nat → Option (TabT × Nat)
  | 0 => some (zeroT, 4)
  | n + 1 => match decGo bs l n with
    | none => none
    | some (TT, k) => if bs.getD n false then (match getE (l.drop k) with | none => none | some (r, m) => some (setT TT n (true, r), k + m)) else some (TT, k)
def decR (bs : List Bool) (l : List UInt8) : Option TabT := match decGo bs l 32 with
  | none => none
  | some (TT, k) => if k < l.length then none else if okTo TT 32 then some TT else none
def decT (l : List UInt8) : Option TabT := if 4 ≤ l.length then decR ((unpack (l.take 4)).take 32) l else none

theorem byte_two (a b : UInt8) (t : Nat) (h : a.toNat * 256 + b.toNat = t) : UInt8.ofNat (t / 256) = a ∧ UInt8.ofNat (t % 256) = b := by
  have ha := a.toNat_lt
  have hb := b.toNat_lt
  have e1 : t / 256 = a.toNat := by omega
  have e2 : t % 256 = b.toNat := by omega
  rw [e1, e2]
  exact ⟨UInt8.ofNat_toNat, UInt8.ofNat_toNat⟩
theorem getE_some {l : List UInt8} {r : RecT} {m : Nat} (h : getE l = some (r, m)) : mayT r = true ∧ RecOk r ∧ l = entB r ++ l.drop m ∧ m = (entB r).length ∧ m ≤ l.length := by
  unfold getE at h
  split at h
  · cases h
  · rename_i h2
    split at h
    · cases h
    · rename_i h3
      simp only [not_or, ne_eq, Decidable.not_not] at h3
      obtain ⟨h3, h4⟩ := h3
      simp only [Option.some.injEq, Prod.mk.injEq] at h
      obtain ⟨rfl, rfl⟩ := h
      rcases hr : readB (l.drop 2) with ⟨r0, p, e⟩
      rw [hr] at h3 h4
      simp only [] at h3 h4
      subst h3
      obtain ⟨c1, c2, c3, c4⟩ := readB_canon hr
      rcases l with _ | ⟨a, _ | ⟨b, t⟩⟩
      · simp at h2
      · simp at h2
      · simp only [List.drop_succ_cons, List.drop_zero, List.getD_cons_zero, List.getD_cons_succ] at c3 c4 h4 hr ⊢
        obtain ⟨e1, e2⟩ := byte_two a b _ h4
        have hlen : p = (recT (unR r0)).length := by
          have h5 := congrArg List.length c3
          rw [List.length_append, List.length_drop] at h5
          omega
        have hm : 2 + p = (entB (unR r0)).length := by unfold entB; simp only [List.length_cons]; omega
        refine ⟨c1, c2, ?_, hm, by simp only [List.length_cons]; omega⟩
        unfold entB
        rw [e1, e2, Nat.add_comm 2 p]
        simp only [List.drop_succ_cons, List.cons_append]
        rw [← c3]
theorem getE_put {x : RecT} (h : mayT x = true) (hok : RecOk x) (r : List UInt8) : getE (entB x ++ r) = some (x, (entB x).length) := by
  obtain ⟨y, h1, h2⟩ := readT_put h hok r
  have ht : tagN (hR x) < 32768 := tag_lt _
  unfold getE entB
  simp only [List.cons_append, List.drop_succ_cons, List.drop_zero, List.getD_cons_zero, List.getD_cons_succ, List.length_cons, List.length_append]
  rw [h1]
  simp only []
  rw [h2, if_neg (by omega), if_neg]
  · simp only [Option.some.injEq, Prod.mk.injEq, true_and]
    omega
  · simp only [not_or, ne_eq, Decidable.not_not]
    refine ⟨trivial, ?_⟩
    simp only [UInt8.toNat_ofNat']
    omega

theorem recs_congr {TT UU : TabT} : ∀ n, (∀ q, q < n → TT q = UU q) → recsT TT n = recsT UU n
  | 0, _ => rfl
  | n + 1, h => by rw [recsT_succ, recsT_succ, recs_congr n (fun q hq => h q (by omega)), h n (by omega)]
theorem body_congr {TT UU : TabT} (n : Nat) (h : ∀ q, q < n → TT q = UU q) : bodyB TT n = bodyB UU n := by unfold bodyB; rw [recs_congr n h]
theorem tabL_congr {TT UU : TabT} : ∀ n, (∀ q, q < n → TT q = UU q) → tabL TT n = tabL UU n
  | 0, _ => rfl
  | n + 1, h => by rw [tabL_succ, tabL_succ, tabL_congr n (fun q hq => h q (by omega)), h n (by omega)]
theorem ok_congr {TT UU : TabT} : ∀ n, (∀ q, q < n → TT q = UU q) → okTo TT n = okTo UU n
  | 0, _ => rfl
  | n + 1, h => by
    rw [okTo_succ, okTo_succ, ok_congr n (fun q hq => h q (by omega))]
    unfold okSlot keysT
    have : (List.range n).filterMap (hasT TT) = (List.range n).filterMap (hasT UU) := recs_congr n (fun q hq => h q (by omega))
    rw [this, h n (by omega)]
theorem hasL_congr {TT UU : TabT} (n : Nat) (h : ∀ q, q < n → TT q = UU q) : hasL TT n = hasL UU n := by
  unfold hasL
  apply List.map_congr_left
  intro q hq
  rw [h q (List.mem_range.1 hq)]
theorem tabB_congr {TT UU : TabT} (h : ∀ q, q < 32 → TT q = UU q) : tabB TT = tabB UU := by unfold tabB; rw [hasL_congr 32 h, body_congr 32 h]

/-- What the reader has, slot for slot. -/
structure DecI (bs : List Bool) (l : List UInt8) (n : Nat) (TT : TabT) (k : Nat) : Prop where
  le : k ≤ l.length
  ge : 4 ≤ k
  got : l.take k = l.take 4 ++ bodyB TT n
  has : ∀ q, q < n → (TT q).1 = bs.getD q false
  out : ∀ q, n ≤ q → TT q = (false, nullR)
  rec_ok : ∀ q, (TT q).1 = true → mayT (TT q).2 = true ∧ RecOk (TT q).2
  nul : ∀ q, (TT q).1 = false → (TT q).2 = nullR
theorem setT_old (TT : TabT) (n : Nat) (y : Bool × RecT) {q : Nat} (h : q ≠ n) : setT TT n y q = TT q := if_neg h
theorem setT_new (TT : TabT) (n : Nat) (y : Bool × RecT) : setT TT n y n = y := if_pos rfl
theorem takeE_more {l : List UInt8} {k m : Nat} {e : List UInt8} (h : l.drop k = e ++ (l.drop k).drop m) (hm : m = e.length) (_hl : m ≤ (l.drop k).length) : l.take (k + m) = l.take k ++ e := by
  rw [List.take_add]
  congr 1
  rw [h, hm, List.take_left']
  rfl
theorem decGo_inv (bs : List Bool) (l : List UInt8) (h4 : 4 ≤ l.length) : ∀ (n : Nat) (TT : TabT) (k : Nat), decGo bs l n = some (TT, k) → DecI bs l n TT k
  | 0, TT, k, h => by
    simp only [decGo, Option.some.injEq, Prod.mk.injEq] at h
    obtain ⟨rfl, rfl⟩ := h
    exact ⟨h4, Nat.le_refl _, by simp [bodyB, recsT], (fun q hq => absurd hq (by omega)), (fun q _ => rfl), (fun q hq => by cases hq), fun q _ => rfl⟩
  | n + 1, TT, k, h => by
    rw [decGo] at h
    cases hd : decGo bs l n with
    | none => rw [hd] at h; cases h
    | some p =>
      obtain ⟨UU, j⟩ := p
      have I := decGo_inv bs l h4 n UU j hd
      rw [hd] at h
      simp only [] at h
      cases hb : bs.getD n false with
      | false =>
        rw [hb] at h
        simp only [Bool.false_eq_true, if_false, Option.some.injEq, Prod.mk.injEq] at h
        obtain ⟨rfl, rfl⟩ := h
        have hn := I.out n (Nat.le_refl _)
        refine ⟨I.le, I.ge, ?_, fun q hq => ?_, fun q hq => I.out q (by omega), I.rec_ok, I.nul⟩
        · rw [bodyB_succ, hn]; simpa using I.got
        · rcases Nat.lt_or_ge q n with h2 | h2
          · exact I.has q h2
          · obtain rfl : q = n := by omega
            rw [hn, hb]
      | true =>
        rw [hb] at h
        simp only [if_true] at h
        cases hg : getE (l.drop j) with
        | none => rw [hg] at h; cases h
        | some p =>
          obtain ⟨r, m⟩ := p
          rw [hg] at h
          simp only [Option.some.injEq, Prod.mk.injEq] at h
          obtain ⟨rfl, rfl⟩ := h
          obtain ⟨g1, g2, g3, g4, g5⟩ := getE_some hg
          have hl := I.le
          rw [List.length_drop] at g5
          refine ⟨by omega, by have := I.ge; omega, ?_, fun q hq => ?_, fun q hq => ?_, fun q hq => ?_, fun q hq => ?_⟩
          · rw [bodyB_succ, setT_new, body_congr n (fun q hq => setT_old UU n _ (by omega : q ≠ n)), takeE_more g3 g4 (by rw [List.length_drop]; omega), I.got]
            simp
          · rcases Nat.lt_or_ge q n with h2 | h2
            · rw [setT_old UU n _ (by omega)]; exact I.has q h2
            · obtain rfl : q = n := by omega
              rw [setT_new, hb]
          · rw [setT_old UU n _ (by omega)]; exact I.out q (by omega)
          · by_cases e : q = n
            · subst e; rw [setT_new]; exact ⟨g1, g2⟩
            · rw [setT_old UU n _ e] at hq ⊢; exact I.rec_ok q hq
          · by_cases e : q = n
            · subst e; rw [setT_new] at hq; cases hq
            · rw [setT_old UU n _ e] at hq ⊢; exact I.nul q hq
theorem decGo_none {bs : List Bool} {l : List UInt8} {n : Nat} (h : decGo bs l n = none) : ∀ j, decGo bs l (n + j) = none
  | 0 => h
  | j + 1 => by rw [show n + (j + 1) = (n + j) + 1 by omega, decGo, decGo_none h j]
theorem decR_none {bs : List Bool} {l : List UInt8} {n : Nat} (h : decGo bs l n = none) (hn : n ≤ 32) : decR bs l = none := by
  unfold decR
  have := decGo_none h (32 - n)
  rw [show n + (32 - n) = 32 by omega] at this
  rw [this]
theorem decGo_skip {bs : List Bool} {l : List UInt8} {n k : Nat} {TT : TabT} (h : decGo bs l n = some (TT, k)) (hb : bs.getD n false = false) : decGo bs l (n + 1) = some (TT, k) := by
  rw [decGo, h]
  simp only [hb, Bool.false_eq_true, if_false]
theorem decGo_stop {bs : List Bool} {l : List UInt8} {n k : Nat} {TT : TabT} (h : decGo bs l n = some (TT, k)) (hb : bs.getD n false = true) (hg : getE (l.drop k) = none) : decGo bs l (n + 1) = none := by
  rw [decGo, h]
  simp only [hb, if_true, hg]
theorem decGo_more {bs : List Bool} {l : List UInt8} {n k m : Nat} {TT : TabT} {r : RecT} (h : decGo bs l n = some (TT, k)) (hb : bs.getD n false = true) (hg : getE (l.drop k) = some (r, m)) : decGo bs l (n + 1) = some (setT TT n (true, r), k + m) := by
  rw [decGo, h]
  simp only [hb, if_true, hg]
theorem okP4 {l : List UInt8} : okP (l.take 4) (32 : Int) ↔ 4 ≤ l.length := by
  unfold okP
  rw [List.length_take]
  constructor
  · rintro ⟨-, h, -⟩
    simp at h
    omega
  · intro h
    refine ⟨by decide, by simp; omega, fun i h1 h2 => ?_⟩
    simp at h1
    omega
theorem decT_none {l : List UInt8} (h : ¬ 4 ≤ l.length) : decT l = none := by unfold decT; rw [if_neg h]
theorem nullOk : RecOk nullR := by unfold nullR; unfold RecOk; decide
theorem recOk_null_size : nullR.1.size ≤ 1000 ∧ nullR.2.2.2.2.size ≤ 1000 := by decide
theorem DecI.sizes {bs : List Bool} {l : List UInt8} {n : Nat} {TT : TabT} {k : Nat} (I : DecI bs l n TT k) (q : Nat) : (TT q).2.1.size ≤ 1000 ∧ (TT q).2.2.2.2.2.size ≤ 1000 := by
  cases h : (TT q).1 with
  | true => have := mayT_short (I.rec_ok q h).1; omega
  | false => rw [I.nul q h]; exact recOk_null_size
theorem DecI.ok {bs : List Bool} {l : List UInt8} {n : Nat} {TT : TabT} {k : Nat} (I : DecI bs l n TT k) : TabOk TT := fun q _ => by
  cases h : (TT q).1 with
  | true => exact (I.rec_ok q h).2
  | false => rw [I.nul q h]; exact nullOk
theorem decT_some {l : List UInt8} {TT : TabT} (h : decT l = some TT) : okTo TT 32 = true ∧ tabB TT = l ∧ TabOk TT ∧ ∀ q, (TT q).2.1.size ≤ 1000 ∧ (TT q).2.2.2.2.2.size ≤ 1000 := by
  unfold decT at h
  split at h
  · rename_i h4
    have hp := okP_pack (n := 32) (okP4.2 h4)
    unfold decR at h
    split at h
    · cases h
    · rename_i UU k hd
      have I := decGo_inv _ l h4 32 UU k hd
      split at h
      · cases h
      · rename_i hk
        split at h
        · rename_i hok
          cases h
          refine ⟨hok, ?_, I.ok, I.sizes⟩
          have hg := I.got
          rw [List.take_of_length_le (by have := I.le; omega)] at hg
          have he : hasL TT 32 = (unpack (l.take 4)).take 32 := by
            apply List.ext_getElem
            · rw [hasL_len]; exact hp.2.symm
            · intro i h1 h2
              rw [hasL_len] at h1
              have := I.has i h1
              rw [hasL_at, this, List.getD_eq_getElem?_getD, List.getElem?_eq_getElem h2]
              rfl
          unfold tabB
          rw [he, hp.1]
          exact hg.symm
        · cases h
  · cases h

/-! ### What was written is read. -/
def cutT (TT : TabT) (n : Nat) : TabT := fun q => if q < n then TT q else (false, nullR)
theorem cutT_old (TT : TabT) {n q : Nat} (h : q < n) : cutT TT n q = TT q := if_pos h
theorem cutT_set (TT : TabT) (n : Nat) : setT (cutT TT n) n (TT n) = cutT TT (n + 1) := by
  funext q
  unfold setT cutT
  by_cases h1 : q = n
  · subst h1; rw [if_pos rfl, if_pos (by omega)]
  · rw [if_neg h1]
    by_cases h2 : q < n
    · rw [if_pos h2, if_pos (by omega)]
    · rw [if_neg h2, if_neg (by omega)]
theorem cutT_skip (TT : TabT) (n : Nat) (h : TT n = (false, nullR)) : cutT TT n = cutT TT (n + 1) := by
  funext q
  unfold cutT
  by_cases h2 : q < n
  · rw [if_pos h2, if_pos (by omega)]
  · rw [if_neg h2]
    by_cases h1 : q = n
    · subst h1; rw [if_pos (by omega), h]
    · rw [if_neg (by omega)]
theorem okTo_slot {TT : TabT} (h : okTo TT 32 = true) {q : Nat} (hq : q < 32) : ((TT q).1 = true → mayT (TT q).2 = true) ∧ ((TT q).1 = false → (TT q).2 = nullR) := by
  unfold okTo at h
  have h := List.all_eq_true.1 h q (List.mem_range.2 hq)
  unfold okSlot at h
  refine ⟨fun h1 => ?_, fun h1 => ?_⟩
  · rw [h1] at h
    simp only [if_true, Bool.and_eq_true] at h
    exact h.1.1
  · rw [h1] at h
    simpa using h
theorem body_split (TT : TabT) : ∀ (n : Nat), n ≤ 32 → ∃ r, bodyB TT 32 = bodyB TT n ++ r ∧ (n < 32 → r = (if (TT n).1 then entB (TT n).2 else []) ++ r.drop (if (TT n).1 then entB (TT n).2 else []).length) := by
  have key : ∀ m n, n + m = 32 → ∃ r, bodyB TT 32 = bodyB TT n ++ r := by
    intro m
    induction m with
    | zero => intro n h; obtain rfl : n = 32 := by omega
              exact ⟨[], by simp⟩
    | succ m ih =>
      intro n h
      obtain ⟨r, hr⟩ := ih (n + 1) (by omega)
      rw [bodyB_succ TT n, List.append_assoc] at hr
      exact ⟨_, hr⟩
  intro n hn
  rcases Nat.lt_or_ge n 32 with h | h
  · obtain ⟨r, hr⟩ := key (32 - (n + 1)) (n + 1) (by omega)
    rw [bodyB_succ TT n, List.append_assoc] at hr
    exact ⟨_, hr, fun _ => by rw [List.drop_left']; rfl⟩
  · obtain rfl : n = 32 := by omega
    exact ⟨[], by simp, fun h => absurd h (by omega)⟩
theorem decGo_put {TT : TabT} (h : okTo TT 32 = true) (hok : TabOk TT) : ∀ n, n ≤ 32 → decGo (hasL TT 32) (tabB TT) n = some (cutT TT n, 4 + (bodyB TT n).length)
  | 0, _ => by
    rw [decGo]
    simp only [bodyB, recsT, List.range_zero, List.filterMap_nil, List.flatMap_nil, List.length_nil, Nat.add_zero, Option.some.injEq, Prod.mk.injEq, and_true]
    funext q
    unfold cutT zeroT
    rw [if_neg (by omega)]
  | n + 1, hn => by
    rw [decGo, decGo_put h hok n (by omega)]
    simp only []
    have hb : (hasL TT 32).getD n false = (TT n).1 := by
      unfold hasL
      rw [List.getD_eq_getElem?_getD, List.getElem?_map, List.getElem?_range (by omega)]
      rfl
    obtain ⟨m1, m2⟩ := okTo_slot h (show n < 32 by omega)
    obtain ⟨r, hr, hr2⟩ := body_split TT n (by omega)
    have hd : (tabB TT).drop (4 + (bodyB TT n).length) = r := by
      unfold tabB
      rw [hr, ← List.append_assoc, List.drop_left']
      rw [List.length_append, headB_len]
    rw [hb, bodyB_succ TT n, List.length_append]
    cases hq : (TT n).1 with
    | false =>
      have he : TT n = (false, nullR) := Prod.ext hq (m2 hq)
      simp only [Bool.false_eq_true, if_false, List.length_nil, Nat.add_zero, Option.some.injEq, Prod.mk.injEq, and_true]
      exact cutT_skip TT n he
    | true =>
      simp only [if_true]
      have hr3 := hr2 (by omega)
      rw [hq] at hr3
      simp only [if_true] at hr3
      rw [hd, hr3, getE_put (m1 hq) (hok n (by omega))]
      simp only [Option.some.injEq, Prod.mk.injEq]
      refine ⟨?_, by omega⟩
      have he : (true, (TT n).2) = TT n := Prod.ext hq.symm rfl
      rw [he]
      exact cutT_set TT n
theorem unpack_head (TT : TabT) : (unpack ((tabB TT).take 4)).take 32 = hasL TT 32 := by
  have e : (tabB TT).take 4 = pack (hasL TT 32) := by
    unfold tabB
    rw [List.take_left']
    exact headB_len TT
  rw [e]
  apply List.ext_getElem
  · rw [List.length_take, hasL_len]
    simp [unpack, headB_len]
  · intro i h1 h2
    rw [hasL_len] at h2
    rw [List.getElem_take]
    have e2 : ∀ h, (unpack (pack (hasL TT 32)))[i]'h = bitAt (pack (hasL TT 32)) i := fun h => by simp [unpack]
    rw [e2, bitAt_pack, List.getD_eq_getElem?_getD, List.getElem?_eq_getElem (by rw [hasL_len]; exact h2)]
    rfl
theorem tabB_len4 (TT : TabT) : 4 ≤ (tabB TT).length := by
  unfold tabB
  rw [List.length_append, headB_len]
  omega
theorem decT_put {TT : TabT} (h : okTo TT 32 = true) (hok : TabOk TT) : decT (tabB TT) = some (cutT TT 32) := by
  unfold decT
  rw [if_pos (tabB_len4 TT), unpack_head]
  unfold decR
  rw [decGo_put h hok 32 (Nat.le_refl _)]
  simp only []
  rw [if_neg (by unfold tabB; rw [List.length_append, headB_len]; omega), if_pos]
  rw [ok_congr (UU := TT) 32 (fun q hq => cutT_old TT hq)]
  exact h
theorem bodyB_len {TT : TabT} (h : okTo TT 32 = true) (hok : TabOk TT) : ∀ n, n ≤ 32 → (bodyB TT n).length ≤ 202 * n
  | 0, _ => by simp [bodyB, recsT]
  | n + 1, hn => by
    have ih := bodyB_len h hok n (by omega)
    rw [bodyB_succ, List.length_append]
    cases hq : (TT n).1 with
    | false => simp; omega
    | true =>
      have := (recT_len ((okTo_slot h (show n < 32 by omega)).1 hq) (hok n (by omega))).2
      simp only [if_true]
      unfold entB
      simp only [List.length_cons]
      omega
theorem tabB_len {TT : TabT} (h : okTo TT 32 = true) (hok : TabOk TT) : (tabB TT).length ≤ 7000 := by
  have := bodyB_len h hok 32 (Nat.le_refl _)
  unfold tabB
  rw [List.length_append, headB_len]
  omega
end Go.Proofs.Ytgalppnpmfpdbaa

namespace Go.Proofs.Ytgalppnpmfpdbaa
open Go.RowKit
open Go.Lib (uvarint zigzag)

set_option maxRecDepth 100000 in
theorem rbytes_c (key : List UInt8) (gone : Bool) (k n : Int) (s : List UInt8) (w : World) (hk : key.length ≤ 60000) (k0 : -9223372036854775808 ≤ k) (k1 : k ≤ 9223372036854775807) (h0 : -9223372036854775808 ≤ n) (h1 : n ≤ 9223372036854775807) (hs : s.length ≤ 60000) :
    Calls Try.prog 38 #[recV (str key) gone k n (str s)] w fun e w' => ∃ v, e = .returned v ∧ Own 5 w' w.heap.size v (recB key gone k n s) ∧ Below w.heap.size w w' := by
  unfold recV
  have C1 := Go.Lib.hid fun W => rputText_c (str key) W (by rw [str_size]; omega)
  have e1 : putT (str key).data.toList = putT key := by simp [str]
  have e2 : (putT key).length ≤ 60010 := by
    rw [putT, List.length_append]
    have := Go.Lib.uvarint_length64 (Go.Lib.zigzag_lt (x := (key.length : Int)) (by omega) (by omega))
    omega
  have C1 := C1.out
  rw [e1] at C1
  have C1' := Go.Lib.hid C1
  have hbA := below_one w (.cells #[.string (str key), .bool gone, .int .i64 k, .int .i64 n, .string (str s)] 28)
  clear C1 e1 hk
  cases gone with
  | true =>
    have C2 := Go.Lib.hid fun W => rput_c 0 W (by omega) (by omega)
    have e3 : (uvarint (zigzag 0)).length ≤ 10 := Go.Lib.uvarint_length64 (Go.Lib.zigzag_lt (by omega) (by omega))
    have he : Hid (recB key true k n s = putT key ++ uvarint (zigzag 0)) := rfl
    clear k0 k1 h0 h1 hs
    generalize uvarint (zigzag 0) = un at *
    generalize putT key = uk at *
    go_enter Try.func38, Try.ntmps38
    go_wp2_with fail
    refine (C1'.out _).mono ?_
    rintro e w1 ⟨v1, rfl, hown1, hb1⟩
    obtain ⟨hh, x0, x1, x2, x3, x4⟩ := rec_box _ _ _ _ _ hb1
    have hbb1 := hbA.trans (hb1.mono hbA.size)
    have hown1' := hown1.mono hbA.size
    clear hown1 hb1 hbA hh
    go_wp2_with fail
    refine (C2.out _).mono ?_
    rintro e w2 ⟨v2, rfl, hown2, hb2⟩
    have hbb2 := hbb1.trans (hb2.mono hbb1.size)
    have hownA := hown1'.below hb2
    have hrb2 := hown2.rb
    clear hown1' hown2 hb2 hbb1 x0 x1 x2 x3 x4
    go_wp2_with (first
      | (with_reducible show wpList _ _ _ (⟨some 11, _, _, _, _, _⟩ :: _) _ _; go_loud (refine wpList_append_RB rfl (.tmp 9) (.tmp 10) 40 rfl w.heap.size 5 Try.underlying40 info8 v1 v2 uk un rfl rfl hownA hrb2 (by omega) hbb2.size ?_); intro v3 w3 hown3 hg3; have hbb3 := hbb2.grown hg3 hbb2.size hownA.row)
      | fail)
    go_ret
    exact ⟨_, rfl, by rw [he.out]; exact hown3, hbb3⟩
  | false =>
    have C2 := Go.Lib.hid fun W => rputVal_c k n s W k0 k1 h0 h1 hs
    have e3 : (putV k n s).length ≤ 60050 := by
      have a1 := Go.Lib.uvarint_length64 (Go.Lib.zigzag_lt k0 k1)
      have a2 := Go.Lib.uvarint_length64 (Go.Lib.zigzag_lt h0 h1)
      have a3 := Go.Lib.uvarint_length64 (Go.Lib.zigzag_lt (x := (s.length : Int)) (by omega) (by omega))
      unfold putV putT
      split <;> simp only [List.length_append] <;> omega
    have he : Hid (recB key false k n s = putT key ++ putV k n s) := rfl
    clear k0 k1 h0 h1 hs
    generalize putV k n s = un at *
    generalize putT key = uk at *
    unfold rawV at C2
    go_enter Try.func38, Try.ntmps38
    go_wp2_with fail
    refine (C1'.out _).mono ?_
    rintro e w1 ⟨v1, rfl, hown1, hb1⟩
    obtain ⟨hh, x0, x1, x2, x3, x4⟩ := rec_box _ _ _ _ _ hb1
    have hbb1 := hbA.trans (hb1.mono hbA.size)
    have hown1' := hown1.mono hbA.size
    clear hown1 hb1 hbA
    unfold recO at hh
    go_wp2_with fail
    refine (C2.out _).mono ?_
    rintro e w2 ⟨v2, rfl, hown2, hb2⟩
    have hbb2 := hbb1.trans (hb2.mono hbb1.size)
    have hownA := hown1'.below hb2
    have hrb2 := hown2.rb
    clear hown1' hown2 hb2 hbb1 x0 x1 x2 x3 x4 hh
    go_wp2_with (first
      | (with_reducible show wpList _ _ _ (⟨some 16, _, _, _, _, _⟩ :: _) _ _; go_loud (refine wpList_append_RB rfl (.tmp 12) (.tmp 15) 40 rfl w.heap.size 5 Try.underlying40 info8 v1 v2 uk un rfl rfl hownA hrb2 (by omega) hbb2.size ?_); intro v3 w3 hown3 hg3; have hbb3 := hbb2.grown hg3 hbb2.size hownA.row)
      | fail)
    go_ret
    exact ⟨_, rfl, by rw [he.out]; exact hown3, hbb3⟩

end Go.Proofs.Ytgalppnpmfpdbaa

namespace Go.Proofs.Ytgalppnpmfpdbaa
open Go.RowKit
open Go.Lib (uvarint zigzag)

set_option maxRecDepth 100000 in
theorem vput_c (v : Value) (l : List UInt8) (k n : Int) (s : List UInt8) (w : World) (hv : RB w v l) (hm : mayR k n (str s) = true) (h0 : -9223372036854775808 ≤ n) (h1 : n ≤ 9223372036854775807) (hl : l.length ≤ 100000) :
    Calls Try.prog 73 #[v, rawV k n (str s)] w fun e w' => ∃ v', e = .returned v' ∧ Own 5 w' w.heap.size v' (l ++ putV k n s) ∧ Below w.heap.size w w' := by
  have C0 := Go.Lib.hid fun W => vof_c k n (str s) W
  rcases mayR_cases hm with ⟨rfl, rfl⟩ | ⟨rfl, rfl, hs⟩
  · have e0 := of_num hm
    have C0 := C0.out
    rw [e0] at C0
    simp only [VI.val, VI.v] at C0
    have C0' := Go.Lib.hid C0
    clear C0 hm e0
    have C1 := Go.Lib.hid fun W (h : RB W v l) => put_c v l 1 W h (by omega) (by omega) (by omega)
    have hz := Go.Lib.uvarint_length64 (Go.Lib.zigzag_lt (x := 1) (by omega) (by omega))
    have C2 := Go.Lib.hid fun v' W (h : RB W v' (l ++ uvarint (zigzag 1))) => put_c v' (l ++ uvarint (zigzag 1)) n W h h0 h1 (by rw [List.length_append]; omega)
    have he : Hid (l ++ uvarint (zigzag 1) ++ uvarint (zigzag n) = l ++ putV 1 n []) := by unfold Hid putV; rw [if_pos rfl, List.append_assoc]
    clear hz h0 h1 hl
    generalize uvarint (zigzag 1) = uk at *
    generalize uvarint (zigzag n) = un at *
    unfold rawV at C0' ⊢
    have hR0 := Go.Lib.hid (hv.below (below_one w (.cells #[.int .i64 1, .int .i64 n, .string (str [])] 26)))
    clear hv
    go_enter Try.func73, Try.ntmps73
    go_wp2_with fail
    refine (C0'.out _).mono ?_
    rintro e w1 ⟨rfl, hb1⟩
    obtain ⟨x0, x1, x2⟩ := box_cells _ _ _ _ _ _ hb1
    have hbb1 := (below_one w _).trans (hb1.mono (below_one w _).size)
    have hR1 := Go.Lib.hid ((hR0.out.below hb1).below (below_one w1 (.cells #[.iface 132 (.int .i64 n)] 123)))
    have Hbo := Go.Lib.hid (hbb1.trans ((below_one w1 (.cells #[.iface 132 (.int .i64 n)] 123)).mono hbb1.size))
    have xx := fun (c : Option Value) (p : Addr) (h : w1.cell? p = c) (o : Obj) (hp : p.block < w1.heap.size) => ((below_one w1 o).cell hp).trans h
    have hlt : w.heap.size < w1.heap.size := by
      have h1 := hb1.size
      have h2 := (Array.getElem?_eq_some_iff.1 (heap_alloc_new w (.cells #[.int .i64 1, .int .i64 n, .string (str [])] 26))).1
      omega
    have y0 := fun o => xx _ _ x0 o hlt
    have y1 := fun o => xx _ _ x1 o hlt
    have y2 := fun o => xx _ _ x2 o hlt
    clear xx hb1 hbb1 hR0 C0' x0 x1 x2
    go_wp2_with fail
    refine (C1.out _ hR1.out).mono ?_
    rintro e w2 ⟨v2, rfl, hown2, hb2⟩
    have hlt2 := Nat.lt_of_lt_of_le hlt ((below_one w1 (.cells #[.iface 132 (.int .i64 n)] 123)).size)
    have z0 := (hb2.cell hlt2).trans (y0 _)
    have z1 := (hb2.cell hlt2).trans (y1 _)
    have hbb2 := Hbo.out.trans (hb2.mono Hbo.out.size)
    have hR2 := hown2.rb
    clear y0 y1 y2 hR1 Hbo hlt hlt2 C1 hb2 hown2
    go_wp2_with fail
    refine (C2.out _ _ hR2).mono ?_
    rintro e w3 ⟨v3, rfl, hown3, hb3⟩
    have hbb3 := hbb2.trans (hb3.mono hbb2.size)
    have hown3' := hown3.mono hbb2.size
    rw [he.out] at hown3'
    clear hown3 hb3 z0 z1 hR2
    go_wp2_with fail
    go_ret
    exact ⟨_, rfl, hown3', hbb3⟩
  · have e0 := of_text hm
    have C0 := C0.out
    rw [e0] at C0
    simp only [VI.val, VI.v] at C0
    have C0' := Go.Lib.hid C0
    clear C0 hm e0
    have C1 := Go.Lib.hid fun W (h : RB W v l) => put_c v l 2 W h (by omega) (by omega) (by omega)
    have hz := Go.Lib.uvarint_length64 (Go.Lib.zigzag_lt (x := 2) (by omega) (by omega))
    have C2 := fun v' W (h : RB W v' (l ++ uvarint (zigzag 2))) => putText_c v' (l ++ uvarint (zigzag 2)) (str s) W h (by rw [List.length_append, str_size]; omega)
    have he : Hid (l ++ uvarint (zigzag 2) ++ putT s = l ++ putV 2 0 s) := by unfold Hid putV; rw [if_neg (by omega), List.append_assoc]
    rw [show (str s).data.toList = s from by simp [str]] at C2
    have C2 := Go.Lib.hid C2
    clear hz h0 h1 hl
    generalize uvarint (zigzag 2) = uk at *
    generalize putT s = un at *
    unfold rawV at C0' ⊢
    have hR0 := Go.Lib.hid (hv.below (below_one w (.cells #[.int .i64 2, .int .i64 0, .string (str s)] 26)))
    clear hv
    go_enter Try.func73, Try.ntmps73
    go_wp2_with fail
    refine (C0'.out _).mono ?_
    rintro e w1 ⟨rfl, hb1⟩
    obtain ⟨x0, x1, x2⟩ := box_cells _ _ _ _ _ _ hb1
    have hbb1 := (below_one w _).trans (hb1.mono (below_one w _).size)
    have hR1 := Go.Lib.hid ((hR0.out.below hb1).below (below_one w1 (.cells #[.iface 133 (.string (str s))] 123)))
    have Hbo := Go.Lib.hid (hbb1.trans ((below_one w1 (.cells #[.iface 133 (.string (str s))] 123)).mono hbb1.size))
    have xx := fun (c : Option Value) (p : Addr) (h : w1.cell? p = c) (o : Obj) (hp : p.block < w1.heap.size) => ((below_one w1 o).cell hp).trans h
    have hlt : w.heap.size < w1.heap.size := by
      have h1 := hb1.size
      have h2 := (Array.getElem?_eq_some_iff.1 (heap_alloc_new w (.cells #[.int .i64 2, .int .i64 0, .string (str s)] 26))).1
      omega
    have y0 := fun o => xx _ _ x0 o hlt
    have y1 := fun o => xx _ _ x1 o hlt
    have y2 := fun o => xx _ _ x2 o hlt
    clear xx hb1 hbb1 hR0 C0' x0 x1 x2
    go_wp2_with fail
    refine (C1.out _ hR1.out).mono ?_
    rintro e w2 ⟨v2, rfl, hown2, hb2⟩
    have hlt2 := Nat.lt_of_lt_of_le hlt ((below_one w1 (.cells #[.iface 133 (.string (str s))] 123)).size)
    have z0 := (hb2.cell hlt2).trans (y0 _)
    have z1 := (hb2.cell hlt2).trans (y2 _)
    have hbb2 := Hbo.out.trans (hb2.mono Hbo.out.size)
    have hR2 := hown2.rb
    clear y0 y1 y2 hR1 Hbo hlt hlt2 C1 hb2 hown2
    go_wp2_with fail
    refine (C2.out _ _ hR2).mono ?_
    rintro e w3 ⟨v3, rfl, hown3, hb3⟩
    have hbb3 := hbb2.trans (hb3.mono hbb2.size)
    have hown3' := hown3.mono hbb2.size
    rw [he.out] at hown3'
    clear hown3 hb3 z0 z1 hR2
    go_wp2_with fail
    go_ret
    exact ⟨_, rfl, hown3', hbb3⟩

end Go.Proofs.Ytgalppnpmfpdbaa

namespace Go.Proofs.Ytgalppnpmfpdbaa
open Go.RowKit
open Go.Lib (uvarint zigzag)

set_option maxRecDepth 100000 in
theorem pput_c (v : Value) (l key : List UInt8) (gone : Bool) (k n : Int) (s : List UInt8) (w : World) (hv : RB w v l) (hm : mayRec (str key) gone k n (str s) = true) (h0 : -9223372036854775808 ≤ n) (h1 : n ≤ 9223372036854775807) (hl : l.length ≤ 50000) :
    Calls Try.prog 53 #[v, recV (str key) gone k n (str s)] w fun e w' => ∃ v', e = .returned v' ∧ Own 5 w' w.heap.size v' (l ++ recB key gone k n s) ∧ Below w.heap.size w w' := by
  have hm' := hm
  unfold mayRec at hm'
  rw [Bool.and_eq_true] at hm'
  obtain ⟨hk, hr⟩ := hm'
  have hks : key.length ≤ 16 := by
    unfold mayK at hk
    rw [Bool.and_eq_true, decide_eq_true_eq, decide_eq_true_eq, str_size] at hk
    exact hk.2
  have hss : (str s).size ≤ maxLen := by
    unfold maxLen
    cases gone with
    | true =>
      rw [if_pos rfl, Bool.and_eq_true] at hr
      have h2 := hr.2
      rw [str_size]
      have h3 : s = [] := by simpa [str, ByteArray.toList_eq] using h2
      rw [h3]
      decide
    | false =>
      rw [if_neg (by decide)] at hr
      rw [str_size]
      rcases mayR_cases hr with ⟨-, h3⟩ | ⟨-, -, h3⟩
      · rw [h3]; decide
      · have := h3; omega
  have c0 := fun W => pmay_c (str key) gone k n (str s) W (by rw [str_size]; unfold maxLen; omega) hss
  rw [hm] at c0
  have c1 := fun W (h : RB W v l) => putText_c v l (str key) W h (by rw [str_size]; omega)
  rw [show (str key).data.toList = key from by simp [str]] at c1
  have hpl : (putT key).length ≤ 30 := by
    have hz := Go.Lib.uvarint_length64 (Go.Lib.zigzag_lt (x := (key.length : Int)) (by omega) (by omega))
    unfold putT
    rw [List.length_append]
    omega
  have C1 := Go.Lib.hid c1
  clear c1
  unfold recV at c0 ⊢
  have C0 := Go.Lib.hid c0
  clear c0
  have hb1 := below_one w (.cells #[.string (str key), .bool gone, .int .i64 k, .int .i64 n, .string (str s)] 28)
  have hA := heap_alloc_new w (.cells #[.string (str key), .bool gone, .int .i64 k, .int .i64 n, .string (str s)] 28)
  have hR0 := hv.below hb1
  cases gone with
  | true =>
    have c2 := fun v' W (h : RB W v' (l ++ putT key)) => put_c v' (l ++ putT key) 0 W h (by omega) (by omega) (by rw [List.length_append]; omega)
    have he : Hid (l ++ putT key ++ uvarint (zigzag 0) = l ++ recB key true k n s) := by unfold Hid recB; rw [if_pos rfl, List.append_assoc]
    rw [he.out] at c2
    have C2 := Go.Lib.hid c2
    clear c2 he hl hpl hks hss hr hk hm h0 h1
    generalize putT key = pk at *
    generalize l ++ recB key true k n s = L at *
    go_enter Try.func53, Try.ntmps53
    go_wp2_with fail
    refine (C0.out _).mono ?_
    rintro e w1 ⟨rfl, hb2⟩
    have hbb := hb1.trans (hb2.mono hb1.size)
    have hA := row_kept hA hb2
    have hR1 := hR0.below hb2
    obtain ⟨x0, x1, x2, x3, x4⟩ := row5 hA
    clear hb1 hb2 hR0 C0
    go_wp2_with fail
    refine (C1.out _ hR1).mono ?_
    rintro e w2 ⟨v2, rfl, hown2, hb2⟩
    have hbb2 := hbb.trans (hb2.mono hbb.size)
    have hA := row_kept hA hb2
    have hR2 := hown2.rb
    clear x0 x1 x2 x3 x4 hb2 hown2 hbb hR1 C1
    obtain ⟨x0, x1, x2, x3, x4⟩ := row5 hA
    go_wp2_with fail
    refine (C2.out _ _ hR2).mono ?_
    rintro e w3 ⟨v3, rfl, hown3, hb3⟩
    have hbb3 := hbb2.trans (hb3.mono hbb2.size)
    have hown3' := hown3.mono hbb2.size
    clear hown3 hb3 hR2 C2 x0 x1 x2 x3 x4
    go_wp2_with fail
    go_ret
    exact ⟨_, rfl, hown3', hbb3⟩
  | false =>
    rw [if_neg (by decide)] at hr
    have c2 := fun v' W (h : RB W v' (l ++ putT key)) => vput_c v' (l ++ putT key) k n s W h hr h0 h1 (by rw [List.length_append]; omega)
    have he : Hid (l ++ putT key ++ putV k n s = l ++ recB key false k n s) := by unfold Hid recB; rw [if_neg (by decide), List.append_assoc]
    rw [he.out] at c2
    unfold rawV at c2
    have C2 := Go.Lib.hid c2
    clear c2 he hl hpl hks hss hr hk hm h0 h1
    generalize putT key = pk at *
    generalize l ++ recB key false k n s = L at *
    go_enter Try.func53, Try.ntmps53
    go_wp2_with fail
    refine (C0.out _).mono ?_
    rintro e w1 ⟨rfl, hb2⟩
    have hbb := hb1.trans (hb2.mono hb1.size)
    have hA := row_kept hA hb2
    have hR1 := hR0.below hb2
    obtain ⟨x0, x1, x2, x3, x4⟩ := row5 hA
    clear hb1 hb2 hR0 C0
    go_wp2_with fail
    refine (C1.out _ hR1).mono ?_
    rintro e w2 ⟨v2, rfl, hown2, hb2⟩
    have hbb2 := hbb.trans (hb2.mono hbb.size)
    have hA := row_kept hA hb2
    have hR2 := hown2.rb
    clear x0 x1 x2 x3 x4 hb2 hown2 hbb hR1 C1
    obtain ⟨x0, x1, x2, x3, x4⟩ := row5 hA
    go_wp2_with fail
    refine (C2.out _ _ hR2).mono ?_
    rintro e w3 ⟨v3, rfl, hown3, hb3⟩
    have hbb3 := hbb2.trans (hb3.mono hbb2.size)
    have hown3' := hown3.mono hbb2.size
    clear hown3 hb3 hR2 C2 x0 x1 x2 x3 x4
    go_wp2_with fail
    go_ret
    exact ⟨_, rfl, hown3', hbb3⟩

end Go.Proofs.Ytgalppnpmfpdbaa

namespace Go.Proofs.Ytgalppnpmfpdbaa
open Go.RowKit

set_option maxHeartbeats 1000000 in
set_option maxRecDepth 100000 in
theorem entry_c (kx : ByteArray) (gx : Bool) (ax nx : Int) (sx : ByteArray) (w : World) (hm : mayT (kx, gx, ax, nx, sx) = true) (hok : RecOk (kx, gx, ax, nx, sx)) :
    Calls Try.prog 31 #[.agg #[.string kx, .bool gx, .int .i64 ax, .int .i64 nx, .string sx]] w fun e w' => ∃ v', e = .returned v' ∧ Own 5 w' w.heap.size v' (entB (kx, gx, ax, nx, sx)) ∧ Below w.heap.size w w' := by
  have hsz := mayT_short hm
  simp only [] at hsz
  have HX := Go.Lib.hid (heap_alloc_new w (.cells #[.string kx, .bool gx, .int .i64 ax, .int .i64 nx, .string sx] 28))
  have HB := Go.Lib.hid (below_one w (.cells #[.string kx, .bool gx, .int .i64 ax, .int .i64 nx, .string sx] 28))
  have CH := Go.Lib.hid fun W => hof_k kx (hashS kx) rfl W (by omega)
  have CT := Go.Lib.hid fun W => htag_c (hashS kx) W (hashS_lt kx)
  have HTL := tag_lt (hashS kx)
  have CP := Go.Lib.hid fun v (W : World) (hv : RB W v [UInt8.ofNat (tagN (hashS kx) / 256), UInt8.ofNat (tagN (hashS kx) % 256)]) => by
    have hn := recOk_n hok
    have := pput_c v _ (bl kx) gx ax nx (bl sx) W hv (by rw [str_bl, str_bl]; exact hm) hn.1 hn.2 (by simp)
    rw [str_bl, str_bl] at this
    unfold recV at this
    exact this
  have HE := Go.Lib.hid (show entB (kx, gx, ax, nx, sx) = [UInt8.ofNat (tagN (hashS kx) / 256), UInt8.ofNat (tagN (hashS kx) % 256)] ++ recB (bl kx) gx ax nx (bl sx) from rfl)
  generalize entB (kx, gx, ax, nx, sx) = eb at *
  generalize tagN (hashS kx) = tg at *
  generalize hashS kx = hx at *
  have HL := Go.Lib.hid (show ∀ W : World, RB (W.alloc (.cells #[.int .u8 ((tg : Int) / 256), .int .u8 ((tg : Int) % 256)] 5)) (.slice (some ⟨W.heap.size, 0, none⟩) 2 2) [UInt8.ofNat (tg / 256), UInt8.ofNat (tg % 256)] from fun W => by
    refine RB.lits W 5 _ _ _ 2 ?_ rfl (by simp)
    have e1 : (UInt8.ofNat (tg / 256)).toNat = tg / 256 := by simp only [UInt8.toNat_ofNat']; omega
    have e2 : (UInt8.ofNat (tg % 256)).toNat = tg % 256 := by simp only [UInt8.toNat_ofNat']; omega
    simp [cells, e1, e2])
  have hw1 : IntKind.u8.wrap ((tg : Int) / 256) = (tg : Int) / 256 := by rw [IntKind.wrap_u8]; omega
  have hw2 : IntKind.u8.wrap (tg : Int) = (tg : Int) % 256 := by rw [IntKind.wrap_u8]
  clear hsz hm hok
  go_enter Try.func31, Try.ntmps31
  go_wp2_with fail
  refine (CH.out _).mono ?_
  rintro e w1 ⟨rfl, hc⟩
  have HX1 := Go.Lib.hid (row_kept HX.out hc)
  have HB1 := Go.Lib.hid (HB.out.trans (hc.mono HB.out.size))
  clear hc CH HX HB
  go_wp2_with fail
  refine (CT.out _).mono ?_
  rintro e w2 ⟨rfl, rfl⟩
  have hb2 := below_one w1 (.cells #[.int .u8 ((tg : Int) / 256), .int .u8 ((tg : Int) % 256)] 5)
  have HX2 := Go.Lib.hid (row_kept HX1.out hb2)
  have HB2 := Go.Lib.hid (HB1.out.trans (hb2.mono HB1.out.size))
  have CP2 := Go.Lib.hid (CP.out _ _ (HL.out w1))
  obtain ⟨x0, x1, x2, x3, x4⟩ := row5 HX2.out
  clear hb2 CP HL CT
  go_wp2_with fail
  refine CP2.out.mono ?_
  rintro e w3 ⟨v3, rfl, ho, hc⟩
  have HF := Go.Lib.hid (And.intro (show Own 5 w3 w.heap.size v3 eb by rw [HE.out]; exact ho.mono HB2.out.size) (HB2.out.trans (hc.mono HB2.out.size)))
  clear ho hc CP2
  go_wp2_with fail
  go_ret
  exact ⟨_, rfl, HF.out.1, HF.out.2⟩

/-- More bytes; the row is the one it was, or a new one. -/
theorem wpList_append_bytes {P : Program} {ops : Array Oper} {rest : List Oper} {o : Oper} {a : Act} {w : World} {Q : Exit → Act → World → Prop} (hgd : o.guard = none) (s x : Operand) (t : TypeId)
    (ho : o.op = .call { callee := .builtin .append, args := #[s, x], argTypes := #[t, t] })
    (B : Nat) (e : TypeId) (ht : P.underlying t = some (.slice e)) (hinfo : (P.info? e).map (fun i => (i.zero, i.size, i.bytes)) = some (some (.int .u8 0), 1, 1))
    (v xv : Value) (l m : List UInt8) (hs : a.eval s = v) (hx : a.eval x = xv) (hown : Own e w B v l) (hrb : RB w xv m) (hm0 : m ≠ [])
    (hlen : l.length + m.length ≤ 140737488355328) (hbase : B ≤ w.heap.size)
    (h : ∀ v' w', Own e w' B v' (l ++ m) → w.grownBy w' v.ownBlock → (v'.ownBlock = v.ownBlock ∨ ∀ k, v'.ownBlock = some k → w.heap.size ≤ k) → wpList P ops Q rest (a.put o.dst v') w') : wpList P ops Q (o :: rest) a w := by
  obtain ⟨ad, cap, rfl, h1, h2, h3, h4⟩ := hrb
  obtain ⟨b, of_, rfl, hc⟩ := h4 hm0
  refine wpList_append_where w hgd s x t ho B e ht (.int .u8 0) 1 1 hinfo rfl (by decide) v l.length (cells l) hs hown ⟨b, of_, none⟩ m.length cap (cells m) hx (by simp [cells_length]) ?_ (cells_one m) (by unfold maxLen; omega) (by omega) hbase ?_
  · intro j u hj
    have hjm : j < m.length := by
      rcases Nat.lt_or_ge j m.length with hlt | hge
      · exact hlt
      · rw [List.getElem?_eq_none (by simpa [cells_length] using hge)] at hj; cases hj
    rw [cells_at m j hjm] at hj
    cases hj
    have hadd : (⟨b, of_, none⟩ : Addr).add j = ⟨b, of_ + j, none⟩ := by unfold Addr.add; split <;> simp_all
    rw [hadd]
    exact hc j hjm
  · intro v' w' hown' hg hn
    exact h v' w' (by unfold Own; rw [List.length_append, cells_append]; exact hown') hg hn

/-- The head's bits and the body's bytes, each in a row of its own. -/
structure EncI (TT : TabT) (g hb n : Nat) (u : Value) (w : World) : Prop where
  bt : ∃ vb, BT w g hb vb (hasL TT n) ∧ ∀ k, u.ownBlock = some k → vb.ownBlock ≠ some k
  own : Own 5 w g u (bodyB TT n)
theorem EncI.below {TT : TabT} {g hb n : Nat} {u : Value} {w w' : World} (h : EncI TT g hb n u w) (hk : Below w.heap.size w w') : EncI TT g hb n u w' := by
  obtain ⟨vb, h1, h2⟩ := h.bt
  exact ⟨⟨vb, h1.below hk, h2⟩, h.own.below hk⟩
theorem Own.twoKept {e : TypeId} {w w' : World} {B b : Nat} {r : Option Nat} {v : Value} {l : List UInt8} (h : Own e w B v l) (hk : Two b r w w') (h1 : v.ownBlock ≠ some b) (h2 : ∀ k, v.ownBlock = some k → r ≠ some k) : Own e w' B v l := by
  refine ⟨h.1, ?_⟩
  rcases h.2 with h' | ⟨g, cap, cur, e1, hB, e2, e3⟩
  · exact .inl h'
  · subst e1
    exact .inr ⟨g, cap, cur, rfl, hB, (hk.block g (Array.getElem?_eq_some_iff.1 e2).1 (fun e' => h1 (by rw [← e']; rfl)) (fun e' => h2 g rfl e'.symm)).trans e2, e3⟩
theorem Own.ltHeap {e : TypeId} {w : World} {B : Nat} {v : Value} {l : List UInt8} (h : Own e w B v l) : ∀ k, v.ownBlock = some k → k < w.heap.size := fun k hk => (World.ownsRow.lt h k hk).2

theorem BB.grownKept {w w' : World} {B b n : Nat} {v : Value} {p : List UInt8} {r : Option Nat} (h : BB w B b v p n) (hg : w.grownBy w' r) (h1 : r ≠ some b) (h2 : ∀ k, r = some k → v.ownBlock ≠ some k) : BB w' B b v p n := by
  refine ⟨(hg.block b h.lt (fun e => h1 e.symm)).trans h.blk, h.row.kept hg ?_, h.low⟩
  cases r with
  | none =>
    cases hv : v.ownBlock with
    | none => exact .inl rfl
    | some k => exact .inr (by simp)
  | some k => exact .inr (h2 k rfl)

set_option maxHeartbeats 4000000 in
set_option maxRecDepth 100000 in
theorem oencode_c (TT : TabT) (w : World) (hs : ∀ q, q < 32 → (TT q).2.1.size ≤ 1000 ∧ (TT q).2.2.2.2.2.size ≤ 1000) (hok : TabOk TT) :
    Calls Try.prog 10 #[.agg (tabL TT 32).toArray] w fun e w' => ∃ v', e = .returned v' ∧ Own 5 w' w.heap.size v' (if okTo TT 32 then tabB TT else []) ∧ Below w.heap.size w w' := by
  have HRG := Go.Lib.hid (TO.new w TT)
  have HB := Go.Lib.hid (below_one w (.cells (tabL TT 32).toArray 38))
  have HV := Go.Lib.hid (tabV TT)
  have HRA := Go.Lib.hid (fun (W : World) g (h : TO W g TT) => h.range)
  have CM := Go.Lib.hid fun W => omay_c TT W hs
  have HREC := Go.Lib.hid (fun (h : okTo TT 32 = true) q (hq : q < 32) (h1 : (TT q).1 = true) => And.intro ((okTo_slot h hq).1 h1) (hok q hq))
  have HLEN := Go.Lib.hid (fun (h : okTo TT 32 = true) => bodyB_len h hok)
  generalize tabL TT 32 = TL at *
  generalize (fun b => (rowL TT b).toArray) = RL at *
  generalize (rowL (fun _ => (false, nullR)) 0).toArray = Z at *
  clear hs hok
  obtain ⟨g, hg⟩ : ∃ g, g = w.heap.size := ⟨_, rfl⟩
  have HG := Go.Lib.hid hg
  rw [← hg] at HRG HB ⊢
  clear hg
  have hz := HV.out.zero
  obtain ⟨OUT, hOUT⟩ : ∃ OUT, OUT = if okTo TT 32 then tabB TT else [] := ⟨_, rfl⟩
  rw [← hOUT]
  have HOUT := Go.Lib.hid hOUT
  clear hOUT
  go_enter Try.func10, Try.ntmps10
  go_upto_region 1 with (fail)
  rw [← HG.out]
  generalize w.alloc (.cells TL.toArray 38) = w1 at *
  have HRX := Go.Lib.hid (HRA.out _ _ HRG.out)
  go_wp2_with (first
    | (with_reducible show wpList _ _ _ (⟨some 9, _, _, _, _, _⟩ :: _) _ _; go_loud (refine wpList_load_mid rfl 38 (.tmp 1) rfl g 0 rfl TL _ HRX.out Try.underlying38 rfl HV.out.size ?_))
    | fail)
  refine (CM.out _).mono ?_
  rintro e w2 ⟨rfl, hc⟩
  have HT2 := Go.Lib.hid (HRG.out.below hc)
  have HB2 := Go.Lib.hid (HB.out.trans (hc.mono (by have := HB.out.size; have := HG.out; omega)))
  clear hc CM HRG HB HRX
  by_cases hok : okTo TT 32 = true
  · have HOUT := Go.Lib.hid (show OUT = tabB TT by rw [HOUT.out, if_pos hok])
    rw [hok]
    have HREC2 := Go.Lib.hid (HREC.out hok)
    have HLEN2 := Go.Lib.hid (HLEN.out hok)
    clear hok HREC HLEN
    go_upto_region 4 with (fail)
    have hb3 := below_one w2 (.cells #[.slice none 0 0, .int .i64 0] 69)
    have HBT := Go.Lib.hid ((BT.new w2).mono (B' := g) (by have := HB2.out.size; have := HG.out; omega))
    have HT3 := Go.Lib.hid (HT2.out.below hb3)
    have HB3 := Go.Lib.hid (HB2.out.trans (hb3.mono (by have := HB2.out.size; have := HG.out; omega)))
    have HHB := Go.Lib.hid (show g ≤ w2.heap.size by have := HB2.out.size; have := HG.out; omega)
    clear hb3 HT2 HB2
    obtain ⟨hb, hhb⟩ : ∃ h, h = w2.heap.size := ⟨_, rfl⟩
    rw [← hhb] at HBT HHB ⊢
    clear hhb
    generalize w2.alloc (.cells #[.slice none 0 0, .int .i64 0] 69) = w3 at *
    have HRX := Go.Lib.hid (HRA.out _ _ HT3.out)
    have HI := Go.Lib.hid (show EncI TT g hb 0 (.slice none 0 0) w3 from ⟨⟨_, HBT.out, (fun k hk => by cases hk)⟩, Own.nil _ _ _⟩)
    clear HT3 HBT HRA
    go_wp2_with (first
      | (with_reducible show wpList _ _ _ (⟨some 12, _, _, _, _, _⟩ :: _) _ _; go_loud (refine wpList_load_mid rfl 38 (.tmp 1) rfl g 0 rfl TL _ HRX.out Try.underlying38 rfl HV.out.size ?_))
      | fail)
    go_loopw [4, 13] (fun lv bv wr => ∃ (b : Nat) (u : Value), u = lv ∧ b ≤ 8 ∧ bv = .int .i64 (b : Int) ∧ Hid (EncI TT g hb (4 * b) u wr) ∧ Hid (Below g w wr)) (fun _ bv _ => 8 - (intOf bv).toNat)
    case atStart => exact ⟨0, _, rfl, by omega, rfl, HI, HB3⟩
    case round =>
      clear HI HRX HB3
      obtain ⟨b, u, rfl, hb8, rfl, HI, HB⟩ := hrel
      by_cases hlt : b < 8
      · have hltI : (b : Int) < 8 := by omega
        have hix := HV.out.row b hlt
        have hgw : g ≤ wr.heap.size := by have := HB.out.size; have := HG.out; omega
        have hb2 := below_one wr (.cells Z 36)
        have HZ := Go.Lib.hid (heap_alloc_new wr (.cells Z 36))
        have HX := Go.Lib.hid (setRow_heap _ wr.heap.size _ (RL b) 36 (0, 0) HZ.out)
        have hb3 := setRow_below (RL b) hb2 (Nat.le_refl _)
        have HB2 := Go.Lib.hid (HB.out.trans (hb3.mono hgw))
        have HI2 := Go.Lib.hid (HI.out.below hb3)
        clear hb2 hb3 HB HI
        go_upto_region 8 with (first
          | (with_reducible show wpList _ _ _ (⟨none, Op.store 36 (.tmp 6) (.tmp 15), _, _, _, _⟩ :: _) _ _; go_loud (refine wpList_store_row rfl 36 (.tmp 6) (.tmp 15) rfl wr.heap.size (RL b) rfl rfl 36 Z HZ.out (HV.out.rsize b) (HV.out.zsize b) (HV.out.rone b) ?_))
          | fail)
        obtain ⟨g2, hg2⟩ : ∃ g2, g2 = wr.heap.size := ⟨_, rfl⟩
        rw [← hg2] at HX HI2 HB2 ⊢
        clear hg2 HZ hix hz hgw
        generalize (wr.alloc (.cells Z 36)).setRow g2 (RL b) = w4 at *
        go_wp2_with (first
          | (with_reducible show wpList _ _ _ (⟨some 16, _, _, _, _, _⟩ :: _) _ _; go_loud (refine wpList_load_row rfl 36 (.tmp 6) rfl g2 rfl 36 (RL b) (0, 0) _ HX.out Try.underlying36 rfl (HV.out.rsize b) ?_))
          | fail)
        go_loopw [4, 17] (fun lv sv wr => ∃ (s : Nat) (u : Value), u = lv ∧ s ≤ 4 ∧ sv = .int .i64 (s : Int) ∧ Hid (EncI TT g hb (4 * b + s) u wr) ∧ Hid (Below g w wr)) (fun _ sv _ => 4 - (intOf sv).toNat)
        case atStart => exact ⟨0, _, rfl, by omega, rfl, HI2, HB2⟩
        case round =>
          clear HI2 HB2 HX
          obtain ⟨s, u, rfl, hs4, rfl, HI, HB⟩ := hrel
          by_cases hslt : s < 4
          · have hsI : (s : Int) < 4 := by omega
            have hgw : g ≤ wr.heap.size := by have := HB.out.size; have := HG.out; omega
            have hix2 := HV.out.slot b s hslt
            rw [slot6] at hix2
            have HN := Go.Lib.hid (show 4 * b + s < 32 by omega)
            have HRC := Go.Lib.hid (HREC2.out (4 * b + s) HN.out)
            have HBL := Go.Lib.hid (HLEN2.out (4 * b + s) (by omega))
            have HHN := Go.Lib.hid (show hasL TT (4 * b + (s + 1)) = hasL TT (4 * b + s) ++ [(TT (4 * b + s)).1] from hasL_succ TT (4 * b + s))
            have HBN := Go.Lib.hid (show bodyB TT (4 * b + (s + 1)) = bodyB TT (4 * b + s) ++ (if (TT (4 * b + s)).1 then entB (TT (4 * b + s)).2 else []) from bodyB_succ TT (4 * b + s))
            obtain ⟨vb, hbt, hap⟩ := HI.out.bt
            have HBT := Go.Lib.hid hbt
            have HAP := Go.Lib.hid hap
            have HOW := Go.Lib.hid HI.out.own
            have HHL := Go.Lib.hid (hasL_len TT (4 * b + s))
            clear HI hbt hap
            generalize hasL TT (4 * b + s) = HL at *
            generalize bodyB TT (4 * b + s) = BL at *
            generalize TT (4 * b + s) = y at *
            obtain ⟨hq, kx, gx, ax, nx, sx⟩ := y
            simp only [] at hix2 HRC HHN HBN
            have hbA := below_one wr (.cells #[.bool hq, .string kx, .bool gx, .int .i64 ax, .int .i64 nx, .string sx] 35)
            have HX := Go.Lib.hid (heap_alloc_new wr (.cells #[.bool hq, .string kx, .bool gx, .int .i64 ax, .int .i64 nx, .string sx] 35))
            have HBT2 := Go.Lib.hid (HBT.out.below hbA)
            have HOW2 := Go.Lib.hid (HOW.out.below hbA)
            have HB2 := Go.Lib.hid (HB.out.trans (hbA.mono hgw))
            clear hbA HBT HOW HB
            go_upto_region 11 with (fail)
            obtain ⟨g3, hg3⟩ : ∃ g, g = wr.heap.size := ⟨_, rfl⟩
            rw [← hg3] at HX ⊢
            clear hix2 hg3
            generalize wr.alloc (.cells #[.bool hq, .string kx, .bool gx, .int .i64 ax, .int .i64 nx, .string sx] 35) = w5 at *
            obtain ⟨x0, x1, x2, x3, x4, x5⟩ := row6 HX.out
            have CP := Go.Lib.hid (bitput_c hq w5 g hb vb HL HBT2.out (by have := HHL.out; have := HN.out; omega))
            go_wp2_with fail
            refine CP.out.mono ?_
            rintro e w6 ⟨rfl, vb6, hbt, htw, hnw⟩
            have HBT6 := Go.Lib.hid hbt
            have HOW6 := Go.Lib.hid (HOW2.out.twoKept htw (own_not HOW2.out HBT2.out.blk (by decide)) HAP.out)
            have HAP6 := Go.Lib.hid (show ∀ k, u.ownBlock = some k → vb6.ownBlock ≠ some k from fun k hk hv => by
              rcases hnw with h | h
              · exact HAP.out k hk (h.symm.trans hv)
              · have h1 := h k hv
                have h2 := HOW2.out.ltHeap k hk
                omega)
            have hw5 : g ≤ w5.heap.size := by have := HB2.out.size; have := HG.out; omega
            have HB6 := Go.Lib.hid (HB2.out.trans (htw.below HHB.out HBT2.out.rows hw5))
            have HX6 := Go.Lib.hid ((htw.block g3 (row_lt HX.out) (fun e => by have h1 := HX.out; rw [e, HBT2.out.blk] at h1; simp at h1) (fun e => own_not HBT2.out.row HX.out (by decide) e.symm)).trans HX.out)
            clear hbt htw hnw CP HBT2 HOW2 HAP HB2 HX x0 x1 x2 x3 x4 x5 hw5
            obtain ⟨x0, x1, x2, x3, x4, x5⟩ := row6 HX6.out
            cases hq with
            | false =>
              simp only [Bool.false_eq_true, if_false, List.append_nil] at HBN
              have HI8 := Go.Lib.hid (show EncI TT g hb (4 * b + (s + 1)) u w6 from ⟨⟨vb6, by rw [HHN.out]; exact HBT6.out, HAP6.out⟩, by rw [HBN.out]; exact HOW6.out⟩)
              go_wp2_with fail
              exact ⟨⟨s + 1, _, rfl, by omega, by go_num, HI8, HB6⟩, by simp only [intOf]; omega⟩
            | true =>
              simp only [if_true] at HBN
              have CE := Go.Lib.hid (entry_c kx gx ax nx sx w6 (HRC.out rfl).1 (HRC.out rfl).2)
              have HEL := Go.Lib.hid (show (entB (kx, gx, ax, nx, sx)).length ≤ 210 ∧ entB (kx, gx, ax, nx, sx) ≠ [] from by
                have := (recT_len (HRC.out rfl).1 (HRC.out rfl).2).2
                unfold entB
                simp only [List.length_cons]
                exact ⟨by omega, by simp⟩)
              generalize entB (kx, gx, ax, nx, sx) = EB at *
              go_wp2_with fail
              refine CE.out.mono ?_
              rintro e w7 ⟨v7, rfl, ho, hc⟩
              have hw6 : g ≤ w6.heap.size := by have := HB6.out.size; have := HG.out; omega
              have HR7 := Go.Lib.hid ho.rb
              have HBT7 := Go.Lib.hid (HBT6.out.below hc)
              have HOW7 := Go.Lib.hid (HOW6.out.below hc)
              have HB7 := Go.Lib.hid (HB6.out.trans (hc.mono hw6))
              clear ho hc CE HBT6 HOW6 HB6 hw6 x0 x1 x2 x3 x4 x5 HX6
              go_wp2_with (first
                | (with_reducible show wpList _ _ _ (⟨some 29, _, _, _, _, _⟩ :: _) _ _; go_loud (refine wpList_append_bytes rfl (.tmp 25) (.tmp 28) 40 rfl g 5 Try.underlying40 info8 u v7 BL EB rfl rfl HOW7.out HR7.out HEL.out.2 (by have := HBL.out; have := HEL.out.1; have := HN.out; omega) (by have := HB7.out.size; have := HG.out; omega) ?_); intro v8 w8 ho8 hg8 hn8)
                | fail)
              have HI8 := Go.Lib.hid (show EncI TT g hb (4 * b + (s + 1)) v8 w8 from by
                refine ⟨⟨vb6, ?_, fun k hk hv => ?_⟩, by rw [HBN.out]; exact ho8⟩
                · rw [HHN.out]
                  exact HBT7.out.grownKept hg8 (own_not HOW7.out HBT7.out.blk (by decide)) HAP6.out
                · rcases hn8 with h | h
                  · exact HAP6.out k (h.symm.trans hk) hv
                  · have h1 := h k hk
                    have h2 := HBT7.out.row.ltHeap k hv
                    omega)
              have HB8 := Go.Lib.hid (HB7.out.grown hg8 (by have := HB7.out.size; have := HG.out; omega) (fun j hj => HOW7.out.row j hj))
              clear ho8 hg8 hn8
              go_wp2_with fail
              exact ⟨⟨s + 1, _, rfl, by omega, by go_num, HI8, HB8⟩, by simp only [intOf]; omega⟩
          · obtain rfl : s = 4 := by omega
            go_wp2_with fail
            exact ⟨⟨b + 1, _, rfl, by omega, by go_num, HI, HB⟩, by simp only [intOf]; omega⟩
      · obtain rfl : b = 8 := by omega
        obtain ⟨vb, hbt, hap⟩ := HI.out.bt
        have hbt : BT wr g hb vb (hasL TT 32) := hbt
        have CB := Go.Lib.hid (bytes_c wr g hb vb _ _ hbt (by rw [headB_len]; omega))
        have HOW := Go.Lib.hid (show Own 5 wr g u (bodyB TT 32) from HI.out.own)
        have HLB := Go.Lib.hid (HLEN2.out 32 (by omega))
        clear HI hbt hap HREC2 HLEN2
        go_wp2_with fail
        refine CB.out.mono ?_
        rintro e w4 ⟨v4, rfl, ho, hc⟩
        have hgw : g ≤ wr.heap.size := by have := HB.out.size; have := HG.out; omega
        have HO4 := Go.Lib.hid (ho.mono hgw)
        have HR4 := Go.Lib.hid (HOW.out.below hc).rb
        have HB4 := Go.Lib.hid (HB.out.trans (hc.mono hgw))
        clear ho hc CB HOW HB hgw
        go_wp2_with (first
          | (with_reducible show wpList _ _ _ (⟨some 34, _, _, _, _, _⟩ :: _) _ _; go_loud (refine wpList_append_RB rfl (.tmp 32) (.tmp 33) 40 rfl g 5 Try.underlying40 info8 v4 u _ _ rfl rfl HO4.out HR4.out (by have := HLB.out; rw [headB_len]; omega) (by have := HB4.out.size; have := HG.out; omega) ?_); intro v5 w5 ho5 hg5)
          | fail)
        have HF := Go.Lib.hid (And.intro (show Own 5 w5 g v5 OUT by rw [HOUT.out]; exact ho5) (HB4.out.grown hg5 (by have := HB4.out.size; have := HG.out; omega) (fun j hj => HO4.out.row j hj)))
        clear ho5 hg5
        go_wp2_with fail
        go_ret
        exact ⟨_, rfl, HF.out.1, HF.out.2⟩
  · have hok : okTo TT 32 = false := by simpa using hok
    have HOUT := Go.Lib.hid (show OUT = [] by rw [HOUT.out, hok]; rfl)
    rw [hok]
    clear HREC HLEN
    go_wp2_with fail
    go_ret
    exact ⟨_, rfl, by rw [HOUT.out]; exact Own.nil _ _ _, HB2.out⟩
end Go.Proofs.Ytgalppnpmfpdbaa

namespace Go.Proofs.Ytgalppnpmfpdbaa
open Go.RowKit
open Go.Lib (uvarint zigzag)

def rr (r : RdT) : Value := .tuple #[recV (str r.1.1) r.1.2.1 r.1.2.2.1 r.1.2.2.2.1 (str r.1.2.2.2.2), .int .i64 (r.2.1 : Int), .int .i64 r.2.2]

end Go.Proofs.Ytgalppnpmfpdbaa
