/-
  The contracts of bits: Of.
  Stage 19, mathematics: a table's bytes, and what is read of bytes.
  Small numbers as bits; how many bits are set: mathematics alone.
  How many bits are set, at any whole number: mathematics alone.
  Stage 20, mathematics: a table's records in the order of its slots; those of a bucket; those alike to a key; a table's beginning.
  Records that were cut; the reference's May of one.
  Stage 19, mathematics: records laid into a table by turns.
  What lies apart: rows of other types, a *bits.Bits, slices that came in.
  How many binary digits of a number are set, by halves: mathematics alone.
  Bits by words of 64, the last one filled up with noughts; the n-th one of a word: mathematics alone.
  The contract of math/bits.OnesCount64: how many binary digits are set; the world stays.
  What a *rank.Rank is; the contracts of Len and Ones.
-/
import Derived.Test.YthbnecdeebmlhaaGreatM07
import Derived.Test.YthbnecdeebmlhaaGreatM05
import Derived.Test.YthbnecdeebmlhaaGreatM01
import Derived.Test.YthbnecdeebmlhaaGreatM04
import Derived.Laws.BitsAllLaws
import Derived.Laws.Bits128
import Derived.Deep.QuietTactic
import Derived.BigQuiet
namespace Go.Proofs.YthbnecdeebmlhaaGreat
open Go.RowKit

theorem bytesFor_c (n : Nat) (w : World) (hn : n ≤ 9223372036854775807) : Calls Tryz.prog 83 #[.int .i64 (n : Int)] w fun e w' => e = .returned (.int .i64 (((n + 7) / 8 : Nat) : Int)) ∧ w = w' := by
  have hn' : (n : Int) ≤ 9223372036854775807 := by omega
  by_cases h : 0 < n % 8
  · have e1 := Go.Lib.hid (show (n + 7) / 8 = n / 8 + 1 from by omega)
    go_enter Tryz.func83, Tryz.ntmps83
    go_wp2_with fail
    go_ret
    exact ⟨by rw [e1.out]; rfl, rfl⟩
  · have e1 := Go.Lib.hid (show (n + 7) / 8 = n / 8 from by omega)
    go_enter Tryz.func83, Tryz.ntmps83
    go_wp2_with fail
    go_ret
    exact ⟨by rw [e1.out]; rfl, rfl⟩

/-- Would the bytes of n bits be just p? -/
def okP (p : List UInt8) (n : Int) : Prop := 0 ≤ n ∧ p.length = (n.toNat + 7) / 8 ∧ ∀ i, n.toNat ≤ i → i < 8 * p.length → bitAt p i = false
theorem okP_pack {p : List UInt8} {n : Nat} (h : okP p (n : Int)) : pack ((unpack p).take n) = p ∧ ((unpack p).take n).length = n := by
  obtain ⟨-, h1, h2⟩ := h
  rw [Int.toNat_natCast] at h1 h2
  refine ⟨(pack_first p n).2 ?_, by rw [List.length_take]; simp only [unpack, List.length_map, List.length_range]; omega⟩
  rcases Nat.lt_or_ge n (8 * p.length) with h | h
  · exact .inr ⟨by omega, h2⟩
  · exact .inl h
theorem last_zero (p : List UInt8) (n : Nat) (hlen : p.length = (n + 7) / 8) (hu : 0 < n % 8) (hp : p.length - 1 < p.length) :
    (p[p.length - 1].toNat * 2 ^ (n % 8) % 256 = 0) ↔ ∀ i, n ≤ i → i < 8 * p.length → bitAt p i = false := by
  have hk : p.length - 1 = n / 8 := by omega
  have hb : ∀ i, n ≤ i → i < 8 * p.length → bitAt p i = bit p[p.length - 1].toNat (7 - i % 8) := by
    intro i h1 h2
    unfold bitAt
    rw [show i / 8 = p.length - 1 from by omega, List.getD_eq_getElem?_getD, List.getElem?_eq_getElem hp]
    rfl
  generalize p[p.length - 1].toNat = c at hb ⊢
  have e : 256 = 2 ^ (8 - n % 8) * 2 ^ (n % 8) := by rw [← Nat.pow_add, show 8 - n % 8 + n % 8 = 8 from by omega]
  have hz : c * 2 ^ (n % 8) % 256 = 0 ↔ c % 2 ^ (8 - n % 8) = 0 := by
    rw [e, Nat.mul_mod_mul_right]
    constructor
    · intro h
      rcases Nat.mul_eq_zero.1 h with h | h
      · exact h
      · have : 0 < 2 ^ (n % 8) := Nat.pow_pos (by omega)
        omega
    · intro h; rw [h, Nat.zero_mul]
  rw [hz]
  constructor
  · intro h i h1 h2
    rw [hb i h1 h2, bit_test]
    have h3 := Nat.testBit_mod_two_pow c (8 - n % 8) (7 - i % 8)
    rw [h, Nat.zero_testBit, decide_eq_true (by omega), Bool.true_and] at h3
    exact h3.symm
  · intro h
    refine Nat.eq_of_testBit_eq fun j => ?_
    rw [Nat.zero_testBit, Nat.testBit_mod_two_pow]
    by_cases hj : j < 8 - n % 8
    · have h3 := h (8 * (p.length - 1) + (7 - j)) (by omega) (by omega)
      rw [hb _ (by omega) (by omega), bit_test, show 7 - (8 * (p.length - 1) + (7 - j)) % 8 = j from by omega] at h3
      rw [h3, Bool.and_false]
    · rw [decide_eq_false hj, Bool.false_and]

set_option maxRecDepth 100000 in
theorem bof_no1 (a : Option Addr) (len cap : Nat) (n : Int) (w : World) (h : n < 0) :
    Calls Tryz.prog 50 #[.slice a len cap, .int .i64 n] w fun e w' => e = .returned (.tuple #[.pointer none, .bool false]) ∧ w = w' := by
  go_enter Tryz.func50, Tryz.ntmps50
  go_wp2_with fail
  go_ret2
  exact ⟨rfl, rfl⟩
set_option maxRecDepth 100000 in
theorem bof_no2 (a : Option Addr) (len cap : Nat) (n : Nat) (w : World) (hn : n ≤ 9223372036854775807) (h : len ≠ (n + 7) / 8) :
    Calls Tryz.prog 50 #[.slice a len cap, .int .i64 (n : Int)] w fun e w' => e = .returned (.tuple #[.pointer none, .bool false]) ∧ w = w' := by
  have C := Go.Lib.hid fun W => bytesFor_c n W hn
  have hb : ((len : Int) != (((n + 7) / 8 : Nat) : Int)) = true := by simp; omega
  generalize (n + 7) / 8 = m at *
  go_enter Tryz.func50, Tryz.ntmps50
  go_wp2_with fail
  refine (C.out _).mono ?_
  rintro e w1 ⟨rfl, rfl⟩
  go_wp2_with fail
  go_ret2
  exact ⟨rfl, rfl⟩
set_option maxRecDepth 100000 in
theorem bof_no3 (a : Option Addr) (len cap : Nat) (n : Nat) (w : World) (p : List UInt8) (hr : RB w (.slice a len cap) p) (hn : n ≤ 9223372036854775807) (h : p.length = (n + 7) / 8) (hu : 0 < n % 8) (hp : p.length - 1 < p.length) (hz : p[p.length - 1].toNat * 2 ^ (n % 8) % 256 ≠ 0) :
    Calls Tryz.prog 50 #[.slice a len cap, .int .i64 (n : Int)] w fun e w' => e = .returned (.tuple #[.pointer none, .bool false]) ∧ w = w' := by
  have C0 := fun W => bytesFor_c n W hn
  rw [← h] at C0
  have C := Go.Lib.hid C0
  clear C0
  obtain ⟨rfl, hlc, hcm⟩ := hr.len
  obtain ⟨b, o, rfl, hc, hb⟩ := hr.at (p.length - 1) hp
  generalize p[p.length - 1].toNat = c at hc hz
  have hz' : ((c : Int) * 2 ^ (n % 8) % 256 != 0) = true := by
    have e : (c : Int) * 2 ^ (n % 8) = ((c * 2 ^ (n % 8) : Nat) : Int) := by simp
    rw [e]
    simp only [bne_iff_ne, ne_eq]
    omega
  have hm63 : p.length ≤ 9223372036854775807 := by unfold maxLen at hcm; omega
  clear hr h hlc hcm
  generalize p.length = len at *
  go_enter Tryz.func50, Tryz.ntmps50
  go_wp2_with fail
  refine (C.out _).mono ?_
  rintro e w1 ⟨rfl, rfl⟩
  go_wp2_with fail
  go_ret2
  exact ⟨rfl, rfl⟩

/-- A new *bits.Bits over a row that was made. -/
theorem BB.box {w0 w : World} {v : Value} {p : List UInt8} (h : Own 5 w w0.heap.size v p) (hb : Below w0.heap.size w0 w) (n : Nat) :
    BB (w.alloc (.cells #[v, .int .i64 (n : Int)] 80)) w0.heap.size w.heap.size v p n := ⟨heap_alloc_new w _, h.alloc _, hb.size⟩

set_option maxRecDepth 100000 in
theorem bof_yes (v : Value) (n : Nat) (w : World) (p : List UInt8) (hr : RB w v p) (hn : n ≤ 562949953421312) (h : okP p (n : Int)) :
    Calls Tryz.prog 50 #[v, .int .i64 (n : Int)] w fun e w' => ∃ b v', e = .returned (.tuple #[.pointer (some ⟨b, 0, none⟩), .bool true]) ∧ BT w' w.heap.size b v' ((unpack p).take n) ∧ Below w.heap.size w w' := by
  obtain ⟨hpk, hpl⟩ := okP_pack h
  obtain ⟨-, h1, h2⟩ := h
  rw [Int.toNat_natCast] at h1 h2
  have C0 := fun W => bytesFor_c n W (by omega)
  rw [← h1] at C0
  have C := Go.Lib.hid C0
  have C2 := Go.Lib.hid (bclone_c v p w hr (by omega))
  have Hpk := Go.Lib.hid hpk
  have Hpl := Go.Lib.hid hpl
  clear C0 hpk hpl
  obtain ⟨a, cap, rfl, hlc, hcm, hnone, -⟩ := id hr
  have hm63 : p.length ≤ 9223372036854775807 := by unfold maxLen at hcm; omega
  have fin : ∀ w1 v', Own 5 w1 w.heap.size v' p → Below w.heap.size w w1 → BT (w1.alloc (.cells #[v', .int .i64 (n : Int)] 80)) w.heap.size w1.heap.size v' ((unpack p).take n) ∧ Below w.heap.size w (w1.alloc (.cells #[v', .int .i64 (n : Int)] 80)) := by
    intro w1 v' ho hb
    refine ⟨?_, hb.alloc hb.size _⟩
    show BB _ _ _ _ _ _
    rw [Hpk.out, Hpl.out]
    exact BB.box ho hb n
  have Fin := Go.Lib.hid fin
  clear fin
  by_cases hu : 0 < n % 8
  · have hp : p.length - 1 < p.length := by omega
    have hz := (last_zero p n h1 hu hp).2 h2
    obtain ⟨b, o, rfl, hc, hb⟩ := hr.at (p.length - 1) hp
    generalize p[p.length - 1].toNat = c at hc hz
    have hz' : ((c : Int) * 2 ^ (n % 8) % 256 != 0) = false := by
      have e : (c : Int) * 2 ^ (n % 8) = ((c * 2 ^ (n % 8) : Nat) : Int) := by simp
      rw [e]
      simp only [bne_eq_false_iff_eq]
      omega
    clear hr h1 h2 hz hlc hcm hnone
    generalize p.length = len at *
    go_enter Tryz.func50, Tryz.ntmps50
    go_wp2_with fail
    refine (C.out _).mono ?_
    rintro e w1 ⟨rfl, rfl⟩
    go_wp2_with fail
    refine C2.out.mono ?_
    rintro e w1 ⟨v', rfl, ho, hb'⟩
    obtain ⟨a2, cap2, rfl, -⟩ := id ho.rb
    have F2 := Go.Lib.hid (Fin.out _ _ ho hb')
    clear Fin ho hb'
    go_wp2_with fail
    go_ret2
    exact ⟨_, _, rfl, F2.out⟩
  · clear hr h1 h2 hlc hcm hnone
    generalize p.length = len at *
    go_enter Tryz.func50, Tryz.ntmps50
    go_wp2_with fail
    refine (C.out _).mono ?_
    rintro e w1 ⟨rfl, rfl⟩
    go_wp2_with fail
    refine C2.out.mono ?_
    rintro e w1 ⟨v', rfl, ho, hb'⟩
    obtain ⟨a2, cap2, rfl, -⟩ := id ho.rb
    have F2 := Go.Lib.hid (Fin.out _ _ ho hb')
    clear Fin ho hb'
    go_wp2_with fail
    go_ret2
    exact ⟨_, _, rfl, F2.out⟩

/-- They would not. -/
theorem bof_no (v : Value) (n : Int) (w : World) (p : List UInt8) (hr : RB w v p) (hn : n ≤ 9223372036854775807) (h : ¬ okP p n) :
    Calls Tryz.prog 50 #[v, .int .i64 n] w fun e w' => e = .returned (.tuple #[.pointer none, .bool false]) ∧ w = w' := by
  obtain ⟨a, cap, rfl, hlc, hcm, -, -⟩ := id hr
  by_cases h0 : n < 0
  · exact bof_no1 _ _ _ _ _ h0
  obtain ⟨n, rfl⟩ : ∃ k : Nat, n = (k : Int) := ⟨n.toNat, by omega⟩
  by_cases h1 : p.length = (n + 7) / 8
  · have hu : 0 < n % 8 := by
      rcases Nat.eq_zero_or_pos (n % 8) with hu | hu
      · exact absurd ⟨by omega, by rw [Int.toNat_natCast]; exact h1, fun i h3 h4 => by rw [Int.toNat_natCast] at h3; omega⟩ h
      · exact hu
    have hp : p.length - 1 < p.length := by omega
    refine bof_no3 a _ cap n w p hr (by omega) h1 hu hp fun hz => h ⟨by omega, by rw [Int.toNat_natCast]; exact h1, ?_⟩
    rw [Int.toNat_natCast]
    exact (last_zero p n h1 hu hp).1 hz
  · exact bof_no2 a _ cap n w (by omega) h1

end Go.Proofs.YthbnecdeebmlhaaGreat

namespace Go.Proofs.YthbnecdeebmlhaaGreat
open Go.RowKit

def zeroT : TabT := fun _ => (false, nullR)
def entB (x : RecT) : List UInt8 := UInt8.ofNat (tagN (hR x) / 256) :: UInt8.ofNat (tagN (hR x) % 256) :: recT x
def hasL (TT : TabT) (n : Nat) : List Bool := (List.range n).map fun q => (TT q).1
def bodyB (TT : TabT) (n : Nat) : List UInt8 := (recsT TT n).flatMap entB
def tabB (TT : TabT) : List UInt8 := pack (hasL TT 32) ++ bodyB TT 32
theorem hasL_len (TT : TabT) (n : Nat) : (hasL TT n).length = n := by simp [hasL]
theorem hasL_at (TT : TabT) (n i : Nat) (h : i < (hasL TT n).length) : (hasL TT n)[i] = (TT i).1 := by simp [hasL]
theorem hasL_succ (TT : TabT) (n : Nat) : hasL TT (n + 1) = hasL TT n ++ [(TT n).1] := by simp [hasL, List.range_succ]
theorem bodyB_succ (TT : TabT) (n : Nat) : bodyB TT (n + 1) = bodyB TT n ++ (if (TT n).1 then entB (TT n).2 else []) := by
  unfold bodyB
  rw [recsT_succ, List.flatMap_append]
  cases (TT n).1 <;> simp
theorem headB_len (TT : TabT) : (pack (hasL TT 32)).length = 4 := by rw [pack_length, hasL_len]

/-- A table's slots are as a table's records are: numbers that fit. -/
def TabOk (TT : TabT) : Prop := ∀ q, q < 32 → RecOk (TT q).2
/-- The entry at the beginning. -/
def getE (l : List UInt8) : Option (RecT × Nat) :=
  if l.length < 2 then none
  else if (readB (l.drop 2)).2.2 ≠ 0 ∨ (l.getD 0 0).toNat * 256 + (l.getD 1 0).toNat ≠ tagN (hR (unR (readB (l.drop 2)).1)) then none
  else some (unR (readB (l.drop 2)).1, 2 + (readB (l.drop 2)).2.1)
def decGo (bs : List Bool) (l : List UInt8) : Nat → Option (TabT × Nat)
  | 0 => some (zeroT, 4)
  | n + 1 => match decGo bs l n with
    | none => none
    | some (TT, k) => if bs.getD n false then (match getE (l.drop k) with | none => none | some (r, m) => some (setT TT n (true, r), k + m)) else some (TT, k)
def decR (bs : List Bool) (l : List UInt8) : Option TabT := match decGo bs l 32 with
  | none => none
  | some (TT, k) => if k < l.length then none else if okTo TT 32 then some TT else none
def decT (l : List UInt8) : Option TabT := if 4 ≤ l.length then decR ((unpack (l.take 4)).take 32) l else none

theorem byte_two (a b : UInt8) (t : Nat) (h : a.toNat * 256 + b.toNat = t) : UInt8.ofNat (t / 256) = a ∧ UInt8.ofNat (t % 256) = b := by
  have ha := a.toNat_lt
  have hb := b.toNat_lt
  have e1 : t / 256 = a.toNat := by omega
  have e2 : t % 256 = b.toNat := by omega
  rw [e1, e2]
  exact ⟨UInt8.ofNat_toNat, UInt8.ofNat_toNat⟩
theorem getE_some {l : List UInt8} {r : RecT} {m : Nat} (h : getE l = some (r, m)) : mayT r = true ∧ RecOk r ∧ l = entB r ++ l.drop m ∧ m = (entB r).length ∧ m ≤ l.length := by
  unfold getE at h
  split at h
  · cases h
  · rename_i h2
    split at h
    · cases h
    · rename_i h3
      simp only [not_or, ne_eq, Decidable.not_not] at h3
      obtain ⟨h3, h4⟩ := h3
      simp only [Option.some.injEq, Prod.mk.injEq] at h
      obtain ⟨rfl, rfl⟩ := h
      rcases hr : readB (l.drop 2) with ⟨r0, p, e⟩
      rw [hr] at h3 h4
      simp only [] at h3 h4
      subst h3
      obtain ⟨c1, c2, c3, c4⟩ := readB_canon hr
      rcases l with _ | ⟨a, _ | ⟨b, t⟩⟩
      · simp at h2
      · simp at h2
      · simp only [List.drop_succ_cons, List.drop_zero, List.getD_cons_zero, List.getD_cons_succ] at c3 c4 h4 hr ⊢
        obtain ⟨e1, e2⟩ := byte_two a b _ h4
        have hlen : p = (recT (unR r0)).length := by
          have h5 := congrArg List.length c3
          rw [List.length_append, List.length_drop] at h5
          omega
        have hm : 2 + p = (entB (unR r0)).length := by unfold entB; simp only [List.length_cons]; omega
        refine ⟨c1, c2, ?_, hm, by simp only [List.length_cons]; omega⟩
        unfold entB
        rw [e1, e2, Nat.add_comm 2 p]
        simp only [List.drop_succ_cons, List.cons_append]
        rw [← c3]
theorem getE_put {x : RecT} (h : mayT x = true) (hok : RecOk x) (r : List UInt8) : getE (entB x ++ r) = some (x, (entB x).length) := by
  obtain ⟨y, h1, h2⟩ := readT_put h hok r
  have ht : tagN (hR x) < 32768 := tag_lt _
  unfold getE entB
  simp only [List.cons_append, List.drop_succ_cons, List.drop_zero, List.getD_cons_zero, List.getD_cons_succ, List.length_cons, List.length_append]
  rw [h1]
  simp only []
  rw [h2, if_neg (by omega), if_neg]
  · simp only [Option.some.injEq, Prod.mk.injEq, true_and]
    omega
  · simp only [not_or, ne_eq, Decidable.not_not]
    refine ⟨trivial, ?_⟩
    simp only [UInt8.toNat_ofNat']
    omega

theorem recs_congr {TT UU : TabT} : ∀ n, (∀ q, q < n → TT q = UU q) → recsT TT n = recsT UU n
  | 0, _ => rfl
  | n + 1, h => by rw [recsT_succ, recsT_succ, recs_congr n (fun q hq => h q (by omega)), h n (by omega)]
theorem body_congr {TT UU : TabT} (n : Nat) (h : ∀ q, q < n → TT q = UU q) : bodyB TT n = bodyB UU n := by unfold bodyB; rw [recs_congr n h]
theorem tabL_congr {TT UU : TabT} : ∀ n, (∀ q, q < n → TT q = UU q) → tabL TT n = tabL UU n
  | 0, _ => rfl
  | n + 1, h => by rw [tabL_succ, tabL_succ, tabL_congr n (fun q hq => h q (by omega)), h n (by omega)]
theorem ok_congr {TT UU : TabT} : ∀ n, (∀ q, q < n → TT q = UU q) → okTo TT n = okTo UU n
  | 0, _ => rfl
  | n + 1, h => by
    rw [okTo_succ, okTo_succ, ok_congr n (fun q hq => h q (by omega))]
    unfold okSlot keysT
    have : (List.range n).filterMap (hasT TT) = (List.range n).filterMap (hasT UU) := recs_congr n (fun q hq => h q (by omega))
    rw [this, h n (by omega)]
theorem hasL_congr {TT UU : TabT} (n : Nat) (h : ∀ q, q < n → TT q = UU q) : hasL TT n = hasL UU n := by
  unfold hasL
  apply List.map_congr_left
  intro q hq
  rw [h q (List.mem_range.1 hq)]
/-- What the reader has, slot for slot. -/
structure DecI (bs : List Bool) (l : List UInt8) (n : Nat) (TT : TabT) (k : Nat) : Prop where
  le : k ≤ l.length
  ge : 4 ≤ k
  got : l.take k = l.take 4 ++ bodyB TT n
  has : ∀ q, q < n → (TT q).1 = bs.getD q false
  out : ∀ q, n ≤ q → TT q = (false, nullR)
  rec_ok : ∀ q, (TT q).1 = true → mayT (TT q).2 = true ∧ RecOk (TT q).2
  nul : ∀ q, (TT q).1 = false → (TT q).2 = nullR
theorem setT_old (TT : TabT) (n : Nat) (y : Bool × RecT) {q : Nat} (h : q ≠ n) : setT TT n y q = TT q := if_neg h
theorem setT_new (TT : TabT) (n : Nat) (y : Bool × RecT) : setT TT n y n = y := if_pos rfl
theorem takeE_more {l : List UInt8} {k m : Nat} {e : List UInt8} (h : l.drop k = e ++ (l.drop k).drop m) (hm : m = e.length) (_hl : m ≤ (l.drop k).length) : l.take (k + m) = l.take k ++ e := by
  rw [List.take_add]
  congr 1
  rw [h, hm, List.take_left']
  rfl
theorem decGo_inv (bs : List Bool) (l : List UInt8) (h4 : 4 ≤ l.length) : ∀ (n : Nat) (TT : TabT) (k : Nat), decGo bs l n = some (TT, k) → DecI bs l n TT k
  | 0, TT, k, h => by
    simp only [decGo, Option.some.injEq, Prod.mk.injEq] at h
    obtain ⟨rfl, rfl⟩ := h
    exact ⟨h4, Nat.le_refl _, by simp [bodyB, recsT], (fun q hq => absurd hq (by omega)), (fun q _ => rfl), (fun q hq => by cases hq), fun q _ => rfl⟩
  | n + 1, TT, k, h => by
    rw [decGo] at h
    cases hd : decGo bs l n with
    | none => rw [hd] at h; cases h
    | some p =>
      obtain ⟨UU, j⟩ := p
      have I := decGo_inv bs l h4 n UU j hd
      rw [hd] at h
      simp only [] at h
      cases hb : bs.getD n false with
      | false =>
        rw [hb] at h
        simp only [Bool.false_eq_true, if_false, Option.some.injEq, Prod.mk.injEq] at h
        obtain ⟨rfl, rfl⟩ := h
        have hn := I.out n (Nat.le_refl _)
        refine ⟨I.le, I.ge, ?_, fun q hq => ?_, fun q hq => I.out q (by omega), I.rec_ok, I.nul⟩
        · rw [bodyB_succ, hn]; simpa using I.got
        · rcases Nat.lt_or_ge q n with h2 | h2
          · exact I.has q h2
          · obtain rfl : q = n := by omega
            rw [hn, hb]
      | true =>
        rw [hb] at h
        simp only [if_true] at h
        cases hg : getE (l.drop j) with
        | none => rw [hg] at h; cases h
        | some p =>
          obtain ⟨r, m⟩ := p
          rw [hg] at h
          simp only [Option.some.injEq, Prod.mk.injEq] at h
          obtain ⟨rfl, rfl⟩ := h
          obtain ⟨g1, g2, g3, g4, g5⟩ := getE_some hg
          have hl := I.le
          rw [List.length_drop] at g5
          refine ⟨by omega, by have := I.ge; omega, ?_, fun q hq => ?_, fun q hq => ?_, fun q hq => ?_, fun q hq => ?_⟩
          · rw [bodyB_succ, setT_new, body_congr n (fun q hq => setT_old UU n _ (by omega : q ≠ n)), takeE_more g3 g4 (by rw [List.length_drop]; omega), I.got]
            simp
          · rcases Nat.lt_or_ge q n with h2 | h2
            · rw [setT_old UU n _ (by omega)]; exact I.has q h2
            · obtain rfl : q = n := by omega
              rw [setT_new, hb]
          · rw [setT_old UU n _ (by omega)]; exact I.out q (by omega)
          · by_cases e : q = n
            · subst e; rw [setT_new]; exact ⟨g1, g2⟩
            · rw [setT_old UU n _ e] at hq ⊢; exact I.rec_ok q hq
          · by_cases e : q = n
            · subst e; rw [setT_new] at hq; cases hq
            · rw [setT_old UU n _ e] at hq ⊢; exact I.nul q hq
theorem decGo_none {bs : List Bool} {l : List UInt8} {n : Nat} (h : decGo bs l n = none) : ∀ j, decGo bs l (n + j) = none
  | 0 => h
  | j + 1 => by rw [show n + (j + 1) = (n + j) + 1 by omega, decGo, decGo_none h j]
theorem decR_none {bs : List Bool} {l : List UInt8} {n : Nat} (h : decGo bs l n = none) (hn : n ≤ 32) : decR bs l = none := by
  unfold decR
  have := decGo_none h (32 - n)
  rw [show n + (32 - n) = 32 by omega] at this
  rw [this]
theorem decGo_skip {bs : List Bool} {l : List UInt8} {n k : Nat} {TT : TabT} (h : decGo bs l n = some (TT, k)) (hb : bs.getD n false = false) : decGo bs l (n + 1) = some (TT, k) := by
  rw [decGo, h]
  simp only [hb, Bool.false_eq_true, if_false]
theorem decGo_stop {bs : List Bool} {l : List UInt8} {n k : Nat} {TT : TabT} (h : decGo bs l n = some (TT, k)) (hb : bs.getD n false = true) (hg : getE (l.drop k) = none) : decGo bs l (n + 1) = none := by
  rw [decGo, h]
  simp only [hb, if_true, hg]
theorem decGo_more {bs : List Bool} {l : List UInt8} {n k m : Nat} {TT : TabT} {r : RecT} (h : decGo bs l n = some (TT, k)) (hb : bs.getD n false = true) (hg : getE (l.drop k) = some (r, m)) : decGo bs l (n + 1) = some (setT TT n (true, r), k + m) := by
  rw [decGo, h]
  simp only [hb, if_true, hg]
theorem okP4 {l : List UInt8} : okP (l.take 4) (32 : Int) ↔ 4 ≤ l.length := by
  unfold okP
  rw [List.length_take]
  constructor
  · rintro ⟨-, h, -⟩
    simp at h
    omega
  · intro h
    refine ⟨by decide, by simp; omega, fun i h1 h2 => ?_⟩
    simp at h1
    omega
theorem decT_none {l : List UInt8} (h : ¬ 4 ≤ l.length) : decT l = none := by unfold decT; rw [if_neg h]
theorem nullOk : RecOk nullR := by unfold nullR; unfold RecOk; decide
theorem recOk_null_size : nullR.1.size ≤ 1000 ∧ nullR.2.2.2.2.size ≤ 1000 := by decide
theorem DecI.sizes {bs : List Bool} {l : List UInt8} {n : Nat} {TT : TabT} {k : Nat} (I : DecI bs l n TT k) (q : Nat) : (TT q).2.1.size ≤ 1000 ∧ (TT q).2.2.2.2.2.size ≤ 1000 := by
  cases h : (TT q).1 with
  | true => have := mayT_short (I.rec_ok q h).1; omega
  | false => rw [I.nul q h]; exact recOk_null_size
theorem DecI.ok {bs : List Bool} {l : List UInt8} {n : Nat} {TT : TabT} {k : Nat} (I : DecI bs l n TT k) : TabOk TT := fun q _ => by
  cases h : (TT q).1 with
  | true => exact (I.rec_ok q h).2
  | false => rw [I.nul q h]; exact nullOk
theorem decT_some {l : List UInt8} {TT : TabT} (h : decT l = some TT) : okTo TT 32 = true ∧ tabB TT = l ∧ TabOk TT ∧ ∀ q, (TT q).2.1.size ≤ 1000 ∧ (TT q).2.2.2.2.2.size ≤ 1000 := by
  unfold decT at h
  split at h
  · rename_i h4
    have hp := okP_pack (n := 32) (okP4.2 h4)
    unfold decR at h
    split at h
    · cases h
    · rename_i UU k hd
      have I := decGo_inv _ l h4 32 UU k hd
      split at h
      · cases h
      · rename_i hk
        split at h
        · rename_i hok
          cases h
          refine ⟨hok, ?_, I.ok, I.sizes⟩
          have hg := I.got
          rw [List.take_of_length_le (by have := I.le; omega)] at hg
          have he : hasL TT 32 = (unpack (l.take 4)).take 32 := by
            apply List.ext_getElem
            · rw [hasL_len]; exact hp.2.symm
            · intro i h1 h2
              rw [hasL_len] at h1
              have := I.has i h1
              rw [hasL_at, this, List.getD_eq_getElem?_getD, List.getElem?_eq_getElem h2]
              rfl
          unfold tabB
          rw [he, hp.1]
          exact hg.symm
        · cases h
  · cases h

/-! ### What was written is read. -/
def cutT (TT : TabT) (n : Nat) : TabT := fun q => if q < n then TT q else (false, nullR)
theorem cutT_old (TT : TabT) {n q : Nat} (h : q < n) : cutT TT n q = TT q := if_pos h
theorem cutT_set (TT : TabT) (n : Nat) : setT (cutT TT n) n (TT n) = cutT TT (n + 1) := by
  funext q
  unfold setT cutT
  by_cases h1 : q = n
  · subst h1; rw [if_pos rfl, if_pos (by omega)]
  · rw [if_neg h1]
    by_cases h2 : q < n
    · rw [if_pos h2, if_pos (by omega)]
    · rw [if_neg h2, if_neg (by omega)]
theorem cutT_skip (TT : TabT) (n : Nat) (h : TT n = (false, nullR)) : cutT TT n = cutT TT (n + 1) := by
  funext q
  unfold cutT
  by_cases h2 : q < n
  · rw [if_pos h2, if_pos (by omega)]
  · rw [if_neg h2]
    by_cases h1 : q = n
    · subst h1; rw [if_pos (by omega), h]
    · rw [if_neg (by omega)]
theorem okTo_slot {TT : TabT} (h : okTo TT 32 = true) {q : Nat} (hq : q < 32) : ((TT q).1 = true → mayT (TT q).2 = true) ∧ ((TT q).1 = false → (TT q).2 = nullR) := by
  unfold okTo at h
  have h := List.all_eq_true.1 h q (List.mem_range.2 hq)
  unfold okSlot at h
  refine ⟨fun h1 => ?_, fun h1 => ?_⟩
  · rw [h1] at h
    simp only [if_true, Bool.and_eq_true] at h
    exact h.1.1
  · rw [h1] at h
    simpa using h
theorem body_split (TT : TabT) : ∀ (n : Nat), n ≤ 32 → ∃ r, bodyB TT 32 = bodyB TT n ++ r ∧ (n < 32 → r = (if (TT n).1 then entB (TT n).2 else []) ++ r.drop (if (TT n).1 then entB (TT n).2 else []).length) := by
  have key : ∀ m n, n + m = 32 → ∃ r, bodyB TT 32 = bodyB TT n ++ r := by
    intro m
    induction m with
    | zero => intro n h; obtain rfl : n = 32 := by omega
              exact ⟨[], by simp⟩
    | succ m ih =>
      intro n h
      obtain ⟨r, hr⟩ := ih (n + 1) (by omega)
      rw [bodyB_succ TT n, List.append_assoc] at hr
      exact ⟨_, hr⟩
  intro n hn
  rcases Nat.lt_or_ge n 32 with h | h
  · obtain ⟨r, hr⟩ := key (32 - (n + 1)) (n + 1) (by omega)
    rw [bodyB_succ TT n, List.append_assoc] at hr
    exact ⟨_, hr, fun _ => by rw [List.drop_left']; rfl⟩
  · obtain rfl : n = 32 := by omega
    exact ⟨[], by simp, fun h => absurd h (by omega)⟩
theorem decGo_put {TT : TabT} (h : okTo TT 32 = true) (hok : TabOk TT) : ∀ n, n ≤ 32 → decGo (hasL TT 32) (tabB TT) n = some (cutT TT n, 4 + (bodyB TT n).length)
  | 0, _ => by
    rw [decGo]
    simp only [bodyB, recsT, List.range_zero, List.filterMap_nil, List.flatMap_nil, List.length_nil, Nat.add_zero, Option.some.injEq, Prod.mk.injEq, and_true]
    funext q
    unfold cutT zeroT
    rw [if_neg (by omega)]
  | n + 1, hn => by
    rw [decGo, decGo_put h hok n (by omega)]
    simp only []
    have hb : (hasL TT 32).getD n false = (TT n).1 := by
      unfold hasL
      rw [List.getD_eq_getElem?_getD, List.getElem?_map, List.getElem?_range (by omega)]
      rfl
    obtain ⟨m1, m2⟩ := okTo_slot h (show n < 32 by omega)
    obtain ⟨r, hr, hr2⟩ := body_split TT n (by omega)
    have hd : (tabB TT).drop (4 + (bodyB TT n).length) = r := by
      unfold tabB
      rw [hr, ← List.append_assoc, List.drop_left']
      rw [List.length_append, headB_len]
    rw [hb, bodyB_succ TT n, List.length_append]
    cases hq : (TT n).1 with
    | false =>
      have he : TT n = (false, nullR) := Prod.ext hq (m2 hq)
      simp only [Bool.false_eq_true, if_false, List.length_nil, Nat.add_zero, Option.some.injEq, Prod.mk.injEq, and_true]
      exact cutT_skip TT n he
    | true =>
      simp only [if_true]
      have hr3 := hr2 (by omega)
      rw [hq] at hr3
      simp only [if_true] at hr3
      rw [hd, hr3, getE_put (m1 hq) (hok n (by omega))]
      simp only [Option.some.injEq, Prod.mk.injEq]
      refine ⟨?_, by omega⟩
      have he : (true, (TT n).2) = TT n := Prod.ext hq.symm rfl
      rw [he]
      exact cutT_set TT n
theorem unpack_head (TT : TabT) : (unpack ((tabB TT).take 4)).take 32 = hasL TT 32 := by
  have e : (tabB TT).take 4 = pack (hasL TT 32) := by
    unfold tabB
    rw [List.take_left']
    exact headB_len TT
  rw [e]
  apply List.ext_getElem
  · rw [List.length_take, hasL_len]
    simp [unpack, headB_len]
  · intro i h1 h2
    rw [hasL_len] at h2
    rw [List.getElem_take]
    have e2 : ∀ h, (unpack (pack (hasL TT 32)))[i]'h = bitAt (pack (hasL TT 32)) i := fun h => by simp [unpack]
    rw [e2, bitAt_pack, List.getD_eq_getElem?_getD, List.getElem?_eq_getElem (by rw [hasL_len]; exact h2)]
    rfl
theorem tabB_len4 (TT : TabT) : 4 ≤ (tabB TT).length := by
  unfold tabB
  rw [List.length_append, headB_len]
  omega
theorem decT_put {TT : TabT} (h : okTo TT 32 = true) (hok : TabOk TT) : decT (tabB TT) = some (cutT TT 32) := by
  unfold decT
  rw [if_pos (tabB_len4 TT), unpack_head]
  unfold decR
  rw [decGo_put h hok 32 (Nat.le_refl _)]
  simp only []
  rw [if_neg (by unfold tabB; rw [List.length_append, headB_len]; omega), if_pos]
  rw [ok_congr (UU := TT) 32 (fun q hq => cutT_old TT hq)]
  exact h
theorem bodyB_len {TT : TabT} (h : okTo TT 32 = true) (hok : TabOk TT) : ∀ n, n ≤ 32 → (bodyB TT n).length ≤ 202 * n
  | 0, _ => by simp [bodyB, recsT]
  | n + 1, hn => by
    have ih := bodyB_len h hok n (by omega)
    rw [bodyB_succ, List.length_append]
    cases hq : (TT n).1 with
    | false => simp; omega
    | true =>
      have := (recT_len ((okTo_slot h (show n < 32 by omega)).1 hq) (hok n (by omega))).2
      simp only [if_true]
      unfold entB
      simp only [List.length_cons]
      omega
end Go.Proofs.YthbnecdeebmlhaaGreat

namespace Go.Proofs.YthbnecdeebmlhaaGreat

/-- How many binary digits. -/
def digits (x : Nat) : Nat := if x = 0 then 0 else Nat.log2 x + 1
theorem digits_zero : digits 0 = 0 := rfl
theorem digits_bounds (x : Nat) (h : x ≠ 0) : 2 ^ (digits x - 1) ≤ x ∧ x < 2 ^ digits x ∧ 1 ≤ digits x := by
  unfold digits
  rw [if_neg h, Nat.add_sub_cancel]
  exact ⟨Nat.log2_self_le h, Nat.lt_log2_self, by omega⟩
theorem digits_eq {x k : Nat} (h0 : 2 ^ k ≤ x) (h1 : x < 2 ^ (k + 1)) : digits x = k + 1 := by
  have hp : 0 < 2 ^ k := Nat.pow_pos (by omega)
  have hx : x ≠ 0 := by omega
  obtain ⟨a, b, c⟩ := digits_bounds x hx
  have h2 : k < digits x := (Nat.pow_lt_pow_iff_right (by omega : 1 < 2)).1 (Nat.lt_of_le_of_lt h0 b)
  have h3 : digits x - 1 < k + 1 := (Nat.pow_lt_pow_iff_right (by omega : 1 < 2)).1 (Nat.lt_of_le_of_lt a h1)
  omega
theorem digits_half (x : Nat) (h : x ≠ 0) : digits x = digits (x / 2) + 1 := by
  obtain ⟨a, b, c⟩ := digits_bounds x h
  by_cases h2 : x / 2 = 0
  · rw [h2, digits_zero]
    have : x = 1 := by omega
    subst this
    exact digits_eq (k := 0) (by decide) (by decide)
  · have hd : 2 ≤ digits x := by
      rcases Nat.lt_or_ge (digits x) 2 with h3 | h3
      · have : digits x = 1 := by omega
        rw [this] at b
        omega
      · exact h3
    have e1 : 2 ^ (digits x - 1) = 2 * 2 ^ (digits x - 2) := by rw [← Nat.pow_succ']; congr 1; omega
    have e2 : 2 ^ digits x = 2 * 2 ^ (digits x - 1) := by rw [← Nat.pow_succ']; congr 1; omega
    have := digits_eq (x := x / 2) (k := digits x - 2) (by omega) (by rw [show digits x - 2 + 1 = digits x - 1 from by omega]; omega)
    omega
theorem digits_64 (x : Nat) (h : x < 18446744073709551616) : digits x ≤ 64 := by
  by_cases h0 : x = 0
  · subst h0; decide
  · obtain ⟨a, b, c⟩ := digits_bounds x h0
    have : 2 ^ (digits x - 1) < 2 ^ 64 := Nat.lt_of_le_of_lt a h
    have := (Nat.pow_lt_pow_iff_right (by omega : 1 < 2)).1 this
    omega
/-- How many of the first i are set. -/
def ones (l : List Bool) (i : Nat) : Nat := (l.take i).count true
theorem ones_zero (l : List Bool) : ones l 0 = 0 := rfl
theorem ones_succ (l : List Bool) (i : Nat) (h : i < l.length) : ones l (i + 1) = ones l i + bv l[i] := by
  unfold ones
  rw [List.take_succ_eq_append_getElem h, List.count_append]
  cases l[i] <;> rfl
theorem ones_all (l : List Bool) (i : Nat) (h : l.length ≤ i) : ones l i = l.count true := by
  unfold ones
  rw [List.take_of_length_le h]
theorem ones_le (l : List Bool) (i : Nat) : ones l i ≤ i := by
  unfold ones
  exact Nat.le_trans List.count_le_length (List.length_take_le _ _)
theorem ones_mono (l : List Bool) {i j : Nat} (h : i ≤ j) : ones l i ≤ ones l j := by
  unfold ones
  exact List.Sublist.count_le _ (List.take_sublist_take_left h)
/-- Where the n-th one that is set stands. -/
def place (l : List Bool) (n : Nat) : Option Nat := (List.range l.length).find? fun i => l.getD i false && ones l i == n
theorem place_some {l : List Bool} {n i : Nat} (h : place l n = some i) : i < l.length ∧ l.getD i false = true ∧ ones l i = n := by
  have h1 := List.find?_some h
  have h2 := List.mem_of_find?_eq_some h
  rw [List.mem_range] at h2
  rw [Bool.and_eq_true, beq_iff_eq] at h1
  exact ⟨h2, h1.1, h1.2⟩
theorem place_at (l : List Bool) (i : Nat) (h : i < l.length) (hi : l[i] = true) : place l (ones l i) = some i := by
  cases hp : place l (ones l i) with
  | none =>
    have := List.find?_eq_none.1 hp i (List.mem_range.2 h)
    simp [List.getD_eq_getElem?_getD, h, hi] at this
  | some j =>
    obtain ⟨h1, h2, h3⟩ := place_some hp
    have hj : l[j] = true := by simpa [List.getD_eq_getElem?_getD, h1] using h2
    rcases Nat.lt_trichotomy i j with hij | hij | hij
    · have := ones_mono l (show i + 1 ≤ j from hij)
      rw [ones_succ l i h, hi] at this
      simp [bv] at this
      omega
    · rw [hij]
    · have := ones_mono l (show j + 1 ≤ i from hij)
      rw [ones_succ l j h1, hj] at this
      simp [bv] at this
      omega
theorem place_none (l : List Bool) (n : Nat) : place l n = none ↔ l.count true ≤ n := by
  constructor
  · intro h
    rcases Nat.lt_or_ge n (l.count true) with hlt | hge
    · exfalso
      have key : ∀ k, k ≤ l.length → n < ones l k → False := by
        intro k
        induction k with
        | zero => intro _ h0; rw [ones_zero] at h0; omega
        | succ k ih =>
          intro hk h0
          rw [ones_succ l k (by omega)] at h0
          rcases Nat.lt_or_ge n (ones l k) with h1 | h1
          · exact ih (by omega) h1
          · cases hb : l[k] with
            | false => rw [hb] at h0; simp [bv] at h0; omega
            | true =>
              rw [hb] at h0
              have : ones l k = n := by simp [bv] at h0; omega
              have hp := place_at l k (by omega) hb
              rw [this, h] at hp
              cases hp
      exact key l.length (Nat.le_refl _) (by rw [ones_all l _ (Nat.le_refl _)]; exact hlt)
    · exact hge
  · intro h
    cases hp : place l n with
    | none => rfl
    | some i =>
      obtain ⟨h1, h2, h3⟩ := place_some hp
      have hi : l[i] = true := by simpa [List.getD_eq_getElem?_getD, h1] using h2
      have := ones_mono l (show i + 1 ≤ l.length from h1)
      rw [ones_succ l i h1, hi, ones_all l _ (Nat.le_refl _)] at this
      simp [bv] at this
      omega

end Go.Proofs.YthbnecdeebmlhaaGreat

namespace Go.Proofs.YthbnecdeebmlhaaGreat

def onesI (l : List Bool) (i : Int) : Nat := if i < 0 then 0 else ones l i.toNat
def placeI (l : List Bool) (n : Int) : Int := if n < 0 then -1 else match place l n.toNat with | some p => (p : Int) | none => -1
theorem onesI_nat (l : List Bool) (i : Nat) : onesI l (i : Int) = ones l i := by
  unfold onesI
  rw [if_neg (by omega), Int.toNat_natCast]
theorem placeI_some {l : List Bool} {n p : Nat} (h : place l n = some p) : placeI l (n : Int) = (p : Int) := by
  unfold placeI
  rw [if_neg (by omega), Int.toNat_natCast, h]
theorem placeI_none {l : List Bool} {n : Nat} (h : place l n = none) : placeI l (n : Int) = -1 := by
  unfold placeI
  rw [if_neg (by omega), Int.toNat_natCast, h]
theorem placeI_neg {l : List Bool} {n : Int} (h : n < 0) : placeI l n = -1 := by
  unfold placeI
  rw [if_pos h]
theorem ones_len (l : List Bool) : ones l l.length = l.count true := ones_all l _ (Nat.le_refl _)

end Go.Proofs.YthbnecdeebmlhaaGreat

namespace Go.Proofs.YthbnecdeebmlhaaGreat
open Go.RowKit

theorem range_app (a : Nat) : ∀ n, List.range (a + n) = List.range a ++ (List.range n).map fun i => a + i
  | 0 => by simp
  | n + 1 => by rw [← Nat.add_assoc, List.range_succ, range_app a n, List.range_succ, List.map_append, ← List.append_assoc]; rfl
theorem ones_has (TT : TabT) : ∀ (m n : Nat), n ≤ m → ones (hasL TT m) n = (recsT TT n).length
  | m, 0, _ => rfl
  | m, n + 1, h => by
    rw [ones_succ _ n (by rw [hasL_len]; omega), ones_has TT m n (by omega), hasL_at, recsT_succ]
    cases (TT n).1 <;> simp [bv]

/-! ### A bucket's records. -/
def bktT (TT : TabT) (b : Nat) : List RecT := (List.range 4).filterMap fun s => hasT TT (4 * b + s)
theorem recsT_bkt (TT : TabT) (b : Nat) : recsT TT (4 * b + 4) = recsT TT (4 * b) ++ bktT TT b := by
  unfold recsT bktT
  rw [range_app (4 * b) 4, List.filterMap_append, List.filterMap_map]
  rfl
theorem recsT_more (TT : TabT) (n m : Nat) : ∃ r, recsT TT (n + m) = recsT TT n ++ r := by
  unfold recsT
  rw [range_app n m, List.filterMap_append]
  exact ⟨_, rfl⟩
theorem bkt_cut (TT : TabT) {b : Nat} (hb : b < 8) : ((recsT TT 32).take (recsT TT (4 * b + 4)).length).drop (recsT TT (4 * b)).length = bktT TT b := by
  obtain ⟨r, hr⟩ := recsT_more TT (4 * b + 4) (28 - 4 * b)
  rw [show 4 * b + 4 + (28 - 4 * b) = 32 by omega] at hr
  rw [hr, List.take_left, recsT_bkt, List.drop_left]
theorem bkt_len (TT : TabT) (b : Nat) : (bktT TT b).length ≤ 4 := by
  unfold bktT
  exact Nat.le_trans (List.length_filterMap_le _ _) (by simp)
theorem recsT_flat (TT : TabT) : ∀ n, recsT TT (4 * n) = (List.range n).flatMap (bktT TT)
  | 0 => rfl
  | n + 1 => by rw [show 4 * (n + 1) = 4 * n + 4 by omega, recsT_bkt, recsT_flat TT n, List.range_succ, List.flatMap_append]; simp
theorem bkt_lie {TT : TabT} (h : okTo TT 32 = true) {b : Nat} (hb : b < 8) {x : RecT} (hx : x ∈ bktT TT b) : mayT x = true ∧ (b = firstN (hR x) ∨ b = othN (firstN (hR x)) (tagN (hR x))) := by
  obtain ⟨s, hs, he⟩ := List.mem_filterMap.1 hx
  have hs := List.mem_range.1 hs
  unfold hasT at he
  split at he
  · rename_i h1
    cases he
    have hq := (List.all_eq_true.1 (show (List.range 32).all (okSlot TT) = true from h)) (4 * b + s) (List.mem_range.2 (by omega))
    unfold okSlot at hq
    rw [if_pos h1, show (4 * b + s) / 4 = b by omega] at hq
    simp only [Bool.and_eq_true, Bool.or_eq_true, beq_iff_eq] at hq
    exact hq.1
  · cases he

/-! ### Those alike to a key. -/
def alikeT (TT : TabT) (k : ByteArray) : List RecT := (bktT TT (firstN (hashS k)) ++ bktT TT (othN (firstN (hashS k)) (tagN (hashS k)))).filter fun x => decide (tagN (hR x) = tagN (hashS k))
theorem flat_two {α : Type} {F : Nat → List α} {a b : Nat} (hab : a ≠ b) (h : ∀ i, i ≠ a → i ≠ b → F i = []) : ∀ n, ((List.range n).flatMap F).Perm ((if a < n then F a else []) ++ (if b < n then F b else []))
  | 0 => by simp
  | n + 1 => by
    rw [List.range_succ, List.flatMap_append]
    simp only [List.flatMap_cons, List.flatMap_nil, List.append_nil]
    refine ((flat_two hab h n).append_right _).trans ?_
    by_cases ha : n = a
    · subst ha
      rw [if_neg (Nat.lt_irrefl _), if_pos (Nat.lt_succ_self n), List.nil_append]
      rw [show (if b < n + 1 then F b else []) = (if b < n then F b else []) from by
        by_cases hbn : b < n
        · rw [if_pos hbn, if_pos (by omega)]
        · rw [if_neg hbn, if_neg (by omega)]]
      exact List.perm_append_comm
    · by_cases hb : n = b
      · subst hb
        rw [if_neg (Nat.lt_irrefl _), if_pos (Nat.lt_succ_self n), List.append_nil]
        rw [show (if a < n + 1 then F a else []) = (if a < n then F a else []) from by
          by_cases hbn : a < n
          · rw [if_pos hbn, if_pos (by omega)]
          · rw [if_neg hbn, if_neg (by omega)]]
      · rw [h n ha hb, List.append_nil]
        rw [show (if a < n + 1 then F a else []) = (if a < n then F a else []) from by
          by_cases hbn : a < n
          · rw [if_pos hbn, if_pos (by omega)]
          · rw [if_neg hbn, if_neg (by omega)]]
        rw [show (if b < n + 1 then F b else []) = (if b < n then F b else []) from by
          by_cases hbn : b < n
          · rw [if_pos hbn, if_pos (by omega)]
          · rw [if_neg hbn, if_neg (by omega)]]
theorem flat_congr {α β : Type} {F G : α → List β} : ∀ {l : List α}, (∀ x ∈ l, F x = G x) → l.flatMap F = l.flatMap G
  | [], _ => rfl
  | x :: l, h => by
    rw [List.flatMap_cons, List.flatMap_cons, h x (by simp), flat_congr (l := l) fun y hy => h y (by simp [hy])]
theorem filter_none' {l : List RecT} {p : RecT → Bool} (h : ∀ x ∈ l, p x = false) : l.filter p = [] := by
  rw [List.filter_eq_nil_iff]
  intro x hx
  simp [h x hx]
theorem alike_perm {TT : TabT} (h : okTo TT 32 = true) (k : ByteArray) : (alikeT TT k).Perm ((recsT TT 32).filter fun x => nearN (hashS k) (hR x)) := by
  have h1 := first_lt (hashS k)
  have h2 := oth_lt (tagN (hashS k)) h1
  have hne := oth_ne (tagN (hashS k)) h1
  have ho := oth_oth (tagN (hashS k)) h1
  have hcase : ∀ b, b < 8 → ∀ x ∈ bktT TT b, nearN (hashS k) (hR x) = (decide (b = firstN (hashS k) ∨ b = othN (firstN (hashS k)) (tagN (hashS k))) && decide (tagN (hR x) = tagN (hashS k))) := by
    intro b hb x hx
    have hl := (bkt_lie h hb hx).2
    have g1 := first_lt (hR x)
    have hk2 : keyN b (tagN (hR x)) = keyH (hR x) := by
      unfold keyH
      rcases hl with e | e
      · rw [← e]
      · rw [e, keyN_oth _ g1]
    have hi : nearN (hashS k) (hR x) = true ↔ (tagN (hR x) = tagN (hashS k) ∧ (b = firstN (hashS k) ∨ b = othN (firstN (hashS k)) (tagN (hashS k)))) := by
      rw [near_iff, ← hk2]
      show keyN (firstN (hashS k)) (tagN (hashS k)) = _ ↔ _
      rw [eq_comm, keyN_iff hb h1]
    rw [Bool.eq_iff_iff, hi, Bool.and_eq_true, decide_eq_true_iff, decide_eq_true_iff]
    exact And.comm
  rw [show recsT TT 32 = recsT TT (4 * 8) from rfl, recsT_flat TT 8, List.filter_flatMap]
  have hF : ((List.range 8).flatMap fun b => (bktT TT b).filter fun x => nearN (hashS k) (hR x)) = (List.range 8).flatMap fun b => if b = firstN (hashS k) ∨ b = othN (firstN (hashS k)) (tagN (hashS k)) then (bktT TT b).filter fun x => decide (tagN (hR x) = tagN (hashS k)) else [] := by
    refine flat_congr fun b hb => ?_
    have hb := List.mem_range.1 hb
    split
    · rename_i e
      exact List.filter_congr fun x hx => by rw [hcase b hb x hx, decide_eq_true e, Bool.true_and]
    · rename_i e
      exact filter_none' fun x hx => by rw [hcase b hb x hx, decide_eq_false e, Bool.false_and]
  rw [hF]
  refine List.Perm.symm ((flat_two (a := firstN (hashS k)) (b := othN (firstN (hashS k)) (tagN (hashS k))) hne.symm (fun i hi1 hi2 => if_neg (fun e => e.elim hi1 hi2)) 8).trans ?_)
  rw [if_pos h1, if_pos h2, if_pos (.inl rfl), if_pos (.inr rfl)]
  unfold alikeT
  rw [List.filter_append]
theorem alike_len {TT : TabT} (h : okTo TT 32 = true) (k : ByteArray) : (alikeT TT k).length = readsR (recsT TT 32) k := by
  rw [(alike_perm h k).length_eq]
  unfold readsR
  rw [List.countP_eq_length_filter]
theorem ok_keys {TT : TabT} (h : okTo TT 32 = true) : KeysOk (recsT TT 32) := by
  rw [ok_split, Bool.and_eq_true] at h
  exact keysB_iff.1 h.2
theorem alike_may {TT : TabT} (h : okTo TT 32 = true) {k : ByteArray} {x : RecT} (hx : x ∈ alikeT TT k) : mayT x = true := by
  unfold alikeT at hx
  have hx := (List.mem_filter.1 hx).1
  rcases List.mem_append.1 hx with hx | hx
  · exact (bkt_lie h (first_lt _) hx).1
  · exact (bkt_lie h (oth_lt _ (first_lt _)) hx).1
theorem alike_find {TT : TabT} (h : okTo TT 32 = true) (k : ByteArray) : findK keyR (alikeT TT k) k.toList = findK keyR (recsT TT 32) k.toList := by
  have hK := ok_keys h
  have hp := alike_perm h k
  have hK2 : KeysOk (alikeT TT k) := KeysOk.perm (show KeysOk ((recsT TT 32).filter fun x => nearN (hashS k) (hR x)) from by
    unfold KeysOk at hK ⊢
    exact (List.filter_sublist.map keyR).nodup hK) hp.symm
  refine opt_ext fun x => ?_
  rw [find_iff hK2, find_iff hK, hp.mem_iff, List.mem_filter]
  constructor
  · exact fun h => ⟨h.1.1, h.2⟩
  · intro ⟨h1, h2⟩
    refine ⟨⟨h1, ?_⟩, h2⟩
    have : x.1 = k := keyR_eq.1 h2
    unfold hR
    rw [this]
    exact near_self _

/-! ### A table's first records. -/
def maskT (TT : TabT) (i : Nat) : TabT := fun q => if (TT q).1 = true ∧ (recsT TT q).length < i then TT q else (false, nullR)
theorem mask_zero (TT : TabT) : maskT TT 0 = fun _ => (false, nullR) := by
  funext q
  unfold maskT
  rw [if_neg (by omega)]
theorem tmask_all {TT : TabT} (h : okTo TT 32 = true) {q : Nat} (hq : q < 32) : maskT TT (recsT TT 32).length q = TT q := by
  unfold maskT
  cases hb : (TT q).1 with
  | true =>
    have hlt : (recsT TT q).length < (recsT TT 32).length := by
      obtain ⟨r, hr⟩ := recsT_more TT (q + 1) (31 - q)
      rw [show q + 1 + (31 - q) = 32 by omega] at hr
      rw [hr, List.length_append, recsT_succ, hb]
      simp only [if_true, List.length_append, List.length_singleton]
      omega
    exact if_pos ⟨rfl, hlt⟩
  | false =>
    rw [if_neg (by simp)]
    have := (okTo_slot h hq).2 hb
    rw [← this, ← hb]
theorem mask_step {TT : TabT} {i q : Nat} (hq : q < 32) (hp : place (hasL TT 32) i = some q) (hi : i < (recsT TT 32).length) : (TT q).1 = true ∧ (recsT TT 32)[i] = (TT q).2 ∧ ∀ z, z < 32 → setT (maskT TT i) q (true, (recsT TT 32)[i]) z = maskT TT (i + 1) z := by
  obtain ⟨h1, h2, h3⟩ := place_some hp
  rw [hasL_len] at h1
  rw [List.getD_eq_getElem?_getD, List.getElem?_eq_getElem (by rw [hasL_len]; exact hq), Option.getD_some, hasL_at] at h2
  rw [ones_has TT 32 q (by omega)] at h3
  have hrec : (recsT TT 32)[i] = (TT q).2 := by
    obtain ⟨r, hr⟩ := recsT_more TT (q + 1) (31 - q)
    rw [show q + 1 + (31 - q) = 32 by omega, recsT_succ TT q, h2] at hr
    simp only [if_true] at hr
    have e : (recsT TT 32)[i]? = some (TT q).2 := by
      rw [hr, ← h3, List.append_assoc, List.getElem?_append_right (Nat.le_refl _), Nat.sub_self]
      rfl
    rw [List.getElem?_eq_getElem hi] at e
    exact Option.some.inj e
  refine ⟨h2, hrec, fun z hz => ?_⟩
  rw [hrec]
  unfold setT
  split
  · rename_i e
    subst e
    unfold maskT
    rw [if_pos ⟨h2, by omega⟩, ← h2]
  · rename_i e
    unfold maskT
    by_cases hb : (TT z).1 = true
    · by_cases hlt : (recsT TT z).length < i
      · rw [if_pos ⟨hb, hlt⟩, if_pos ⟨hb, by omega⟩]
      · rw [if_neg (fun h => hlt h.2), if_neg]
        rintro ⟨-, h5⟩
        have h6 : (recsT TT z).length = i := by omega
        have h7 := place_at (hasL TT 32) z (by rw [hasL_len]; exact hz) (by rw [hasL_at]; exact hb)
        rw [ones_has TT 32 z (by omega), h6, hp] at h7
        exact e (Option.some.inj h7).symm
    · rw [if_neg (fun h => hb h.1), if_neg (fun h => hb h.1)]
theorem place_has {TT : TabT} {i : Nat} (hi : i < (recsT TT 32).length) : ∃ q, q < 32 ∧ place (hasL TT 32) i = some q := by
  cases hp : place (hasL TT 32) i with
  | some q =>
    have := (place_some hp).1
    rw [hasL_len] at this
    exact ⟨q, this, rfl⟩
  | none =>
    have h1 := (place_none _ _).1 hp
    rw [← ones_len, hasL_len, ones_has TT 32 32 (Nat.le_refl _)] at h1
    omega
end Go.Proofs.YthbnecdeebmlhaaGreat

namespace Go.Proofs.YthbnecdeebmlhaaGreat
open Go.RowKit

def cutR (x : RecT) : RecT := (str ((bl x.1).take 20), x.2.1, x.2.2.1, x.2.2.2.1, str ((bl x.2.2.2.2).take 30))

theorem cut_sizes {l : List RecT} {n : Nat} {x : RecT} (h : x ∈ (l.take n).map cutR) : x.1.size ≤ 20 ∧ x.2.2.2.2.size ≤ 30 := by
  obtain ⟨y, -, rfl⟩ := List.mem_map.1 h
  unfold cutR
  simp only []
  rw [str_size, str_size, List.length_take, List.length_take]
  omega
/-- The reference's May of a record as one letter. -/
theorem rmayT_c (kx : ByteArray) (gx : Bool) (ax nx : Int) (sx : ByteArray) (w : World) (h1 : kx.size ≤ 20) (h2 : sx.size ≤ 30) :
    Calls Tryz.prog 37 #[.agg #[.string kx, .bool gx, .int .i64 ax, .int .i64 nx, .string sx]] w fun e w' => e = .returned (.bool (mayT (kx, gx, ax, nx, sx))) ∧ Below w.heap.size w w' :=
  rmayrec_c kx gx ax nx sx w (by unfold maxLen; omega) (by unfold maxLen; omega)
end Go.Proofs.YthbnecdeebmlhaaGreat

namespace Go.Proofs.YthbnecdeebmlhaaGreat
open Go.RowKit

def layB (x : RecT) (t : Bool) : Nat := if t then othN (firstN (hR x)) (tagN (hR x)) else firstN (hR x)
def layK (TT : TabT) (b i : Nat) : Option Nat := (List.range 4).find? fun s => !(TT (4 * b + (s + i) % 4)).1
def layPut (TT : TabT) (b i : Nat) (x : RecT) : TabT := match layK TT b i with
  | some s => setT TT (4 * b + (s + i) % 4) (true, x)
  | none => TT
def lay1 (TT : TabT) (i : Nat) (x : RecT) (t : Bool) : TabT :=
  if (findK keyR (newestR (recsT TT 32)) x.1.toList).isSome || !mayT x then TT else layPut TT (layB x t) i x
def layN (l : List RecT) (turn : List Bool) : Nat → TabT
  | 0 => zeroT
  | n + 1 => lay1 (layN l turn n) n (cutR (l.getD n nullR)) (turn.getD n false)

theorem layB_lt (x : RecT) (t : Bool) : layB x t < 8 := by
  unfold layB
  cases t with
  | true => rw [if_pos rfl]; exact oth_lt (tagN (hR x)) (first_lt _)
  | false => rw [if_neg (by decide)]; exact first_lt _
theorem layK_some {TT : TabT} {b i s : Nat} (hs : s < 4) (hf : (TT (4 * b + (s + i) % 4)).1 = false) (hp : ∀ s', s' < s → (TT (4 * b + (s' + i) % 4)).1 = true) : layK TT b i = some s := by
  unfold layK
  rw [List.find?_range_eq_some]
  refine ⟨by simp [hf], List.mem_range.2 hs, fun j hj => by simp [hp j hj]⟩
theorem layK_none {TT : TabT} {b i : Nat} (hp : ∀ s', s' < 4 → (TT (4 * b + (s' + i) % 4)).1 = true) : layK TT b i = none := by
  unfold layK
  rw [List.find?_range_eq_none]
  intro s hs
  simp [hp s hs]
theorem layK_is {TT : TabT} {b i s : Nat} (h : layK TT b i = some s) : s < 4 ∧ (TT (4 * b + (s + i) % 4)).1 = false := by
  unfold layK at h
  have h1 := List.mem_of_find?_eq_some h
  have h2 := List.find?_some h
  exact ⟨List.mem_range.1 h1, by simpa using h2⟩

/-- One record more, in a slot that had none. -/
theorem recs_set {TT : TabT} {q : Nat} {x : RecT} (hf : (TT q).1 = false) : ∀ n, (q < n → (recsT (setT TT q (true, x)) n).Perm (recsT TT n ++ [x])) ∧ (n ≤ q → recsT (setT TT q (true, x)) n = recsT TT n)
  | 0 => ⟨fun h => absurd h (by omega), fun _ => rfl⟩
  | n + 1 => by
    have ih := recs_set (x := x) hf n
    refine ⟨fun h => ?_, fun h => ?_⟩
    · rw [recsT_succ, recsT_succ]
      rcases Nat.lt_or_ge q n with h2 | h2
      · rw [setT_old TT q _ (by omega : n ≠ q)]
        refine ((ih.1 h2).append_right _).trans ?_
        rw [List.append_assoc, List.append_assoc]
        exact List.perm_append_comm.append_left _
      · obtain rfl : q = n := by omega
        rw [ih.2 (Nat.le_refl _), setT_new, hf]
        simp
    · rw [recsT_succ, recsT_succ, ih.2 (by omega), setT_old TT q _ (by omega : n ≠ q)]
structure LayOk (TT : TabT) : Prop where
  ok : okTo TT 32 = true
  recs : TabOk TT
theorem LayOk.keys {TT : TabT} (h : LayOk TT) : KeysOk (recsT TT 32) := by
  have := h.ok
  rw [ok_split, Bool.and_eq_true] at this
  exact keysB_iff.1 this.2
theorem okTo_sizes {TT : TabT} (h : okTo TT 32 = true) {q : Nat} (hq : q < 32) : (TT q).2.1.size ≤ 1000 ∧ (TT q).2.2.2.2.2.size ≤ 1000 := by
  obtain ⟨h1, h2⟩ := okTo_slot h hq
  cases hh : (TT q).1 with
  | true => have := mayT_short (h1 hh); omega
  | false => rw [h2 hh]; exact recOk_null_size
theorem LayOk.sizes {TT : TabT} (h : LayOk TT) : ∀ q, q < 32 → (TT q).2.1.size ≤ 1000 ∧ (TT q).2.2.2.2.2.size ≤ 1000 := fun _ hq => okTo_sizes h.ok hq
theorem zero_ok : LayOk zeroT := by
  refine ⟨?_, fun q _ => nullOk⟩
  unfold okTo
  rw [List.all_eq_true]
  intro q _
  unfold okSlot zeroT
  simp
theorem LayOk.set {TT : TabT} (h : LayOk TT) {b k : Nat} {x : RecT} (hb : b < 8) (hk : k < 4) (hf : (TT (4 * b + k)).1 = false) (hm : mayT x = true) (hx : RecOk x) (hB : b = firstN (hR x) ∨ b = othN (firstN (hR x)) (tagN (hR x))) (hn : ∀ y ∈ recsT TT 32, keyR y ≠ keyR x) : LayOk (setT TT (4 * b + k) (true, x)) := by
  have h0 := h.ok
  rw [ok_split, Bool.and_eq_true] at h0
  refine ⟨?_, fun q hq => ?_⟩
  · rw [ok_split, Bool.and_eq_true]
    constructor
    · unfold lieTo
      rw [List.all_eq_true]
      intro q hq
      by_cases e : q = 4 * b + k
      · subst e
        rw [setT_new, show (4 * b + k) / 4 = b by omega]
        unfold lieOk
        simp only [if_true]
        rw [hm, Bool.true_and, Bool.or_eq_true, beq_iff_eq, beq_iff_eq]
        exact hB
      · rw [setT_old TT _ _ e]
        have := h0.1
        unfold lieTo at this
        exact List.all_eq_true.1 this q hq
    · rw [keysB_perm ((recs_set hf 32).1 (by omega)), keysB_snoc, h0.2, Bool.true_and, Bool.not_eq_true', List.any_eq_false]
      intro y hy
      obtain ⟨z, hz, rfl⟩ := List.mem_map.1 hy
      have := hn z hz
      simp only [decide_eq_true_eq]
      intro e
      exact this (keyR_eq.2 e)
  · by_cases e : q = 4 * b + k
    · subst e; rw [setT_new]; exact hx
    · rw [setT_old TT _ _ e]; exact h.recs q hq
theorem layPut_ok {TT : TabT} (h : LayOk TT) {b i : Nat} {x : RecT} (hb : b < 8) (hm : mayT x = true) (hx : RecOk x) (hB : b = firstN (hR x) ∨ b = othN (firstN (hR x)) (tagN (hR x))) (hn : ∀ y ∈ recsT TT 32, keyR y ≠ keyR x) : LayOk (layPut TT b i x) := by
  unfold layPut
  cases hk : layK TT b i with
  | none => exact h
  | some s => exact h.set hb (Nat.mod_lt _ (by omega)) (layK_is hk).2 hm hx hB hn
theorem layB_is (x : RecT) (t : Bool) : layB x t = firstN (hR x) ∨ layB x t = othN (firstN (hR x)) (tagN (hR x)) := by
  unfold layB
  cases t <;> simp
theorem lay1_ok {TT : TabT} (h : LayOk TT) (i : Nat) {x : RecT} (t : Bool) (hx : RecOk x) : LayOk (lay1 TT i x t) := by
  unfold lay1
  split
  · exact h
  · rename_i hc
    simp only [Bool.or_eq_true, not_or, Bool.not_eq_true, Bool.not_eq_true', Option.isSome_eq_false_iff, Option.isNone_iff_eq_none, Bool.not_eq_false] at hc
    refine layPut_ok h (layB_lt x t) hc.2 hx (layB_is x t) ?_
    have := hc.1
    rw [newest_find h.keys] at this
    exact (find_none _).1 this
theorem cutR_ok {x : RecT} (h : RecOk x) : RecOk (cutR x) := by
  have hs := fun (s : ByteArray) (n : Nat) => show (str ((bl s).take n)).size ≤ s.size from by
    rw [str_size, List.length_take]
    have : (bl s).length = s.size := by have := str_size (bl s); rw [str_bl] at this; exact this.symm
    omega
  have h1 := hs x.1 20
  have h2 := hs x.2.2.2.2 30
  unfold cutR
  unfold RecOk at h ⊢
  simp only [] at h ⊢
  refine ⟨?_, h.2.1, h.2.2.1, ?_⟩
  · exact Nat.le_trans h1 h.1
  · exact Nat.le_trans h2 h.2.2.2
theorem layN_ok {l : List RecT} (turn : List Bool) (h : ∀ x ∈ l, RecOk x) : ∀ n, LayOk (layN l turn n)
  | 0 => zero_ok
  | n + 1 => by
    refine lay1_ok (layN_ok turn h n) n _ (cutR_ok ?_)
    rw [List.getD_eq_getElem?_getD]
    cases hn : l[n]? with
    | none => exact nullOk
    | some x => exact h x (List.mem_of_getElem? hn)
end Go.Proofs.YthbnecdeebmlhaaGreat

namespace Go.Proofs.YthbnecdeebmlhaaGreat
open Go.RowKit

theorem rows_ne {w : World} {B1 B2 : Nat} {e1 e2 : TypeId} {s1 s2 n1 n2 : Nat} {v1 v2 : Value} {xs1 xs2 : List Value} (h1 : w.ownsRow B1 e1 s1 v1 n1 xs1) (h2 : w.ownsRow B2 e2 s2 v2 n2 xs2) (hne : e1 ≠ e2) : v1.ownBlock = none ∨ v1.ownBlock ≠ v2.ownBlock := by
  rcases h1.2 with ⟨rfl, -⟩ | ⟨b, cap, cur, rfl, -, hg, -⟩
  · exact .inl rfl
  · refine .inr fun e => ?_
    rcases h2.2 with ⟨rfl, -⟩ | ⟨b', cap', cur', rfl, -, hg', -⟩
    · cases e
    · simp only [Value.ownBlock, Option.some.injEq] at e
      subst e
      rw [hg] at hg'
      simp only [Option.some.injEq, Obj.cells.injEq] at hg'
      exact absurd hg'.2.1 hne
theorem row_not {e t : TypeId} {w : World} {B b s n : Nat} {v : Value} {xs : List Value} {cs : Array Value} (h : w.ownsRow B e s v n xs) (hb : w.heap[b]? = some (.cells cs t)) (hne : e ≠ t) : v.ownBlock ≠ some b := by
  intro hv
  rcases h.2 with ⟨rfl, -⟩ | ⟨g, cap, cur, rfl, -, hg, -⟩
  · cases hv
  · simp only [Value.ownBlock, Option.some.injEq] at hv
    subst hv
    rw [hb] at hg
    simp only [Option.some.injEq, Obj.cells.injEq] at hg
    exact hne hg.2.1.symm

section
variable {w w' : World} {B B' b n : Nat} {u v : Value} {p : List UInt8} {e : TypeId} {xs : List Value}
/-- A row stays while another one of another type grows. -/
theorem OwnV.apart {e2 : TypeId} {v2 : Value} {ys : List Value} (h : OwnV e w B v xs) (h2 : OwnV e2 w B' v2 ys) (hne : e ≠ e2) (hg : w.grownBy w' v2.ownBlock) : OwnV e w' B v xs := OwnV.kept h hg (rows_ne h h2 hne)
end

end Go.Proofs.YthbnecdeebmlhaaGreat

namespace Go.Proofs.YthbnecdeebmlhaaGreat

/-- A byte n times. -/
def rep (c : Nat) : Nat → Nat
  | 0 => 0
  | n + 1 => rep c n * 256 + c
set_option maxRecDepth 100000 in
theorem rep85 : rep 85 8 = 6148914691236517205 := by decide
theorem rep51 : rep 51 8 = 3689348814741910323 := by decide
theorem rep15 : rep 15 8 = 1085102592571150095 := by decide
def popS1 (n x : Nat) : Nat := (x / 2 &&& rep 85 n) + (x &&& rep 85 n)
def popS2 (n x : Nat) : Nat := (x / 4 &&& rep 51 n) + (x &&& rep 51 n)
def popS3 (n x : Nat) : Nat := (x / 16 + x) &&& rep 15 n
def pop8 (b : Nat) : Nat := (numB b 8).count true
def popT : Nat → Nat → Nat
  | 0, _ => 0
  | n + 1, x => popT n (x / 256) * 256 + pop8 (x % 256)

theorem and_split (a c m d : Nat) (hc : c < 256) (hd : d < 256) : (a * 256 + c) &&& (m * 256 + d) = (a &&& m) * 256 + (c &&& d) := by
  have key : ∀ k, k = 256 → c < k → d < k → k = 2 ^ 8 → (a * k + c) &&& (m * k + d) = (a &&& m) * k + (c &&& d) := by
    intro k _ hck hdk hk
    have hp : 0 < k := by omega
    have h1 := Nat.and_div_two_pow (a := a * k + c) (b := m * k + d) (n := 8)
    have h2 := Nat.and_mod_two_pow (a := a * k + c) (b := m * k + d) (n := 8)
    rw [← hk] at h1 h2
    have e1 : (a * k + c) / k = a := by rw [Nat.mul_comm, Nat.mul_add_div hp, Nat.div_eq_of_lt hck]; rfl
    have e2 : (m * k + d) / k = m := by rw [Nat.mul_comm, Nat.mul_add_div hp, Nat.div_eq_of_lt hdk]; rfl
    have e3 : (a * k + c) % k = c := by rw [Nat.mul_comm, Nat.mul_add_mod, Nat.mod_eq_of_lt hck]
    have e4 : (m * k + d) % k = d := by rw [Nat.mul_comm, Nat.mul_add_mod, Nat.mod_eq_of_lt hdk]
    rw [e1, e2] at h1
    rw [e3, e4] at h2
    have h3 := Nat.div_add_mod ((a * k + c) &&& (m * k + d)) k
    rw [h1, h2, Nat.mul_comm] at h3
    exact h3.symm
  exact key 256 rfl hc hd (by decide)

def bq1 (b : Nat) : Nat := (b / 2 &&& 85) + (b &&& 85)
def bq2 (b : Nat) : Nat := (b / 4 &&& 51) + (b &&& 51)
set_option maxRecDepth 100000 in
theorem b1_fin : ∀ c : Fin 2, ∀ b : Fin 256, (c.val * 128 + b.val / 2 &&& 85) = (b.val / 2 &&& 85) := by decide +kernel
set_option maxRecDepth 100000 in
theorem b2_fin : ∀ c : Fin 4, ∀ b : Fin 256, (c.val * 64 + b.val / 4 &&& 51) = (b.val / 4 &&& 51) := by decide +kernel
set_option maxRecDepth 100000 in
theorem bq_fin : ∀ b : Fin 256, bq1 b.val < 256 ∧ bq2 (bq1 b.val) < 256 ∧ bq2 (bq1 b.val) % 16 ≤ 4 ∧ bq2 (bq1 b.val) / 16 ≤ 4 ∧ (bq2 (bq1 b.val) / 16 + bq2 (bq1 b.val) % 16 = pop8 b.val) ∧ pop8 b.val ≤ 8 := by decide +kernel
set_option maxRecDepth 100000 in
theorem and15_fin : ∀ b : Fin 256, (b.val &&& 15) = b.val % 16 := by decide +kernel

theorem popS1_succ (n y b : Nat) (hb : b < 256) : popS1 (n + 1) (y * 256 + b) = popS1 n y * 256 + bq1 b := by
  unfold popS1 bq1 
  rw [rep]
  have e : (y * 256 + b) / 2 = (y / 2) * 256 + (y % 2 * 128 + b / 2) := by omega
  have h1 := b1_fin ⟨y % 2, by omega⟩ ⟨b, hb⟩
  simp only [] at h1
  rw [e, and_split _ _ _ _ (by omega) (by decide), and_split _ _ _ _ hb (by decide), h1]
  omega
theorem popS2_succ (n y b : Nat) (hb : b < 256) : popS2 (n + 1) (y * 256 + b) = popS2 n y * 256 + bq2 b := by
  unfold popS2 bq2
  rw [rep]
  have e : (y * 256 + b) / 4 = (y / 4) * 256 + (y % 4 * 64 + b / 4) := by omega
  have h1 := b2_fin ⟨y % 4, by omega⟩ ⟨b, hb⟩
  simp only [] at h1
  rw [e, and_split _ _ _ _ (by omega) (by decide), and_split _ _ _ _ hb (by decide), h1]
  omega
theorem popS2_zero (z : Nat) : popS2 0 z = 0 := by unfold popS2; simp [rep]
theorem popS3_zero (z : Nat) : popS3 0 z = 0 := by unfold popS3; simp [rep]
theorem popS1_at (n x : Nat) : popS1 (n + 1) x = popS1 n (x / 256) * 256 + bq1 (x % 256) := by
  have := popS1_succ n (x / 256) (x % 256) (by omega)
  rwa [show (x / 256 * 256 + x % 256) = x from by omega] at this
theorem popZ_low (n x : Nat) : popS2 n (popS1 n x) % 16 ≤ 4 := by
  cases n with
  | zero => rw [popS2_zero]; omega
  | succ n =>
    obtain ⟨h1, h2, h3, -, -, -⟩ := bq_fin ⟨x % 256, by omega⟩
    simp only [] at h1 h2 h3
    rw [popS1_at, popS2_succ _ _ _ h1]
    omega
theorem popS_T : ∀ n x, popS3 n (popS2 n (popS1 n x)) = popT n x
  | 0, x => by rw [popS3_zero]; rfl
  | n + 1, x => by
    have ih := popS_T n (x / 256)
    have hl := popZ_low n (x / 256)
    obtain ⟨h1, h2, h3, h4, h5, h6⟩ := bq_fin ⟨x % 256, by omega⟩
    simp only [] at h1 h2 h3 h4 h5 h6
    rw [popS1_at, popS2_succ _ _ _ h1]
    unfold popS3 at ih ⊢
    generalize popS2 n (popS1 n (x / 256)) = Z at ih hl ⊢
    generalize bq2 (bq1 (x % 256)) = q at h2 h3 h4 h5 ⊢
    have e2 : (Z * 256 + q) / 16 + (Z * 256 + q) = (Z / 16 + Z) * 256 + (Z % 16 * 16 + q / 16 + q) := by omega
    rw [e2, rep, and_split _ _ _ _ (by omega) (by decide), ih, popT]
    have h7 := and15_fin ⟨Z % 16 * 16 + q / 16 + q, by omega⟩
    simp only [] at h7
    rw [h7]
    omega
theorem pop8_le (x : Nat) : pop8 (x % 256) ≤ 8 := (bq_fin ⟨x % 256, by omega⟩).2.2.2.2.2
theorem count_succ (n x : Nat) : (numB x (8 * (n + 1))).count true = (numB (x / 256) (8 * n)).count true + pop8 (x % 256) := by
  have h := numB_split x 8 (8 * n)
  rw [show 8 * (n + 1) = 8 * n + 8 from by omega, h, List.count_append]
  congr 1
  unfold pop8
  have := numB_mod x 8 8 (by omega)
  rw [show (256 : Nat) = 2 ^ 8 from by decide, this]
/-- The bytes' sums, added up in three steps. -/
theorem popT_sum (x : Nat) : ∃ T A B C : Nat, popT 8 x = T ∧ T ≤ 578721382704613384 ∧ A = T + T / 256 ∧ A ≤ 1157442765409226768 ∧ B = A + A / 65536 ∧ B ≤ 2314885530818453536 ∧ C = B + B / 4294967296 ∧ C ≤ 4629771061636907072 ∧ C % 128 = (numB x 64).count true := by
  have hc : (numB x 64).count true = pop8 (x % 256) + pop8 (x / 256 % 256) + pop8 (x / 256 / 256 % 256) + pop8 (x / 256 / 256 / 256 % 256) + pop8 (x / 256 / 256 / 256 / 256 % 256) + pop8 (x / 256 / 256 / 256 / 256 / 256 % 256) + pop8 (x / 256 / 256 / 256 / 256 / 256 / 256 % 256) + pop8 (x / 256 / 256 / 256 / 256 / 256 / 256 / 256 % 256) := by
    rw [show (64 : Nat) = 8 * (7 + 1) from rfl, count_succ, show 8 * 7 = 8 * (6 + 1) from rfl, count_succ, show 8 * 6 = 8 * (5 + 1) from rfl, count_succ, show 8 * 5 = 8 * (4 + 1) from rfl, count_succ, show 8 * 4 = 8 * (3 + 1) from rfl, count_succ, show 8 * 3 = 8 * (2 + 1) from rfl, count_succ, show 8 * 2 = 8 * (1 + 1) from rfl, count_succ, show 8 * 1 = 8 * (0 + 1) from rfl, count_succ]
    simp only [numB, List.count_nil]
    omega
  have b0 := pop8_le x
  have b1 := pop8_le (x / 256)
  have b2 := pop8_le (x / 256 / 256)
  have b3 := pop8_le (x / 256 / 256 / 256)
  have b4 := pop8_le (x / 256 / 256 / 256 / 256)
  have b5 := pop8_le (x / 256 / 256 / 256 / 256 / 256)
  have b6 := pop8_le (x / 256 / 256 / 256 / 256 / 256 / 256)
  have b7 := pop8_le (x / 256 / 256 / 256 / 256 / 256 / 256 / 256)
  rw [hc]
  simp only [popT]
  generalize pop8 (x % 256) = p0 at *
  generalize pop8 (x / 256 % 256) = p1 at *
  generalize pop8 (x / 256 / 256 % 256) = p2 at *
  generalize pop8 (x / 256 / 256 / 256 % 256) = p3 at *
  generalize pop8 (x / 256 / 256 / 256 / 256 % 256) = p4 at *
  generalize pop8 (x / 256 / 256 / 256 / 256 / 256 % 256) = p5 at *
  generalize pop8 (x / 256 / 256 / 256 / 256 / 256 / 256 % 256) = p6 at *
  generalize pop8 (x / 256 / 256 / 256 / 256 / 256 / 256 / 256 % 256) = p7 at *
  clear hc
  obtain ⟨K7, hK7⟩ : ∃ K, K = 0 * 256 + p7 := ⟨_, rfl⟩
  obtain ⟨K6, hK6⟩ : ∃ K, K = K7 * 256 + p6 := ⟨_, rfl⟩
  obtain ⟨K5, hK5⟩ : ∃ K, K = K6 * 256 + p5 := ⟨_, rfl⟩
  obtain ⟨K4, hK4⟩ : ∃ K, K = K5 * 256 + p4 := ⟨_, rfl⟩
  obtain ⟨K3, hK3⟩ : ∃ K, K = K4 * 256 + p3 := ⟨_, rfl⟩
  obtain ⟨K2, hK2⟩ : ∃ K, K = K3 * 256 + p2 := ⟨_, rfl⟩
  obtain ⟨K1, hK1⟩ : ∃ K, K = K2 * 256 + p1 := ⟨_, rfl⟩
  obtain ⟨T, hT⟩ : ∃ K, K = K1 * 256 + p0 := ⟨_, rfl⟩
  rw [← hK7, ← hK6, ← hK5, ← hK4, ← hK3, ← hK2, ← hK1, ← hT]
  rw [Nat.zero_mul, Nat.zero_add] at hK7
  have l7 : K7 ≤ 8 := by omega
  have l6 : K6 ≤ 2056 := by omega
  have l5 : K5 ≤ 526344 := by omega
  have l4 : K4 ≤ 134744072 := by omega
  have l3 : K3 ≤ 34494482440 := by omega
  have l2 : K2 ≤ 8830587504648 := by omega
  have l1 : K1 ≤ 2260630401189896 := by omega
  have l0 : T ≤ 578721382704613384 := by omega
  have d1 : T / 256 = K1 := by omega
  have d2 : (T + K1) / 65536 = K2 + K3 := by clear hK7 hK6 hK5 hK4; omega
  have d3 : (T + K1 + (K2 + K3)) / 4294967296 = K4 + K5 + (K6 + K7) := by
    have e : T + K1 + (K2 + K3) = (K4 + K5 + (K6 + K7)) * 4294967296 + ((p3 + p4 + (p5 + p6)) * 16777216 + (p2 + p3 + (p4 + p5)) * 65536 + (p1 + p2 + (p3 + p4)) * 256 + (p0 + p1 + (p2 + p3))) := by omega
    rw [e]
    clear e hK7 hK6 hK5 hK4 hK3 hK2 hK1 hT d1 d2
    omega
  refine ⟨T, T + K1, T + K1 + (K2 + K3), T + K1 + (K2 + K3) + (K4 + K5 + (K6 + K7)), rfl, l0, by rw [d1], by omega, by rw [d2], by omega, by rw [d3], by omega, ?_⟩
  clear d1 d2 d3 l0 l1 l2 l3 l4 l5 l6 l7
  have e : T + K1 + (K2 + K3) + (K4 + K5 + (K6 + K7)) = 128 * (2 * (K1 + K2 + K3 + K4 + K5 + K6 + K7)) + (p0 + p1 + p2 + p3 + p4 + p5 + p6 + p7) := by omega
  rw [e, Nat.mul_add_mod]
  clear e
  omega

end Go.Proofs.YthbnecdeebmlhaaGreat

namespace Go.Proofs.YthbnecdeebmlhaaGreat

/-- Bits with noughts behind them: 64. -/
def wbits (l : List Bool) (k : Nat) : List Bool := (l.drop (64 * k)).take 64 ++ List.replicate (64 - ((l.drop (64 * k)).take 64).length) false
def word (l : List Bool) (k : Nat) : Nat := val (wbits l k)
def words (l : List Bool) (n : Nat) : List Nat := (List.range n).map (word l)
def aheads (l : List Bool) (n : Nat) : List Nat := (List.range n).map fun k => ones l (64 * k)
/-- How many words. -/
def nw (l : List Bool) : Nat := (l.length + 63) / 64

theorem words_length (l : List Bool) (n : Nat) : (words l n).length = n := by simp [words]
theorem aheads_length (l : List Bool) (n : Nat) : (aheads l n).length = n := by simp [aheads]
theorem words_at (l : List Bool) (n k : Nat) (h : k < n) : (words l n)[k]'(by rw [words_length]; exact h) = word l k := by simp [words]
theorem aheads_at (l : List Bool) (n k : Nat) (h : k < n) : (aheads l n)[k]'(by rw [aheads_length]; exact h) = ones l (64 * k) := by simp [aheads]
theorem words_succ (l : List Bool) (n : Nat) : words l (n + 1) = words l n ++ [word l n] := by simp [words, List.range_succ]
theorem aheads_succ (l : List Bool) (n : Nat) : aheads l (n + 1) = aheads l n ++ [ones l (64 * n)] := by simp [aheads, List.range_succ]
theorem wbits_length (l : List Bool) (k : Nat) : (wbits l k).length = 64 := by
  unfold wbits
  rw [List.length_append, List.length_replicate, List.length_take]
  omega
theorem word_lt (l : List Bool) (k : Nat) : word l k < 18446744073709551616 := by
  have h := val_lt (wbits l k)
  rw [wbits_length] at h
  exact h
theorem val_false (n : Nat) : val (List.replicate n false) = 0 := by
  induction n with
  | zero => rfl
  | succ n ih => rw [List.replicate_succ, val_cons, ih]; simp [bv]
/-- A word, by the number that its bits are. -/
theorem word_shift (l : List Bool) (k t : Nat) (ht : t = min 64 (l.length - 64 * k)) : word l k = val ((l.drop (64 * k)).take t) * 2 ^ (64 - t) := by
  have h1 : (l.drop (64 * k)).take 64 = (l.drop (64 * k)).take t := by
    rcases Nat.lt_or_ge (l.length - 64 * k) 64 with h | h
    · rw [List.take_of_length_le (by rw [List.length_drop]; omega), List.take_of_length_le (by rw [List.length_drop]; omega)]
    · rw [show t = 64 from by omega]
  unfold word wbits
  rw [h1]
  have h2 : ((l.drop (64 * k)).take t).length = t := by rw [List.length_take, List.length_drop]; omega
  rw [h2, val_append, val_false, List.length_replicate, Nat.add_zero]
/-- How many of a number's digits are set: of bits as many as they have. -/
theorem pop_val (m : List Bool) (h : m.length ≤ 64) : (numB (val m) 64).count true = m.count true := by
  have h1 := numB_split (val m) m.length (64 - m.length)
  rw [show 64 - m.length + m.length = 64 from by omega, numB_val, Nat.div_eq_of_lt (val_lt m)] at h1
  rw [h1, List.count_append]
  have h2 : ∀ n, (numB 0 n).count true = 0 := by
    intro n
    induction n with
    | zero => rfl
    | succ n ih => rw [numB, List.count_cons, ih]; simp [bit]
  rw [h2, Nat.zero_add]
theorem ones_more (l : List Bool) (a t : Nat) : ones l (a + t) = ones l a + ((l.drop a).take t).count true := by
  unfold ones
  rw [List.take_add, List.count_append]
theorem wbits_take (l : List Bool) (k t : Nat) (h : t ≤ 64) : ((wbits l k).take t).count true = ((l.drop (64 * k)).take t).count true := by
  unfold wbits
  rw [List.take_append, List.take_take, Nat.min_eq_left h, List.count_append]
  have : ((List.replicate (64 - ((l.drop (64 * k)).take 64).length) false).take (t - ((l.drop (64 * k)).take 64).length)).count true = 0 := by
    rw [List.count_eq_zero]
    intro hm
    have := List.mem_of_mem_take hm
    rw [List.mem_replicate] at this
    cases this.2
  omega
/-- The ones ahead of a place, by its word. -/
theorem ones_word (l : List Bool) (i k s : Nat) (h0 : 0 < i) (hk : k = (i - 1) / 64) (hs : s = (k + 1) * 64 - i) : ones l i = ones l (64 * k) + (numB (word l k / 2 ^ s) 64).count true := by
  have h1 := ones_more l (64 * k) (64 - s)
  rw [show 64 * k + (64 - s) = i from by omega] at h1
  have h2 := val_take (wbits l k) (64 - s)
  rw [wbits_length, show 64 - (64 - s) = s from by omega] at h2
  rw [h1]
  unfold word
  rw [← h2, pop_val _ (by rw [List.length_take, wbits_length]; omega), wbits_take _ _ _ (by omega)]
/-- The ones behind a word. -/
theorem ones_word_all (l : List Bool) (k : Nat) : ones l (64 * (k + 1)) = ones l (64 * k) + (wbits l k).count true := by
  have h1 := ones_more l (64 * k) 64
  rw [show 64 * k + 64 = 64 * (k + 1) from by omega] at h1
  rw [h1]
  have h2 := wbits_take l k 64 (Nat.le_refl _)
  rw [List.take_of_length_le (by rw [wbits_length]; omega)] at h2
  rw [h2]
/-- The ones of a word's digits as they stand at the lower end. -/
theorem pop_low (l : List Bool) (k t : Nat) (ht : t = min 64 (l.length - 64 * k)) : ones l (64 * (k + 1)) = ones l (64 * k) + (numB (val ((l.drop (64 * k)).take t)) 64).count true := by
  have h1 := ones_more l (64 * k) 64
  rw [show 64 * k + 64 = 64 * (k + 1) from by omega] at h1
  have h2 : (l.drop (64 * k)).take 64 = (l.drop (64 * k)).take t := by
    rcases Nat.lt_or_ge (l.length - 64 * k) 64 with h | h
    · rw [List.take_of_length_le (by rw [List.length_drop]; omega), List.take_of_length_le (by rw [List.length_drop]; omega)]
    · rw [show t = 64 from by omega]
  rw [h1, h2, pop_val _ (by rw [List.length_take]; omega)]
theorem wbits_at (l : List Bool) (k q : Nat) (hq : q < 64) : (wbits l k).getD q false = l.getD (64 * k + q) false := by
  unfold wbits
  simp only [List.getD_eq_getElem?_getD]
  rcases Nat.lt_or_ge q ((l.drop (64 * k)).take 64).length with h | h
  · rw [List.getElem?_append_left h, List.getElem?_take, if_pos hq, List.getElem?_drop]
  · rw [List.getElem?_append_right h]
    rw [List.length_take, List.length_drop] at h
    rw [List.getElem?_eq_none (l := l) (by omega)]
    rw [List.getElem?_replicate]
    split <;> rfl
theorem wbits_ones (l : List Bool) (k q : Nat) (hq : q ≤ 64) : ones l (64 * k + q) = ones l (64 * k) + ones (wbits l k) q := by
  rw [ones_more]
  unfold ones
  rw [wbits_take l k q hq]
/-- The place of the n-th one by that in its word. -/
theorem place_word (l : List Bool) (n k q : Nat) (h0 : ones l (64 * k) ≤ n) (hp : place (wbits l k) (n - ones l (64 * k)) = some q) : place l n = some (64 * k + q) := by
  obtain ⟨h1, h2, h3⟩ := place_some hp
  rw [wbits_length] at h1
  rw [wbits_at l k q h1] at h2
  have h4 := wbits_ones l k q (by omega)
  rw [h3] at h4
  have hlen : 64 * k + q < l.length := by
    rcases Nat.lt_or_ge (64 * k + q) l.length with h | h
    · exact h
    · rw [List.getD_eq_getElem?_getD, List.getElem?_eq_none h] at h2
      cases h2
  rw [List.getD_eq_getElem?_getD, List.getElem?_eq_getElem hlen] at h2
  have h5 := place_at l (64 * k + q) hlen (by simpa using h2)
  rw [show ones l (64 * k + q) = n from by omega] at h5
  exact h5
/-- The next one that is set, from a place on. -/
theorem next_one (m : List Bool) (q k : Nat) (hq : ones m q = k) (hk : k < m.count true) : ∃ p, q ≤ p ∧ p < m.length ∧ place m k = some p ∧ ones m (p + 1) = k + 1 ∧ val (m.drop q) = 2 ^ (m.length - (p + 1)) + val (m.drop (p + 1)) ∧ val (m.drop (p + 1)) < 2 ^ (m.length - (p + 1)) ∧ digits (val (m.drop q)) = m.length - p := by
  cases hp : place m k with
  | none => have := (place_none m k).1 hp; omega
  | some p =>
    obtain ⟨h1, h2, h3⟩ := place_some hp
    have hb : m[p] = true := by simpa [List.getD_eq_getElem?_getD, h1] using h2
    have hs := ones_succ m p h1
    rw [hb, h3] at hs
    have hqp : q ≤ p := by
      rcases Nat.lt_or_ge p q with h | h
      · have := ones_mono m (show p + 1 ≤ q from h)
        simp [bv] at hs
        omega
      · exact h
    have hval : ∀ d, q + d ≤ p → val (m.drop q) = val (m.drop (q + d)) := by
      intro d
      induction d with
      | zero => intro _; rfl
      | succ d ih =>
        intro hd
        rw [ih (by omega)]
        have hlt : q + d < m.length := by omega
        rw [List.drop_eq_getElem_cons hlt, val_cons]
        have e1 := ones_mono m (show q ≤ q + d from by omega)
        have e2 := ones_mono m (show q + d + 1 ≤ p from by omega)
        have e3 := ones_succ m (q + d) hlt
        have e4 : bv m[q + d] = 0 := by omega
        rw [e4, Nat.zero_mul, Nat.zero_add, Nat.add_assoc]
    have hv := hval (p - q) (by omega)
    rw [show q + (p - q) = p from by omega, List.drop_eq_getElem_cons h1, val_cons, hb] at hv
    have hl : (m.drop (p + 1)).length = m.length - (p + 1) := List.length_drop
    have hlt := val_lt (m.drop (p + 1))
    rw [hl] at hv hlt
    have e1 : bv true = 1 := rfl
    rw [e1, Nat.one_mul] at hv
    refine ⟨p, hqp, h1, rfl, by simpa [bv] using hs, hv, hlt, ?_⟩
    rw [hv, digits_eq (k := m.length - (p + 1)) (by omega) (by rw [Nat.pow_succ]; omega)]
    omega
theorem xor_top (y k : Nat) (h : y < 2 ^ k) : (2 ^ k + y) ^^^ 2 ^ k = y := by
  have e : 2 ^ k + y = y ^^^ 2 ^ k := by
    apply Nat.eq_of_testBit_eq
    intro i
    rw [Nat.testBit_xor, Nat.testBit_two_pow]
    by_cases hi : k = i
    · subst hi
      rw [Nat.testBit_two_pow_add_eq, Nat.testBit_lt_two_pow h]
      simp
    · rcases Nat.lt_or_gt_of_ne hi with h1 | h1
      · rw [Nat.testBit_lt_two_pow (x := y) (Nat.lt_trans h (Nat.pow_lt_pow_right (by omega) h1))]
        have : 2 ^ k + y < 2 ^ i := by
          have h2 : 2 ^ (k + 1) ≤ 2 ^ i := Nat.pow_le_pow_right (by omega) h1
          rw [Nat.pow_succ] at h2
          omega
        rw [Nat.testBit_lt_two_pow this]
        simp [hi]
      · rw [Nat.testBit_two_pow_add_gt h1]
        simp [hi]
  rw [e, Nat.xor_assoc, Nat.xor_self, Nat.xor_zero]

end Go.Proofs.YthbnecdeebmlhaaGreat

namespace Go.Proofs.YthbnecdeebmlhaaGreat
open Go.RowKit

theorem and_le_r (a m : Nat) : (a &&& m) ≤ m := Nat.and_le_right
set_option maxHeartbeats 1000000 in
set_option maxRecDepth 100000 in
theorem ones64_c (x : Nat) (w : World) (hx : x < 18446744073709551616) :
    Calls Tryz.prog 76 #[.int .u64 (x : Int)] w fun e w' => e = .returned (.int .i64 ((numB x 64).count true : Int)) ∧ w = w' := by
  have hT := popS_T 8 x
  obtain ⟨T, A, B, C, h1, h2, h3, h4, h5, h6, h7, h8, h9⟩ := popT_sum x
  rw [h1] at hT
  unfold popS3 popS2 popS1 at hT
  rw [rep85, rep51, rep15] at hT
  generalize (numB x 64).count true = c at *
  obtain ⟨a1, ea1⟩ : ∃ q, q = x / 2 &&& 6148914691236517205 := ⟨_, rfl⟩
  obtain ⟨a2, ea2⟩ : ∃ q, q = x &&& 6148914691236517205 := ⟨_, rfl⟩
  have la1 : a1 ≤ 6148914691236517205 := by rw [ea1]; exact and_le_r _ _
  have la2 : a2 ≤ 6148914691236517205 := by rw [ea2]; exact and_le_r _ _
  rw [← ea1, ← ea2] at hT
  obtain ⟨s1, es1⟩ : ∃ q, q = a1 + a2 := ⟨_, rfl⟩
  rw [← es1] at hT
  obtain ⟨b1, eb1⟩ : ∃ q, q = s1 / 4 &&& 3689348814741910323 := ⟨_, rfl⟩
  obtain ⟨b2, eb2⟩ : ∃ q, q = s1 &&& 3689348814741910323 := ⟨_, rfl⟩
  have lb1 : b1 ≤ 3689348814741910323 := by rw [eb1]; exact and_le_r _ _
  have lb2 : b2 ≤ 3689348814741910323 := by rw [eb2]; exact and_le_r _ _
  rw [← eb1, ← eb2] at hT
  obtain ⟨s2, es2⟩ : ∃ q, q = b1 + b2 := ⟨_, rfl⟩
  rw [← es2] at hT
  obtain ⟨s3, es3⟩ : ∃ q, q = s2 / 16 + s2 := ⟨_, rfl⟩
  rw [← es3] at hT
  have k1 := u64_and_nat (x / 2) 6148914691236517205 (by omega) (by omega)
  have k2 := u64_and_nat x 6148914691236517205 hx (by omega)
  have k3 := u64_and_nat (s1 / 4) 3689348814741910323 (by omega) (by omega)
  have k4 := u64_and_nat s1 3689348814741910323 (by omega) (by omega)
  have k5 := u64_and_nat s3 1085102592571150095 (by omega) (by omega)
  rw [show ((x / 2 : Nat) : Int) = (x : Int) / 2 from by omega] at k1
  rw [show ((s1 / 4 : Nat) : Int) = (s1 : Int) / 4 from by omega] at k3
  rw [show ((6148914691236517205 : Nat) : Int) = 6148914691236517205 from rfl] at k1 k2
  rw [show ((3689348814741910323 : Nat) : Int) = 3689348814741910323 from rfl] at k3 k4
  rw [show ((1085102592571150095 : Nat) : Int) = 1085102592571150095 from rfl] at k5
  have w1 : IntKind.u64.wrap ((a1 : Int) + (a2 : Int)) = (s1 : Int) := by rw [IntKind.wrap_u64]; omega
  have w2 : IntKind.u64.wrap ((b1 : Int) + (b2 : Int)) = (s2 : Int) := by rw [IntKind.wrap_u64]; omega
  have w3 : IntKind.u64.wrap ((s2 : Int) / 16 + (s2 : Int)) = (s3 : Int) := by rw [IntKind.wrap_u64]; omega
  have w4 : IntKind.u64.wrap ((T : Int) + (T : Int) / 256) = (A : Int) := by rw [IntKind.wrap_u64]; omega
  have w5 : IntKind.u64.wrap ((A : Int) + (A : Int) / 65536) = (B : Int) := by rw [IntKind.wrap_u64]; omega
  have w6 : IntKind.u64.wrap ((B : Int) + (B : Int) / 4294967296) = (C : Int) := by rw [IntKind.wrap_u64]; omega
  have w7 : IntKind.i64.wrap (C : Int) = (C : Int) := by rw [IntKind.wrap_i64]; omega
  rw [← ea1] at k1
  rw [← ea2] at k2
  rw [← eb1] at k3
  rw [← eb2] at k4
  rw [hT] at k5
  have w8 : bits .and .i64 (C : Int) 127 = (c : Int) := by
    rw [i64_and127]
    omega
  clear ea1 ea2 eb1 eb2 es1 es2 es3 hT h1 h2 h3 h4 h5 h6 h7 h8 h9 la1 la2 lb1 lb2
  go_enter Tryz.func76, Tryz.ntmps76
  go_wp2_with fail

  go_ret
  exact ⟨rfl, rfl⟩

end Go.Proofs.YthbnecdeebmlhaaGreat

namespace Go.Proofs.YthbnecdeebmlhaaGreat
open Go.RowKit

/-- The struct at block b: the first j words of l, the counts ahead of the first k; all lies from block B on. -/
structure RKW (w : World) (B b : Nat) (v1 v2 : Value) (l : List Bool) (j k : Nat) : Prop where
  blk : w.heap[b]? = some (.cells #[v1, v2, .int .i64 (l.length : Int)] 123)
  ws : OwnV 74 w B v1 (zi .u64 (words l j))
  hs : OwnV 3 w B v2 (zi .i64 (aheads l k))
  low : B ≤ b

section
variable {w w' : World} {B b : Nat} {v1 v2 : Value} {l : List Bool} {j k : Nat}
theorem RKW.lt (h : RKW w B b v1 v2 l j k) : b < w.heap.size := (Array.getElem?_eq_some_iff.1 h.blk).1
theorem RKW.c0 (h : RKW w B b v1 v2 l j k) : w.cell? ⟨b, 0, none⟩ = some v1 := by rw [cell_of_row w b 0 _ _ _ h.blk]; rfl
theorem RKW.c1 (h : RKW w B b v1 v2 l j k) : w.cell? ⟨b, 1, none⟩ = some v2 := by rw [cell_of_row w b 1 _ _ _ h.blk]; rfl
theorem RKW.c2 (h : RKW w B b v1 v2 l j k) : w.cell? ⟨b, 2, none⟩ = some (.int .i64 (l.length : Int)) := by rw [cell_of_row w b 2 _ _ _ h.blk]; rfl
theorem RKW.below (h : RKW w B b v1 v2 l j k) (hb : Below w.heap.size w w') : RKW w' B b v1 v2 l j k := ⟨(hb.block b h.lt).trans h.blk, h.ws.below hb, h.hs.below hb, h.low⟩
theorem OwnV.same {e : TypeId} {v : Value} {xs : List Value} (h : OwnV e w B v xs) (hk : ∀ g, g < w.heap.size → B ≤ g → v.ownBlock = some g → w'.heap[g]? = w.heap[g]?) : OwnV e w' B v xs := by
  refine ⟨h.1, ?_⟩
  rcases h.2 with h' | ⟨g, cap, cur, e1, hB, e2, e3⟩
  · exact .inl h'
  · subst e1
    exact .inr ⟨g, cap, cur, rfl, hB, (hk g (Array.getElem?_eq_some_iff.1 e2).1 hB rfl).trans e2, e3⟩
end

/-- r, a *rank.Rank, counts the bits l; what it holds lies from block B on. -/
def RK (w : World) (B : Nat) (r : Option Addr) (l : List Bool) : Prop :=
  l.length ≤ 1000000 ∧ ((r = none ∧ l = []) ∨ ∃ b v1 v2, r = some ⟨b, 0, none⟩ ∧ RKW w B b v1 v2 l (nw l) (nw l))
theorem RK.below {w w' : World} {B : Nat} {r : Option Addr} {l : List Bool} (h : RK w B r l) (hb : Below w.heap.size w w') : RK w' B r l := by
  refine ⟨h.1, ?_⟩
  rcases h.2 with h' | ⟨b, v1, v2, h1, h2⟩
  · exact .inl h'
  · exact .inr ⟨b, v1, v2, h1, h2.below hb⟩
set_option maxRecDepth 100000 in
theorem rlen_w (w : World) (B : Nat) (r : Option Addr) (l : List Bool) (h : RK w B r l) :
    Calls Tryz.prog 113 #[.pointer r] w fun e w' => e = .returned (.int .i64 (l.length : Int)) ∧ w = w' := by
  rcases h.2 with ⟨rfl, rfl⟩ | ⟨b, v1, v2, rfl, h2⟩
  · clear h
    go_enter Tryz.func113, Tryz.ntmps113
    go_wp2_with fail
    go_ret
    exact ⟨rfl, rfl⟩
  · have c2 := h2.c2
    clear h h2
    go_enter Tryz.func113, Tryz.ntmps113
    go_wp2_with fail
    go_ret
    exact ⟨rfl, rfl⟩
theorem run_idxW (b n cap j : Nat) (h : j < n) (W : World) : (Instr.indexAt 121 (.slice (some ⟨b, 0, none⟩) n cap) (.int .i64 (j : Int))).run Tryz.prog W = .ok (.pointer (some ⟨b, j, none⟩)) W := by
  obtain ⟨i, hi, -, hsize, -⟩ := info_parts (show (Tryz.prog.info? 74).map (fun i => (i.zero, i.size, i.bytes)) = some (some (.int .u64 0), 1, 8) by kernel_rfl)
  have he : Tryz.prog.elem 121 = 74 := by kernel_rfl
  have hs : (sizeOf 74).run Tryz.prog W = .ok 1 W := by simp [sizeOf, typeInfo, hi, hsize]
  have hadd : (⟨b, 0, none⟩ : Addr).add j = ⟨b, j, none⟩ := by unfold Addr.add; split <;> simp_all
  rw [run_indexAt_slice W _ _ _ _ _ _ (by rw [he]; exact Tryz.underlying121), if_pos ⟨by omega, by omega⟩, he, hs]
  simp [Result.andThen, hadd]
theorem run_idxA (b n cap j : Nat) (h : j < n) (W : World) : (Instr.indexAt 108 (.slice (some ⟨b, 0, none⟩) n cap) (.int .i64 (j : Int))).run Tryz.prog W = .ok (.pointer (some ⟨b, j, none⟩)) W := by
  obtain ⟨i, hi, -, hsize, -⟩ := info_parts (show (Tryz.prog.info? 3).map (fun i => (i.zero, i.size, i.bytes)) = some (some (.int .i64 0), 1, 8) by kernel_rfl)
  have he : Tryz.prog.elem 108 = 3 := by kernel_rfl
  have hs : (sizeOf 3).run Tryz.prog W = .ok 1 W := by simp [sizeOf, typeInfo, hi, hsize]
  have hadd : (⟨b, 0, none⟩ : Addr).add j = ⟨b, j, none⟩ := by unfold Addr.add; split <;> simp_all
  rw [run_indexAt_slice W _ _ _ _ _ _ (by rw [he]; exact Tryz.underlying108), if_pos ⟨by omega, by omega⟩, he, hs]
  simp [Result.andThen, hadd]
/-- A row of the call's own, open: its block and cells. -/
theorem OwnV.open {e : TypeId} {w : World} {B : Nat} {v : Value} {xs : List Value} (h : OwnV e w B v xs) (hne : 0 < xs.length) : ∃ g cap, v = .slice (some ⟨g, 0, none⟩) xs.length cap ∧ g < w.heap.size ∧ B ≤ g ∧ ∀ i (hi : i < xs.length), w.cell? ⟨g, i, none⟩ = some xs[i] := by
  rcases h.2 with ⟨-, h0⟩ | ⟨g, cap, cur, rfl, hB, hg, h1, h2, h3, h4⟩
  · omega
  · refine ⟨g, cap, rfl, (Array.getElem?_eq_some_iff.1 hg).1, hB, fun i hi => ?_⟩
    rw [cell_of_row w g i _ _ _ hg]
    obtain ⟨y, hy⟩ : ∃ y, y = xs[i] := ⟨_, rfl⟩
    have h5 : xs[i]? = some y := by rw [hy]; exact List.getElem?_eq_getElem hi
    rw [← hy]
    clear hy
    rw [← h4, List.getElem?_take] at h5
    split at h5
    · rw [Array.getElem?_toList] at h5
      exact h5
    · cases h5

set_option maxHeartbeats 1000000 in
set_option maxRecDepth 100000 in
theorem rones_d (i : Int) (w : World) (B : Nat) (r : Option Addr) (l : List Bool) (h : RK w B r l) (h0 : -9223372036854775808 ≤ i) (h1 : i ≤ 9223372036854775807) :
    Calls Tryz.prog 112 #[.pointer r, .int .i64 i] w fun e w' => e = .returned (.int .i64 (onesI l i : Int)) ∧ ∃ m, w' = w.drewN m := by
  have C := Go.Lib.hid (rlen_w w B r l h)
  have hl := h.1
  by_cases hle : min i (l.length : Int) ≤ 0
  · have hz : onesI l i = 0 := by
      unfold onesI
      split
      · rfl
      · by_cases h2 : i ≤ 0
        · rw [show i.toNat = 0 from by omega]; rfl
        · have : l.length = 0 := by omega
          rw [List.eq_nil_of_length_eq_zero this]
          simp [ones]
    rw [hz]
    generalize l.length = n at *
    clear h hz
    go_enter Tryz.func112, Tryz.ntmps112
    go_wp2_with fail
    refine C.out.mono ?_
    rintro e w1 ⟨rfl, rfl⟩
    go_wp2_with fail
    go_ret
    exact ⟨rfl, 0, rfl⟩
  · obtain ⟨m, hm⟩ : ∃ m : Nat, min i (l.length : Int) = (m : Int) := ⟨(min i (l.length : Int)).toNat, by omega⟩
    have hm0 : 0 < m := by omega
    have hml : m ≤ l.length := by omega
    have ho : onesI l i = ones l m := by
      unfold onesI
      rw [if_neg (by omega)]
      rcases Int.le_total i (l.length : Int) with h2 | h2
      · rw [show i.toNat = m from by omega]
      · rw [ones_all l i.toNat (by omega), show m = l.length from by omega, ones_all l _ (Nat.le_refl _)]
    rw [ho]
    obtain ⟨k, hk⟩ : ∃ k, k = (m - 1) / 64 := ⟨_, rfl⟩
    obtain ⟨s, hs⟩ : ∃ s, s = (k + 1) * 64 - m := ⟨_, rfl⟩
    rw [ones_word l m k s hm0 hk hs]
    have hkn : k < nw l := by unfold nw; omega
    rcases h.2 with ⟨rfl, rfl⟩ | ⟨b, v1, v2, rfl, h2⟩
    · simp at hml; omega
    · have cW := Go.Lib.hid h2
      clear h
      have hwl := Nat.lt_of_le_of_lt (Nat.div_le_self (word l k) (2 ^ s)) (word_lt l k)
      have hones := ones_le l (64 * k)
      obtain ⟨g1, p1, e1, l1, -, c1⟩ := h2.ws.open (by rw [zi_length, words_length]; omega)
      obtain ⟨g2, p2, e2, l2, -, c2⟩ := h2.hs.open (by rw [zi_length, aheads_length]; omega)
      have d1 := c1 k (by rw [zi_length, words_length]; exact hkn)
      have d2 := c2 k (by rw [zi_length, aheads_length]; exact hkn)
      rw [zi_at _ _ _ (by rw [words_length]; exact hkn), words_at l _ _ hkn] at d1
      rw [zi_at _ _ _ (by rw [aheads_length]; exact hkn), aheads_at l _ _ hkn] at d2
      rw [zi_length, words_length] at e1
      rw [zi_length, aheads_length] at e2
      subst e1 e2
      have q0 := h2.c0
      have q1 := h2.c1
      have hbl := h2.lt
      clear c1 c2 h2 cW ho
      have hcp := ones64_c (word l k / 2 ^ s)
      have hc64 : (numB (word l k / 2 ^ s) 64).count true ≤ 64 := by
        have : (numB (word l k / 2 ^ s) 64).count true ≤ (numB (word l k / 2 ^ s) 64).length := List.count_le_length
        rwa [numB_length] at this
      have hx : (word l k : Int) / 2 ^ s = ((word l k / 2 ^ s : Nat) : Int) := by simp
      have hqk : ((m : Int) - 1) / 64 = (k : Int) := by omega
      have hss : ((k : Int) + 1) * 64 - (m : Int) = (s : Int) := by omega
      have hlm : k + 1 ≤ 15626 := by omega
      have hs64 : s < 64 := by omega
      generalize (numB (word l k / 2 ^ s) 64).count true = c at *
      generalize word l k / 2 ^ s = y at *
      generalize ones l (64 * k) = o at *
      generalize word l k = x at *
      generalize l.length = n at *
      generalize nw l = nn at *
      have ix1 := run_idxW g1 nn p1 k hkn
      have ix2 := run_idxA g2 nn p2 k hkn
      have CP := fun W => Go.Lib.hid (hcp W hwl)
      clear hcp hk hs hle h0 h1 hl
      go_enter Tryz.func112, Tryz.ntmps112
      go_wp2_with fail
      refine C.out.mono ?_
      rintro e w1 ⟨rfl, rfl⟩
      go_upto_region 6 with (fail)
      rw [hqk]
      have hwr : IntKind.i64.wrap ((o : Int) + (c : Int)) = ((o + c : Nat) : Int) := by rw [IntKind.wrap_i64]; omega
      have hdv : (x : Int) / 2 ^ s = (y : Int) := hx
      go_quiet ((go_at_call 76; exact Calls.quiet_of_same ((CP _).out.mono fun _ _ ⟨h, hw⟩ => ⟨h, hw.symm⟩)))
      go_wp2_with fail
      go_ret
      exact ⟨by first | rfl | (rw [hwr]), _, rfl⟩
end Go.Proofs.YthbnecdeebmlhaaGreat
