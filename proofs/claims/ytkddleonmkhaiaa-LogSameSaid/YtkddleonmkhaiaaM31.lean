/-
  Stage 18: the reference's Find, Room, Reads of a log's records.
  Stage 18: what the laws keep beside a log: rows of records of their own; a log and what it was told (the same records by rising keys).
  Bits, the highest first; bits as bytes: mathematics alone.
-/
import Derived.Test.YtkddleonmkhaiaaM12
import Derived.Test.YtkddleonmkhaiaaM13
import Derived.Test.YtkddleonmkhaiaaM11
import Derived.Test.YtkddleonmkhaiaaM23
import Derived.Test.YtkddleonmkhaiaaM20
import Derived.Test.YtkddleonmkhaiaaM30
import Derived.LoopTactic
import Derived.Test.YtkddleonmkhaiaaM01
namespace Go.Proofs.Ytkddleonmkhaiaa
open Go.RowKit

theorem KU.one' (w : World) (z : Nat) : KU.R (w.alloc (.cells #[.int .u64 (z : Int)] 58)) (.slice (some ⟨w.heap.size, 0, none⟩) 1 1) [z] := Lay.R.one w KU_ok z 58 (0, 0)

set_option maxHeartbeats 1000000 in
set_option maxRecDepth 100000 in
theorem rroomR_c (v : Value) (l : List RecT) (key : ByteArray) (w : World) (hv : RS w v l) (hl : l.length ≤ 1000) (hs : ∀ x ∈ l, x.1.size ≤ 1000000) (hk : key.size ≤ 1000000) :
    Calls Try.prog 16 #[v, .string key] w fun e w' => e = .returned (.bool (roomR l key)) ∧ Below w.heap.size w w' := by
  obtain ⟨a, cap, rfl, hm⟩ := hv.form
  have CF := Go.Lib.hid (rfind_c (.slice a l.length cap) l key w hv)
  have HR := Go.Lib.hid hv
  have HS := Go.Lib.hid hs
  have CH := Go.Lib.hid fun W => rhash_k key (hashS key) rfl W hk
  have HKL := Go.Lib.hid (hashS_lt key)
  have HE := Go.Lib.hid (show roomR l key = ((findK keyR l key.toList).isSome || roomB (l.map hR ++ [hashS key])) from rfl)
  clear hv hs hk
  unfold outR recOf recV at CF
  generalize findK keyR l key.toList = o at *
  generalize hashS key = hk at *
  go_enter Try.func16, Try.ntmps16
  go_wp2_with fail
  refine CF.out.mono ?_
  rintro e w1 ⟨rfl, hb⟩
  generalize o.getD nullR = y at *
  obtain ⟨ky, gy, ay, ny, sy⟩ := y
  have hb2 := below_one w1 (.cells #[.string ky, .bool gy, .int .i64 ay, .int .i64 ny, .string sy] 26)
  have HB := Go.Lib.hid (hb.trans (hb2.mono hb.size))
  clear hb hb2 CF
  cases hob : o.isSome with
  | true =>
    rw [hob] at HE
    clear hob
    go_wp2_with fail
    go_ret
    exact ⟨by rw [HE.out]; simp, HB.out⟩
  | false =>
    rw [hob, Bool.false_or] at HE
    clear hob
    go_wp2_with fail
    generalize w1.alloc (.cells #[.string ky, .bool gy, .int .i64 ay, .int .i64 ny, .string sy] 26) = w2 at *
    go_loopw [7, 8] (fun hv ki wr => ∃ k : Nat, k ≤ l.length ∧ ki = .int .i64 (k : Int) ∧ Hid (KU.O wr w.heap.size hv ((l.take k).map hR)) ∧ Hid (Below w.heap.size w wr)) (fun _ ki _ => l.length - (intOf ki).toNat)
    case atStart => exact ⟨0, by omega, rfl, Go.Lib.hid (Lay.O.nil _ _), HB⟩
    case round =>
      obtain ⟨k, hk2, rfl, HO, HBW⟩ := hrel
      by_cases hlt : k < l.length
      · obtain ⟨b, o, rfl, -, -, c0, c1, c2, c3, c4⟩ := (HR.out.below HBW.out).at k hlt
        have hix := run_idx5 b o l.length cap k hlt
        have hsz := HS.out _ (List.getElem_mem hlt)
        have HSN := Go.Lib.hid (show (l.take k).map hR ++ [hashS l[k].1] = (l.take (k + 1)).map hR from by rw [List.take_succ_eq_append_getElem hlt, List.map_append]; rfl)
        have HLN := Go.Lib.hid (show ((l.take k).map hR).length ≤ 1000 from by rw [List.length_map, List.length_take]; omega)
        have CX := Go.Lib.hid fun W => rhash_k l[k].1 (hashS l[k].1) rfl W hsz
        generalize (l.take k).map hR = acc at *
        generalize hashS l[k].1 = hx at *
        generalize l[k].1 = kx at *
        clear c1 c2 c3 c4 hsz
        go_wp2_with fail
        refine (CX.out _).mono ?_
        rintro e w3 ⟨rfl, hc⟩
        have HBA := Go.Lib.hid (hc.trans ((below_one w3 (.cells #[.int .u64 (hx : Int)] 58)).mono hc.size))
        have HO2 := Go.Lib.hid (HO.out.below HBA.out)
        have HB3 := Go.Lib.hid (HBW.out.trans (HBA.out.mono HBW.out.size))
        have HON := Go.Lib.hid (KU.one' w3 hx)
        clear hc CX c0 hix HO
        go_wp2_with (first
          | (with_reducible show wpList _ _ _ (⟨some 30, _, _, _, _, _⟩ :: _) _ _; go_loud (refine KU_ok.append rfl (.tmp 22) (.tmp 29) rfl w.heap.size u7 (.slice (some ⟨w3.heap.size, 0, none⟩) 1 1) acc [hx] rfl rfl HO2.out HON.out (by have := HLN.out; simp; omega) (HB3.out.size) ?_); intro v4 w4 ho4 hg4)
          | fail)
        rw [HSN.out] at ho4
        exact ⟨⟨k + 1, by omega, by go_num, Go.Lib.hid ho4, Go.Lib.hid (HB3.out.grown hg4 HB3.out.size (fun j hj => HO2.out.row j hj))⟩, by simp only [intOf]; omega⟩
      · obtain rfl : k = l.length := by omega
        have HO1 : Hid (KU.O wr w.heap.size u7 (l.map hR)) := by have := HO.out; rwa [List.take_length] at this
        have HLN := Go.Lib.hid (show (l.map hR).length ≤ 1000 from by rw [List.length_map]; omega)
        have HLT := Go.Lib.hid (show ∀ h ∈ l.map hR ++ [hk], h < 18446744073709551616 from fun h hh => by
          rcases List.mem_append.1 hh with hh | hh
          · obtain ⟨x, -, rfl⟩ := List.mem_map.1 hh
            exact hashS_lt _
          · rw [List.mem_singleton.1 hh]; exact HKL.out)
        clear HO HKL
        generalize l.map hR = acc at *
        go_wp2_with fail
        refine (CH.out _).mono ?_
        rintro e w3 ⟨rfl, hc⟩
        have HBA := Go.Lib.hid (hc.trans ((below_one w3 (.cells #[.int .u64 (hk : Int)] 58)).mono hc.size))
        have HO2 := Go.Lib.hid (HO1.out.below HBA.out)
        have HB3 := Go.Lib.hid (HBW.out.trans (HBA.out.mono HBW.out.size))
        have HON := Go.Lib.hid (KU.one' w3 hk)
        clear hc CH HO1
        go_wp2_with (first
          | (with_reducible show wpList _ _ _ (⟨some 35, _, _, _, _, _⟩ :: _) _ _; go_loud (refine KU_ok.append rfl (.tmp 31) (.tmp 34) rfl w.heap.size u7 (.slice (some ⟨w3.heap.size, 0, none⟩) 1 1) acc [hk] rfl rfl HO2.out HON.out (by have := HLN.out; simp; omega) (HB3.out.size) ?_); intro v4 w4 ho4 hg4)
          | fail)
        have CR := Go.Lib.hid (rroom_c v4 (acc ++ [hk]) w4 ho4.r HLT.out (by have := HLN.out; simp; omega))
        have HB4 := Go.Lib.hid (HB3.out.grown hg4 HB3.out.size (fun j hj => HO2.out.row j hj))
        refine CR.out.mono ?_
        rintro e w5 ⟨rfl, rfl⟩
        clear CR ho4 hg4
        go_wp2_with fail
        go_ret
        exact ⟨by rw [HE.out]; rfl, HB4.out⟩

end Go.Proofs.Ytkddleonmkhaiaa

namespace Go.Proofs.Ytkddleonmkhaiaa
open Go.RowKit

/-- Two slices in blocks of their own. -/
def Apart (u v : Value) : Prop := ∀ g, u.ownBlock = some g → v.ownBlock ≠ some g
theorem Apart.nil (v : Value) : Apart (.slice none 0 0) v := fun g h => by cases h
theorem Apart.right (u : Value) : Apart u (.slice none 0 0) := fun g _ h => by cases h
/-- A row that was made behind the log. -/
theorem apart_new {w : World} {B p d : Nat} {v u : Value} {L : List RecT} (h : LG w B p d v L) (hu : ∀ g, u.ownBlock = some g → w.heap.size ≤ g) : Apart u v := fun g hg e => by
  have := hu g hg
  have := h.vlt g e
  omega
/-- Behind a put: the row that is kept is what it was, and still apart. -/
theorem kept_put {w w' : World} {B p d B' : Nat} {v v' u : Value} {L M : List RecT} (h : LG w B p d v L) (ho : Off3 p d v.ownBlock w w') (hn : v'.ownBlock = v.ownBlock ∨ ∀ k, v'.ownBlock = some k → w.heap.size ≤ k) (hu : OwnRec w B' u M) (ha : Apart u v) : OwnRec w' B' u M ∧ Apart u v' := by
  refine ⟨h.keptRow ho hu ha, fun g hg e => ?_⟩
  rcases hn with hn | hn
  · exact ha g hg (hn.symm.trans e)
  · have h1 := hn g e
    have h2 := (World.ownsRow.lt hu g hg).2
    omega
theorem putE_zero {L : List RecT} {x : RecT} (hm : mayT x = true) : putE L x = if roomR L x.1 then 0 else 5 := by unfold putE; simp [hm]
theorem putN_zero {L : List RecT} {x : RecT} (hm : mayT x = true) (hr : roomR L x.1 = true) : putN L x = putL L x := by unfold putN; simp [hm, hr]
theorem putN_same {L : List RecT} {x : RecT} (hr : (mayT x && roomR L x.1) = false) : putN L x = L := by unfold putN; simp [hr]
theorem mem_put {L : List RecT} (hL : KeysOk L) (x y : RecT) : y ∈ putL L x ↔ y = x ∨ (y ∈ L ∧ keyR y ≠ keyR x) := by
  rcases find_cases (L := L) (keyR x) with ⟨i, h, e⟩ | h
  · rw [putL_in hL h e]; exact mem_set_keys hL h e.symm y
  · rw [putL_new h, List.mem_append, List.mem_singleton]
    constructor
    · rintro (hy | hy)
      · exact .inr ⟨hy, h y hy⟩
      · exact .inl hy
    · rintro (hy | hy)
      · exact .inr hy
      · exact .inl hy.1
theorem len_put_in {L : List RecT} (hL : KeysOk L) {x : RecT} (h : ∃ y ∈ L, keyR y = keyR x) : (putL L x).length = L.length := by
  obtain ⟨y, hy, e⟩ := h
  obtain ⟨i, hi, rfl⟩ := List.getElem_of_mem hy
  rw [putL_in hL hi e, List.length_set]
theorem room_in {L : List RecT} {k : ByteArray} (h : ∃ y ∈ L, keyR y = k.toList) : roomR L k = true := by
  unfold roomR
  have : (findK keyR L k.toList).isSome = true := by
    cases hf : findK keyR L k.toList with
    | some _ => rfl
    | none => obtain ⟨y, hy, e⟩ := h; exact absurd e ((find_none _).1 hf y hy)
  rw [this]; rfl
theorem and15 (n : Int) : ∃ c : Nat, bits .and .i64 n 15 = (c : Int) ∧ c ≤ 15 := by
  refine ⟨(BitVec.ofInt 64 n &&& BitVec.ofInt 64 15).toNat, ?_, ?_⟩
  · show IntKind.i64.wrap ((BitVec.ofInt 64 n &&& BitVec.ofInt 64 15).toNat : Int) = _
    have h1 : (BitVec.ofInt 64 n &&& BitVec.ofInt 64 15).toNat ≤ 15 := by rw [BitVec.toNat_and]; exact Nat.and_le_right
    rw [IntKind.wrap_i64]
    omega
  · rw [BitVec.toNat_and]; exact Nat.and_le_right
/-- The law's keys of two letters. -/
def nmR (c k : Nat) : List UInt8 := [UInt8.ofNat (97 + (k * 7 + c) % 26), UInt8.ofNat (97 + k % 25)]
theorem nmR_size (c k : Nat) : (str (nmR c k)).size = 2 := str_size _
theorem may_num (k : ByteArray) (z : Int) (h1 : 1 ≤ k.size) (h2 : k.size ≤ 16) : mayT (k, false, 1, z, ⟨#[]⟩) = true := by unfold mayT mayRec mayK mayR; simp [h1, h2]
theorem may_gone (k : ByteArray) (h1 : 1 ≤ k.size) (h2 : k.size ≤ 16) : mayT (k, true, 0, 0, ⟨#[]⟩) = true := by unfold mayT mayRec mayK; simp [h1, h2]
theorem mayT_key {x : RecT} (h : mayT x = true) : 1 ≤ x.1.size ∧ x.1.size ≤ 16 := by
  unfold mayT mayRec mayK at h
  simp only [Bool.and_eq_true, decide_eq_true_eq] at h
  exact h.1

end Go.Proofs.Ytkddleonmkhaiaa

namespace Go.Proofs.Ytkddleonmkhaiaa

def bv (b : Bool) : Nat := if b then 1 else 0
/-- The number that bits are. -/
def val (l : List Bool) : Nat := l.foldl (fun x b => 2 * x + bv b) 0
/-- Bit n of x, from the lowest. -/
def bit (x n : Nat) : Bool := x / 2 ^ n % 2 == 1
/-- The lowest n bits of x. -/
def numB (x : Nat) : Nat → List Bool
  | 0 => []
  | n + 1 => bit x n :: numB x n

theorem bv_lt (b : Bool) : bv b < 2 := by cases b <;> decide
theorem bv_bit (x n : Nat) : bv (bit x n) = x / 2 ^ n % 2 := by
  unfold bv bit
  rcases Nat.mod_two_eq_zero_or_one (x / 2 ^ n) with h | h <;> simp [h]
theorem val_snoc (l : List Bool) (b : Bool) : val (l ++ [b]) = 2 * val l + bv b := by simp [val]
theorem val_foldl (l : List Bool) : ∀ x, l.foldl (fun x b => 2 * x + bv b) x = x * 2 ^ l.length + val l := by
  induction l with
  | nil => intro x; simp [val]
  | cons b l ih =>
    intro x
    unfold val
    rw [List.foldl_cons, List.foldl_cons, ih, ih, List.length_cons, Nat.pow_succ, Nat.add_mul, Nat.mul_zero, Nat.zero_add, Nat.add_assoc]
    congr 1
    rw [Nat.mul_comm 2 x, Nat.mul_assoc, Nat.mul_comm 2]
theorem val_append (a b : List Bool) : val (a ++ b) = val a * 2 ^ b.length + val b := by
  unfold val
  rw [List.foldl_append, val_foldl]
  rfl
theorem val_cons (b : Bool) (l : List Bool) : val (b :: l) = bv b * 2 ^ l.length + val l := by
  have := val_append [b] l
  simpa [val] using this
theorem val_lt (l : List Bool) : val l < 2 ^ l.length := by
  induction l with
  | nil => decide
  | cons b l ih =>
    rw [val_cons, List.length_cons, Nat.pow_succ]
    have := bv_lt b
    have : bv b * 2 ^ l.length ≤ 1 * 2 ^ l.length := Nat.mul_le_mul_right _ (by omega)
    omega
theorem numB_length (x : Nat) : ∀ n, (numB x n).length = n
  | 0 => rfl
  | n + 1 => by rw [numB, List.length_cons, numB_length x n]
theorem val_numB (x : Nat) : ∀ n, val (numB x n) = x % 2 ^ n
  | 0 => by rw [Nat.pow_zero, Nat.mod_one]; rfl
  | n + 1 => by
    rw [numB, val_cons, numB_length, val_numB x n, bv_bit, Nat.pow_succ, Nat.mod_mul]
    rw [Nat.mul_comm, Nat.add_comm]
theorem bit_mod (x n k : Nat) (h : k < n) : bit (x % 2 ^ n) k = bit x k := by
  unfold bit
  have e : 2 ^ n = 2 ^ k * 2 ^ (n - k) := by rw [← Nat.pow_add]; congr 1; omega
  rw [e, Nat.mod_mul_right_div_self]
  have e2 : 2 ^ (n - k) = 2 * 2 ^ (n - k - 1) := by rw [← Nat.pow_succ']; congr 1; omega
  rw [e2, Nat.mod_mul_right_mod]
theorem numB_mod (x n : Nat) : ∀ k, k ≤ n → numB (x % 2 ^ n) k = numB x k
  | 0, _ => rfl
  | k + 1, h => by rw [numB, numB, bit_mod x n k (by omega), numB_mod x n k (by omega)]
theorem numB_val (l : List Bool) : numB (val l) l.length = l := by
  induction l with
  | nil => rfl
  | cons b l ih =>
    have h1 := val_lt l
    have h2 : val (b :: l) % 2 ^ l.length = val l := by
      rw [val_cons, Nat.add_comm, Nat.add_mul_mod_self_right, Nat.mod_eq_of_lt h1]
    have h3 : bit (val (b :: l)) l.length = b := by
      unfold bit
      rw [val_cons, Nat.add_comm, Nat.add_mul_div_right _ _ (Nat.pow_pos (by omega)), Nat.div_eq_of_lt h1, Nat.zero_add]
      cases b <;> rfl
    rw [List.length_cons, numB, h3, ← numB_mod _ l.length l.length (Nat.le_refl _), h2, ih]
theorem val_inj {a b : List Bool} (hl : a.length = b.length) (h : val a = val b) : a = b := by
  rw [← numB_val a, ← numB_val b, h, hl]
theorem numB_at (x : Nat) : ∀ n k (h : k < n), (numB x n)[k]'(by rw [numB_length]; exact h) = bit x (n - 1 - k)
  | n + 1, 0, _ => by simp [numB]
  | n + 1, k + 1, h => by
    have := numB_at x n k (by omega)
    simp only [numB, List.getElem_cons_succ, this]
    congr 1
    omega
/-- Bit k of a number of bits. -/
theorem bit_val (l : List Bool) (k : Nat) (h : k < l.length) : bit (val l) (l.length - 1 - k) = l[k] := by
  have := numB_at (val l) l.length k h
  rw [← this]
  exact List.getElem_of_eq (numB_val l) _

/-- Eight bits from one on, noughts behind. -/
def eight (l : List Bool) (k : Nat) : List Bool := (List.range 8).map fun j => l.getD (8 * k + j) false
/-- Eight bits a byte, the first one highest, the last byte filled with noughts. -/
def pack (l : List Bool) : List UInt8 := (List.range ((l.length + 7) / 8)).map fun k => UInt8.ofNat (val (eight l k))
/-- Bit i of bytes. -/
def bitAt (p : List UInt8) (i : Nat) : Bool := bit (p.getD (i / 8) 0).toNat (7 - i % 8)
/-- All bits of bytes. -/
def unpack (p : List UInt8) : List Bool := (List.range (8 * p.length)).map fun i => bitAt p i

theorem eight_length (l : List Bool) (k : Nat) : (eight l k).length = 8 := by simp [eight]
theorem eight_lt (l : List Bool) (k : Nat) : val (eight l k) < 256 := by
  have := val_lt (eight l k)
  rw [eight_length] at this
  exact this
theorem ofNat_val (n : Nat) (h : n < 256) : (UInt8.ofNat n).toNat = n := by simp; omega
theorem pack_length (l : List Bool) : (pack l).length = (l.length + 7) / 8 := by simp [pack]
theorem pack_at (l : List Bool) (k : Nat) (h : k < (l.length + 7) / 8) : (pack l).getD k 0 = UInt8.ofNat (val (eight l k)) := by
  simp [pack, List.getD_eq_getElem?_getD, h]
theorem bitAt_pack (l : List Bool) (i : Nat) : bitAt (pack l) i = l.getD i false := by
  unfold bitAt
  rcases Nat.lt_or_ge (i / 8) ((l.length + 7) / 8) with h | h
  · rw [pack_at l _ h, ofNat_val _ (eight_lt l _)]
    have h7 : 7 - i % 8 = (eight l (i / 8)).length - 1 - i % 8 := by rw [eight_length]
    rw [h7, bit_val (eight l (i / 8)) (i % 8) (by rw [eight_length]; omega)]
    simp only [eight, List.getElem_map, List.getElem_range]
    rw [show 8 * (i / 8) + i % 8 = i from by omega]
  · have h1 : (pack l).getD (i / 8) 0 = 0 := by
      rw [List.getD_eq_getElem?_getD, List.getElem?_eq_none (by rw [pack_length]; exact h)]
      rfl
    rw [h1, List.getD_eq_getElem?_getD, List.getElem?_eq_none (by omega)]
    show bit 0 _ = false
    simp [bit]
/-- A byte is its eight bits. -/
theorem byte_eq8 {a b : UInt8} (h : ∀ j, j < 8 → bit a.toNat j = bit b.toNat j) : a = b := by
  have ha : a.toNat < 2 ^ 8 := a.toNat_lt
  have hb : b.toNat < 2 ^ 8 := b.toNat_lt
  have e : ∀ n, n ≤ 8 → numB a.toNat n = numB b.toNat n := by
    intro n
    induction n with
    | zero => intro _; rfl
    | succ n ih => intro hn; rw [numB, numB, h n (by omega), ih (by omega)]
  have h8 := congrArg val (e 8 (Nat.le_refl _))
  rw [val_numB, val_numB, Nat.mod_eq_of_lt ha, Nat.mod_eq_of_lt hb] at h8
  exact UInt8.toNat_inj.1 h8
theorem bytes_ext {p q : List UInt8} (hl : p.length = q.length) (h : ∀ i, i < 8 * p.length → bitAt p i = bitAt q i) : p = q := by
  refine List.ext_getElem hl fun k h1 h2 => byte_eq8 fun j hj => ?_
  have := h (8 * k + (7 - j)) (by omega)
  unfold bitAt at this
  rw [show (8 * k + (7 - j)) / 8 = k from by omega, show 7 - (8 * k + (7 - j)) % 8 = j from by omega] at this
  simpa [List.getD_eq_getElem?_getD, h1, h2] using this
/-- Bytes are the bytes of their first n bits just if they are as many, and noughts stand behind. -/
theorem pack_first (p : List UInt8) (n : Nat) : pack ((unpack p).take n) = p ↔ (n ≥ 8 * p.length ∨ (8 * p.length < n + 8 ∧ ∀ i, n ≤ i → i < 8 * p.length → bitAt p i = false)) := by
  have hu : (unpack p).length = 8 * p.length := by simp [unpack]
  have hut : ∀ i, ((unpack p).take n).getD i false = if i < n ∧ i < 8 * p.length then bitAt p i else false := by
    intro i
    rw [List.getD_eq_getElem?_getD, List.getElem?_take]
    by_cases h1 : i < n
    · by_cases h2 : i < 8 * p.length
      · simp [h1, h2, unpack]
      · simp [h1, h2, unpack]
    · simp [h1]
  have hlen : ((unpack p).take n).length = min n (8 * p.length) := by rw [List.length_take, hu]
  constructor
  · intro h
    rcases Nat.lt_or_ge n (8 * p.length) with hlt | hge
    · refine .inr ⟨?_, fun i h1 h2 => ?_⟩
      · have := congrArg List.length h
        rw [pack_length, hlen, Nat.min_eq_left (by omega)] at this
        omega
      · have := bitAt_pack ((unpack p).take n) i
        rw [h, hut, if_neg (by omega)] at this
        exact this
    · exact .inl hge
  · intro h
    refine bytes_ext ?_ fun i hi => ?_
    · rw [pack_length, hlen]
      rcases h with h | ⟨h, -⟩ <;> omega
    · rw [bitAt_pack, hut]
      rw [pack_length, hlen] at hi
      split
      · rfl
      · rename_i hn
        rcases h with h | ⟨h1, h2⟩
        · unfold bitAt
          rw [List.getD_eq_getElem?_getD, List.getElem?_eq_none (by omega)]
          show false = bit 0 _
          simp [bit]
        · rcases Nat.lt_or_ge i (8 * p.length) with hlt | hge
          · exact (h2 i (by omega) hlt).symm
          · unfold bitAt
            rw [List.getD_eq_getElem?_getD, List.getElem?_eq_none (by omega)]
            show false = bit 0 _
            simp [bit]
/-- One bit more. -/
theorem pack_snoc_new (l : List Bool) (b : Bool) (h : l.length % 8 = 0) : pack (l ++ [b]) = pack l ++ [UInt8.ofNat (128 * bv b)] := by
  refine bytes_ext (by rw [List.length_append, pack_length, pack_length, List.length_append, List.length_singleton, List.length_singleton]; omega) fun i hi => ?_
  rw [pack_length, List.length_append, List.length_singleton] at hi
  rw [bitAt_pack]
  unfold bitAt
  rcases Nat.lt_or_ge (i / 8) (pack l).length with h1 | h1
  · have e1 : (pack l ++ [UInt8.ofNat (128 * bv b)]).getD (i / 8) 0 = (pack l).getD (i / 8) 0 := by
      rw [List.getD_eq_getElem?_getD, List.getD_eq_getElem?_getD, List.getElem?_append_left h1]
    rw [e1]
    have := bitAt_pack l i
    unfold bitAt at this
    rw [this]
    rw [pack_length] at h1
    rw [List.getD_eq_getElem?_getD, List.getD_eq_getElem?_getD, List.getElem?_append_left (by omega)]
  · rw [pack_length] at h1
    have e1 : (pack l ++ [UInt8.ofNat (128 * bv b)]).getD (i / 8) 0 = UInt8.ofNat (128 * bv b) := by
      rw [List.getD_eq_getElem?_getD, List.getElem?_append_right (by rw [pack_length]; exact h1), pack_length, show i / 8 - (l.length + 7) / 8 = 0 from by omega]
      rfl
    rw [e1, ofNat_val _ (by have := bv_lt b; omega)]
    by_cases h0 : i = l.length
    · subst h0
      rw [List.getD_eq_getElem?_getD, List.getElem?_append_right (Nat.le_refl _), Nat.sub_self, h]
      cases b <;> rfl
    · rw [List.getD_eq_getElem?_getD, List.getElem?_eq_none (by rw [List.length_append, List.length_singleton]; omega)]
      have hj : i % 8 = 1 ∨ i % 8 = 2 ∨ i % 8 = 3 ∨ i % 8 = 4 ∨ i % 8 = 5 ∨ i % 8 = 6 ∨ i % 8 = 7 := by omega
      rcases hj with hj | hj | hj | hj | hj | hj | hj <;> rw [hj] <;> cases b <;> rfl
theorem val_set (a : List Bool) (j : Nat) (h : j < a.length) (h0 : a[j] = false) (b : Bool) : val (a.set j b) = val a + bv b * 2 ^ (a.length - 1 - j) := by
  have e1 : a.set j b = a.take j ++ b :: a.drop (j + 1) := by rw [List.set_eq_take_append_cons_drop, if_pos h]
  have e2 : a = a.take j ++ false :: a.drop (j + 1) := by
    rw [← h0, ← List.drop_eq_getElem_cons h, List.take_append_drop]
  have e3 : val a = val (a.take j ++ false :: a.drop (j + 1)) := by rw [← e2]
  rw [e1, e3, val_append, val_append, val_cons, val_cons, List.length_drop, List.length_cons, List.length_cons, List.length_drop, show a.length - (j + 1) = a.length - 1 - j from by omega]
  show _ + (_ + _) = _ + (0 * _ + _) + _
  omega
theorem eight_at (l : List Bool) (k j : Nat) (h : j < 8) : (eight l k)[j]'(by rw [eight_length]; exact h) = l.getD (8 * k + j) false := by simp [eight]
theorem pack_snoc_set (l : List Bool) (b : Bool) (h : l.length % 8 ≠ 0) :
    pack (l ++ [b]) = (pack l).set (l.length / 8) (UInt8.ofNat (((pack l).getD (l.length / 8) 0).toNat + bv b * 2 ^ (7 - l.length % 8))) := by
  have hk : l.length / 8 < (l.length + 7) / 8 := by omega
  have h8 : eight (l ++ [b]) (l.length / 8) = (eight l (l.length / 8)).set (l.length % 8) b := by
    refine List.ext_getElem (by rw [List.length_set, eight_length, eight_length]) fun j h1 h2 => ?_
    rw [eight_length] at h1
    rw [eight_at _ _ _ h1, List.getElem_set, eight_at _ _ _ h1]
    split
    · rename_i he
      subst he
      rw [show 8 * (l.length / 8) + l.length % 8 = l.length from by omega, List.getD_eq_getElem?_getD, List.getElem?_append_right (Nat.le_refl _), Nat.sub_self]
      rfl
    · rename_i he
      rw [List.getD_eq_getElem?_getD, List.getD_eq_getElem?_getD]
      rcases Nat.lt_or_ge (8 * (l.length / 8) + j) l.length with hlt | hge
      · rw [List.getElem?_append_left hlt]
      · rw [List.getElem?_eq_none (by rw [List.length_append, List.length_singleton]; omega), List.getElem?_eq_none hge]
  have h0 : (eight l (l.length / 8))[l.length % 8]'(by rw [eight_length]; omega) = false := by
    rw [eight_at _ _ _ (by omega), show 8 * (l.length / 8) + l.length % 8 = l.length from by omega, List.getD_eq_getElem?_getD, List.getElem?_eq_none (Nat.le_refl _)]
    rfl
  have hv := val_set (eight l (l.length / 8)) (l.length % 8) (by rw [eight_length]; omega) h0 b
  rw [eight_length, ← h8, show 8 - 1 - l.length % 8 = 7 - l.length % 8 from rfl] at hv
  refine List.ext_getElem (by rw [List.length_set, pack_length, pack_length, List.length_append, List.length_singleton]; omega) fun i h1 h2 => ?_
  rw [pack_length, List.length_append, List.length_singleton] at h1
  have g : ∀ (m : List Bool) (hi : i < (pack m).length), (pack m)[i] = UInt8.ofNat (val (eight m i)) := by
    intro m hi
    simp [pack]
  rw [g, List.getElem_set]
  split
  · rename_i he
    subst he
    rw [hv, pack_at l _ hk, ofNat_val _ (eight_lt l _)]
  · rename_i he
    rw [g]
    congr 2
    refine List.ext_getElem (by rw [eight_length, eight_length]) fun j h3 h4 => ?_
    rw [eight_length] at h3
    rw [eight_at _ _ _ h3, eight_at _ _ _ h3, List.getD_eq_getElem?_getD, List.getD_eq_getElem?_getD, List.getElem?_append_left (by omega)]

end Go.Proofs.Ytkddleonmkhaiaa
