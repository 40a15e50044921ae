/-
  Stage 18: the reference's Find, Room, Reads of a log's records.
  Stage 18: what the laws keep beside a log: rows of records of their own; a log and what it was told (the same records by rising keys).
  Bytes with which no rune begins and none goes on are one rune, whichever they are: mathematics alone.
  Stage 18: keys that are one by their runes: eight find a place.
  Bits, the highest first; bits as bytes: mathematics alone.
  Bits by pieces: a number's bits in two pieces, a piece behind the last bit of bytes, a piece out of one byte: mathematics alone.
  Slices of bools.
  A slice of bools that came in.
-/
import Derived.Test.YtggokffdgjedgaaM05
import Derived.Test.YtggokffdgjedgaaM04
import Derived.Test.YtggokffdgjedgaaM08
import Derived.Test.YtggokffdgjedgaaM07
import Derived.Test.YtggokffdgjedgaaM10
import Derived.LoopTactic
import Derived.Test.YtggokffdgjedgaaM01
import Derived.Laws.BitsAllLaws
import Derived.Deep.Grids
namespace Go.Proofs.Ytggokffdgjedgaa
open Go.RowKit

theorem KU.one' (w : World) (z : Nat) : KU.R (w.alloc (.cells #[.int .u64 (z : Int)] 58)) (.slice (some ⟨w.heap.size, 0, none⟩) 1 1) [z] := Lay.R.one w KU_ok z 58 (0, 0)

set_option maxHeartbeats 1000000 in
set_option maxRecDepth 100000 in
theorem rroomR_c (v : Value) (l : List RecT) (key : ByteArray) (w : World) (hv : RS w v l) (hl : l.length ≤ 1000) (hs : ∀ x ∈ l, x.1.size ≤ 1000000) (hk : key.size ≤ 1000000) :
    Calls Try.prog 16 #[v, .string key] w fun e w' => e = .returned (.bool (roomR l key)) ∧ Below w.heap.size w w' := by
  obtain ⟨a, cap, rfl, hm⟩ := hv.form
  have CF := Go.Lib.hid (rfind_c (.slice a l.length cap) l key w hv)
  have HR := Go.Lib.hid hv
  have HS := Go.Lib.hid hs
  have CH := Go.Lib.hid fun W => rhash_k key (hashS key) rfl W hk
  have HKL := Go.Lib.hid (hashS_lt key)
  have HE := Go.Lib.hid (show roomR l key = ((findK keyR l key.toList).isSome || roomB (l.map hR ++ [hashS key])) from rfl)
  clear hv hs hk
  unfold outR recOf recV at CF
  generalize findK keyR l key.toList = o at *
  generalize hashS key = hk at *
  go_enter Try.func16, Try.ntmps16
  go_wp2_with fail
  refine CF.out.mono ?_
  rintro e w1 ⟨rfl, hb⟩
  generalize o.getD nullR = y at *
  obtain ⟨ky, gy, ay, ny, sy⟩ := y
  have hb2 := below_one w1 (.cells #[.string ky, .bool gy, .int .i64 ay, .int .i64 ny, .string sy] 26)
  have HB := Go.Lib.hid (hb.trans (hb2.mono hb.size))
  clear hb hb2 CF
  cases hob : o.isSome with
  | true =>
    rw [hob] at HE
    clear hob
    go_wp2_with fail
    go_ret
    exact ⟨by rw [HE.out]; simp, HB.out⟩
  | false =>
    rw [hob, Bool.false_or] at HE
    clear hob
    go_wp2_with fail
    generalize w1.alloc (.cells #[.string ky, .bool gy, .int .i64 ay, .int .i64 ny, .string sy] 26) = w2 at *
    go_loopw [7, 8] (fun hv ki wr => ∃ k : Nat, k ≤ l.length ∧ ki = .int .i64 (k : Int) ∧ Hid (KU.O wr w.heap.size hv ((l.take k).map hR)) ∧ Hid (Below w.heap.size w wr)) (fun _ ki _ => l.length - (intOf ki).toNat)
    case atStart => exact ⟨0, by omega, rfl, Go.Lib.hid (Lay.O.nil _ _), HB⟩
    case round =>
      obtain ⟨k, hk2, rfl, HO, HBW⟩ := hrel
      by_cases hlt : k < l.length
      · obtain ⟨b, o, rfl, -, -, c0, c1, c2, c3, c4⟩ := (HR.out.below HBW.out).at k hlt
        have hix := run_idx5 b o l.length cap k hlt
        have hsz := HS.out _ (List.getElem_mem hlt)
        have HSN := Go.Lib.hid (show (l.take k).map hR ++ [hashS l[k].1] = (l.take (k + 1)).map hR from by rw [List.take_succ_eq_append_getElem hlt, List.map_append]; rfl)
        have HLN := Go.Lib.hid (show ((l.take k).map hR).length ≤ 1000 from by rw [List.length_map, List.length_take]; omega)
        have CX := Go.Lib.hid fun W => rhash_k l[k].1 (hashS l[k].1) rfl W hsz
        generalize (l.take k).map hR = acc at *
        generalize hashS l[k].1 = hx at *
        generalize l[k].1 = kx at *
        clear c1 c2 c3 c4 hsz
        go_wp2_with fail
        refine (CX.out _).mono ?_
        rintro e w3 ⟨rfl, hc⟩
        have HBA := Go.Lib.hid (hc.trans ((below_one w3 (.cells #[.int .u64 (hx : Int)] 58)).mono hc.size))
        have HO2 := Go.Lib.hid (HO.out.below HBA.out)
        have HB3 := Go.Lib.hid (HBW.out.trans (HBA.out.mono HBW.out.size))
        have HON := Go.Lib.hid (KU.one' w3 hx)
        clear hc CX c0 hix HO
        go_wp2_with (first
          | (with_reducible show wpList _ _ _ (⟨some 30, _, _, _, _, _⟩ :: _) _ _; go_loud (refine KU_ok.append rfl (.tmp 22) (.tmp 29) rfl w.heap.size u7 (.slice (some ⟨w3.heap.size, 0, none⟩) 1 1) acc [hx] rfl rfl HO2.out HON.out (by have := HLN.out; simp; omega) (HB3.out.size) ?_); intro v4 w4 ho4 hg4)
          | fail)
        rw [HSN.out] at ho4
        exact ⟨⟨k + 1, by omega, by go_num, Go.Lib.hid ho4, Go.Lib.hid (HB3.out.grown hg4 HB3.out.size (fun j hj => HO2.out.row j hj))⟩, by simp only [intOf]; omega⟩
      · obtain rfl : k = l.length := by omega
        have HO1 : Hid (KU.O wr w.heap.size u7 (l.map hR)) := by have := HO.out; rwa [List.take_length] at this
        have HLN := Go.Lib.hid (show (l.map hR).length ≤ 1000 from by rw [List.length_map]; omega)
        have HLT := Go.Lib.hid (show ∀ h ∈ l.map hR ++ [hk], h < 18446744073709551616 from fun h hh => by
          rcases List.mem_append.1 hh with hh | hh
          · obtain ⟨x, -, rfl⟩ := List.mem_map.1 hh
            exact hashS_lt _
          · rw [List.mem_singleton.1 hh]; exact HKL.out)
        clear HO HKL
        generalize l.map hR = acc at *
        go_wp2_with fail
        refine (CH.out _).mono ?_
        rintro e w3 ⟨rfl, hc⟩
        have HBA := Go.Lib.hid (hc.trans ((below_one w3 (.cells #[.int .u64 (hk : Int)] 58)).mono hc.size))
        have HO2 := Go.Lib.hid (HO1.out.below HBA.out)
        have HB3 := Go.Lib.hid (HBW.out.trans (HBA.out.mono HBW.out.size))
        have HON := Go.Lib.hid (KU.one' w3 hk)
        clear hc CH HO1
        go_wp2_with (first
          | (with_reducible show wpList _ _ _ (⟨some 35, _, _, _, _, _⟩ :: _) _ _; go_loud (refine KU_ok.append rfl (.tmp 31) (.tmp 34) rfl w.heap.size u7 (.slice (some ⟨w3.heap.size, 0, none⟩) 1 1) acc [hk] rfl rfl HO2.out HON.out (by have := HLN.out; simp; omega) (HB3.out.size) ?_); intro v4 w4 ho4 hg4)
          | fail)
        have CR := Go.Lib.hid (rroom_c v4 (acc ++ [hk]) w4 ho4.r HLT.out (by have := HLN.out; simp; omega))
        have HB4 := Go.Lib.hid (HB3.out.grown hg4 HB3.out.size (fun j hj => HO2.out.row j hj))
        refine CR.out.mono ?_
        rintro e w5 ⟨rfl, rfl⟩
        clear CR ho4 hg4
        go_wp2_with fail
        go_ret
        exact ⟨by rw [HE.out]; rfl, HB4.out⟩

end Go.Proofs.Ytggokffdgjedgaa

namespace Go.Proofs.Ytggokffdgjedgaa
open Go.RowKit

/-- Two slices in blocks of their own. -/
def Apart (u v : Value) : Prop := ∀ g, u.ownBlock = some g → v.ownBlock ≠ some g
theorem Apart.nil (v : Value) : Apart (.slice none 0 0) v := fun g h => by cases h
theorem Apart.right (u : Value) : Apart u (.slice none 0 0) := fun g _ h => by cases h
/-- A row that was made behind the log. -/
theorem apart_new {w : World} {B p d : Nat} {v u : Value} {L : List RecT} (h : LG w B p d v L) (hu : ∀ g, u.ownBlock = some g → w.heap.size ≤ g) : Apart u v := fun g hg e => by
  have := hu g hg
  have := h.vlt g e
  omega
/-- Behind a put: the row that is kept is what it was, and still apart. -/
theorem kept_put {w w' : World} {B p d B' : Nat} {v v' u : Value} {L M : List RecT} (h : LG w B p d v L) (ho : Off3 p d v.ownBlock w w') (hn : v'.ownBlock = v.ownBlock ∨ ∀ k, v'.ownBlock = some k → w.heap.size ≤ k) (hu : OwnRec w B' u M) (ha : Apart u v) : OwnRec w' B' u M ∧ Apart u v' := by
  refine ⟨h.keptRow ho hu ha, fun g hg e => ?_⟩
  rcases hn with hn | hn
  · exact ha g hg (hn.symm.trans e)
  · have h1 := hn g e
    have h2 := (World.ownsRow.lt hu g hg).2
    omega
theorem putE_zero {L : List RecT} {x : RecT} (hm : mayT x = true) : putE L x = if roomR L x.1 then 0 else 5 := by unfold putE; simp [hm]
theorem putN_zero {L : List RecT} {x : RecT} (hm : mayT x = true) (hr : roomR L x.1 = true) : putN L x = putL L x := by unfold putN; simp [hm, hr]
theorem putN_same {L : List RecT} {x : RecT} (hr : (mayT x && roomR L x.1) = false) : putN L x = L := by unfold putN; simp [hr]
theorem mem_put {L : List RecT} (hL : KeysOk L) (x y : RecT) : y ∈ putL L x ↔ y = x ∨ (y ∈ L ∧ keyR y ≠ keyR x) := by
  rcases find_cases (L := L) (keyR x) with ⟨i, h, e⟩ | h
  · rw [putL_in hL h e]; exact mem_set_keys hL h e.symm y
  · rw [putL_new h, List.mem_append, List.mem_singleton]
    constructor
    · rintro (hy | hy)
      · exact .inr ⟨hy, h y hy⟩
      · exact .inl hy
    · rintro (hy | hy)
      · exact .inr hy
      · exact .inl hy.1
theorem len_put_in {L : List RecT} (hL : KeysOk L) {x : RecT} (h : ∃ y ∈ L, keyR y = keyR x) : (putL L x).length = L.length := by
  obtain ⟨y, hy, e⟩ := h
  obtain ⟨i, hi, rfl⟩ := List.getElem_of_mem hy
  rw [putL_in hL hi e, List.length_set]
theorem room_in {L : List RecT} {k : ByteArray} (h : ∃ y ∈ L, keyR y = k.toList) : roomR L k = true := by
  unfold roomR
  have : (findK keyR L k.toList).isSome = true := by
    cases hf : findK keyR L k.toList with
    | some _ => rfl
    | none => obtain ⟨y, hy, e⟩ := h; exact absurd e ((find_none _).1 hf y hy)
  rw [this]; rfl
theorem and15 (n : Int) : ∃ c : Nat, bits .and .i64 n 15 = (c : Int) ∧ c ≤ 15 := by
  refine ⟨(BitVec.ofInt 64 n &&& BitVec.ofInt 64 15).toNat, ?_, ?_⟩
  · show IntKind.i64.wrap ((BitVec.ofInt 64 n &&& BitVec.ofInt 64 15).toNat : Int) = _
    have h1 : (BitVec.ofInt 64 n &&& BitVec.ofInt 64 15).toNat ≤ 15 := by rw [BitVec.toNat_and]; exact Nat.and_le_right
    rw [IntKind.wrap_i64]
    omega
  · rw [BitVec.toNat_and]; exact Nat.and_le_right
/-- The law's keys of two letters. -/
def nmR (c k : Nat) : List UInt8 := [UInt8.ofNat (97 + (k * 7 + c) % 26), UInt8.ofNat (97 + k % 25)]
theorem nmR_size (c k : Nat) : (str (nmR c k)).size = 2 := str_size _
theorem may_num (k : ByteArray) (z : Int) (h1 : 1 ≤ k.size) (h2 : k.size ≤ 16) : mayT (k, false, 1, z, ⟨#[]⟩) = true := by unfold mayT mayRec mayK mayR; simp [h1, h2]
theorem may_gone (k : ByteArray) (h1 : 1 ≤ k.size) (h2 : k.size ≤ 16) : mayT (k, true, 0, 0, ⟨#[]⟩) = true := by unfold mayT mayRec mayK; simp [h1, h2]
theorem mayT_key {x : RecT} (h : mayT x = true) : 1 ≤ x.1.size ∧ x.1.size ≤ 16 := by
  unfold mayT mayRec mayK at h
  simp only [Bool.and_eq_true, decide_eq_true_eq] at h
  exact h.1

end Go.Proofs.Ytggokffdgjedgaa

namespace Go.Proofs.Ytggokffdgjedgaa

/-- No rune begins with it, none goes on by it. -/
def never (x : UInt8) : Prop := 248 ≤ x.toNat ∨ x.toNat = 192 ∨ x.toNat = 193

theorem dec_at (l : List UInt8) : (dr l, dw l) =
    (if (l.getD 0 0).toNat < 128 then ((l.getD 0 0).toNat, 1)
     else if ((l.getD 0 0).toNat / 32 == 6 && (decide (1 < l.length) && (l.getD 1 0).toNat / 64 == 2)) = true then
       if (l.getD 0 0).toNat % 32 * 64 + (l.getD 1 0).toNat % 64 ≥ 128 then ((l.getD 0 0).toNat % 32 * 64 + (l.getD 1 0).toNat % 64, 2) else (65533, 1)
     else if ((l.getD 0 0).toNat / 16 == 14 && (decide (1 < l.length) && (l.getD 1 0).toNat / 64 == 2) && (decide (2 < l.length) && (l.getD 2 0).toNat / 64 == 2)) = true then
       if ((l.getD 0 0).toNat % 16 * 4096 + (l.getD 1 0).toNat % 64 * 64 + (l.getD 2 0).toNat % 64 ≥ 2048 && Utf8.valid (((l.getD 0 0).toNat % 16 * 4096 + (l.getD 1 0).toNat % 64 * 64 + (l.getD 2 0).toNat % 64 : Nat) : Int)) = true then ((l.getD 0 0).toNat % 16 * 4096 + (l.getD 1 0).toNat % 64 * 64 + (l.getD 2 0).toNat % 64, 3) else (65533, 1)
     else if ((l.getD 0 0).toNat / 8 == 30 && (decide (1 < l.length) && (l.getD 1 0).toNat / 64 == 2) && (decide (2 < l.length) && (l.getD 2 0).toNat / 64 == 2) && (decide (3 < l.length) && (l.getD 3 0).toNat / 64 == 2)) = true then
       if ((l.getD 0 0).toNat % 8 * 262144 + (l.getD 1 0).toNat % 64 * 4096 + (l.getD 2 0).toNat % 64 * 64 + (l.getD 3 0).toNat % 64 ≥ 65536 && Utf8.valid (((l.getD 0 0).toNat % 8 * 262144 + (l.getD 1 0).toNat % 64 * 4096 + (l.getD 2 0).toNat % 64 * 64 + (l.getD 3 0).toNat % 64 : Nat) : Int)) = true then ((l.getD 0 0).toNat % 8 * 262144 + (l.getD 1 0).toNat % 64 * 4096 + (l.getD 2 0).toNat % 64 * 64 + (l.getD 3 0).toNat % 64, 4) else (65533, 1)
     else (65533, 1)) := by
  have hg : ∀ k, (str l).get! (0 + k) = l.getD k 0 := fun k => get_str l k
  have hs : ∀ k, (0 + k < (str l).size) = (k < l.length) := by intro k; rw [str_size, Nat.zero_add]
  unfold dr dw Utf8.decode
  simp only [hg, hs, Utf8.runeError]

theorem never_not {x : UInt8} (h : never x) : (x.toNat / 64 == 2) = false ∧ ¬ x.toNat < 128 ∧ (x.toNat / 16 == 14) = false ∧ (x.toNat / 8 == 30) = false := by
  rcases h with h | h | h
  · have hx := x.toNat_lt
    simp only [beq_eq_false_iff_ne]
    omega
  · rw [h]; decide
  · rw [h]; decide

theorem dec_never {x : UInt8} (h : never x) (v : List UInt8) : (dr (x :: v), dw (x :: v)) = (65533, 1) := by
  obtain ⟨h1, h2, h3, h4⟩ := never_not h
  rw [dec_at]
  simp only [List.getD_cons_zero, h2, h3, h4, Bool.false_and, if_false, Bool.false_eq_true]
  split
  · rename_i h5
    rcases h with h | h | h
    · exfalso
      have hx := x.toNat_lt
      simp only [Bool.and_eq_true, beq_iff_eq] at h5
      omega
    · rw [if_neg (by rw [h]; omega)]
    · rw [if_neg (by rw [h]; have : ((x :: v).getD 1 0).toNat % 64 < 64 := Nat.mod_lt _ (by omega); omega)]
  · rfl

/-- What is decoded ahead of such a byte does not hang on which it is, and does not take it. -/
theorem dec_ahead {x y : UInt8} (hx : never x) (hy : never y) : ∀ (u v : List UInt8), u ≠ [] → dr (u ++ x :: v) = dr (u ++ y :: v) ∧ dw (u ++ x :: v) = dw (u ++ y :: v) ∧ dw (u ++ x :: v) ≤ u.length := by
  intro u v hu
  obtain ⟨x1, x2, x3, x4⟩ := never_not hx
  obtain ⟨y1, y2, y3, y4⟩ := never_not hy
  have ex := dec_at (u ++ x :: v)
  have ey := dec_at (u ++ y :: v)
  match u, hu with
  | [a], _ =>
    simp only [List.cons_append, List.nil_append, List.getD_cons_zero, List.getD_cons_succ, x1, Bool.and_false, Bool.false_and, if_false, Bool.false_eq_true] at ex
    simp only [List.cons_append, List.nil_append, List.getD_cons_zero, List.getD_cons_succ, y1, Bool.and_false, Bool.false_and, if_false, Bool.false_eq_true] at ey
    simp only [List.cons_append, List.nil_append]
    split at ex <;> split at ey <;> simp_all
  | [a, b], _ =>
    simp only [List.cons_append, List.nil_append, List.getD_cons_zero, List.getD_cons_succ, x1, Bool.and_false, Bool.false_and, if_false, Bool.false_eq_true, List.length_cons] at ex
    simp only [List.cons_append, List.nil_append, List.getD_cons_zero, List.getD_cons_succ, y1, Bool.and_false, Bool.false_and, if_false, Bool.false_eq_true, List.length_cons] at ey
    simp only [List.cons_append, List.nil_append]
    have h := ex.trans ey.symm
    simp only [Prod.mk.injEq] at h
    refine ⟨h.1, h.2, ?_⟩
    split at ex
    · (simp only [Prod.mk.injEq] at ex; simp only [List.length_cons, List.length_nil]; omega)
    · split at ex
      · split at ex <;> (simp only [Prod.mk.injEq] at ex; simp only [List.length_cons, List.length_nil]; omega)
      · (simp only [Prod.mk.injEq] at ex; simp only [List.length_cons, List.length_nil]; omega)
  | [a, b, c], _ =>
    simp only [List.cons_append, List.nil_append, List.getD_cons_zero, List.getD_cons_succ, x1, Bool.and_false, if_false, Bool.false_eq_true, List.length_cons] at ex
    simp only [List.cons_append, List.nil_append, List.getD_cons_zero, List.getD_cons_succ, y1, Bool.and_false, if_false, Bool.false_eq_true, List.length_cons] at ey
    simp only [List.cons_append, List.nil_append]
    have h := ex.trans ey.symm
    simp only [Prod.mk.injEq] at h
    refine ⟨h.1, h.2, ?_⟩
    split at ex
    · (simp only [Prod.mk.injEq] at ex; simp only [List.length_cons, List.length_nil]; omega)
    · split at ex
      · split at ex <;> (simp only [Prod.mk.injEq] at ex; simp only [List.length_cons, List.length_nil]; omega)
      · split at ex
        · split at ex <;> (simp only [Prod.mk.injEq] at ex; simp only [List.length_cons, List.length_nil]; omega)
        · (simp only [Prod.mk.injEq] at ex; simp only [List.length_cons, List.length_nil]; omega)
  | a :: b :: c :: d :: u', _ =>
    simp only [List.cons_append, List.getD_cons_zero, List.getD_cons_succ, List.length_cons, List.length_append] at ex ey
    simp only [List.cons_append]
    have h := ex.trans ey.symm
    simp only [Prod.mk.injEq] at h
    refine ⟨h.1, h.2, ?_⟩
    have := (dw_le (a :: b :: c :: d :: (u' ++ x :: v)) (by simp)).2.1
    simp only [List.length_cons]
    omega

theorem runes_never {x y : UInt8} (hx : never x) (hy : never y) (v : List UInt8) : ∀ (n : Nat) (u : List UInt8), u.length ≤ n → runesOf (toks (u ++ x :: v)) = runesOf (toks (u ++ y :: v)) := by
  have base : runesOf (toks (x :: v)) = runesOf (toks (y :: v)) := by
    have e1 := dec_never hx v
    have e2 := dec_never hy v
    simp only [Prod.mk.injEq] at e1 e2
    rw [toks_cons (l := x :: v) (by simp), toks_cons (l := y :: v) (by simp), e1.1, e1.2, e2.1, e2.2]
    rfl
  intro n
  induction n with
  | zero =>
    intro u hu
    obtain rfl : u = [] := List.eq_nil_of_length_eq_zero (by omega)
    exact base
  | succ n ih =>
    intro u hu
    by_cases h0 : u = []
    · subst h0; exact base
    · obtain ⟨e1, e2, e3⟩ := dec_ahead hx hy u v h0
      have hne (z : UInt8) : u ++ z :: v ≠ [] := by simp
      have hw := (dw_le (u ++ x :: v) (hne x)).1
      rw [toks_cons (hne x), toks_cons (hne y), ← e1, ← e2, List.drop_append_of_le_length e3, List.drop_append_of_le_length e3]
      unfold runesOf at *
      rw [List.map_cons, List.map_cons, ih (u.drop (dw (u ++ x :: v))) (by rw [List.length_drop]; omega)]

end Go.Proofs.Ytggokffdgjedgaa

namespace Go.Proofs.Ytggokffdgjedgaa
open Go.RowKit

def nm2 (i : Nat) : List UInt8 := [UInt8.ofNat (248 + i % 8), UInt8.ofNat (248 + i / 8)]
theorem nm2_size (i : Nat) : (str (nm2 i)).size = 2 := str_size _
theorem nm2_inj : ∀ j k : Fin 12, nm2 j.val = nm2 k.val → j = k := by decide
/-- The i-th key. -/
def keyS2 (s : ByteArray) (i : Nat) : ByteArray := s ++ str (nm2 i)
theorem keyS2_size (s : ByteArray) (i : Nat) : (keyS2 s i).size = s.size + 2 := by unfold keyS2; rw [ByteArray.size_append, nm2_size]
theorem keyS2_bl (s : ByteArray) (i : Nat) : bl (keyS2 s i) = bl s ++ nm2 i := by
  unfold keyS2 bl str
  rw [ByteArray.data_append, Array.toList_append]
theorem keyS2_inj {s : ByteArray} {i j : Nat} (hi : i < 12) (hj : j < 12) (h : keyS2 s i = keyS2 s j) : i = j := by
  have h1 := congrArg bl h
  rw [keyS2_bl, keyS2_bl] at h1
  have h2 := List.append_cancel_left h1
  simpa using congrArg Fin.val (nm2_inj ⟨i, hi⟩ ⟨j, hj⟩ h2)
theorem never_hi (k : Nat) (h : k < 8) : never (UInt8.ofNat (248 + k)) := .inl (by rw [UInt8.toNat_ofNat']; omega)
theorem keyS2_hash (s : ByteArray) {i : Nat} (hi : i < 12) : hashS (keyS2 s i) = hashS (keyS2 s 0) := by
  unfold hashS
  rw [keyS2_bl, keyS2_bl]
  refine congrArg hashN ?_
  unfold nm2
  have e1 := runes_never (never_hi (i % 8) (by omega)) (never_hi 0 (by omega)) [UInt8.ofNat (248 + i / 8)] _ (bl s) (Nat.le_refl _)
  have e2 := runes_never (never_hi (i / 8) (by omega)) (never_hi 0 (by omega)) [] _ (bl s ++ [UInt8.ofNat (248 + 0)]) (Nat.le_refl _)
  rw [List.append_assoc, List.append_assoc] at e2
  exact e1.trans e2
theorem pair_room : ∀ b c : Fin 8, b ≠ c → 2 ^ b.val + 2 ^ c.val < 256 ∧ bitN (2 ^ b.val + 2 ^ c.val) b.val = 1 ∧ bitN (2 ^ b.val + 2 ^ c.val) c.val = 1 ∧ roomN (2 ^ b.val + 2 ^ c.val) = 8 := by decide +kernel
theorem room_nine (h : Nat) : roomB (List.replicate 9 h) = false := by
  obtain ⟨h1, h2, h3, h4⟩ := pair_room ⟨firstN h, first_lt h⟩ ⟨othN (firstN h) (tagN h), oth_lt (tagN h) (first_lt h)⟩ (fun e => oth_ne (tagN h) (first_lt h) (by simpa using congrArg Fin.val e.symm))
  simp only [] at h1 h2 h3 h4
  refine room_not h1 ?_
  rw [h4]
  have hin : inS (2 ^ firstN h + 2 ^ othN (firstN h) (tagN h)) h = true := by unfold inS; simp [h2, h3]
  unfold cntN
  rw [List.countP_eq_length.2 (fun x hx => by rw [List.eq_of_mem_replicate hx]; exact hin)]
  simp

/-- The log behind m puts. -/
def recS (s : ByteArray) (i : Nat) : RecT := (keyS2 s i, false, 1, (i : Int), ⟨#[]⟩)
def sL (s : ByteArray) (m : Nat) : List RecT := (List.range m).map (recS s)
theorem sL_len (s : ByteArray) (m : Nat) : (sL s m).length = m := by simp [sL]
theorem sL_succ (s : ByteArray) (m : Nat) : sL s (m + 1) = sL s m ++ [recS s m] := by simp [sL, List.range_succ]
theorem sL_keys (s : ByteArray) {m : Nat} (hm : m ≤ 12) : KeysOk (sL s m) := by
  unfold KeysOk sL
  rw [List.map_map]
  refine List.pairwise_map.2 ((List.nodup_range (n := m)).imp_of_mem ?_)
  intro i j hi hj hne e
  refine hne (keyS2_inj (s := s) (by have := List.mem_range.1 hi; omega) (by have := List.mem_range.1 hj; omega) ?_)
  exact keyR_eq.1 e
theorem sL_in (s : ByteArray) {m i : Nat} (hm : m ≤ 12) (hi : i < m) : findK keyR (sL s m) (keyS2 s i).toList = some (recS s i) :=
  (find_iff (sL_keys s hm) _ _).2 ⟨List.mem_map.2 ⟨i, List.mem_range.2 hi, rfl⟩, rfl⟩
theorem sL_out (s : ByteArray) {m i : Nat} (hm : m ≤ i) (hi : i < 12) : findK keyR (sL s m) (keyS2 s i).toList = none := by
  rw [find_none]
  intro x hx e
  obtain ⟨j, hj, rfl⟩ := List.mem_map.1 hx
  have hj := List.mem_range.1 hj
  have := keyS2_inj (s := s) (by omega) hi (keyR_eq.1 e)
  omega
theorem sL_hash (s : ByteArray) {m : Nat} (hm : m ≤ 12) : (sL s m).map hR = List.replicate m (hashS (keyS2 s 0)) := by
  refine List.eq_replicate_iff.2 ⟨by simp [sL_len], fun b hb => ?_⟩
  obtain ⟨x, hx, rfl⟩ := List.mem_map.1 hb
  obtain ⟨j, hj, rfl⟩ := List.mem_map.1 hx
  exact keyS2_hash s (by have := List.mem_range.1 hj; omega)
theorem sL_room (s : ByteArray) {m i : Nat} (hm : m ≤ i) (hi : i < 12) (h8 : m ≤ 8) : roomR (sL s m) (keyS2 s i) = decide (m < 8) := by
  unfold roomR
  rw [sL_out s hm hi, sL_hash s (by omega), keyS2_hash s hi]
  rw [show List.replicate m (hashS (keyS2 s 0)) ++ [hashS (keyS2 s 0)] = List.replicate (m + 1) (hashS (keyS2 s 0)) from List.replicate_succ'.symm]
  by_cases h : m < 8
  · rw [room_small (by simp; omega)]
    simp [h]
  · obtain rfl : m = 8 := by omega
    rw [room_nine]
    rfl
theorem sL_put (s : ByteArray) {m : Nat} (hm : m < 12) : putL (sL s m) (recS s m) = sL s (m + 1) := by
  rw [sL_succ, putL_new]
  exact (find_none _).1 (sL_out s (Nat.le_refl m) hm)
theorem sL_reads (s : ByteArray) {m i : Nat} (hm : m ≤ 12) (hi : i < 12) : readsR (sL s m) (keyS2 s i) = m := by
  unfold readsR
  rw [List.countP_eq_length.2 (fun x hx => ?_), sL_len]
  obtain ⟨j, hj, rfl⟩ := List.mem_map.1 hx
  have e : hR (recS s j) = hashS (keyS2 s 0) := keyS2_hash s (by have := List.mem_range.1 hj; omega)
  rw [e, keyS2_hash s hi]
  exact near_self _

end Go.Proofs.Ytggokffdgjedgaa

namespace Go.Proofs.Ytggokffdgjedgaa

def bv (b : Bool) : Nat := if b then 1 else 0
/-- The number that bits are. -/
def val (l : List Bool) : Nat := l.foldl (fun x b => 2 * x + bv b) 0
/-- Bit n of x, from the lowest. -/
def bit (x n : Nat) : Bool := x / 2 ^ n % 2 == 1
/-- The lowest n bits of x. -/
def numB (x : Nat) : Nat → List Bool
  | 0 => []
  | n + 1 => bit x n :: numB x n

theorem bv_lt (b : Bool) : bv b < 2 := by cases b <;> decide
theorem bv_bit (x n : Nat) : bv (bit x n) = x / 2 ^ n % 2 := by
  unfold bv bit
  rcases Nat.mod_two_eq_zero_or_one (x / 2 ^ n) with h | h <;> simp [h]
theorem val_snoc (l : List Bool) (b : Bool) : val (l ++ [b]) = 2 * val l + bv b := by simp [val]
theorem val_foldl (l : List Bool) : ∀ x, l.foldl (fun x b => 2 * x + bv b) x = x * 2 ^ l.length + val l := by
  induction l with
  | nil => intro x; simp [val]
  | cons b l ih =>
    intro x
    unfold val
    rw [List.foldl_cons, List.foldl_cons, ih, ih, List.length_cons, Nat.pow_succ, Nat.add_mul, Nat.mul_zero, Nat.zero_add, Nat.add_assoc]
    congr 1
    rw [Nat.mul_comm 2 x, Nat.mul_assoc, Nat.mul_comm 2]
theorem val_append (a b : List Bool) : val (a ++ b) = val a * 2 ^ b.length + val b := by
  unfold val
  rw [List.foldl_append, val_foldl]
  rfl
theorem val_cons (b : Bool) (l : List Bool) : val (b :: l) = bv b * 2 ^ l.length + val l := by
  have := val_append [b] l
  simpa [val] using this
theorem val_lt (l : List Bool) : val l < 2 ^ l.length := by
  induction l with
  | nil => decide
  | cons b l ih =>
    rw [val_cons, List.length_cons, Nat.pow_succ]
    have := bv_lt b
    have : bv b * 2 ^ l.length ≤ 1 * 2 ^ l.length := Nat.mul_le_mul_right _ (by omega)
    omega
theorem numB_length (x : Nat) : ∀ n, (numB x n).length = n
  | 0 => rfl
  | n + 1 => by rw [numB, List.length_cons, numB_length x n]
theorem val_numB (x : Nat) : ∀ n, val (numB x n) = x % 2 ^ n
  | 0 => by rw [Nat.pow_zero, Nat.mod_one]; rfl
  | n + 1 => by
    rw [numB, val_cons, numB_length, val_numB x n, bv_bit, Nat.pow_succ, Nat.mod_mul]
    rw [Nat.mul_comm, Nat.add_comm]
theorem bit_mod (x n k : Nat) (h : k < n) : bit (x % 2 ^ n) k = bit x k := by
  unfold bit
  have e : 2 ^ n = 2 ^ k * 2 ^ (n - k) := by rw [← Nat.pow_add]; congr 1; omega
  rw [e, Nat.mod_mul_right_div_self]
  have e2 : 2 ^ (n - k) = 2 * 2 ^ (n - k - 1) := by rw [← Nat.pow_succ']; congr 1; omega
  rw [e2, Nat.mod_mul_right_mod]
theorem numB_mod (x n : Nat) : ∀ k, k ≤ n → numB (x % 2 ^ n) k = numB x k
  | 0, _ => rfl
  | k + 1, h => by rw [numB, numB, bit_mod x n k (by omega), numB_mod x n k (by omega)]
theorem numB_val (l : List Bool) : numB (val l) l.length = l := by
  induction l with
  | nil => rfl
  | cons b l ih =>
    have h1 := val_lt l
    have h2 : val (b :: l) % 2 ^ l.length = val l := by
      rw [val_cons, Nat.add_comm, Nat.add_mul_mod_self_right, Nat.mod_eq_of_lt h1]
    have h3 : bit (val (b :: l)) l.length = b := by
      unfold bit
      rw [val_cons, Nat.add_comm, Nat.add_mul_div_right _ _ (Nat.pow_pos (by omega)), Nat.div_eq_of_lt h1, Nat.zero_add]
      cases b <;> rfl
    rw [List.length_cons, numB, h3, ← numB_mod _ l.length l.length (Nat.le_refl _), h2, ih]
theorem val_inj {a b : List Bool} (hl : a.length = b.length) (h : val a = val b) : a = b := by
  rw [← numB_val a, ← numB_val b, h, hl]
theorem numB_at (x : Nat) : ∀ n k (h : k < n), (numB x n)[k]'(by rw [numB_length]; exact h) = bit x (n - 1 - k)
  | n + 1, 0, _ => by simp [numB]
  | n + 1, k + 1, h => by
    have := numB_at x n k (by omega)
    simp only [numB, List.getElem_cons_succ, this]
    congr 1
    omega
/-- Bit k of a number of bits. -/
theorem bit_val (l : List Bool) (k : Nat) (h : k < l.length) : bit (val l) (l.length - 1 - k) = l[k] := by
  have := numB_at (val l) l.length k h
  rw [← this]
  exact List.getElem_of_eq (numB_val l) _

/-- Eight bits from one on, noughts behind. -/
def eight (l : List Bool) (k : Nat) : List Bool := (List.range 8).map fun j => l.getD (8 * k + j) false
/-- Eight bits a byte, the first one highest, the last byte filled with noughts. -/
def pack (l : List Bool) : List UInt8 := (List.range ((l.length + 7) / 8)).map fun k => UInt8.ofNat (val (eight l k))
/-- Bit i of bytes. -/
def bitAt (p : List UInt8) (i : Nat) : Bool := bit (p.getD (i / 8) 0).toNat (7 - i % 8)
/-- All bits of bytes. -/
def unpack (p : List UInt8) : List Bool := (List.range (8 * p.length)).map fun i => bitAt p i

theorem eight_length (l : List Bool) (k : Nat) : (eight l k).length = 8 := by simp [eight]
theorem eight_lt (l : List Bool) (k : Nat) : val (eight l k) < 256 := by
  have := val_lt (eight l k)
  rw [eight_length] at this
  exact this
theorem ofNat_val (n : Nat) (h : n < 256) : (UInt8.ofNat n).toNat = n := by simp; omega
theorem pack_length (l : List Bool) : (pack l).length = (l.length + 7) / 8 := by simp [pack]
theorem pack_at (l : List Bool) (k : Nat) (h : k < (l.length + 7) / 8) : (pack l).getD k 0 = UInt8.ofNat (val (eight l k)) := by
  simp [pack, List.getD_eq_getElem?_getD, h]
theorem bitAt_pack (l : List Bool) (i : Nat) : bitAt (pack l) i = l.getD i false := by
  unfold bitAt
  rcases Nat.lt_or_ge (i / 8) ((l.length + 7) / 8) with h | h
  · rw [pack_at l _ h, ofNat_val _ (eight_lt l _)]
    have h7 : 7 - i % 8 = (eight l (i / 8)).length - 1 - i % 8 := by rw [eight_length]
    rw [h7, bit_val (eight l (i / 8)) (i % 8) (by rw [eight_length]; omega)]
    simp only [eight, List.getElem_map, List.getElem_range]
    rw [show 8 * (i / 8) + i % 8 = i from by omega]
  · have h1 : (pack l).getD (i / 8) 0 = 0 := by
      rw [List.getD_eq_getElem?_getD, List.getElem?_eq_none (by rw [pack_length]; exact h)]
      rfl
    rw [h1, List.getD_eq_getElem?_getD, List.getElem?_eq_none (by omega)]
    show bit 0 _ = false
    simp [bit]
/-- A byte is its eight bits. -/
theorem byte_eq8 {a b : UInt8} (h : ∀ j, j < 8 → bit a.toNat j = bit b.toNat j) : a = b := by
  have ha : a.toNat < 2 ^ 8 := a.toNat_lt
  have hb : b.toNat < 2 ^ 8 := b.toNat_lt
  have e : ∀ n, n ≤ 8 → numB a.toNat n = numB b.toNat n := by
    intro n
    induction n with
    | zero => intro _; rfl
    | succ n ih => intro hn; rw [numB, numB, h n (by omega), ih (by omega)]
  have h8 := congrArg val (e 8 (Nat.le_refl _))
  rw [val_numB, val_numB, Nat.mod_eq_of_lt ha, Nat.mod_eq_of_lt hb] at h8
  exact UInt8.toNat_inj.1 h8
theorem bytes_ext {p q : List UInt8} (hl : p.length = q.length) (h : ∀ i, i < 8 * p.length → bitAt p i = bitAt q i) : p = q := by
  refine List.ext_getElem hl fun k h1 h2 => byte_eq8 fun j hj => ?_
  have := h (8 * k + (7 - j)) (by omega)
  unfold bitAt at this
  rw [show (8 * k + (7 - j)) / 8 = k from by omega, show 7 - (8 * k + (7 - j)) % 8 = j from by omega] at this
  simpa [List.getD_eq_getElem?_getD, h1, h2] using this
/-- Bytes are the bytes of their first n bits just if they are as many, and noughts stand behind. -/
theorem pack_first (p : List UInt8) (n : Nat) : pack ((unpack p).take n) = p ↔ (n ≥ 8 * p.length ∨ (8 * p.length < n + 8 ∧ ∀ i, n ≤ i → i < 8 * p.length → bitAt p i = false)) := by
  have hu : (unpack p).length = 8 * p.length := by simp [unpack]
  have hut : ∀ i, ((unpack p).take n).getD i false = if i < n ∧ i < 8 * p.length then bitAt p i else false := by
    intro i
    rw [List.getD_eq_getElem?_getD, List.getElem?_take]
    by_cases h1 : i < n
    · by_cases h2 : i < 8 * p.length
      · simp [h1, h2, unpack]
      · simp [h1, h2, unpack]
    · simp [h1]
  have hlen : ((unpack p).take n).length = min n (8 * p.length) := by rw [List.length_take, hu]
  constructor
  · intro h
    rcases Nat.lt_or_ge n (8 * p.length) with hlt | hge
    · refine .inr ⟨?_, fun i h1 h2 => ?_⟩
      · have := congrArg List.length h
        rw [pack_length, hlen, Nat.min_eq_left (by omega)] at this
        omega
      · have := bitAt_pack ((unpack p).take n) i
        rw [h, hut, if_neg (by omega)] at this
        exact this
    · exact .inl hge
  · intro h
    refine bytes_ext ?_ fun i hi => ?_
    · rw [pack_length, hlen]
      rcases h with h | ⟨h, -⟩ <;> omega
    · rw [bitAt_pack, hut]
      rw [pack_length, hlen] at hi
      split
      · rfl
      · rename_i hn
        rcases h with h | ⟨h1, h2⟩
        · unfold bitAt
          rw [List.getD_eq_getElem?_getD, List.getElem?_eq_none (by omega)]
          show false = bit 0 _
          simp [bit]
        · rcases Nat.lt_or_ge i (8 * p.length) with hlt | hge
          · exact (h2 i (by omega) hlt).symm
          · unfold bitAt
            rw [List.getD_eq_getElem?_getD, List.getElem?_eq_none (by omega)]
            show false = bit 0 _
            simp [bit]
/-- One bit more. -/
theorem pack_snoc_new (l : List Bool) (b : Bool) (h : l.length % 8 = 0) : pack (l ++ [b]) = pack l ++ [UInt8.ofNat (128 * bv b)] := by
  refine bytes_ext (by rw [List.length_append, pack_length, pack_length, List.length_append, List.length_singleton, List.length_singleton]; omega) fun i hi => ?_
  rw [pack_length, List.length_append, List.length_singleton] at hi
  rw [bitAt_pack]
  unfold bitAt
  rcases Nat.lt_or_ge (i / 8) (pack l).length with h1 | h1
  · have e1 : (pack l ++ [UInt8.ofNat (128 * bv b)]).getD (i / 8) 0 = (pack l).getD (i / 8) 0 := by
      rw [List.getD_eq_getElem?_getD, List.getD_eq_getElem?_getD, List.getElem?_append_left h1]
    rw [e1]
    have := bitAt_pack l i
    unfold bitAt at this
    rw [this]
    rw [pack_length] at h1
    rw [List.getD_eq_getElem?_getD, List.getD_eq_getElem?_getD, List.getElem?_append_left (by omega)]
  · rw [pack_length] at h1
    have e1 : (pack l ++ [UInt8.ofNat (128 * bv b)]).getD (i / 8) 0 = UInt8.ofNat (128 * bv b) := by
      rw [List.getD_eq_getElem?_getD, List.getElem?_append_right (by rw [pack_length]; exact h1), pack_length, show i / 8 - (l.length + 7) / 8 = 0 from by omega]
      rfl
    rw [e1, ofNat_val _ (by have := bv_lt b; omega)]
    by_cases h0 : i = l.length
    · subst h0
      rw [List.getD_eq_getElem?_getD, List.getElem?_append_right (Nat.le_refl _), Nat.sub_self, h]
      cases b <;> rfl
    · rw [List.getD_eq_getElem?_getD, List.getElem?_eq_none (by rw [List.length_append, List.length_singleton]; omega)]
      have hj : i % 8 = 1 ∨ i % 8 = 2 ∨ i % 8 = 3 ∨ i % 8 = 4 ∨ i % 8 = 5 ∨ i % 8 = 6 ∨ i % 8 = 7 := by omega
      rcases hj with hj | hj | hj | hj | hj | hj | hj <;> rw [hj] <;> cases b <;> rfl
theorem val_set (a : List Bool) (j : Nat) (h : j < a.length) (h0 : a[j] = false) (b : Bool) : val (a.set j b) = val a + bv b * 2 ^ (a.length - 1 - j) := by
  have e1 : a.set j b = a.take j ++ b :: a.drop (j + 1) := by rw [List.set_eq_take_append_cons_drop, if_pos h]
  have e2 : a = a.take j ++ false :: a.drop (j + 1) := by
    rw [← h0, ← List.drop_eq_getElem_cons h, List.take_append_drop]
  have e3 : val a = val (a.take j ++ false :: a.drop (j + 1)) := by rw [← e2]
  rw [e1, e3, val_append, val_append, val_cons, val_cons, List.length_drop, List.length_cons, List.length_cons, List.length_drop, show a.length - (j + 1) = a.length - 1 - j from by omega]
  show _ + (_ + _) = _ + (0 * _ + _) + _
  omega
theorem eight_at (l : List Bool) (k j : Nat) (h : j < 8) : (eight l k)[j]'(by rw [eight_length]; exact h) = l.getD (8 * k + j) false := by simp [eight]
theorem pack_snoc_set (l : List Bool) (b : Bool) (h : l.length % 8 ≠ 0) :
    pack (l ++ [b]) = (pack l).set (l.length / 8) (UInt8.ofNat (((pack l).getD (l.length / 8) 0).toNat + bv b * 2 ^ (7 - l.length % 8))) := by
  have hk : l.length / 8 < (l.length + 7) / 8 := by omega
  have h8 : eight (l ++ [b]) (l.length / 8) = (eight l (l.length / 8)).set (l.length % 8) b := by
    refine List.ext_getElem (by rw [List.length_set, eight_length, eight_length]) fun j h1 h2 => ?_
    rw [eight_length] at h1
    rw [eight_at _ _ _ h1, List.getElem_set, eight_at _ _ _ h1]
    split
    · rename_i he
      subst he
      rw [show 8 * (l.length / 8) + l.length % 8 = l.length from by omega, List.getD_eq_getElem?_getD, List.getElem?_append_right (Nat.le_refl _), Nat.sub_self]
      rfl
    · rename_i he
      rw [List.getD_eq_getElem?_getD, List.getD_eq_getElem?_getD]
      rcases Nat.lt_or_ge (8 * (l.length / 8) + j) l.length with hlt | hge
      · rw [List.getElem?_append_left hlt]
      · rw [List.getElem?_eq_none (by rw [List.length_append, List.length_singleton]; omega), List.getElem?_eq_none hge]
  have h0 : (eight l (l.length / 8))[l.length % 8]'(by rw [eight_length]; omega) = false := by
    rw [eight_at _ _ _ (by omega), show 8 * (l.length / 8) + l.length % 8 = l.length from by omega, List.getD_eq_getElem?_getD, List.getElem?_eq_none (Nat.le_refl _)]
    rfl
  have hv := val_set (eight l (l.length / 8)) (l.length % 8) (by rw [eight_length]; omega) h0 b
  rw [eight_length, ← h8, show 8 - 1 - l.length % 8 = 7 - l.length % 8 from rfl] at hv
  refine List.ext_getElem (by rw [List.length_set, pack_length, pack_length, List.length_append, List.length_singleton]; omega) fun i h1 h2 => ?_
  rw [pack_length, List.length_append, List.length_singleton] at h1
  have g : ∀ (m : List Bool) (hi : i < (pack m).length), (pack m)[i] = UInt8.ofNat (val (eight m i)) := by
    intro m hi
    simp [pack]
  rw [g, List.getElem_set]
  split
  · rename_i he
    subst he
    rw [hv, pack_at l _ hk, ofNat_val _ (eight_lt l _)]
  · rename_i he
    rw [g]
    congr 2
    refine List.ext_getElem (by rw [eight_length, eight_length]) fun j h3 h4 => ?_
    rw [eight_length] at h3
    rw [eight_at _ _ _ h3, eight_at _ _ _ h3, List.getD_eq_getElem?_getD, List.getD_eq_getElem?_getD, List.getElem?_append_left (by omega)]

end Go.Proofs.Ytggokffdgjedgaa

namespace Go.Proofs.Ytggokffdgjedgaa

theorem bit_test (x n : Nat) : bit x n = x.testBit n := by
  unfold bit
  rw [Nat.testBit_eq_decide_div_mod_eq]
  by_cases h : x / 2 ^ n % 2 = 1 <;> simp [h]
theorem numB_split (x b : Nat) : ∀ a, numB x (a + b) = numB (x / 2 ^ b) a ++ numB x b
  | 0 => by rw [Nat.zero_add]; rfl
  | a + 1 => by
    rw [show a + 1 + b = (a + b) + 1 from by omega, numB, numB, List.cons_append, ← numB_split x b a]
    congr 1
    unfold bit
    rw [Nat.div_div_eq_div_mul, ← Nat.pow_add, Nat.add_comm b a]
theorem numB_take (x n t : Nat) (h : t ≤ n) : (numB x n) = numB (x / 2 ^ (n - t)) t ++ numB x (n - t) := by
  have := numB_split x (n - t) t
  rwa [show t + (n - t) = n from by omega] at this
theorem val_drop (m : List Bool) (p : Nat) : val (m.drop p) = val m % 2 ^ (m.length - p) := by
  have h1 := val_append (m.take p) (m.drop p)
  rw [List.take_append_drop, List.length_drop] at h1
  have h2 := val_lt (m.drop p)
  rw [List.length_drop] at h2
  rw [h1, Nat.add_comm, Nat.add_mul_mod_self_right, Nat.mod_eq_of_lt h2]
theorem val_take (m : List Bool) (t : Nat) : val (m.take t) = val m / 2 ^ (m.length - t) := by
  have h1 := val_append (m.take t) (m.drop t)
  rw [List.take_append_drop, List.length_drop] at h1
  have h2 := val_lt (m.drop t)
  rw [List.length_drop] at h2
  rw [h1, Nat.add_comm, Nat.add_mul_div_right _ _ (Nat.pow_pos (by omega)), Nat.div_eq_of_lt h2, Nat.zero_add]
/-- A piece out of eight bits. -/
theorem val_piece (m : List Bool) (p t : Nat) (h8 : m.length = 8) (h : p + t ≤ 8) : val ((m.drop p).take t) = val m * 2 ^ p % 256 / 2 ^ (8 - t) := by
  rw [val_take, val_drop, List.length_drop, h8]
  have e : 256 = 2 ^ (8 - p) * 2 ^ p := by rw [← Nat.pow_add, show 8 - p + p = 8 from by omega]
  rw [e, Nat.mul_mod_mul_right, show 8 - t = p + (8 - p - t) from by omega, Nat.pow_add, ← Nat.div_div_eq_div_mul, Nat.mul_div_cancel _ (Nat.pow_pos (by omega))]
theorem pack_getElem (l : List Bool) (k : Nat) (h : k < (pack l).length) : (pack l)[k] = UInt8.ofNat (val (eight l k)) := by simp [pack]
/-- t bits from one on, all in one byte. -/
theorem pack_piece (l : List Bool) (at_ t : Nat) (h : at_ % 8 + t ≤ 8) (h2 : at_ + t ≤ l.length) (ht : 0 < t) (hk : at_ / 8 < (pack l).length) :
    (pack l)[at_ / 8].toNat * 2 ^ (at_ % 8) % 256 / 2 ^ (8 - t) = val ((l.drop at_).take t) := by
  rw [pack_getElem, ofNat_val _ (eight_lt l _), ← val_piece _ _ _ (eight_length l _) h]
  congr 1
  refine List.ext_getElem (by simp only [List.length_take, List.length_drop, eight_length]; omega) fun j h3 h4 => ?_
  simp only [List.length_take, List.length_drop, eight_length] at h3 h4
  rw [List.getElem_take, List.getElem_take, List.getElem_drop, List.getElem_drop, eight_at _ _ _ (by omega), List.getD_eq_getElem?_getD, List.getElem?_eq_getElem (by omega)]
  simp only [Option.getD_some]
  congr 1
  omega
theorem take_more (l : List Bool) (i j t : Nat) : ((l.drop i).take j) ++ ((l.drop (i + j)).take t) = (l.drop i).take (j + t) := by
  rw [List.take_add, List.drop_drop]
/-- Put behind what has been gathered. -/
theorem or_val (x p t : Nat) (h : p < 2 ^ t) : x * 2 ^ t ||| p = x * 2 ^ t + p := by
  have := Nat.shiftLeft_add_eq_or_of_lt h x
  rw [Nat.shiftLeft_eq] at this
  exact this.symm

/-- Bytes with room for one bit more. -/
def room (l : List Bool) : List UInt8 := if l.length % 8 = 0 then pack l ++ [0] else pack l
theorem room_length (l : List Bool) : (room l).length = l.length / 8 + 1 := by
  unfold room
  split
  · rw [List.length_append, pack_length, List.length_singleton]; omega
  · rw [pack_length]; omega
theorem bitAt_room (l : List Bool) (i : Nat) : bitAt (room l) i = l.getD i false := by
  unfold room
  split
  · rename_i h
    rw [← bitAt_pack]
    unfold bitAt
    rcases Nat.lt_or_ge (i / 8) (pack l).length with h1 | h1
    · rw [List.getD_eq_getElem?_getD, List.getD_eq_getElem?_getD, List.getElem?_append_left h1]
    · rw [List.getD_eq_getElem?_getD, List.getD_eq_getElem?_getD, List.getElem?_append_right h1, List.getElem?_eq_none h1]
      rcases Nat.eq_zero_or_pos (i / 8 - (pack l).length) with h2 | h2
      · rw [h2]; rfl
      · rw [List.getElem?_eq_none (by simp only [List.length_singleton]; omega)]
  · exact bitAt_pack l i
/-- The byte that a piece is put into. -/
def putByte (o c t u : Nat) : Nat := o ||| c * 2 ^ (8 - t) / 2 ^ u
theorem putByte_lt (o c t u : Nat) (ho : o < 256) (hc : c < 2 ^ t) (ht : t ≤ 8) : putByte o c t u < 256 := by
  unfold putByte
  have h1 : c * 2 ^ (8 - t) < 2 ^ 8 := by
    have : 2 ^ 8 = 2 ^ t * 2 ^ (8 - t) := by rw [← Nat.pow_add]; congr 1; omega
    rw [this]
    exact Nat.mul_lt_mul_of_pos_right hc (Nat.pow_pos (by omega))
  have h2 := Nat.div_le_self (c * 2 ^ (8 - t)) (2 ^ u)
  exact Nat.or_lt_two_pow (n := 8) (by omega) (by omega)
/-- A piece behind the last bit. -/
theorem pack_more (l c : List Bool) (h : l.length % 8 + c.length ≤ 8) (hc : 0 < c.length) :
    pack (l ++ c) = (room l).set (l.length / 8) (UInt8.ofNat (putByte ((room l).getD (l.length / 8) 0).toNat (val c) c.length (l.length % 8))) := by
  have hv := val_lt c
  refine bytes_ext (by rw [List.length_set, room_length, pack_length, List.length_append]; omega) fun i hi => ?_
  rw [pack_length, List.length_append] at hi
  rw [bitAt_pack]
  by_cases hk : i / 8 = l.length / 8
  · have e1 : ((room l).set (l.length / 8) (UInt8.ofNat (putByte ((room l).getD (l.length / 8) 0).toNat (val c) c.length (l.length % 8)))).getD (i / 8) 0 = UInt8.ofNat (putByte ((room l).getD (l.length / 8) 0).toNat (val c) c.length (l.length % 8)) := by
      rw [hk, List.getD_eq_getElem?_getD, List.getElem?_set_self (by rw [room_length]; omega), Option.getD_some]
    have e2 := bitAt_room l i
    unfold bitAt at e2 ⊢
    rw [e1, ofNat_val _ (putByte_lt _ _ _ _ (UInt8.toNat_lt _) hv (by omega))]
    unfold putByte
    rw [bit_test, Nat.testBit_or, ← hk, ← bit_test, e2, Nat.testBit_div_two_pow, Nat.testBit_mul_two_pow]
    rcases Nat.lt_or_ge i l.length with hlt | hge
    · rw [List.getD_eq_getElem?_getD, List.getD_eq_getElem?_getD, List.getElem?_append_left hlt]
      have hz : (decide (8 - c.length ≤ 7 - i % 8 + l.length % 8) && (val c).testBit (7 - i % 8 + l.length % 8 - (8 - c.length))) = false := by
        have : val c < 2 ^ (7 - i % 8 + l.length % 8 - (8 - c.length)) := Nat.lt_of_lt_of_le hv (Nat.pow_le_pow_right (by omega) (by omega))
        rw [Nat.testBit_lt_two_pow this, Bool.and_false]
      rw [hz, Bool.or_false]
    · rw [List.getD_eq_getElem?_getD, List.getD_eq_getElem?_getD, List.getElem?_eq_none hge, List.getElem?_append_right hge, Option.getD_none, Bool.false_or]
      rcases Nat.lt_or_ge (i - l.length) c.length with h1 | h1
      · have hb := bit_val c (i - l.length) h1
        rw [List.getElem?_eq_getElem h1, Option.getD_some, ← hb, bit_test, show 7 - i % 8 + l.length % 8 - (8 - c.length) = c.length - 1 - (i - l.length) from by omega, decide_eq_true (by omega), Bool.true_and]
      · rw [List.getElem?_eq_none h1, Option.getD_none]
        have : ¬ (8 - c.length ≤ 7 - i % 8 + l.length % 8) := by omega
        rw [decide_eq_false this, Bool.false_and]
  · have e1 : ((room l).set (l.length / 8) (UInt8.ofNat (putByte ((room l).getD (l.length / 8) 0).toNat (val c) c.length (l.length % 8)))).getD (i / 8) 0 = (room l).getD (i / 8) 0 := by
      rw [List.getD_eq_getElem?_getD, List.getElem?_set_ne (by omega), ← List.getD_eq_getElem?_getD]
    have e2 := bitAt_room l i
    unfold bitAt at e2 ⊢
    rw [e1, e2, List.getD_eq_getElem?_getD, List.getD_eq_getElem?_getD, List.getElem?_append_left (by omega)]

end Go.Proofs.Ytggokffdgjedgaa

namespace Go.Proofs.Ytggokffdgjedgaa
open Go.RowKit

def zb (l : List Bool) : List Value := l.map Value.bool
theorem zb_length (l : List Bool) : (zb l).length = l.length := by simp [zb]
theorem zb_append (l m : List Bool) : zb (l ++ m) = zb l ++ zb m := by simp [zb]
theorem zb_at (l : List Bool) (i : Nat) (h : i < l.length) : (zb l)[i]'(by rw [zb_length]; exact h) = .bool l[i] := by simp [zb]
theorem zb_one (l : List Bool) : ∀ u ∈ zb l, u.oneCell' = true := by
  intro u hu
  obtain ⟨n, -, rfl⟩ := List.mem_map.1 hu
  rfl
/-- A bool of it. -/
theorem RV.zbAt {w : World} {a : Option Addr} {len cap : Nat} {l : List Bool} (h : RV w (.slice a len cap) (zb l)) (k : Nat) (hk : k < l.length) : ∃ b o, a = some ⟨b, o, none⟩ ∧ w.cell? ⟨b, o + k, none⟩ = some (.bool l[k]) ∧ b < w.heap.size := by
  obtain ⟨b, o, h1, h2, h3⟩ := h.at k (by rw [zb_length]; exact hk)
  rw [zb_at l k hk] at h2
  exact ⟨b, o, h1, h2, h3⟩
theorem RV.zbForm {w : World} {v : Value} {l : List Bool} (h : RV w v (zb l)) : ∃ a cap, v = .slice a l.length cap ∧ l.length ≤ 9223372036854775807 ∧ (a = none → l.length = 0) := by
  obtain ⟨a, cap, hv, h1, h2, h3, -⟩ := h
  rw [zb_length] at hv h1
  refine ⟨a, cap, hv, by unfold maxLen at h2; omega, fun ha => by have := h3 ha; omega⟩

theorem RV.zbCap {w : World} {a : Option Addr} {len cap : Nat} {l : List Bool} (h : RV w (.slice a len cap) (zb l)) : l.length ≤ cap := by
  obtain ⟨a', cap', hv, h1, -⟩ := h
  simp only [Value.slice.injEq] at hv
  obtain ⟨rfl, rfl, rfl⟩ := hv
  rw [zb_length] at h1
  exact h1
theorem RV.zbTake {w : World} {a : Option Addr} {len cap : Nat} {l : List Bool} (h : RV w (.slice a len cap) (zb l)) (n : Nat) (hn : n ≤ l.length) : RV w (.slice a n cap) (zb (l.take n)) := by
  obtain ⟨a', cap', hv, h1, h2, h3, h4⟩ := h
  simp only [Value.slice.injEq] at hv
  obtain ⟨rfl, rfl, rfl⟩ := hv
  rw [zb_length] at h1
  have hlen : (zb (l.take n)).length = n := by rw [zb_length, List.length_take]; omega
  refine ⟨a, cap, by rw [hlen], by rw [hlen]; omega, h2, h3, fun hne => ?_⟩
  obtain ⟨b, o, ha, hc⟩ := h4 (by intro e; rw [← List.length_eq_zero_iff, zb_length] at e; apply hne; rw [← List.length_eq_zero_iff, hlen]; omega)
  refine ⟨b, o, ha, fun i hi => ?_⟩
  rw [hlen] at hi
  have := hc i (by rw [zb_length]; omega)
  rw [zb_at l i (by omega)] at this
  rw [this, zb_at _ i (by rw [List.length_take]; omega)]
  simp
/-- 'append(s, x...)', s the call's own, x whatever reads as m: bools. -/
theorem wpList_append_zb {P : Program} {ops : Array Oper} {rest : List Oper} {o : Oper} {a : Act} {w : World} {Q : Exit → Act → World → Prop} (hgd : o.guard = none) (s x : Operand) (t : TypeId)
    (ho : o.op = .call { callee := .builtin .append, args := #[s, x], argTypes := #[t, t] })
    (B : Nat) (e : TypeId) (ht : P.underlying t = some (.slice e)) (hinfo : (P.info? e).map (fun i => (i.zero, i.size, i.bytes)) = some (some (.bool false), 1, 1))
    (v xv : Value) (l m : List Bool) (hs : a.eval s = v) (hx : a.eval x = xv) (hown : OwnV e w B v (zb l)) (hrb : RV w xv (zb m))
    (hlen : l.length + m.length ≤ 140737488355328) (hbase : B ≤ w.heap.size)
    (h : ∀ v' w', OwnV e w' B v' (zb (l ++ m)) → w.grownBy w' v.ownBlock → wpList P ops Q rest (a.put o.dst v') w') : wpList P ops Q (o :: rest) a w := by
  refine wpList_append_RV hgd s x t ho B e ht (.bool false) 1 rfl hinfo v xv (zb l) (zb m) hs hx hown hrb (zb_one m) (by rw [zb_length, zb_length]; omega) (by rw [zb_length, zb_length]; omega) hbase fun v' w' h1 h2 => h v' w' ?_ h2
  rw [zb_append]
  exact h1
/-- 'make([]bool, n)'. -/
theorem wpList_make_zb {P : Program} {ops : Array Oper} {rest : List Oper} {o : Oper} {a : Act} {w : World} {Q : Exit → Act → World → Prop} (hgd : o.guard = none) (lo co : Operand) (t : TypeId)
    (hop : o.op = Op.makeSlice t lo co) (e : TypeId) (ht : P.underlying t = some (.slice e)) (hinfo : (P.info? e).map (fun i => (i.zero, i.size, i.bytes)) = some (some (.bool false), 1, 1))
    (kl kc : IntKind) (L : Int) (n : Nat) (hl : a.eval lo = .int kl L) (hc : a.eval co = .int kc L) (hL : L = (n : Int)) (hcm : n ≤ 140737488355328)
    (h : ∀ v w', OwnV e w' w.heap.size v (zb (List.replicate n false)) → Below w.heap.size w w' → wpList P ops Q rest (a.put o.dst v) w') : wpList P ops Q (o :: rest) a w := by
  obtain ⟨i, hi, hz, hsize, hby⟩ := info_parts hinfo
  subst hL
  have hr := run_make (P := P) w t e i (.bool false) ht hi hz kl kc n n (by omega) (by omega) (by rw [hby]; omega) (by omega)
  simp only [Int.toNat_natCast, hsize, Nat.mul_one] at hr
  refine wpList_gives hgd (.slice (some ⟨w.heap.size, 0, none⟩) n n) (w.alloc (.cells (madeCells (Value.bool false).cells n) e)) (by simp [execOp, hop, hl, hc, hr, Result.andThen]) (h _ _ ?_ (grown_below (World.grownBy_alloc w _ none) (Nat.le_refl _) (by simp)))
  refine ⟨by simp, .inr ⟨w.heap.size, n, madeCells #[Value.bool false] n, (by simp [zb]), Nat.le_refl _, ?_, by simp [zb], by unfold maxLen; omega, by simp [size_madeCells], ?_⟩⟩
  · exact heap_alloc_new w _
  · rw [toList_madeCells_one, List.take_replicate]
    simp [zb]
theorem grown_new {w w' : World} (hg : w.grownBy w' (Value.slice none 0 0).ownBlock) : Below w.heap.size w w' := grown_below hg (Nat.le_refl _) (by simp [Value.ownBlock])
/-- Bools that are written out, in a new block of their own. -/
theorem RV.zbLits (w : World) (e : TypeId) (l : List Bool) (arr : Array Value) (n : Nat) (h : arr = (zb l).toArray) (hn : n = l.length) (hm : l.length ≤ 1000) : RV (w.alloc (.cells arr e)) (.slice (some ⟨w.heap.size, 0, none⟩) n n) (zb l) := by
  subst h hn
  refine ⟨some ⟨w.heap.size, 0, none⟩, l.length, by rw [zb_length], by rw [zb_length]; exact Nat.le_refl _, by unfold maxLen; omega, (fun h => by cases h), fun _ => ⟨w.heap.size, 0, rfl, fun i hi => ?_⟩⟩
  rw [cell_of_row _ w.heap.size (0 + i) (zb l).toArray e (0, 0) (heap_alloc_new w _)]
  simp [hi]
theorem RV.zbOne (w : World) (e : TypeId) (t : Bool) : RV (w.alloc (.cells #[.bool t] e)) (.slice (some ⟨w.heap.size, 0, none⟩) 1 1) (zb [t]) := RV.one w e (.bool t)
theorem infoB : (Try.prog.info? 4).map (fun i => (i.zero, i.size, i.bytes)) = some (some (.bool false), 1, 1) := by kernel_rfl

end Go.Proofs.Ytggokffdgjedgaa

namespace Go.Proofs.Ytggokffdgjedgaa
open Go.RowKit

theorem open_zb {H : Type} {enc : TypeId × Value → H} {W : World} {t e : TypeId} {a : Option Addr} {len cap : Nat} {d : DataW H} {p : List MemPlace} (ht : Try.prog.underlying t = some (.slice e)) (he : Try.prog.underlying e = some .bool) (hc : Try.prog.cellsOf e = 1)
    (h : DataW.Trod enc Try.prog W 0 (fun _ => true) true t (.slice a len cap) d p) : ∃ l : List Bool, RV W (.slice a len cap) (zb l) := by
  obtain ⟨fuel, hf⟩ := h
  rcases Go.Deep.open_bools ht he hc hf with ⟨hcs, -⟩ | ⟨x, l, c, B, hcs, -, hl, hm, -, hcell⟩
  · simp [Value.cells] at hcs
    obtain ⟨rfl, rfl, rfl⟩ := hcs
    exact ⟨[], none, 0, rfl, Nat.le_refl _, by simp [maxLen], fun _ => rfl, fun h => absurd rfl h⟩
  · simp [Value.cells] at hcs
    obtain ⟨rfl, rfl, rfl⟩ := hcs
    refine ⟨(List.range len).map B, some x, cap, by simp [zb], by simpa [zb] using hl, hm, (fun h => by cases h), fun hne => ?_⟩
    have hpos : 0 < len := by
      rcases Nat.eq_zero_or_pos len with h0 | h0
      · subst h0; simp [zb] at hne
      · exact h0
    obtain ⟨b, o, spot⟩ := x
    have hspot : spot = none := by simpa [Addr.add] using World.cell?_spot (hcell 0 (by omega))
    subst hspot
    refine ⟨b, o, rfl, fun i hi => ?_⟩
    have hi' : i < len := by simpa [zb] using hi
    have h1 := hcell i (by omega)
    have hadd : (⟨b, o, none⟩ : Addr).add i = ⟨b, o + i, none⟩ := by unfold Addr.add; split <;> simp_all
    rw [hadd] at h1
    rw [h1]
    simp [zb]

end Go.Proofs.Ytggokffdgjedgaa
