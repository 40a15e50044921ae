/-
  Stage 18: the reference's Find, Room, Reads of a log's records.
  Stage 18: what the laws keep beside a log: rows of records of their own; a log and what it was told (the same records by rising keys).
  Stage 18 (and 19): the reference's tables of records: eight buckets of four slots, six cells each (does one lie there? the record's five).
-/
import Derived.Test.YtkddleonmkhaiaaGreatM12
import Derived.Test.YtkddleonmkhaiaaGreatM14
import Derived.Test.YtkddleonmkhaiaaGreatM11
import Derived.Test.YtkddleonmkhaiaaGreatM24
import Derived.Test.YtkddleonmkhaiaaGreatM21
import Derived.Test.YtkddleonmkhaiaaGreatM31
import Derived.LoopTactic
import Derived.Test.YtkddleonmkhaiaaGreatM29
import Derived.Test.YtkddleonmkhaiaaGreatM13
import Derived.Deep.MidRow
namespace Go.Proofs.YtkddleonmkhaiaaGreat
open Go.RowKit

theorem KU.one' (w : World) (z : Nat) : KU.R (w.alloc (.cells #[.int .u64 (z : Int)] 58)) (.slice (some ⟨w.heap.size, 0, none⟩) 1 1) [z] := Lay.R.one w KU_ok z 58 (0, 0)

set_option maxHeartbeats 1000000 in
set_option maxRecDepth 100000 in
theorem rroomR_c (v : Value) (l : List RecT) (key : ByteArray) (w : World) (hv : RS w v l) (hl : l.length ≤ 1000) (hs : ∀ x ∈ l, x.1.size ≤ 1000000) (hk : key.size ≤ 1000000) :
    Calls Tryz.prog 11 #[v, .string key] w fun e w' => e = .returned (.bool (roomR l key)) ∧ Below w.heap.size w w' := by
  obtain ⟨a, cap, rfl, hm⟩ := hv.form
  have CF := Go.Lib.hid (rfind_c (.slice a l.length cap) l key w hv)
  have HR := Go.Lib.hid hv
  have HS := Go.Lib.hid hs
  have CH := Go.Lib.hid fun W => rhash_k key (hashS key) rfl W hk
  have HKL := Go.Lib.hid (hashS_lt key)
  have HE := Go.Lib.hid (show roomR l key = ((findK keyR l key.toList).isSome || roomB (l.map hR ++ [hashS key])) from rfl)
  clear hv hs hk
  unfold outR recOf recV at CF
  generalize findK keyR l key.toList = o at *
  generalize hashS key = hk at *
  go_enter Tryz.func11, Tryz.ntmps11
  go_wp2_with fail
  refine CF.out.mono ?_
  rintro e w1 ⟨rfl, hb⟩
  generalize o.getD nullR = y at *
  obtain ⟨ky, gy, ay, ny, sy⟩ := y
  have hb2 := below_one w1 (.cells #[.string ky, .bool gy, .int .i64 ay, .int .i64 ny, .string sy] 33)
  have HB := Go.Lib.hid (hb.trans (hb2.mono hb.size))
  clear hb hb2 CF
  cases hob : o.isSome with
  | true =>
    rw [hob] at HE
    clear hob
    go_wp2_with fail
    go_ret
    exact ⟨by rw [HE.out]; simp, HB.out⟩
  | false =>
    rw [hob, Bool.false_or] at HE
    clear hob
    go_wp2_with fail
    generalize w1.alloc (.cells #[.string ky, .bool gy, .int .i64 ay, .int .i64 ny, .string sy] 33) = w2 at *
    go_loopw [7, 8] (fun hv ki wr => ∃ k : Nat, k ≤ l.length ∧ ki = .int .i64 (k : Int) ∧ Hid (KU.O wr w.heap.size hv ((l.take k).map hR)) ∧ Hid (Below w.heap.size w wr)) (fun _ ki _ => l.length - (intOf ki).toNat)
    case atStart => exact ⟨0, by omega, rfl, Go.Lib.hid (Lay.O.nil _ _), HB⟩
    case round =>
      obtain ⟨k, hk2, rfl, HO, HBW⟩ := hrel
      by_cases hlt : k < l.length
      · obtain ⟨b, o, rfl, -, -, c0, c1, c2, c3, c4⟩ := (HR.out.below HBW.out).at k hlt
        have hix := run_idx5 b o l.length cap k hlt
        have hsz := HS.out _ (List.getElem_mem hlt)
        have HSN := Go.Lib.hid (show (l.take k).map hR ++ [hashS l[k].1] = (l.take (k + 1)).map hR from by rw [List.take_succ_eq_append_getElem hlt, List.map_append]; rfl)
        have HLN := Go.Lib.hid (show ((l.take k).map hR).length ≤ 1000 from by rw [List.length_map, List.length_take]; omega)
        have CX := Go.Lib.hid fun W => rhash_k l[k].1 (hashS l[k].1) rfl W hsz
        generalize (l.take k).map hR = acc at *
        generalize hashS l[k].1 = hx at *
        generalize l[k].1 = kx at *
        clear c1 c2 c3 c4 hsz
        go_wp2_with fail
        refine (CX.out _).mono ?_
        rintro e w3 ⟨rfl, hc⟩
        have HBA := Go.Lib.hid (hc.trans ((below_one w3 (.cells #[.int .u64 (hx : Int)] 58)).mono hc.size))
        have HO2 := Go.Lib.hid (HO.out.below HBA.out)
        have HB3 := Go.Lib.hid (HBW.out.trans (HBA.out.mono HBW.out.size))
        have HON := Go.Lib.hid (KU.one' w3 hx)
        clear hc CX c0 hix HO
        go_wp2_with (first
          | (with_reducible show wpList _ _ _ (⟨some 30, _, _, _, _, _⟩ :: _) _ _; go_loud (refine KU_ok.append rfl (.tmp 22) (.tmp 29) rfl w.heap.size u7 (.slice (some ⟨w3.heap.size, 0, none⟩) 1 1) acc [hx] rfl rfl HO2.out HON.out (by have := HLN.out; simp; omega) (HB3.out.size) ?_); intro v4 w4 ho4 hg4)
          | fail)
        rw [HSN.out] at ho4
        exact ⟨⟨k + 1, by omega, by go_num, Go.Lib.hid ho4, Go.Lib.hid (HB3.out.grown hg4 HB3.out.size (fun j hj => HO2.out.row j hj))⟩, by simp only [intOf]; omega⟩
      · obtain rfl : k = l.length := by omega
        have HO1 : Hid (KU.O wr w.heap.size u7 (l.map hR)) := by have := HO.out; rwa [List.take_length] at this
        have HLN := Go.Lib.hid (show (l.map hR).length ≤ 1000 from by rw [List.length_map]; omega)
        have HLT := Go.Lib.hid (show ∀ h ∈ l.map hR ++ [hk], h < 18446744073709551616 from fun h hh => by
          rcases List.mem_append.1 hh with hh | hh
          · obtain ⟨x, -, rfl⟩ := List.mem_map.1 hh
            exact hashS_lt _
          · rw [List.mem_singleton.1 hh]; exact HKL.out)
        clear HO HKL
        generalize l.map hR = acc at *
        go_wp2_with fail
        refine (CH.out _).mono ?_
        rintro e w3 ⟨rfl, hc⟩
        have HBA := Go.Lib.hid (hc.trans ((below_one w3 (.cells #[.int .u64 (hk : Int)] 58)).mono hc.size))
        have HO2 := Go.Lib.hid (HO1.out.below HBA.out)
        have HB3 := Go.Lib.hid (HBW.out.trans (HBA.out.mono HBW.out.size))
        have HON := Go.Lib.hid (KU.one' w3 hk)
        clear hc CH HO1
        go_wp2_with (first
          | (with_reducible show wpList _ _ _ (⟨some 35, _, _, _, _, _⟩ :: _) _ _; go_loud (refine KU_ok.append rfl (.tmp 31) (.tmp 34) rfl w.heap.size u7 (.slice (some ⟨w3.heap.size, 0, none⟩) 1 1) acc [hk] rfl rfl HO2.out HON.out (by have := HLN.out; simp; omega) (HB3.out.size) ?_); intro v4 w4 ho4 hg4)
          | fail)
        have CR := Go.Lib.hid (rroom_c v4 (acc ++ [hk]) w4 ho4.r HLT.out (by have := HLN.out; simp; omega))
        have HB4 := Go.Lib.hid (HB3.out.grown hg4 HB3.out.size (fun j hj => HO2.out.row j hj))
        refine CR.out.mono ?_
        rintro e w5 ⟨rfl, rfl⟩
        clear CR ho4 hg4
        go_wp2_with fail
        go_ret
        exact ⟨by rw [HE.out]; rfl, HB4.out⟩

end Go.Proofs.YtkddleonmkhaiaaGreat

namespace Go.Proofs.YtkddleonmkhaiaaGreat
open Go.RowKit

/-- Two slices in blocks of their own. -/
def Apart (u v : Value) : Prop := ∀ g, u.ownBlock = some g → v.ownBlock ≠ some g
theorem Apart.nil (v : Value) : Apart (.slice none 0 0) v := fun g h => by cases h
theorem Apart.right (u : Value) : Apart u (.slice none 0 0) := fun g _ h => by cases h
/-- A row that was made behind the log. -/
theorem apart_new {w : World} {B p d : Nat} {v u : Value} {L : List RecT} (h : LG w B p d v L) (hu : ∀ g, u.ownBlock = some g → w.heap.size ≤ g) : Apart u v := fun g hg e => by
  have := hu g hg
  have := h.vlt g e
  omega
/-- Behind a put: the row that is kept is what it was, and still apart. -/
theorem kept_put {w w' : World} {B p d B' : Nat} {v v' u : Value} {L M : List RecT} (h : LG w B p d v L) (ho : Off3 p d v.ownBlock w w') (hn : v'.ownBlock = v.ownBlock ∨ ∀ k, v'.ownBlock = some k → w.heap.size ≤ k) (hu : OwnRec w B' u M) (ha : Apart u v) : OwnRec w' B' u M ∧ Apart u v' := by
  refine ⟨h.keptRow ho hu ha, fun g hg e => ?_⟩
  rcases hn with hn | hn
  · exact ha g hg (hn.symm.trans e)
  · have h1 := hn g e
    have h2 := (World.ownsRow.lt hu g hg).2
    omega
theorem putE_zero {L : List RecT} {x : RecT} (hm : mayT x = true) : putE L x = if roomR L x.1 then 0 else 5 := by unfold putE; simp [hm]
theorem putN_zero {L : List RecT} {x : RecT} (hm : mayT x = true) (hr : roomR L x.1 = true) : putN L x = putL L x := by unfold putN; simp [hm, hr]
theorem putN_same {L : List RecT} {x : RecT} (hr : (mayT x && roomR L x.1) = false) : putN L x = L := by unfold putN; simp [hr]
theorem mem_put {L : List RecT} (hL : KeysOk L) (x y : RecT) : y ∈ putL L x ↔ y = x ∨ (y ∈ L ∧ keyR y ≠ keyR x) := by
  rcases find_cases (L := L) (keyR x) with ⟨i, h, e⟩ | h
  · rw [putL_in hL h e]; exact mem_set_keys hL h e.symm y
  · rw [putL_new h, List.mem_append, List.mem_singleton]
    constructor
    · rintro (hy | hy)
      · exact .inr ⟨hy, h y hy⟩
      · exact .inl hy
    · rintro (hy | hy)
      · exact .inr hy
      · exact .inl hy.1
theorem len_put_in {L : List RecT} (hL : KeysOk L) {x : RecT} (h : ∃ y ∈ L, keyR y = keyR x) : (putL L x).length = L.length := by
  obtain ⟨y, hy, e⟩ := h
  obtain ⟨i, hi, rfl⟩ := List.getElem_of_mem hy
  rw [putL_in hL hi e, List.length_set]
theorem room_in {L : List RecT} {k : ByteArray} (h : ∃ y ∈ L, keyR y = k.toList) : roomR L k = true := by
  unfold roomR
  have : (findK keyR L k.toList).isSome = true := by
    cases hf : findK keyR L k.toList with
    | some _ => rfl
    | none => obtain ⟨y, hy, e⟩ := h; exact absurd e ((find_none _).1 hf y hy)
  rw [this]; rfl
theorem and15 (n : Int) : ∃ c : Nat, bits .and .i64 n 15 = (c : Int) ∧ c ≤ 15 := by
  refine ⟨(BitVec.ofInt 64 n &&& BitVec.ofInt 64 15).toNat, ?_, ?_⟩
  · show IntKind.i64.wrap ((BitVec.ofInt 64 n &&& BitVec.ofInt 64 15).toNat : Int) = _
    have h1 : (BitVec.ofInt 64 n &&& BitVec.ofInt 64 15).toNat ≤ 15 := by rw [BitVec.toNat_and]; exact Nat.and_le_right
    rw [IntKind.wrap_i64]
    omega
  · rw [BitVec.toNat_and]; exact Nat.and_le_right
/-- The law's keys of two letters. -/
def nmR (c k : Nat) : List UInt8 := [UInt8.ofNat (97 + (k * 7 + c) % 26), UInt8.ofNat (97 + k % 25)]
theorem nmR_size (c k : Nat) : (str (nmR c k)).size = 2 := str_size _
theorem may_num (k : ByteArray) (z : Int) (h1 : 1 ≤ k.size) (h2 : k.size ≤ 16) : mayT (k, false, 1, z, ⟨#[]⟩) = true := by unfold mayT mayRec mayK mayR; simp [h1, h2]
theorem may_gone (k : ByteArray) (h1 : 1 ≤ k.size) (h2 : k.size ≤ 16) : mayT (k, true, 0, 0, ⟨#[]⟩) = true := by unfold mayT mayRec mayK; simp [h1, h2]
theorem mayT_key {x : RecT} (h : mayT x = true) : 1 ≤ x.1.size ∧ x.1.size ≤ 16 := by
  unfold mayT mayRec mayK at h
  simp only [Bool.and_eq_true, decide_eq_true_eq] at h
  exact h.1

end Go.Proofs.YtkddleonmkhaiaaGreat

namespace Go.Proofs.YtkddleonmkhaiaaGreat
open Go.RowKit

/-- A table: of each slot whether a record lies there, and which. -/
abbrev TabT := Nat → Bool × RecT
def enc6 (y : Bool × RecT) : List Value := .bool y.1 :: rc5 y.2
theorem enc6_len (y : Bool × RecT) : (enc6 y).length = 6 := rfl
theorem enc6_one (y : Bool × RecT) : ∀ v ∈ enc6 y, v.oneCell' = true := by
  intro v hv
  simp only [enc6, rc5, List.mem_cons, List.not_mem_nil, or_false] at hv
  rcases hv with rfl | rfl | rfl | rfl | rfl | rfl <;> rfl
def tabL (TT : TabT) (n : Nat) : List Value := (List.range n).flatMap fun q => enc6 (TT q)
theorem tabL_succ (TT : TabT) (n : Nat) : tabL TT (n + 1) = tabL TT n ++ enc6 (TT n) := by
  unfold tabL
  rw [List.range_succ, List.flatMap_append]
  simp
theorem tabL_len (TT : TabT) : ∀ n, (tabL TT n).length = 6 * n
  | 0 => rfl
  | n + 1 => by rw [tabL_succ, List.length_append, tabL_len TT n, enc6_len]; omega
theorem tabL_at (TT : TabT) : ∀ (n q j : Nat), q < n → j < 6 → (tabL TT n)[6 * q + j]? = (enc6 (TT q))[j]?
  | 0, q, j, h, _ => absurd h (by omega)
  | n + 1, q, j, h, hj => by
    rw [tabL_succ]
    by_cases hq : q < n
    · rw [List.getElem?_append_left (by rw [tabL_len]; omega)]
      exact tabL_at TT n q j hq hj
    · obtain rfl : q = n := by omega
      rw [List.getElem?_append_right (by rw [tabL_len]; omega), tabL_len, show 6 * q + j - 6 * q = j by omega]

/-- Block g is a table. -/
structure TK (w : World) (g : Nat) (TT : TabT) : Prop where
  row : ∃ cs fr, w.heap[g]? = some (.cells cs 71 fr)
  fr : ∀ o, w.frozen? ⟨g, o, none⟩ = false
  cell : ∀ q j, q < 32 → j < 6 → w.cell? ⟨g, 6 * q + j, none⟩ = (enc6 (TT q))[j]?
section
variable {w w' : World} {g : Nat} {TT : TabT}
theorem TK.same (h : TK w g TT) (hb : w'.heap[g]? = w.heap[g]?) : TK w' g TT := by
  obtain ⟨cs, fr, hr⟩ := h.row
  refine ⟨⟨cs, fr, hb.trans hr⟩, fun o => ?_, fun q j hq hj => (World.cell?_of_block (w := w) (a := ⟨g, 6 * q + j, none⟩) hb).trans (h.cell q j hq hj)⟩
  have e := h.fr o
  unfold World.frozen? at e ⊢
  simp only [] at e ⊢
  rw [hb]
  exact e
theorem TK.lt (h : TK w g TT) : g < w.heap.size := by obtain ⟨cs, fr, hr⟩ := h.row; exact (Array.getElem?_eq_some_iff.1 hr).1
theorem TK.below (h : TK w g TT) (hb : Below w.heap.size w w') : TK w' g TT := h.same (hb.block g h.lt)
theorem TK.at (h : TK w g TT) {b s : Nat} (hb : b < 8) (hs : s < 4) : w.cell? ⟨g, 24 * b + 6 * s, none⟩ = some (.bool (TT (4 * b + s)).1) ∧ w.cell? ⟨g, 24 * b + 6 * s + 1, none⟩ = some (.string (TT (4 * b + s)).2.1) ∧ w.cell? ⟨g, 24 * b + 6 * s + 2, none⟩ = some (.bool (TT (4 * b + s)).2.2.1) ∧ w.cell? ⟨g, 24 * b + 6 * s + 3, none⟩ = some (.int .i64 (TT (4 * b + s)).2.2.2.1) ∧ w.cell? ⟨g, 24 * b + 6 * s + 4, none⟩ = some (.int .i64 (TT (4 * b + s)).2.2.2.2.1) ∧ w.cell? ⟨g, 24 * b + 6 * s + 5, none⟩ = some (.string (TT (4 * b + s)).2.2.2.2.2) := by
  have c := fun j hj => h.cell (4 * b + s) j (by omega) hj
  rw [show 6 * (4 * b + s) = 24 * b + 6 * s by omega] at c
  exact ⟨c 0 (by omega), c 1 (by omega), c 2 (by omega), c 3 (by omega), c 4 (by omega), c 5 (by omega)⟩
theorem TK.range (h : TK w g TT) : w.rangeAt g 0 (tabL TT 32) := by
  intro k v hv
  have hk : k < (tabL TT 32).length := (List.getElem?_eq_some_iff.1 hv).1
  rw [tabL_len] at hk
  have e := tabL_at TT 32 (k / 6) (k % 6) (by omega) (by omega)
  rw [show 6 * (k / 6) + k % 6 = k by omega, hv] at e
  have c := h.cell (k / 6) (k % 6) (by omega) (by omega)
  rw [show 6 * (k / 6) + k % 6 = k by omega] at c
  rw [Nat.zero_add, c]
  exact e.symm
theorem TK.new (w : World) (TT : TabT) : TK (w.alloc (.cells (tabL TT 32).toArray 71)) w.heap.size TT := by
  have hh := heap_alloc_new w (.cells (tabL TT 32).toArray 71)
  refine ⟨⟨_, _, hh⟩, fun o => frozen_of_row _ _ _ _ _ hh, fun q j hq hj => ?_⟩
  rw [cell_of_row _ _ _ _ _ _ hh, List.getElem?_toArray]
  exact tabL_at TT 32 q j hq hj
theorem TK.there (h : TK w g TT) {q : Nat} (hq : q < 32) : w.there g (6 * q) 6 := fun j hj => by
  refine ⟨?_, h.fr _⟩
  rw [h.cell q j hq hj, List.getElem?_eq_getElem (show j < (enc6 (TT q)).length from hj)]
  rfl
def setT (TT : TabT) (q : Nat) (y : Bool × RecT) : TabT := fun k => if k = q then y else TT k
theorem setCells_size : ∀ (vs : List Value) (w : World) (b o : Nat), (w.setCells b o vs).heap.size = w.heap.size
  | [], w, b, o => rfl
  | v :: r, w, b, o => by rw [World.setCells, setCells_size r]; simp [World.setCell]
theorem setCells_type : ∀ (vs : List Value) (w : World) (b o : Nat) {t : TypeId}, (∃ cs fr, w.heap[b]? = some (.cells cs t fr)) → ∃ cs fr, (w.setCells b o vs).heap[b]? = some (.cells cs t fr)
  | [], w, b, o, _, h => h
  | v :: r, w, b, o, t, h => by
    rw [World.setCells]
    refine setCells_type r _ _ _ ?_
    obtain ⟨cs, fr, h⟩ := h
    unfold World.setCell
    rw [Array.getElem?_modify, if_pos rfl, h]
    exact ⟨_, _, rfl⟩
/-- A slot is stored. -/
theorem TK.set (h : TK w g TT) {q : Nat} (hq : q < 32) (y : Bool × RecT) : TK (w.setCells g (6 * q) (enc6 y)) g (setT TT q y) := by
  refine ⟨setCells_type _ _ _ _ h.row, fun o => by rw [World.frozen?_setCells]; exact h.fr o, fun k j hk hj => ?_⟩
  unfold setT
  by_cases e : k = q
  · subst e
    rw [if_pos rfl]
    have := World.cell?_setCells_in g (enc6 y) (6 * k) w (fun i hi => by
      rw [h.cell k i hk hi, List.getElem?_eq_getElem (show i < (enc6 (TT k)).length from hi)]
      rfl) j hj
    rw [this]
    exact (List.getElem?_eq_getElem hj).symm
  · rw [if_neg e]
    rw [World.cell?_setCells_out g (enc6 y) (6 * q) w ⟨g, 6 * k + j, none⟩ (fun _ hh => ?_)]
    · exact h.cell k j hk hj
    · simp only [enc6_len] at hh ⊢
      omega
end
theorem idxT (g b : Nat) (hb : b < 8) (W : World) : (Instr.indexAt 71 (.pointer (some ⟨g, 0, none⟩)) (.int .i64 (b : Int))).run Tryz.prog W = .ok (.pointer (some ⟨g, 24 * b, none⟩)) W := by
  have hu : Tryz.prog.underlying 71 = some (.array 8 69) := by kernel_rfl
  have hs : (Tryz.prog.info? 69).map (fun i => i.size) = some 24 := by kernel_rfl
  have h8 : ¬ 8 ≤ b := by omega
  have h8' : (b : Int) < 8 := by omega
  cases hi : Tryz.prog.info? 69 with
  | none => rw [hi] at hs; cases hs
  | some i =>
    rw [hi] at hs
    have hs' : i.size = 24 := by simpa using hs
    simp [Instr.indexAt, run_underlying hu, Instr.sureAddr, asIntOf, h8, sizeOf, typeInfo, hi, hs', Result.andThen, Addr.add_mid, Nat.mul_comm]
theorem idxT2 (g o s : Nat) (hs4 : s < 4) (W : World) : (Instr.indexAt 69 (.pointer (some ⟨g, o, none⟩)) (.int .i64 (s : Int))).run Tryz.prog W = .ok (.pointer (some ⟨g, o + 6 * s, none⟩)) W := by
  have hu : Tryz.prog.underlying 69 = some (.array 4 68) := by kernel_rfl
  have hs : (Tryz.prog.info? 68).map (fun i => i.size) = some 6 := by kernel_rfl
  have h8 : ¬ 4 ≤ s := by omega
  have h8' : (s : Int) < 4 := by omega
  cases hi : Tryz.prog.info? 68 with
  | none => rw [hi] at hs; cases hs
  | some i =>
    rw [hi] at hs
    have hs' : i.size = 6 := by simpa using hs
    simp [Instr.indexAt, run_underlying hu, Instr.sureAddr, asIntOf, h8, sizeOf, typeInfo, hi, hs', Result.andThen, Addr.add_mid, Nat.mul_comm]
theorem infoT : (Tryz.prog.info? 71).map (fun i => (i.zero, i.size)) = some (some (.agg (tabL (fun _ => (false, nullR)) 32).toArray), 192) := by kernel_rfl
theorem zero_tab (W : World) : (zeroValue 71).run Tryz.prog W = .ok (.agg (tabL (fun _ => (false, nullR)) 32).toArray) W := by
  have h := infoT
  cases hi : Tryz.prog.info? 71 with
  | none => rw [hi] at h; cases h
  | some i =>
    rw [hi] at h
    simp only [Option.map_some, Option.some.injEq, Prod.mk.injEq] at h
    simp [zeroValue, typeInfo, hi, h.1]
theorem sizeTab (TT : TabT) : (Tryz.prog.info? 71).map (·.size) = some (tabL TT 32).length := by
  rw [tabL_len]
  kernel_rfl

/-! ### Which table may be; its records. -/
def hasT (TT : TabT) (q : Nat) : Option RecT := if (TT q).1 then some (TT q).2 else none
def keysT (TT : TabT) (n : Nat) : List ByteArray := ((List.range n).filterMap (hasT TT)).map Prod.fst
def okSlot (TT : TabT) (q : Nat) : Bool :=
  if (TT q).1 then mayT (TT q).2 && (q / 4 == firstN (hR (TT q).2) || q / 4 == othN (firstN (hR (TT q).2)) (tagN (hR (TT q).2))) && !(keysT TT q).any fun k => decide (k = (TT q).2.1)
  else decide ((TT q).2 = nullR)
def okTo (TT : TabT) (n : Nat) : Bool := (List.range n).all (okSlot TT)
theorem okTo_succ (TT : TabT) (n : Nat) : okTo TT (n + 1) = (okTo TT n && okSlot TT n) := by unfold okTo; rw [List.range_succ, List.all_append]; simp
theorem okTo_bad {TT : TabT} {q n : Nat} (h : okSlot TT q = false) (hq : q < n) : okTo TT n = false := by
  unfold okTo
  rw [List.all_eq_false]
  exact ⟨q, List.mem_range.2 hq, by simp [h]⟩
theorem keysT_succ (TT : TabT) (n : Nat) : keysT TT (n + 1) = keysT TT n ++ (if (TT n).1 then [(TT n).2.1] else []) := by
  unfold keysT hasT
  rw [List.range_succ, List.filterMap_append, List.map_append]
  cases h : (TT n).1 <;> simp [h]
theorem keysT_len (TT : TabT) : ∀ n, (keysT TT n).length ≤ n
  | 0 => by simp [keysT]
  | n + 1 => by
    have := keysT_len TT n
    rw [keysT_succ, List.length_append]
    split <;> simp <;> omega
def recsT (TT : TabT) (n : Nat) : List RecT := (List.range n).filterMap (hasT TT)
theorem recsT_succ (TT : TabT) (n : Nat) : recsT TT (n + 1) = recsT TT n ++ (if (TT n).1 then [(TT n).2] else []) := by
  unfold recsT hasT
  rw [List.range_succ, List.filterMap_append]
  cases h : (TT n).1 <;> simp [h]
theorem recsT_len (TT : TabT) : ∀ n, (recsT TT n).length ≤ n
  | 0 => by simp [recsT]
  | n + 1 => by
    have := recsT_len TT n
    rw [recsT_succ, List.length_append]
    split <;> simp <;> omega

end Go.Proofs.YtkddleonmkhaiaaGreat
