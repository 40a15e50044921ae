/-
  Stage 18: the reference's Find, Room, Reads of a log's records.
  Stage 18: what the laws keep beside a log: rows of records of their own; a log and what it was told (the same records by rising keys).
  Stage 18 (and 19): the reference's tables of records: eight buckets of four slots, six cells each (does one lie there? the record's five).
  Stage 18 (and 19): the reference's MayTable, Records.
  Stage 18 (and 19): the reference's Records of a table.
  Stage 18: the table of a log's slots.
  Slices of records: contract of the reference's EqRecs.
  A region whose order is open, but whose operations that change memory wait for one another, one by one (a chain: calls, appends, stores): all others only read, and what they yield is known ahead. The chain's values are a list; the condition C speaks of the values that there are so far.
-/
import Derived.Test.YtggokffdgjedgaaGreatM05
import Derived.Test.YtggokffdgjedgaaGreatM04
import Derived.Test.YtggokffdgjedgaaGreatM08
import Derived.Test.YtggokffdgjedgaaGreatM07
import Derived.Test.YtggokffdgjedgaaGreatM10
import Derived.LoopTactic
import Derived.Deep.MidRow
import Derived.BigQuiet
import Derived.Deep.DeepCutAuto
import Derived.Test.YtggokffdgjedgaaGreatM03
import Derived.Test.YtggokffdgjedgaaGreatM06
namespace Go.Proofs.YtggokffdgjedgaaGreat
open Go.RowKit

theorem KU.one' (w : World) (z : Nat) : KU.R (w.alloc (.cells #[.int .u64 (z : Int)] 58)) (.slice (some ⟨w.heap.size, 0, none⟩) 1 1) [z] := Lay.R.one w KU_ok z 58 (0, 0)

set_option maxHeartbeats 1000000 in
set_option maxRecDepth 100000 in
theorem rroomR_c (v : Value) (l : List RecT) (key : ByteArray) (w : World) (hv : RS w v l) (hl : l.length ≤ 1000) (hs : ∀ x ∈ l, x.1.size ≤ 1000000) (hk : key.size ≤ 1000000) :
    Calls Tryz.prog 11 #[v, .string key] w fun e w' => e = .returned (.bool (roomR l key)) ∧ Below w.heap.size w w' := by
  obtain ⟨a, cap, rfl, hm⟩ := hv.form
  have CF := Go.Lib.hid (rfind_c (.slice a l.length cap) l key w hv)
  have HR := Go.Lib.hid hv
  have HS := Go.Lib.hid hs
  have CH := Go.Lib.hid fun W => rhash_k key (hashS key) rfl W hk
  have HKL := Go.Lib.hid (hashS_lt key)
  have HE := Go.Lib.hid (show roomR l key = ((findK keyR l key.toList).isSome || roomB (l.map hR ++ [hashS key])) from rfl)
  clear hv hs hk
  unfold outR recOf recV at CF
  generalize findK keyR l key.toList = o at *
  generalize hashS key = hk at *
  go_enter Tryz.func11, Tryz.ntmps11
  go_wp2_with fail
  refine CF.out.mono ?_
  rintro e w1 ⟨rfl, hb⟩
  generalize o.getD nullR = y at *
  obtain ⟨ky, gy, ay, ny, sy⟩ := y
  have hb2 := below_one w1 (.cells #[.string ky, .bool gy, .int .i64 ay, .int .i64 ny, .string sy] 33)
  have HB := Go.Lib.hid (hb.trans (hb2.mono hb.size))
  clear hb hb2 CF
  cases hob : o.isSome with
  | true =>
    rw [hob] at HE
    clear hob
    go_wp2_with fail
    go_ret
    exact ⟨by rw [HE.out]; simp, HB.out⟩
  | false =>
    rw [hob, Bool.false_or] at HE
    clear hob
    go_wp2_with fail
    generalize w1.alloc (.cells #[.string ky, .bool gy, .int .i64 ay, .int .i64 ny, .string sy] 33) = w2 at *
    go_loopw [7, 8] (fun hv ki wr => ∃ k : Nat, k ≤ l.length ∧ ki = .int .i64 (k : Int) ∧ Hid (KU.O wr w.heap.size hv ((l.take k).map hR)) ∧ Hid (Below w.heap.size w wr)) (fun _ ki _ => l.length - (intOf ki).toNat)
    case atStart => exact ⟨0, by omega, rfl, Go.Lib.hid (Lay.O.nil _ _), HB⟩
    case round =>
      obtain ⟨k, hk2, rfl, HO, HBW⟩ := hrel
      by_cases hlt : k < l.length
      · obtain ⟨b, o, rfl, -, -, c0, c1, c2, c3, c4⟩ := (HR.out.below HBW.out).at k hlt
        have hix := run_idx5 b o l.length cap k hlt
        have hsz := HS.out _ (List.getElem_mem hlt)
        have HSN := Go.Lib.hid (show (l.take k).map hR ++ [hashS l[k].1] = (l.take (k + 1)).map hR from by rw [List.take_succ_eq_append_getElem hlt, List.map_append]; rfl)
        have HLN := Go.Lib.hid (show ((l.take k).map hR).length ≤ 1000 from by rw [List.length_map, List.length_take]; omega)
        have CX := Go.Lib.hid fun W => rhash_k l[k].1 (hashS l[k].1) rfl W hsz
        generalize (l.take k).map hR = acc at *
        generalize hashS l[k].1 = hx at *
        generalize l[k].1 = kx at *
        clear c1 c2 c3 c4 hsz
        go_wp2_with fail
        refine (CX.out _).mono ?_
        rintro e w3 ⟨rfl, hc⟩
        have HBA := Go.Lib.hid (hc.trans ((below_one w3 (.cells #[.int .u64 (hx : Int)] 58)).mono hc.size))
        have HO2 := Go.Lib.hid (HO.out.below HBA.out)
        have HB3 := Go.Lib.hid (HBW.out.trans (HBA.out.mono HBW.out.size))
        have HON := Go.Lib.hid (KU.one' w3 hx)
        clear hc CX c0 hix HO
        go_wp2_with (first
          | (with_reducible show wpList _ _ _ (⟨some 30, _, _, _, _, _⟩ :: _) _ _; go_loud (refine KU_ok.append rfl (.tmp 22) (.tmp 29) rfl w.heap.size u7 (.slice (some ⟨w3.heap.size, 0, none⟩) 1 1) acc [hx] rfl rfl HO2.out HON.out (by have := HLN.out; simp; omega) (HB3.out.size) ?_); intro v4 w4 ho4 hg4)
          | fail)
        rw [HSN.out] at ho4
        exact ⟨⟨k + 1, by omega, by go_num, Go.Lib.hid ho4, Go.Lib.hid (HB3.out.grown hg4 HB3.out.size (fun j hj => HO2.out.row j hj))⟩, by simp only [intOf]; omega⟩
      · obtain rfl : k = l.length := by omega
        have HO1 : Hid (KU.O wr w.heap.size u7 (l.map hR)) := by have := HO.out; rwa [List.take_length] at this
        have HLN := Go.Lib.hid (show (l.map hR).length ≤ 1000 from by rw [List.length_map]; omega)
        have HLT := Go.Lib.hid (show ∀ h ∈ l.map hR ++ [hk], h < 18446744073709551616 from fun h hh => by
          rcases List.mem_append.1 hh with hh | hh
          · obtain ⟨x, -, rfl⟩ := List.mem_map.1 hh
            exact hashS_lt _
          · rw [List.mem_singleton.1 hh]; exact HKL.out)
        clear HO HKL
        generalize l.map hR = acc at *
        go_wp2_with fail
        refine (CH.out _).mono ?_
        rintro e w3 ⟨rfl, hc⟩
        have HBA := Go.Lib.hid (hc.trans ((below_one w3 (.cells #[.int .u64 (hk : Int)] 58)).mono hc.size))
        have HO2 := Go.Lib.hid (HO1.out.below HBA.out)
        have HB3 := Go.Lib.hid (HBW.out.trans (HBA.out.mono HBW.out.size))
        have HON := Go.Lib.hid (KU.one' w3 hk)
        clear hc CH HO1
        go_wp2_with (first
          | (with_reducible show wpList _ _ _ (⟨some 35, _, _, _, _, _⟩ :: _) _ _; go_loud (refine KU_ok.append rfl (.tmp 31) (.tmp 34) rfl w.heap.size u7 (.slice (some ⟨w3.heap.size, 0, none⟩) 1 1) acc [hk] rfl rfl HO2.out HON.out (by have := HLN.out; simp; omega) (HB3.out.size) ?_); intro v4 w4 ho4 hg4)
          | fail)
        have CR := Go.Lib.hid (rroom_c v4 (acc ++ [hk]) w4 ho4.r HLT.out (by have := HLN.out; simp; omega))
        have HB4 := Go.Lib.hid (HB3.out.grown hg4 HB3.out.size (fun j hj => HO2.out.row j hj))
        refine CR.out.mono ?_
        rintro e w5 ⟨rfl, rfl⟩
        clear CR ho4 hg4
        go_wp2_with fail
        go_ret
        exact ⟨by rw [HE.out]; rfl, HB4.out⟩

end Go.Proofs.YtggokffdgjedgaaGreat

namespace Go.Proofs.YtggokffdgjedgaaGreat
open Go.RowKit

/-- Two slices in blocks of their own. -/
def Apart (u v : Value) : Prop := ∀ g, u.ownBlock = some g → v.ownBlock ≠ some g
theorem Apart.nil (v : Value) : Apart (.slice none 0 0) v := fun g h => by cases h
theorem Apart.right (u : Value) : Apart u (.slice none 0 0) := fun g _ h => by cases h
/-- A row that was made behind the log. -/
theorem apart_new {w : World} {B p d : Nat} {v u : Value} {L : List RecT} (h : LG w B p d v L) (hu : ∀ g, u.ownBlock = some g → w.heap.size ≤ g) : Apart u v := fun g hg e => by
  have := hu g hg
  have := h.vlt g e
  omega
/-- Behind a put: the row that is kept is what it was, and still apart. -/
theorem kept_put {w w' : World} {B p d B' : Nat} {v v' u : Value} {L M : List RecT} (h : LG w B p d v L) (ho : Off3 p d v.ownBlock w w') (hn : v'.ownBlock = v.ownBlock ∨ ∀ k, v'.ownBlock = some k → w.heap.size ≤ k) (hu : OwnRec w B' u M) (ha : Apart u v) : OwnRec w' B' u M ∧ Apart u v' := by
  refine ⟨h.keptRow ho hu ha, fun g hg e => ?_⟩
  rcases hn with hn | hn
  · exact ha g hg (hn.symm.trans e)
  · have h1 := hn g e
    have h2 := (World.ownsRow.lt hu g hg).2
    omega
theorem putE_zero {L : List RecT} {x : RecT} (hm : mayT x = true) : putE L x = if roomR L x.1 then 0 else 5 := by unfold putE; simp [hm]
theorem putN_zero {L : List RecT} {x : RecT} (hm : mayT x = true) (hr : roomR L x.1 = true) : putN L x = putL L x := by unfold putN; simp [hm, hr]
theorem putN_same {L : List RecT} {x : RecT} (hr : (mayT x && roomR L x.1) = false) : putN L x = L := by unfold putN; simp [hr]
theorem mem_put {L : List RecT} (hL : KeysOk L) (x y : RecT) : y ∈ putL L x ↔ y = x ∨ (y ∈ L ∧ keyR y ≠ keyR x) := by
  rcases find_cases (L := L) (keyR x) with ⟨i, h, e⟩ | h
  · rw [putL_in hL h e]; exact mem_set_keys hL h e.symm y
  · rw [putL_new h, List.mem_append, List.mem_singleton]
    constructor
    · rintro (hy | hy)
      · exact .inr ⟨hy, h y hy⟩
      · exact .inl hy
    · rintro (hy | hy)
      · exact .inr hy
      · exact .inl hy.1
theorem len_put_in {L : List RecT} (hL : KeysOk L) {x : RecT} (h : ∃ y ∈ L, keyR y = keyR x) : (putL L x).length = L.length := by
  obtain ⟨y, hy, e⟩ := h
  obtain ⟨i, hi, rfl⟩ := List.getElem_of_mem hy
  rw [putL_in hL hi e, List.length_set]
theorem room_in {L : List RecT} {k : ByteArray} (h : ∃ y ∈ L, keyR y = k.toList) : roomR L k = true := by
  unfold roomR
  have : (findK keyR L k.toList).isSome = true := by
    cases hf : findK keyR L k.toList with
    | some _ => rfl
    | none => obtain ⟨y, hy, e⟩ := h; exact absurd e ((find_none _).1 hf y hy)
  rw [this]; rfl
theorem and15 (n : Int) : ∃ c : Nat, bits .and .i64 n 15 = (c : Int) ∧ c ≤ 15 := by
  refine ⟨(BitVec.ofInt 64 n &&& BitVec.ofInt 64 15).toNat, ?_, ?_⟩
  · show IntKind.i64.wrap ((BitVec.ofInt 64 n &&& BitVec.ofInt 64 15).toNat : Int) = _
    have h1 : (BitVec.ofInt 64 n &&& BitVec.ofInt 64 15).toNat ≤ 15 := by rw [BitVec.toNat_and]; exact Nat.and_le_right
    rw [IntKind.wrap_i64]
    omega
  · rw [BitVec.toNat_and]; exact Nat.and_le_right
/-- The law's keys of two letters. -/
def nmR (c k : Nat) : List UInt8 := [UInt8.ofNat (97 + (k * 7 + c) % 26), UInt8.ofNat (97 + k % 25)]
theorem nmR_size (c k : Nat) : (str (nmR c k)).size = 2 := str_size _
theorem may_num (k : ByteArray) (z : Int) (h1 : 1 ≤ k.size) (h2 : k.size ≤ 16) : mayT (k, false, 1, z, ⟨#[]⟩) = true := by unfold mayT mayRec mayK mayR; simp [h1, h2]
theorem may_gone (k : ByteArray) (h1 : 1 ≤ k.size) (h2 : k.size ≤ 16) : mayT (k, true, 0, 0, ⟨#[]⟩) = true := by unfold mayT mayRec mayK; simp [h1, h2]
theorem mayT_key {x : RecT} (h : mayT x = true) : 1 ≤ x.1.size ∧ x.1.size ≤ 16 := by
  unfold mayT mayRec mayK at h
  simp only [Bool.and_eq_true, decide_eq_true_eq] at h
  exact h.1

end Go.Proofs.YtggokffdgjedgaaGreat

namespace Go.Proofs.YtggokffdgjedgaaGreat
open Go.RowKit

/-- A table: of each slot whether a record lies there, and which. -/
abbrev TabT := Nat → Bool × RecT
def enc6 (y : Bool × RecT) : List Value := .bool y.1 :: rc5 y.2
theorem enc6_len (y : Bool × RecT) : (enc6 y).length = 6 := rfl
theorem enc6_one (y : Bool × RecT) : ∀ v ∈ enc6 y, v.oneCell' = true := by
  intro v hv
  simp only [enc6, rc5, List.mem_cons, List.not_mem_nil, or_false] at hv
  rcases hv with rfl | rfl | rfl | rfl | rfl | rfl <;> rfl
def tabL (TT : TabT) (n : Nat) : List Value := (List.range n).flatMap fun q => enc6 (TT q)
theorem tabL_succ (TT : TabT) (n : Nat) : tabL TT (n + 1) = tabL TT n ++ enc6 (TT n) := by
  unfold tabL
  rw [List.range_succ, List.flatMap_append]
  simp
theorem tabL_len (TT : TabT) : ∀ n, (tabL TT n).length = 6 * n
  | 0 => rfl
  | n + 1 => by rw [tabL_succ, List.length_append, tabL_len TT n, enc6_len]; omega
theorem tabL_at (TT : TabT) : ∀ (n q j : Nat), q < n → j < 6 → (tabL TT n)[6 * q + j]? = (enc6 (TT q))[j]?
  | 0, q, j, h, _ => absurd h (by omega)
  | n + 1, q, j, h, hj => by
    rw [tabL_succ]
    by_cases hq : q < n
    · rw [List.getElem?_append_left (by rw [tabL_len]; omega)]
      exact tabL_at TT n q j hq hj
    · obtain rfl : q = n := by omega
      rw [List.getElem?_append_right (by rw [tabL_len]; omega), tabL_len, show 6 * q + j - 6 * q = j by omega]

/-- Block g is a table. -/
structure TK (w : World) (g : Nat) (TT : TabT) : Prop where
  row : ∃ cs fr, w.heap[g]? = some (.cells cs 71 fr)
  fr : ∀ o, w.frozen? ⟨g, o, none⟩ = false
  cell : ∀ q j, q < 32 → j < 6 → w.cell? ⟨g, 6 * q + j, none⟩ = (enc6 (TT q))[j]?
section
variable {w w' : World} {g : Nat} {TT : TabT}
theorem TK.same (h : TK w g TT) (hb : w'.heap[g]? = w.heap[g]?) : TK w' g TT := by
  obtain ⟨cs, fr, hr⟩ := h.row
  refine ⟨⟨cs, fr, hb.trans hr⟩, fun o => ?_, fun q j hq hj => (World.cell?_of_block (w := w) (a := ⟨g, 6 * q + j, none⟩) hb).trans (h.cell q j hq hj)⟩
  have e := h.fr o
  unfold World.frozen? at e ⊢
  simp only [] at e ⊢
  rw [hb]
  exact e
theorem TK.lt (h : TK w g TT) : g < w.heap.size := by obtain ⟨cs, fr, hr⟩ := h.row; exact (Array.getElem?_eq_some_iff.1 hr).1
theorem TK.below (h : TK w g TT) (hb : Below w.heap.size w w') : TK w' g TT := h.same (hb.block g h.lt)
theorem TK.at (h : TK w g TT) {b s : Nat} (hb : b < 8) (hs : s < 4) : w.cell? ⟨g, 24 * b + 6 * s, none⟩ = some (.bool (TT (4 * b + s)).1) ∧ w.cell? ⟨g, 24 * b + 6 * s + 1, none⟩ = some (.string (TT (4 * b + s)).2.1) ∧ w.cell? ⟨g, 24 * b + 6 * s + 2, none⟩ = some (.bool (TT (4 * b + s)).2.2.1) ∧ w.cell? ⟨g, 24 * b + 6 * s + 3, none⟩ = some (.int .i64 (TT (4 * b + s)).2.2.2.1) ∧ w.cell? ⟨g, 24 * b + 6 * s + 4, none⟩ = some (.int .i64 (TT (4 * b + s)).2.2.2.2.1) ∧ w.cell? ⟨g, 24 * b + 6 * s + 5, none⟩ = some (.string (TT (4 * b + s)).2.2.2.2.2) := by
  have c := fun j hj => h.cell (4 * b + s) j (by omega) hj
  rw [show 6 * (4 * b + s) = 24 * b + 6 * s by omega] at c
  exact ⟨c 0 (by omega), c 1 (by omega), c 2 (by omega), c 3 (by omega), c 4 (by omega), c 5 (by omega)⟩
theorem TK.range (h : TK w g TT) : w.rangeAt g 0 (tabL TT 32) := by
  intro k v hv
  have hk : k < (tabL TT 32).length := (List.getElem?_eq_some_iff.1 hv).1
  rw [tabL_len] at hk
  have e := tabL_at TT 32 (k / 6) (k % 6) (by omega) (by omega)
  rw [show 6 * (k / 6) + k % 6 = k by omega, hv] at e
  have c := h.cell (k / 6) (k % 6) (by omega) (by omega)
  rw [show 6 * (k / 6) + k % 6 = k by omega] at c
  rw [Nat.zero_add, c]
  exact e.symm
theorem TK.new (w : World) (TT : TabT) : TK (w.alloc (.cells (tabL TT 32).toArray 71)) w.heap.size TT := by
  have hh := heap_alloc_new w (.cells (tabL TT 32).toArray 71)
  refine ⟨⟨_, _, hh⟩, fun o => frozen_of_row _ _ _ _ _ hh, fun q j hq hj => ?_⟩
  rw [cell_of_row _ _ _ _ _ _ hh, List.getElem?_toArray]
  exact tabL_at TT 32 q j hq hj
theorem TK.there (h : TK w g TT) {q : Nat} (hq : q < 32) : w.there g (6 * q) 6 := fun j hj => by
  refine ⟨?_, h.fr _⟩
  rw [h.cell q j hq hj, List.getElem?_eq_getElem (show j < (enc6 (TT q)).length from hj)]
  rfl
def setT (TT : TabT) (q : Nat) (y : Bool × RecT) : TabT := fun k => if k = q then y else TT k
theorem setCells_size : ∀ (vs : List Value) (w : World) (b o : Nat), (w.setCells b o vs).heap.size = w.heap.size
  | [], w, b, o => rfl
  | v :: r, w, b, o => by rw [World.setCells, setCells_size r]; simp [World.setCell]
theorem setCells_type : ∀ (vs : List Value) (w : World) (b o : Nat) {t : TypeId}, (∃ cs fr, w.heap[b]? = some (.cells cs t fr)) → ∃ cs fr, (w.setCells b o vs).heap[b]? = some (.cells cs t fr)
  | [], w, b, o, _, h => h
  | v :: r, w, b, o, t, h => by
    rw [World.setCells]
    refine setCells_type r _ _ _ ?_
    obtain ⟨cs, fr, h⟩ := h
    unfold World.setCell
    rw [Array.getElem?_modify, if_pos rfl, h]
    exact ⟨_, _, rfl⟩
/-- A slot is stored. -/
theorem TK.set (h : TK w g TT) {q : Nat} (hq : q < 32) (y : Bool × RecT) : TK (w.setCells g (6 * q) (enc6 y)) g (setT TT q y) := by
  refine ⟨setCells_type _ _ _ _ h.row, fun o => by rw [World.frozen?_setCells]; exact h.fr o, fun k j hk hj => ?_⟩
  unfold setT
  by_cases e : k = q
  · subst e
    rw [if_pos rfl]
    have := World.cell?_setCells_in g (enc6 y) (6 * k) w (fun i hi => by
      rw [h.cell k i hk hi, List.getElem?_eq_getElem (show i < (enc6 (TT k)).length from hi)]
      rfl) j hj
    rw [this]
    exact (List.getElem?_eq_getElem hj).symm
  · rw [if_neg e]
    rw [World.cell?_setCells_out g (enc6 y) (6 * q) w ⟨g, 6 * k + j, none⟩ (fun _ hh => ?_)]
    · exact h.cell k j hk hj
    · simp only [enc6_len] at hh ⊢
      omega
end
theorem idxT (g b : Nat) (hb : b < 8) (W : World) : (Instr.indexAt 71 (.pointer (some ⟨g, 0, none⟩)) (.int .i64 (b : Int))).run Tryz.prog W = .ok (.pointer (some ⟨g, 24 * b, none⟩)) W := by
  have hu : Tryz.prog.underlying 71 = some (.array 8 69) := by kernel_rfl
  have hs : (Tryz.prog.info? 69).map (fun i => i.size) = some 24 := by kernel_rfl
  have h8 : ¬ 8 ≤ b := by omega
  have h8' : (b : Int) < 8 := by omega
  cases hi : Tryz.prog.info? 69 with
  | none => rw [hi] at hs; cases hs
  | some i =>
    rw [hi] at hs
    have hs' : i.size = 24 := by simpa using hs
    simp [Instr.indexAt, run_underlying hu, Instr.sureAddr, asIntOf, h8, sizeOf, typeInfo, hi, hs', Result.andThen, Addr.add_mid, Nat.mul_comm]
theorem idxT2 (g o s : Nat) (hs4 : s < 4) (W : World) : (Instr.indexAt 69 (.pointer (some ⟨g, o, none⟩)) (.int .i64 (s : Int))).run Tryz.prog W = .ok (.pointer (some ⟨g, o + 6 * s, none⟩)) W := by
  have hu : Tryz.prog.underlying 69 = some (.array 4 68) := by kernel_rfl
  have hs : (Tryz.prog.info? 68).map (fun i => i.size) = some 6 := by kernel_rfl
  have h8 : ¬ 4 ≤ s := by omega
  have h8' : (s : Int) < 4 := by omega
  cases hi : Tryz.prog.info? 68 with
  | none => rw [hi] at hs; cases hs
  | some i =>
    rw [hi] at hs
    have hs' : i.size = 6 := by simpa using hs
    simp [Instr.indexAt, run_underlying hu, Instr.sureAddr, asIntOf, h8, sizeOf, typeInfo, hi, hs', Result.andThen, Addr.add_mid, Nat.mul_comm]
theorem infoT : (Tryz.prog.info? 71).map (fun i => (i.zero, i.size)) = some (some (.agg (tabL (fun _ => (false, nullR)) 32).toArray), 192) := by kernel_rfl
theorem zero_tab (W : World) : (zeroValue 71).run Tryz.prog W = .ok (.agg (tabL (fun _ => (false, nullR)) 32).toArray) W := by
  have h := infoT
  cases hi : Tryz.prog.info? 71 with
  | none => rw [hi] at h; cases h
  | some i =>
    rw [hi] at h
    simp only [Option.map_some, Option.some.injEq, Prod.mk.injEq] at h
    simp [zeroValue, typeInfo, hi, h.1]
theorem sizeTab (TT : TabT) : (Tryz.prog.info? 71).map (·.size) = some (tabL TT 32).length := by
  rw [tabL_len]
  kernel_rfl

/-! ### Which table may be; its records. -/
def hasT (TT : TabT) (q : Nat) : Option RecT := if (TT q).1 then some (TT q).2 else none
def keysT (TT : TabT) (n : Nat) : List ByteArray := ((List.range n).filterMap (hasT TT)).map Prod.fst
def okSlot (TT : TabT) (q : Nat) : Bool :=
  if (TT q).1 then mayT (TT q).2 && (q / 4 == firstN (hR (TT q).2) || q / 4 == othN (firstN (hR (TT q).2)) (tagN (hR (TT q).2))) && !(keysT TT q).any fun k => decide (k = (TT q).2.1)
  else decide ((TT q).2 = nullR)
def okTo (TT : TabT) (n : Nat) : Bool := (List.range n).all (okSlot TT)
theorem okTo_succ (TT : TabT) (n : Nat) : okTo TT (n + 1) = (okTo TT n && okSlot TT n) := by unfold okTo; rw [List.range_succ, List.all_append]; simp
theorem okTo_bad {TT : TabT} {q n : Nat} (h : okSlot TT q = false) (hq : q < n) : okTo TT n = false := by
  unfold okTo
  rw [List.all_eq_false]
  exact ⟨q, List.mem_range.2 hq, by simp [h]⟩
theorem keysT_succ (TT : TabT) (n : Nat) : keysT TT (n + 1) = keysT TT n ++ (if (TT n).1 then [(TT n).2.1] else []) := by
  unfold keysT hasT
  rw [List.range_succ, List.filterMap_append, List.map_append]
  cases h : (TT n).1 <;> simp [h]
theorem keysT_len (TT : TabT) : ∀ n, (keysT TT n).length ≤ n
  | 0 => by simp [keysT]
  | n + 1 => by
    have := keysT_len TT n
    rw [keysT_succ, List.length_append]
    split <;> simp <;> omega
def recsT (TT : TabT) (n : Nat) : List RecT := (List.range n).filterMap (hasT TT)
theorem recsT_succ (TT : TabT) (n : Nat) : recsT TT (n + 1) = recsT TT n ++ (if (TT n).1 then [(TT n).2] else []) := by
  unfold recsT hasT
  rw [List.range_succ, List.filterMap_append]
  cases h : (TT n).1 <;> simp [h]
theorem recsT_len (TT : TabT) : ∀ n, (recsT TT n).length ≤ n
  | 0 => by simp [recsT]
  | n + 1 => by
    have := recsT_len TT n
    rw [recsT_succ, List.length_append]
    split <;> simp <;> omega

end Go.Proofs.YtggokffdgjedgaaGreat

namespace Go.Proofs.YtggokffdgjedgaaGreat
open Go.RowKit

def KS : Lay ByteArray := ⟨fun s => [.string s], 1, 9, 103, .string ⟨#[]⟩, 16⟩
theorem KS_ok : KS.Ok Tryz.prog := ⟨by decide, fun _ => rfl, fun x u hu => by rw [List.mem_singleton.1 hu]; rfl, Tryz.underlying103, by kernel_rfl, rfl, by decide⟩
theorem KS.at' {w : World} {a : Option Addr} {n cap : Nat} {l : List ByteArray} (h : KS.R w (.slice a n cap) l) (i : Nat) (hi : i < l.length) : ∃ b o, a = some ⟨b, o, none⟩ ∧ n = l.length ∧ b < w.heap.size ∧ w.cell? ⟨b, o + i, none⟩ = some (.string l[i]) := by
  obtain ⟨b, o, h1, h2, h3, h4⟩ := h.at KS_ok i hi
  exact ⟨b, o, h1, h2, h3, by have := h4 0 _ rfl; simpa [KS] using this⟩
theorem idxKS (b o n cap j : Nat) (h : j < n) (W : World) : (Instr.indexAt 103 (.slice (some ⟨b, o, none⟩) n cap) (.int .i64 (j : Int))).run Tryz.prog W = .ok (.pointer (some ⟨b, o + j, none⟩)) W := by
  have := KS_ok.run_idx b o n cap j h W
  simpa [KS] using this
theorem KS.one' (w : World) (z : ByteArray) : KS.R (w.alloc (.cells #[.string z] 9)) (.slice (some ⟨w.heap.size, 0, none⟩) 1 1) [z] := Lay.R.one w KS_ok z 9 (0, 0)
theorem row6 {w : World} {b : Nat} {a0 a1 a2 a3 a4 a5 : Value} {t : TypeId} {fr : Nat × Nat} (h : w.heap[b]? = some (.cells #[a0, a1, a2, a3, a4, a5] t fr)) :
    w.cell? ⟨b, 0, none⟩ = some a0 ∧ w.cell? ⟨b, 1, none⟩ = some a1 ∧ w.cell? ⟨b, 2, none⟩ = some a2 ∧ w.cell? ⟨b, 3, none⟩ = some a3 ∧ w.cell? ⟨b, 4, none⟩ = some a4 ∧ w.cell? ⟨b, 5, none⟩ = some a5 := by
  have c := fun j => cell_of_row w b j _ _ _ h
  exact ⟨c 0, c 1, c 2, c 3, c 4, c 5⟩

theorem tab_not_key {w : World} {g B : Nat} {TT : TabT} {v : Value} {l : List ByteArray} (h : TK w g TT) (hk : KS.O w B v l) : v.ownBlock ≠ some g := by
  intro e
  obtain ⟨cs, fr, hr⟩ := h.row
  rcases hk.2 with ⟨rfl, -⟩ | ⟨q, cap, cur, rfl, -, h2, -⟩
  · cases e
  · cases e
    rw [hr] at h2
    simp only [Option.some.injEq, Obj.cells.injEq] at h2
    exact absurd h2.2.1 (show 71 ≠ 9 by decide)

set_option maxHeartbeats 8000000 in
set_option maxRecDepth 100000 in
theorem rmaytab_c (TT : TabT) (w : World) (hs : ∀ q, q < 32 → (TT q).2.1.size ≤ 1000 ∧ (TT q).2.2.2.2.2.size ≤ 1000) :
    Calls Tryz.prog 39 #[.agg (tabL TT 32).toArray] w fun e w' => e = .returned (.bool (okTo TT 32)) ∧ Below w.heap.size w w' := by
  have HT := Go.Lib.hid (TK.new w TT)
  have HB := Go.Lib.hid (below_one w (.cells (tabL TT 32).toArray 71))
  have HS := Go.Lib.hid hs
  clear hs
  obtain ⟨TA, hTA⟩ : ∃ TA, TA = (tabL TT 32).toArray := ⟨_, rfl⟩
  rw [← hTA] at HT HB ⊢
  clear hTA
  obtain ⟨g, hg⟩ : ∃ g, g = w.heap.size := ⟨_, rfl⟩
  have HG := Go.Lib.hid hg
  clear hg
  go_enter Tryz.func39, Tryz.ntmps39
  go_wp2_with fail
  rw [← HG.out] at HT HB ⊢
  generalize w.alloc (.cells TA 71) = w1 at *
  go_loopw [3, 4] (fun kv bi wr => ∃ (b : Nat) (u : Value), u = kv ∧ b ≤ 8 ∧ bi = .int .i64 (b : Int) ∧ Hid (KS.O wr g u (keysT TT (4 * b)) ∧ okTo TT (4 * b) = true) ∧ Hid (TK wr g TT) ∧ Hid (Below g w wr)) (fun _ bi _ => 8 - (intOf bi).toNat)
  case atStart => exact ⟨0, _, rfl, by omega, rfl, Go.Lib.hid ⟨Lay.O.nil _ _, rfl⟩, HT, HB⟩
  case round =>
    obtain ⟨b, u, rfl, hb, rfl, HK, HT, HB⟩ := hrel
    by_cases hlt : b < 8
    · have hltI : (b : Int) < 8 := by omega
      go_wp2_with fail
      go_loopw [3, 5] (fun kv si wr => ∃ (s : Nat) (u : Value), u = kv ∧ s ≤ 4 ∧ si = .int .i64 (s : Int) ∧ Hid (KS.O wr g u (keysT TT (4 * b + s)) ∧ okTo TT (4 * b + s) = true) ∧ Hid (TK wr g TT) ∧ Hid (Below g w wr)) (fun _ si _ => 4 - (intOf si).toNat)
      case atStart => exact ⟨0, _, rfl, by omega, rfl, HK, HT, HB⟩
      case round =>
        obtain ⟨s, u, rfl, hs4, rfl, HK, HT, HB⟩ := hrel
        by_cases hslt : s < 4
        · have hsI : (s : Int) < 4 := by omega
          obtain ⟨c0, c1, c2, c3, c4, c5⟩ := HT.out.at hlt hslt
          have hix1 := idxT g b hlt
          have hix2 := idxT2 g (24 * b) s hslt
          have hsz := HS.out (4 * b + s) (by omega)
          have HBAD := Go.Lib.hid fun (h : okSlot TT (4 * b + s) = false) => okTo_bad (n := 32) h (by omega)
          have HOK := Go.Lib.hid fun (h : okSlot TT (4 * b + s) = true) => show okTo TT (4 * b + (s + 1)) = true from by rw [show 4 * b + (s + 1) = (4 * b + s) + 1 by omega, okTo_succ, HK.out.2, h]; rfl
          have HSL := Go.Lib.hid (show okSlot TT (4 * b + s) = _ from rfl)
          have HKN := Go.Lib.hid (show keysT TT (4 * b + (s + 1)) = keysT TT (4 * b + s) ++ (if (TT (4 * b + s)).1 then [(TT (4 * b + s)).2.1] else []) from keysT_succ TT (4 * b + s))
          have HKL := Go.Lib.hid (show (keysT TT (4 * b + s)).length ≤ 32 from by have := keysT_len TT (4 * b + s); omega)
          have HO := Go.Lib.hid HK.out.1
          rw [show okSlot TT (4 * b + s) = if (TT (4 * b + s)).1 then mayT (TT (4 * b + s)).2 && ((4 * b + s) / 4 == firstN (hR (TT (4 * b + s)).2) || (4 * b + s) / 4 == othN (firstN (hR (TT (4 * b + s)).2)) (tagN (hR (TT (4 * b + s)).2))) && !((keysT TT (4 * b + s)).any fun k => decide (k = (TT (4 * b + s)).2.1)) else decide ((TT (4 * b + s)).2 = nullR) from rfl, show (4 * b + s) / 4 = b by omega] at HBAD HOK
          clear HSL HK
          have HKN' := Go.Lib.hid HKN.out
          clear HKN
          generalize keysT TT (4 * b + s) = K at *
          generalize TT (4 * b + s) = y at *
          obtain ⟨hq, kx, gx, ax, nx, sx⟩ := y
          simp only [] at c0 c1 c2 c3 c4 c5 hsz HBAD HOK HKN'
          have hbA := below_one wr (.cells #[.bool hq, .string kx, .bool gx, .int .i64 ax, .int .i64 nx, .string sx] 68)
          have HX := Go.Lib.hid (heap_alloc_new wr (.cells #[.bool hq, .string kx, .bool gx, .int .i64 ax, .int .i64 nx, .string sx] 68))
          have HT2 := Go.Lib.hid (HT.out.below hbA)
          have HB2 := Go.Lib.hid (HB.out.trans (hbA.mono (by have := HB.out.size; have := HG.out; omega)))
          have HO2 := Go.Lib.hid (HO.out.below hbA)
          have CH := Go.Lib.hid fun W => rhash_k kx (hashS kx) rfl W (by omega)
          have CM := fun W => rmayrec_c kx gx ax nx sx W (by unfold maxLen; omega) (by unfold maxLen; omega)
          unfold recV at CM
          have HMT := Go.Lib.hid (show mayRec kx gx ax nx sx = mayT (kx, gx, ax, nx, sx) from rfl)
          rw [HMT.out] at CM
          have CM := Go.Lib.hid CM
          have HHR := Go.Lib.hid (show hR (kx, gx, ax, nx, sx) = hashS kx from rfl)
          rw [HHR.out] at HBAD HOK
          have HHL := Go.Lib.hid (hashS_lt kx)
          clear hbA hsz HT HB HO
          go_upto_region 9 with (fail)
          obtain ⟨g2, hg2⟩ : ∃ g, g = wr.heap.size := ⟨_, rfl⟩
          rw [← hg2] at HX ⊢
          clear hg2 c0 c1 c2 c3 c4 c5 hix1 hix2
          generalize wr.alloc (.cells #[.bool hq, .string kx, .bool gx, .int .i64 ax, .int .i64 nx, .string sx] 68) = w2 at *
          obtain ⟨x0, x1, x2, x3, x4, x5⟩ := row6 HX.out
          cases hq with
          | false => as_aux_lemma =>
            simp only [Bool.false_eq_true, if_false, List.append_nil] at HBAD HOK HKN'
            have CE := reqrec_c kx gx ax nx sx ⟨#[]⟩ false 0 0 ⟨#[]⟩ w2
            rw [show eqRec kx gx ax nx sx ⟨#[]⟩ false 0 0 ⟨#[]⟩ = decide ((kx, gx, ax, nx, sx) = nullR) from eqRec_iff (kx, gx, ax, nx, sx) nullR] at CE
            unfold recV at CE
            generalize decide ((kx, gx, ax, nx, sx) = nullR) = t at *
            have CE := Go.Lib.hid CE
            clear CM CH HMT HHR
            go_wp2_with fail
            refine CE.out.mono ?_
            rintro e w3 ⟨rfl, hc⟩
            have HT3 := Go.Lib.hid (HT2.out.below hc)
            have HB3 := Go.Lib.hid (HB2.out.trans (hc.mono (by have := HB2.out.size; have := HG.out; omega)))
            have HO3 := Go.Lib.hid (HO2.out.below hc)
            clear hc CE x0 x1 x2 x3 x4 x5
            cases t with
            | false =>
              have HE := Go.Lib.hid (HBAD.out rfl)
              go_wp2_with fail
              go_ret
              exact ⟨by rw [HE.out]; rfl, by rw [← HG.out]; exact HB3.out⟩
            | true =>
              have HE := Go.Lib.hid (HOK.out rfl)
              go_wp2_with fail
              exact ⟨⟨s + 1, _, rfl, by omega, by go_num, Go.Lib.hid ⟨by rw [HKN'.out]; exact HO3.out, HE.out⟩, HT3, HB3⟩, by simp only [intOf]; omega⟩
          | true =>
            simp only [if_true] at HBAD HOK HKN'
            go_wp2_with fail
            refine (CH.out _).mono ?_
            rintro e w3 ⟨rfl, hc⟩
            have HT3 := Go.Lib.hid (HT2.out.below hc)
            have HB3 := Go.Lib.hid (HB2.out.trans (hc.mono (by have := HB2.out.size; have := HG.out; omega)))
            have HO3 := Go.Lib.hid (HO2.out.below hc)
            have HX3 := Go.Lib.hid (row_kept HX.out hc)
            have CF := Go.Lib.hid (rfirst_c (hashS kx) w3 HHL.out)
            clear hc CH x0 x1 x2 x3 x4 x5 HX
            have HFL := Go.Lib.hid (first_lt (hashS kx))
            have HTL := Go.Lib.hid (tag_lt (hashS kx))
            go_wp2_with fail
            refine CF.out.mono ?_
            rintro e w4 ⟨rfl, rfl⟩
            obtain ⟨x0, x1, x2, x3, x4, x5⟩ := row6 HX3.out
            clear CF
            go_wp2_with fail
            refine (CM.out _).mono ?_
            rintro e w4 ⟨rfl, hc⟩
            have HT4 := Go.Lib.hid (HT3.out.below hc)
            have HB4 := Go.Lib.hid (HB3.out.trans (hc.mono (by have := HB3.out.size; have := HG.out; omega)))
            have HO4 := Go.Lib.hid (HO3.out.below hc)
            have HX4 := Go.Lib.hid (row_kept HX3.out hc)
            have CTG := Go.Lib.hid fun W => rtag_c (hashS kx) W HHL.out
            have COT := Go.Lib.hid fun W => rother_c (firstN (hashS kx) : Int) (tagN (hashS kx) : Int) W
            rw [otherI_nat HFL.out HTL.out] at COT
            clear hc CM x0 x1 x2 x3 x4 x5 HX3
            generalize mayT (kx, gx, ax, nx, sx) = m at *
            generalize othN (firstN (hashS kx)) (tagN (hashS kx)) = fo at *
            generalize firstN (hashS kx) = ff at *
            generalize tagN (hashS kx) = ft at *
            generalize hashS kx = hx at *
            cases m with
            | false =>
              as_aux_lemma =>
                have HE := Go.Lib.hid (HBAD.out rfl)
                go_wp2_with fail
                go_ret
                exact ⟨by rw [HE.out]; rfl, by rw [← HG.out]; exact HB4.out⟩
            | true =>
              simp only [Bool.true_and] at HBAD HOK
              by_cases hbf : b = ff
              · have hbf1 : ((b : Int) == (ff : Int)) = true := beq_iff_eq.2 (by omega)
                have hbf2 : ((b : Int) != (ff : Int)) = false := by simp [bne, hbf1]
                rw [show ((b == ff || b == fo)) = true from by simp [hbf], Bool.true_and] at HBAD HOK
                have HBF := Go.Lib.hid hbf
                clear hbf
                as_aux_lemma =>
                  go_wp2_with fail
                  clear hbf1 hbf2
                  have hform : ∃ a cap, u = .slice a K.length cap := by obtain ⟨a, cap, h, -⟩ := HO4.out.r.form; exact ⟨a, cap, h⟩
                  obtain ⟨ka, kc, rfl⟩ := hform
                  have hkl := HKL.out
                  go_loopw [9] (fun ii wr => ∃ i : Nat, i ≤ K.length ∧ ii = .int .i64 (i : Int) ∧ Hid (∀ j (hj : j < K.length), j < i → K[j] ≠ kx) ∧ Hid (Below w4.heap.size w4 wr)) (fun ii _ => K.length - (intOf ii).toNat)
                  case atStart => exact ⟨0, by omega, rfl, Go.Lib.hid fun j hj h => absurd h (by omega), Go.Lib.hid (Below.refl _ _)⟩
                  case round =>
                    obtain ⟨i, hi, rfl, HNO, HBI⟩ := hrel
                    by_cases hil : i < K.length
                    · obtain ⟨kb, ko, rfl, -, -, k0⟩ := KS.at' (HO4.out.r.below HBI.out) i hil
                      have hix := idxKS kb ko K.length kc i hil
                      obtain ⟨x0, x1, x2, x3, x4, x5⟩ := row6 (row_kept HX4.out HBI.out)
                      have HHIT := Go.Lib.hid (fun (h : K[i] = kx) => HBAD.out (show (!(K.any fun k => decide (k = kx))) = false from by rw [List.any_eq_true.2 ⟨K[i], List.getElem_mem hil, by simp [h]⟩]; rfl))
                      have HMISS := Go.Lib.hid (fun (h : K[i] ≠ kx) => show ∀ j (hj : j < K.length), j < i + 1 → K[j] ≠ kx from fun j hj hji => by
                        rcases Nat.lt_or_ge j i with h2 | h2
                        · exact HNO.out j hj h2
                        · obtain rfl : j = i := by omega
                          exact h)
                      clear HNO
                      generalize K[i] = ki at *
                      by_cases hq : ki.toList = kx.toList
                      · have hqb : (ki.toList == kx.toList) = true := beq_iff_eq.2 hq
                        have HE := Go.Lib.hid (HHIT.out (ByteArray.ext (Array.toList_inj.1 (by rw [← ByteArray.toList_eq, ← ByteArray.toList_eq]; exact hq))))
                        clear hq HHIT HMISS
                        go_upto_region 19 with (fail)
                        go_quiet (fail)
                        have HB9 := Go.Lib.hid (HB4.out.trans ((HBI.out.trans ((below_drewN (Below.refl _ _) nq).mono HBI.out.size)).mono (by have := HB4.out.size; have := HG.out; omega)))
                        go_wp2_with fail
                        go_ret
                        exact ⟨by rw [HE.out]; rfl, by rw [← HG.out]; exact HB9.out⟩
                      · have hqb : (ki.toList == kx.toList) = false := beq_eq_false_iff_ne.2 hq
                        have HN := Go.Lib.hid (HMISS.out (fun e => hq (by rw [e])))
                        clear hq HHIT HMISS
                        go_upto_region 19 with (fail)
                        go_quiet (fail)
                        have HB9 := Go.Lib.hid (HBI.out.trans ((below_drewN (Below.refl _ _) nq).mono HBI.out.size))
                        clear k0 hix x0 x1 x2 x3 x4 x5
                        generalize wr.drewN nq = w9 at *
                        go_wp2_with fail
                        exact ⟨⟨i + 1, by omega, by go_num, HN, HB9⟩, by simp only [intOf]; omega⟩
                    · obtain rfl : i = K.length := by omega
                      have HE := Go.Lib.hid (HOK.out (show (!(K.any fun k => decide (k = kx))) = true from by
                        rw [Bool.not_eq_true']
                        rw [Bool.eq_false_iff]
                        intro hc
                        obtain ⟨k, hkm, hke⟩ := List.any_eq_true.1 hc
                        obtain ⟨j, hj, rfl⟩ := List.getElem_of_mem hkm
                        exact HNO.out j hj hj (of_decide_eq_true hke)))
                      have hb9 := below_one wr (.cells #[.string kx] 9)
                      have HBX := Go.Lib.hid (HBI.out.trans (hb9.mono HBI.out.size))
                      have HO9 := Go.Lib.hid (HO4.out.below HBX.out)
                      have HT9 := Go.Lib.hid (HT4.out.below HBX.out)
                      have HB9 := Go.Lib.hid (HB4.out.trans (HBX.out.mono (by have := HB4.out.size; have := HG.out; omega)))
                      have HON := Go.Lib.hid (KS.one' wr kx)
                      obtain ⟨x0, x1, x2, x3, x4, x5⟩ := row6 (row_kept HX4.out HBI.out)
                      clear hb9 HNO
                      go_wp2_with (first
                        | (with_reducible show wpList _ _ _ (⟨some 73, _, _, _, _, _⟩ :: _) _ _; go_loud (refine KS_ok.append rfl (.tmp 68) (.tmp 72) rfl g (.slice ka K.length kc) (.slice (some ⟨wr.heap.size, 0, none⟩) 1 1) K [kx] rfl rfl HO9.out HON.out (by have := HKL.out; simp; omega) (by have := HB9.out.size; have := HG.out; omega) ?_); intro v10 w10 ho10 hg10)
                        | fail)
                      have HO10 := Go.Lib.hid ho10
                      have HT10 := Go.Lib.hid (HT9.out.same (hg10.block g HT9.out.lt (fun e => tab_not_key HT9.out HO9.out e.symm)))
                      have HB10 := Go.Lib.hid (HB9.out.grown hg10 (by have := HB9.out.size; have := HG.out; omega) (fun j hj => HO9.out.row j hj))
                      clear ho10 hg10
                      go_wp2_with fail
                      exact ⟨⟨s + 1, _, rfl, by omega, by go_num, Go.Lib.hid ⟨by rw [HKN'.out]; exact HO10.out, HE.out⟩, HT10, HB10⟩, by simp only [intOf]; omega⟩
              · have hbf1 : ((b : Int) == (ff : Int)) = false := beq_eq_false_iff_ne.2 (by omega)
                have hbf2 : ((b : Int) != (ff : Int)) = true := by simp [bne, hbf1]
                by_cases hbo : b = fo
                · have hbo1 : ((b : Int) == (fo : Int)) = true := beq_iff_eq.2 (by omega)
                  have hbo2 : ((b : Int) != (fo : Int)) = false := by simp [bne, hbo1]
                  rw [show ((b == ff || b == fo)) = true from by simp [hbo], Bool.true_and] at HBAD HOK
                  have HBF := Go.Lib.hid hbo
                  clear hbf hbo
                  go_wp2_with fail
                  refine (CTG.out _).mono ?_
                  rintro e w5 ⟨rfl, rfl⟩
                  go_wp2_with fail
                  refine (COT.out _).mono ?_
                  rintro e w5 ⟨rfl, rfl⟩
                  as_aux_lemma =>
                    go_wp2_with fail
                    clear hbf1 hbf2
                    have hform : ∃ a cap, u = .slice a K.length cap := by obtain ⟨a, cap, h, -⟩ := HO4.out.r.form; exact ⟨a, cap, h⟩
                    obtain ⟨ka, kc, rfl⟩ := hform
                    have hkl := HKL.out
                    go_loopw [9] (fun ii wr => ∃ i : Nat, i ≤ K.length ∧ ii = .int .i64 (i : Int) ∧ Hid (∀ j (hj : j < K.length), j < i → K[j] ≠ kx) ∧ Hid (Below w4.heap.size w4 wr)) (fun ii _ => K.length - (intOf ii).toNat)
                    case atStart => exact ⟨0, by omega, rfl, Go.Lib.hid fun j hj h => absurd h (by omega), Go.Lib.hid (Below.refl _ _)⟩
                    case round =>
                      obtain ⟨i, hi, rfl, HNO, HBI⟩ := hrel
                      by_cases hil : i < K.length
                      · obtain ⟨kb, ko, rfl, -, -, k0⟩ := KS.at' (HO4.out.r.below HBI.out) i hil
                        have hix := idxKS kb ko K.length kc i hil
                        obtain ⟨x0, x1, x2, x3, x4, x5⟩ := row6 (row_kept HX4.out HBI.out)
                        have HHIT := Go.Lib.hid (fun (h : K[i] = kx) => HBAD.out (show (!(K.any fun k => decide (k = kx))) = false from by rw [List.any_eq_true.2 ⟨K[i], List.getElem_mem hil, by simp [h]⟩]; rfl))
                        have HMISS := Go.Lib.hid (fun (h : K[i] ≠ kx) => show ∀ j (hj : j < K.length), j < i + 1 → K[j] ≠ kx from fun j hj hji => by
                          rcases Nat.lt_or_ge j i with h2 | h2
                          · exact HNO.out j hj h2
                          · obtain rfl : j = i := by omega
                            exact h)
                        clear HNO
                        generalize K[i] = ki at *
                        by_cases hq : ki.toList = kx.toList
                        · have hqb : (ki.toList == kx.toList) = true := beq_iff_eq.2 hq
                          have HE := Go.Lib.hid (HHIT.out (ByteArray.ext (Array.toList_inj.1 (by rw [← ByteArray.toList_eq, ← ByteArray.toList_eq]; exact hq))))
                          clear hq HHIT HMISS
                          go_upto_region 19 with (fail)
                          go_quiet (fail)
                          have HB9 := Go.Lib.hid (HB4.out.trans ((HBI.out.trans ((below_drewN (Below.refl _ _) nq).mono HBI.out.size)).mono (by have := HB4.out.size; have := HG.out; omega)))
                          go_wp2_with fail
                          go_ret
                          exact ⟨by rw [HE.out]; rfl, by rw [← HG.out]; exact HB9.out⟩
                        · have hqb : (ki.toList == kx.toList) = false := beq_eq_false_iff_ne.2 hq
                          have HN := Go.Lib.hid (HMISS.out (fun e => hq (by rw [e])))
                          clear hq HHIT HMISS
                          go_upto_region 19 with (fail)
                          go_quiet (fail)
                          have HB9 := Go.Lib.hid (HBI.out.trans ((below_drewN (Below.refl _ _) nq).mono HBI.out.size))
                          clear k0 hix x0 x1 x2 x3 x4 x5
                          generalize wr.drewN nq = w9 at *
                          go_wp2_with fail
                          exact ⟨⟨i + 1, by omega, by go_num, HN, HB9⟩, by simp only [intOf]; omega⟩
                      · obtain rfl : i = K.length := by omega
                        have HE := Go.Lib.hid (HOK.out (show (!(K.any fun k => decide (k = kx))) = true from by
                          rw [Bool.not_eq_true']
                          rw [Bool.eq_false_iff]
                          intro hc
                          obtain ⟨k, hkm, hke⟩ := List.any_eq_true.1 hc
                          obtain ⟨j, hj, rfl⟩ := List.getElem_of_mem hkm
                          exact HNO.out j hj hj (of_decide_eq_true hke)))
                        have hb9 := below_one wr (.cells #[.string kx] 9)
                        have HBX := Go.Lib.hid (HBI.out.trans (hb9.mono HBI.out.size))
                        have HO9 := Go.Lib.hid (HO4.out.below HBX.out)
                        have HT9 := Go.Lib.hid (HT4.out.below HBX.out)
                        have HB9 := Go.Lib.hid (HB4.out.trans (HBX.out.mono (by have := HB4.out.size; have := HG.out; omega)))
                        have HON := Go.Lib.hid (KS.one' wr kx)
                        obtain ⟨x0, x1, x2, x3, x4, x5⟩ := row6 (row_kept HX4.out HBI.out)
                        clear hb9 HNO
                        go_wp2_with (first
                          | (with_reducible show wpList _ _ _ (⟨some 73, _, _, _, _, _⟩ :: _) _ _; go_loud (refine KS_ok.append rfl (.tmp 68) (.tmp 72) rfl g (.slice ka K.length kc) (.slice (some ⟨wr.heap.size, 0, none⟩) 1 1) K [kx] rfl rfl HO9.out HON.out (by have := HKL.out; simp; omega) (by have := HB9.out.size; have := HG.out; omega) ?_); intro v10 w10 ho10 hg10)
                          | fail)
                        have HO10 := Go.Lib.hid ho10
                        have HT10 := Go.Lib.hid (HT9.out.same (hg10.block g HT9.out.lt (fun e => tab_not_key HT9.out HO9.out e.symm)))
                        have HB10 := Go.Lib.hid (HB9.out.grown hg10 (by have := HB9.out.size; have := HG.out; omega) (fun j hj => HO9.out.row j hj))
                        clear ho10 hg10
                        go_wp2_with fail
                        exact ⟨⟨s + 1, _, rfl, by omega, by go_num, Go.Lib.hid ⟨by rw [HKN'.out]; exact HO10.out, HE.out⟩, HT10, HB10⟩, by simp only [intOf]; omega⟩
                · have hbo1 : ((b : Int) == (fo : Int)) = false := beq_eq_false_iff_ne.2 (by omega)
                  have hbo2 : ((b : Int) != (fo : Int)) = true := by simp [bne, hbo1]
                  have HE := Go.Lib.hid (HBAD.out (by simp [hbf, hbo]))
                  clear hbf hbo
                  go_wp2_with fail
                  refine (CTG.out _).mono ?_
                  rintro e w5 ⟨rfl, rfl⟩
                  go_wp2_with fail
                  refine (COT.out _).mono ?_
                  rintro e w5 ⟨rfl, rfl⟩
                  go_wp2_with fail
                  go_ret
                  exact ⟨by rw [HE.out]; rfl, by rw [← HG.out]; exact HB4.out⟩
        · obtain rfl : s = 4 := by omega
          go_wp2_with fail
          exact ⟨⟨b + 1, _, rfl, by omega, by go_num, HK, HT, HB⟩, by simp only [intOf]; omega⟩
    · obtain rfl : b = 8 := by omega
      have HE := Go.Lib.hid HK.out.2
      go_wp2_with fail
      go_ret
      exact ⟨by rw [HE.out]; rfl, by have := HB.out; rw [HG.out] at this; exact this⟩

end Go.Proofs.YtggokffdgjedgaaGreat

namespace Go.Proofs.YtggokffdgjedgaaGreat
open Go.RowKit

set_option maxHeartbeats 2000000 in
set_option maxRecDepth 100000 in
theorem rrecs_c (TT : TabT) (w : World) :
    Calls Tryz.prog 40 #[.agg (tabL TT 32).toArray] w fun e w' => ∃ v', e = .returned v' ∧ OwnRec w' w.heap.size v' (newestR (recsT TT 32)) ∧ Below w.heap.size w w' := by
  have HT := Go.Lib.hid (TK.new w TT)
  have HB := Go.Lib.hid (below_one w (.cells (tabL TT 32).toArray 71))
  obtain ⟨TA, hTA⟩ : ∃ TA, TA = (tabL TT 32).toArray := ⟨_, rfl⟩
  rw [← hTA] at HT HB ⊢
  clear hTA
  obtain ⟨g, hg⟩ : ∃ g, g = w.heap.size := ⟨_, rfl⟩
  have HG := Go.Lib.hid hg
  clear hg
  go_enter Tryz.func40, Tryz.ntmps40
  go_wp2_with fail
  rw [← HG.out] at HT HB ⊢
  generalize w.alloc (.cells TA 71) = w1 at *
  go_loopw [3, 4] (fun lv ii wr => ∃ (i : Nat) (u : Value), u = lv ∧ i ≤ 32 ∧ ii = .int .i64 (i : Int) ∧ Hid (OwnRec wr g u (newestR (recsT TT i))) ∧ Hid (TK wr g TT) ∧ Hid (Below g w wr)) (fun _ ii _ => 32 - (intOf ii).toNat)
  case atStart => exact ⟨0, _, rfl, by omega, rfl, Go.Lib.hid (OwnRec.nil _ _), HT, HB⟩
  case round =>
    obtain ⟨i, u, rfl, hi, rfl, HO, HT, HB⟩ := hrel
    by_cases hlt : i < 32
    · have hltI : (i : Int) < 32 := by omega
      obtain ⟨D, hD⟩ : ∃ D, D = i / 4 := ⟨_, rfl⟩
      obtain ⟨R, hR⟩ : ∃ R, R = i % 4 := ⟨_, rfl⟩
      have d1 : (i : Int).tdiv 4 = (D : Int) := by rw [Int.tdiv_eq_ediv_of_nonneg (by omega)]; omega
      have r1 : (i : Int).tmod 4 = (R : Int) := by rw [Int.tmod_eq_emod_of_nonneg (by omega)]; omega
      have hD8 : D < 8 := by omega
      have hR4 : R < 4 := by omega
      obtain ⟨c0, c1, c2, c3, c4, c5⟩ := HT.out.at hD8 hR4
      rw [show 4 * D + R = i by omega] at c0 c1 c2 c3 c4 c5
      have hix1 := idxT g D hD8
      have hix2 := idxT2 g (24 * D) R hR4
      have HRN := Go.Lib.hid (recsT_succ TT i)
      have HLN := Go.Lib.hid (show (newestR (recsT TT i)).length ≤ 1000 from by have := newestR_len (recsT TT i); have := recsT_len TT i; omega)
      have HSN := Go.Lib.hid (newest_snoc (recsT TT i) (TT i).2)
      clear hD hR
      generalize TT i = y at *
      obtain ⟨hq, kx, gx, ax, nx, sx⟩ := y
      simp only [] at c0 c1 c2 c3 c4 c5 HRN HSN
      cases hq with
      | false =>
        simp only [Bool.false_eq_true, if_false, List.append_nil] at HRN
        go_wp2_with fail
        exact ⟨⟨i + 1, _, rfl, by omega, by go_num, by rw [HRN.out]; exact HO, HT, HB⟩, by simp only [intOf]; omega⟩
      | true =>
        simp only [if_true] at HRN
        have CS := rset_c u (newestR (recsT TT i)) kx gx ax nx sx wr HO.out.rs HLN.out
        rw [← HSN.out, ← HRN.out] at CS
        unfold recV at CS
        have CS := Go.Lib.hid CS
        go_wp2_with fail
        refine CS.out.mono ?_
        rintro e w2 ⟨v2, rfl, ho, hb⟩
        have hsz : g ≤ wr.heap.size := by have := HB.out.size; have := HG.out; omega
        have HO2 := Go.Lib.hid (ho.mono hsz)
        have HT2 := Go.Lib.hid (HT.out.below hb)
        have HB2 := Go.Lib.hid (HB.out.trans (hb.mono hsz))
        clear ho hb hsz CS c0 c1 c2 c3 c4 c5 hix1 hix2
        go_wp2_with fail
        exact ⟨⟨i + 1, _, rfl, by omega, by go_num, HO2, HT2, HB2⟩, by simp only [intOf]; omega⟩
    · obtain rfl : i = 32 := by omega
      go_wp2_with fail
      go_ret
      exact ⟨_, rfl, by rw [← HG.out]; exact HO.out, by rw [← HG.out]; exact HB.out⟩

end Go.Proofs.YtggokffdgjedgaaGreat

namespace Go.Proofs.YtggokffdgjedgaaGreat
open Go.RowKit

/-! ### The table of a log's slots. -/
def ofO (o : Option RecT) : Bool × RecT := (o.isSome, o.getD nullR)
def logT (T : SlT) (L : List RecT) : TabT := fun q => ofO (slotO T L q)
theorem hasT_log (T : SlT) (L : List RecT) (q : Nat) : hasT (logT T L) q = slotO T L q := by
  unfold hasT logT ofO
  cases slotO T L q <;> rfl
theorem recsT_log {T : SlT} {L : List RecT} (hf : Fits T (esL L)) : (recsT (logT T L) 32).Perm L := by
  have e1 : recsT (logT T L) 32 = (slL T).map fun x => L.getD x.2.2.toNat nullR := by
    unfold recsT slL
    rw [List.map_filterMap]
    congr 1
    funext q
    rw [hasT_log]
    unfold slotO
    cases T q <;> rfl
  have e2 : (slL T).map (fun x => L.getD x.2.2.toNat nullR) = (((slL T).map keyS).map Prod.snd).map fun z => L.getD z.toNat nullR := by
    rw [List.map_map, List.map_map]
    rfl
  have e3 : (((esL L).map keyE).map Prod.snd).map (fun z => L.getD z.toNat nullR) = L := by
    rw [List.map_map, List.map_map]
    apply List.ext_getElem
    · simp [esL_len]
    · intro i h1 h2
      rw [List.getElem_map, esL_at h2]
      simp only [Function.comp, keyE, Int.toNat_natCast]
      rw [List.getD_eq_getElem?_getD, List.getElem?_eq_getElem h2]
      rfl
  rw [e1, e2]
  have := (hf.map Prod.snd).map fun z => L.getD z.toNat nullR
  rw [e3] at this
  exact this
theorem newest_log {T : SlT} {L : List RecT} (hf : Fits T (esL L)) (hL : KeysOk L) : newestR (recsT (logT T L) 32) = newestR L :=
  newest_congr (hL.perm (recsT_log hf).symm) hL fun _ => (recsT_log hf).mem_iff
theorem okSlot_log {T : SlT} {L : List RecT} (hf : Fits T (esL L)) (hL : KeysOk L) (hm : ∀ x ∈ L, mayT x = true) {q : Nat} (hq : q < 32) : okSlot (logT T L) q = true := by
  unfold okSlot
  cases hT : T q with
  | none =>
    have e : logT T L q = (false, nullR) := by unfold logT slotO; rw [hT]; rfl
    rw [e]
    simp
  | some y =>
    obtain ⟨t, z⟩ := y
    obtain ⟨i, hi, -, hs, hk⟩ := slot_some hf hq hT
    have e : logT T L q = (true, L[i]) := by unfold logT; rw [hs]; rfl
    have hnd : ((keysT (logT T L) q).any fun k => decide (k = L[i].1)) = false := by
      have hN : KeysOk (recsT (logT T L) 32) := hL.perm (recsT_log hf).symm
      have hsplit : recsT (logT T L) 32 = recsT (logT T L) q ++ (L[i] :: ((List.range (31 - q)).map fun k => q + 1 + k).filterMap (hasT (logT T L))) := by
        unfold recsT
        rw [range_split hq, List.filterMap_append, List.filterMap_cons]
        have : hasT (logT T L) q = some L[i] := by rw [hasT_log]; exact hs
        rw [this]
      rw [hsplit] at hN
      unfold KeysOk at hN
      rw [List.map_append, List.map_cons] at hN
      have hd := (List.nodup_append.1 hN).2.2
      rw [Bool.eq_false_iff]
      intro hc
      obtain ⟨k, hkm, hke⟩ := List.any_eq_true.1 hc
      obtain rfl := of_decide_eq_true hke
      have hc := hkm
      unfold keysT at hc
      obtain ⟨x, hx, hxe⟩ := List.mem_map.1 hc
      exact hd (keyR x) (List.mem_map.2 ⟨x, hx, rfl⟩) (keyR L[i]) (List.mem_cons_self ..) (by unfold keyR; rw [hxe])
    rw [e]
    simp only [if_true]
    rw [hnd]
    simp only [Bool.not_false, Bool.and_true]
    rw [hm _ (List.getElem_mem hi), Bool.true_and]
    unfold keyH at hk
    have h2 := (keyN_iff (by omega) (first_lt _)).1 hk
    rw [Bool.or_eq_true, beq_iff_eq, beq_iff_eq]
    exact h2.2
theorem okTo_log {T : SlT} {L : List RecT} (hf : Fits T (esL L)) (hL : KeysOk L) (hm : ∀ x ∈ L, mayT x = true) : okTo (logT T L) 32 = true := by
  unfold okTo
  rw [List.all_eq_true]
  intro q hq
  exact okSlot_log hf hL hm (List.mem_range.1 hq)
theorem logT_short {T : SlT} {L : List RecT} (hf : Fits T (esL L)) (hm : ∀ x ∈ L, mayT x = true) {q : Nat} (hq : q < 32) : (logT T L q).2.1.size ≤ 1000 ∧ (logT T L q).2.2.2.2.2.size ≤ 1000 := by
  cases hT : T q with
  | none =>
    have e : logT T L q = (false, nullR) := by unfold logT slotO; rw [hT]; rfl
    rw [e]
    decide
  | some y =>
    obtain ⟨t, z⟩ := y
    obtain ⟨i, hi, -, hs, -⟩ := slot_some hf hq hT
    have e : logT T L q = (true, L[i]) := by unfold logT; rw [hs]; rfl
    rw [e]
    have := mayT_short (hm _ (List.getElem_mem hi))
    simp only []
    omega

end Go.Proofs.YtggokffdgjedgaaGreat

namespace Go.Proofs.YtggokffdgjedgaaGreat
open Go.RowKit

def VE (b1 o1 b2 o2 n m cap1 cap2 k : Nat) (kx : ByteArray) (gx : Bool) (ax nx : Int) (sx ky : ByteArray) (gy : Bool) (ay ny : Int) (sy : ByteArray) (q : Bool) : Nat → World → Value → Prop
  | 17, _, v => v = .slice (some ⟨b1, o1, none⟩) n cap1
  | 18, _, v => v = .int .i64 (k : Int)
  | 19, _, v => v = .pointer (some ⟨b1, o1 + k * 5, none⟩)
  | 20, _, v => v = .agg #[.string kx, .bool gx, .int .i64 ax, .int .i64 nx, .string sx]
  | 21, _, v => v = .slice (some ⟨b2, o2, none⟩) m cap2
  | 22, _, v => v = .int .i64 (k : Int)
  | 23, _, v => v = .pointer (some ⟨b2, o2 + k * 5, none⟩)
  | 24, _, v => v = .agg #[.string ky, .bool gy, .int .i64 ay, .int .i64 ny, .string sy]
  | 25, _, v => v = .bool q
  | 26, _, v => v = .bool (!q)
  | _, _, _ => True

theorem VE_below (b1 o1 b2 o2 n m cap1 cap2 k : Nat) (kx : ByteArray) (gx : Bool) (ax nx : Int) (sx ky : ByteArray) (gy : Bool) (ay ny : Int) (sy : ByteArray) (q : Bool) : ∀ (i : Nat) (w w' : World) (v : Value), VE b1 o1 b2 o2 n m cap1 cap2 k kx gx ax nx sx ky gy ay ny sy q i w v → Below w.heap.size w w' → VE b1 o1 b2 o2 n m cap1 cap2 k kx gx ax nx sx ky gy ay ny sy q i w' v := by
  intro i w w' v h hb
  unfold VE at h ⊢
  split at h <;> first | exact h | trivial | exact RB.below h hb | exact Own.below h hb

theorem eqGo {l m : List RecT} {k : Nat} (h1 : k < l.length) (h2 : k < m.length) (he : l.take k = m.take k) (h : l[k] = m[k]) : l.take (k + 1) = m.take (k + 1) := by
  rw [List.take_succ_eq_append_getElem h1, List.take_succ_eq_append_getElem h2, he, h]

set_option maxHeartbeats 2000000 in
set_option maxRecDepth 100000 in
theorem reqrecs_c (u v : Value) (l m : List RecT) (w : World) (hu : RS w u l) (hv : RS w v m) :
    Calls Tryz.prog 37 #[u, v] w fun e w' => e = .returned (.bool (decide (l = m))) ∧ Below w.heap.size w w' := by
  obtain ⟨a1, cap1, rfl, hm1⟩ := hu.form
  obtain ⟨a2, cap2, rfl, hm2⟩ := hv.form
  have HU := Go.Lib.hid hu; clear hu
  have HV := Go.Lib.hid hv; clear hv
  by_cases hl : l.length = m.length
  · have Hl := Go.Lib.hid hl
    have hlb : ((l.length : Int) == (m.length : Int)) = true := by simp [hl]
    have hln : ((l.length : Int) = (m.length : Int)) := by omega
    go_enter Tryz.func37, Tryz.ntmps37
    go_wp2_with fail
    clear hln hlb
    have hl2 := Hl.out
    have Hl2 := Go.Lib.hid hl2; clear hl2 hl
    go_loopw [5] (fun i w2 => ∃ k : Nat, k ≤ l.length ∧ i = .int .i64 (k : Int) ∧ l.take k = m.take k ∧ Below w.heap.size w w2) (fun i _ => l.length - (intOf i).toNat)
    case atStart => exact ⟨0, by omega, rfl, by simp, Below.refl _ _⟩
    case round =>
      obtain ⟨k, hk, rfl, htk, hbc⟩ := hrel
      have Htk := Go.Lib.hid htk; clear htk
      by_cases hlt : k < l.length
      · have hlt2 : k < m.length := by have := Hl.out; omega
        obtain ⟨b1, o1, rfl, -, -, c0, c1, c2, c3, c4⟩ := (HU.out.below hbc).at k hlt
        obtain ⟨b2, o2, rfl, -, -, d0, d1, d2, d3, d4⟩ := (HV.out.below hbc).at k hlt2
        have hix1 := run_idx5 b1 o1 l.length cap1 k hlt
        have hix2 := run_idx5 b2 o2 m.length cap2 k hlt2
        have Hgo := Go.Lib.hid (fun h => eqGo hlt hlt2 Htk.out h)
        have hne := Go.Lib.hid (fun (h : l[k] ≠ m[k]) => show l ≠ m from fun e => h (by subst e; rfl))
        have CE := reqrec_c l[k].1 l[k].2.1 l[k].2.2.1 l[k].2.2.2.1 l[k].2.2.2.2 m[k].1 m[k].2.1 m[k].2.2.1 m[k].2.2.2.1 m[k].2.2.2.2
        rw [eqRec_iff] at CE
        generalize hx : l[k] = x at *
        generalize hy : m[k] = y at *
        obtain ⟨kx, gx, ax, nx, sx⟩ := x
        obtain ⟨ky, gy, ay, ny, sy⟩ := y
        simp only [] at c0 c1 c2 c3 c4 d0 d1 d2 d3 d4 CE
        generalize hq : decide (((kx, gx, ax, nx, sx) : RecT) = (ky, gy, ay, ny, sy)) = q at *
        unfold recV at CE
        have CE := Go.Lib.hid CE
        have Hix1 := Go.Lib.hid hix1; clear hix1
        have Hix2 := Go.Lib.hid hix2; clear hix2
        have Hq := Go.Lib.hid hq; clear hq hx hy
        go_upto_region 6 with (fail)
        refine wp_region_each (by kernel_rfl) (VE b1 o1 b2 o2 l.length m.length cap1 cap2 k kx gx ax nx sx ky gy ay ny sy q) (VE_below b1 o1 b2 o2 l.length m.length cap1 cap2 k kx gx ax nx sx ky gy ay ny sy q) (by decide +kernel) (by decide +kernel) (by rfl) [17, 18, 19, 20, 21, 22, 23, 24, 25, 26] (by rfl) ?_ ?_
        · intro i o ho a w6 hb6 hlen hg
          have c0 := cell_kept c0 hb6
          have c1 := cell_kept c1 hb6
          have c2 := cell_kept c2 hb6
          have c3 := cell_kept c3 hb6
          have c4 := cell_kept c4 hb6
          have d0 := cell_kept d0 hb6
          have d1 := cell_kept d1 hb6
          have d2 := cell_kept d2 hb6
          have d3 := cell_kept d3 hb6
          have d4 := cell_kept d4 hb6
          have hix1 := Hix1.out w6
          have hix2 := Hix2.out w6
          match i, ho with
          | 0, ho =>
            obtain rfl := Option.some.inj ho
            have h0 := given_old hg 0 (by decide +kernel)
            clear hg
            exact st_yield ho (wanted_none rfl) (.slice (some ⟨b1, o1, none⟩) l.length cap1) w6 (by simp [execOp, Act.eval, h0, go_sem]) ⟨_, rfl, Below.refl _ _, by rintro t' ⟨⟩; rfl⟩
          | 1, ho =>
            obtain rfl := Option.some.inj ho
            have h5 := given_old hg 5 (by decide +kernel)
            clear hg
            exact st_yield ho (wanted_none rfl) (.int .i64 (k : Int)) w6 (by simp [execOp, Act.eval, h5, go_sem]) ⟨_, rfl, Below.refl _ _, by rintro t' ⟨⟩; rfl⟩
          | 2, ho =>
            obtain rfl := Option.some.inj ho
            obtain ⟨_, h17, rfl⟩ := given_fed hg 17 (by decide +kernel)
            obtain ⟨_, h18, rfl⟩ := given_fed hg 18 (by decide +kernel)
            clear hg
            exact st_yield ho (wanted_none rfl) (.pointer (some ⟨b1, o1 + k * 5, none⟩)) w6 (by simp [execOp, Act.eval, h17, h18, go_sem, hix1]) ⟨_, rfl, Below.refl _ _, by rintro t' ⟨⟩; rfl⟩
          | 3, ho =>
            obtain rfl := Option.some.inj ho
            obtain ⟨_, h19, rfl⟩ := given_fed hg 19 (by decide +kernel)
            clear hg
            exact st_yield ho (wanted_none rfl) (.agg #[.string kx, .bool gx, .int .i64 ax, .int .i64 nx, .string sx]) w6 (by simp [execOp, Act.eval, h19, go_sem, c0, c1, c2, c3, c4]) ⟨_, rfl, Below.refl _ _, by rintro t' ⟨⟩; rfl⟩
          | 4, ho =>
            obtain rfl := Option.some.inj ho
            have h1 := given_old hg 1 (by decide +kernel)
            clear hg
            exact st_yield ho (wanted_none rfl) (.slice (some ⟨b2, o2, none⟩) m.length cap2) w6 (by simp [execOp, Act.eval, h1, go_sem]) ⟨_, rfl, Below.refl _ _, by rintro t' ⟨⟩; rfl⟩
          | 5, ho =>
            obtain rfl := Option.some.inj ho
            have h5 := given_old hg 5 (by decide +kernel)
            clear hg
            exact st_yield ho (wanted_none rfl) (.int .i64 (k : Int)) w6 (by simp [execOp, Act.eval, h5, go_sem]) ⟨_, rfl, Below.refl _ _, by rintro t' ⟨⟩; rfl⟩
          | 6, ho =>
            obtain rfl := Option.some.inj ho
            obtain ⟨_, h21, rfl⟩ := given_fed hg 21 (by decide +kernel)
            obtain ⟨_, h22, rfl⟩ := given_fed hg 22 (by decide +kernel)
            clear hg
            exact st_yield ho (wanted_none rfl) (.pointer (some ⟨b2, o2 + k * 5, none⟩)) w6 (by simp [execOp, Act.eval, h21, h22, go_sem, hix2]) ⟨_, rfl, Below.refl _ _, by rintro t' ⟨⟩; rfl⟩
          | 7, ho =>
            obtain rfl := Option.some.inj ho
            obtain ⟨_, h23, rfl⟩ := given_fed hg 23 (by decide +kernel)
            clear hg
            exact st_yield ho (wanted_none rfl) (.agg #[.string ky, .bool gy, .int .i64 ay, .int .i64 ny, .string sy]) w6 (by simp [execOp, Act.eval, h23, go_sem, d0, d1, d2, d3, d4]) ⟨_, rfl, Below.refl _ _, by rintro t' ⟨⟩; rfl⟩
          | 8, ho =>
            obtain rfl := Option.some.inj ho
            obtain ⟨_, h20, rfl⟩ := given_fed hg 20 (by decide +kernel)
            obtain ⟨_, h24, rfl⟩ := given_fed hg 24 (by decide +kernel)
            clear hg
            exact st_enter (w1 := w6) ho (wanted_none rfl) 16 #[.agg #[.string kx, .bool gx, .int .i64 ax, .int .i64 nx, .string sx], .agg #[.string ky, .bool gy, .int .i64 ay, .int .i64 ny, .string sy]] (by simp [execOp, Act.eval, h20, h24, resolve, go_sem]) ((CE.out _).mono (by rintro e w7 ⟨rfl, hb7⟩; exact ⟨_, rfl, _, rfl, hb7, by rintro t' ⟨⟩; rfl⟩))
          | 9, ho =>
            obtain rfl := Option.some.inj ho
            obtain ⟨_, h25, rfl⟩ := given_fed hg 25 (by decide +kernel)
            clear hg
            exact st_yield ho (wanted_none rfl) (.bool (!q)) w6 (by simp [execOp, Act.eval, h25, go_sem]) ⟨_, rfl, Below.refl _ _, by rintro t' ⟨⟩; rfl⟩
          | n + 10, ho => simp at ho
        · intro f w6 hb6 hv
          have h26 := hv 26 (by decide)
          simp only [VE] at h26
          have hbc6 := hbc.trans (hb6.mono hbc.size)
          clear c0 c1 c2 c3 c4 d0 d1 d2 d3 d4 Hix1 Hix2 CE hv hbc hb6
          unfold putAll
          simp only [List.foldl]
          simp only [h26]
          cases q with
          | true =>
            have hgo := Go.Lib.hid (Hgo.out (of_decide_eq_true Hq.out))
            go_simp
            go_wp2_with fail
            go_roundw
            case rel => exact ⟨k + 1, by omega, by go_num, hgo.out, hbc6⟩
            case measure => simp only [intOf]; omega
          | false =>
            have hgo := Go.Lib.hid (decide_eq_false (hne.out (of_decide_eq_false Hq.out)))
            go_simp
            go_wp2_with fail
            go_ret
            exact ⟨ret_of (congrArg Value.bool hgo.out.symm), hbc6⟩
      · obtain rfl : k = l.length := by omega
        have hgo : l = m := by
          have := Htk.out
          rwa [List.take_of_length_le (Nat.le_refl _), List.take_of_length_le (by have := Hl.out; omega)] at this
        have Hgo := Go.Lib.hid (decide_eq_true hgo)
        clear hgo
        go_wp2_with fail
        go_ret
        exact ⟨ret_of (congrArg Value.bool Hgo.out.symm), hbc⟩
  · have hgo := Go.Lib.hid (decide_eq_false (show ¬ l = m from fun e => hl (by rw [e])))
    have hlb : ((l.length : Int) == (m.length : Int)) = false := by simp; omega
    have hln : ¬ ((l.length : Int) = (m.length : Int)) := by omega
    go_enter Tryz.func37, Tryz.ntmps37
    go_wp2_with fail
    go_ret
    exact ⟨ret_of (congrArg Value.bool hgo.out.symm), Below.refl _ _⟩

end Go.Proofs.YtggokffdgjedgaaGreat

namespace Go.Proofs.YtggokffdgjedgaaGreat
open Go.RowKit

/-- The steps wait for one another; each is an operation, and alone writes its slot. -/
def chainB (ops : Array Oper) (steps : List Nat) : Bool :=
  (List.range steps.length).all fun j => match steps[j]? with
    | some i => (match ops[i]? with | some o => (match o.dst with | some t => soleB ops i t | none => true) | none => false) &&
      (List.range j).all fun k => match steps[k]? with | some i' => aheadB ops i i' && i' != i | none => true
    | none => true

section
variable {P : Program} {ops : Array Oper} {Q : Exit → Act → World → Prop}

/-- What the steps have yielded so far. -/
def SlotsC (ops : Array Oper) (steps : List Nat) (vs : List Value) (a : Act) : Prop :=
  ∀ (k i : Nat) (o : Oper) (t : Nat), k < vs.length → steps[k]? = some i → ops[i]? = some o → o.dst = some t → a.tmps[t]? = vs[k]?
structure InvC (ops : Array Oper) (steps : List Nat) (C : List Value → World → Prop) (done : Nat → Bool) (a : Act) (w : World) (vs : List Value) : Prop where
  so : ∀ k i, steps[k]? = some i → (done i = true ↔ k < vs.length)
  le : vs.length ≤ steps.length
  c : C vs w
  slots : SlotsC ops steps vs a

theorem chain_at {steps : List Nat} (h : chainB ops steps = true) {j i : Nat} (hj : steps[j]? = some i) :
    (∃ o, ops[i]? = some o ∧ ∀ t, o.dst = some t → soleB ops i t = true) ∧ ∀ k i', k < j → steps[k]? = some i' → aheadB ops i i' = true ∧ i' ≠ i := by
  unfold chainB at h
  rw [List.all_eq_true] at h
  have h1 := h j (by rw [List.mem_range]; exact (List.getElem?_eq_some_iff.1 hj).1)
  rw [hj] at h1
  simp only [Bool.and_eq_true, List.all_eq_true, List.mem_range] at h1
  obtain ⟨h1, h2⟩ := h1
  refine ⟨?_, fun k i' hk hi' => ?_⟩
  · cases ho : ops[i]? with
    | none => rw [ho] at h1; cases h1
    | some o =>
      rw [ho] at h1
      refine ⟨o, rfl, fun t ht => ?_⟩
      simp only [ht] at h1
      exact h1
  · have h3 := h2 k hk
    rw [hi'] at h3
    simp only [Bool.and_eq_true, bne_iff_ne, ne_eq] at h3
    exact h3

theorem put_tmps_other {a : Act} {t : Option Nat} {s : Nat} {v : Value} (h : t ≠ some s) : (a.put t v).tmps[s]? = a.tmps[s]? := by
  cases t with
  | none => rfl
  | some t => exact Array.getElem?_setIfInBounds_ne (fun e => h (by rw [e]))

theorem wp_region_chain {id : Nat} {a0 : Act} {w0 : World} (hm : P.follows .mixedOrders = true) (V : Nat → Value → Prop) (steps : List Nat) (C : List Value → World → Prop)
    (htidy : tidyB ops = true) (hlow : lowB ops = true) (hdst : (ops.toList.all fun o => match o.dst with | some t => decide (t < a0.tmps.size) | none => true) = true)
    (hchain : chainB ops steps = true) (l : List Nat) (hl : dsts ops = l) (h0 : C [] w0.drew)
    (hquiet : ∀ (i : Nat) (o : Oper), ops[i]? = some o → steps.contains i = false → ∀ (a : Act) (w : World) (vs : List Value), C vs w → a.tmps.size = a0.tmps.size → Given ops (fun t _ v => V t v) a0 o a w →
      wpOp P ops Q i (fun a' w' => ∃ v, a' = a.put o.dst v ∧ C vs w' ∧ ∀ t, o.dst = some t → V t v) a w)
    (hstep : ∀ (j i : Nat) (o : Oper), steps[j]? = some i → ops[i]? = some o → ∀ (a : Act) (w : World) (vs : List Value), vs.length = j → C vs w → SlotsC ops steps vs a → a.tmps.size = a0.tmps.size → Given ops (fun t _ v => V t v) a0 o a w →
      wpOp P ops Q i (fun a' w' => ∃ v, a' = a.put o.dst v ∧ C (vs ++ [v]) w' ∧ ∀ t, o.dst = some t → V t v) a w)
    (hend : ∀ (f : Nat → Value) (w : World) (vs : List Value), vs.length = steps.length → C vs w → (∀ (k i : Nat) (o : Oper) (t : Nat), k < vs.length → steps[k]? = some i → ops[i]? = some o → o.dst = some t → vs[k]? = some (f t)) → (∀ t, t ∈ l → V t (f t)) → Q .normal (putAll a0 f l) w) :
    (Code.region id ops true).wp P Q a0 w0 := by
  refine wp_region_inv3 hm (fun t _ v => V t v) (fun done a w => ∃ vs, InvC ops steps C done a w vs) htidy hlow hdst l hl ?_ ?_ ?_
  · exact ⟨[], fun k i _ => by simp, Nat.zero_le _, h0, fun k i o t hk => absurd hk (by simp)⟩
  · rintro i o ho a w done ⟨vs, hI⟩ hnot hr hsh hlen hg
    cases hc : steps.contains i with
    | false =>
      refine wpOp_mono ?_ (hquiet i o ho hc a w vs hI.c hlen hg)
      rintro a' w' ⟨v, rfl, hC, hV⟩
      refine ⟨v, rfl, ⟨vs, fun k i' hi' => ?_, hI.le, hC, fun k i' o' t hk hi' ho' ht => ?_⟩, fun _ _ _ h => h, hV⟩
      · have hne : i' ≠ i := by
          rintro rfl
          have : i' ∈ steps := List.mem_of_getElem? hi'
          rw [← List.contains_iff_mem, hc] at this
          cases this
        rw [doneToo_other hne]
        exact hI.so k i' hi'
      · rw [put_tmps_other]
        · exact hI.slots k i' o' t hk hi' ho' ht
        · intro e
          obtain ⟨⟨o2, h2, hs⟩, -⟩ := chain_at hchain hi'
          rw [ho'] at h2
          cases h2
          have h3 := hs t ht
          refine not_wrote (done := fun j => decide (j = i)) h3 ?_ ⟨i, o, ho, e, by simp⟩
          simp only [decide_eq_false_iff_not]
          rintro rfl
          have : i' ∈ steps := List.mem_of_getElem? hi'
          rw [← List.contains_iff_mem, hc] at this
          cases this
    | true =>
      obtain ⟨j, hj⟩ := List.getElem?_of_mem (List.contains_iff_mem.1 hc)
      obtain ⟨⟨o2, h2, hs⟩, hah⟩ := chain_at hchain hj
      rw [ho] at h2
      cases h2
      have hjl : vs.length = j := by
        rcases Nat.lt_trichotomy vs.length j with h | h | h
        · have hjs := (List.getElem?_eq_some_iff.1 hj).1
          obtain ⟨i', hi'⟩ : ∃ i', steps[vs.length]? = some i' := ⟨_, List.getElem?_eq_getElem (by omega)⟩
          have := (hI.so _ _ hi').1 (hr i' (hah _ _ h hi').1)
          omega
        · exact h
        · have := (hI.so j i hj).2 h
          rw [hnot] at this
          cases this
      refine wpOp_mono ?_ (hstep j i o hj ho a w vs hjl hI.c hI.slots hlen hg)
      rintro a' w' ⟨v, rfl, hC, hV⟩
      refine ⟨v, rfl, ⟨vs ++ [v], fun k i' hi' => ?_, ?_, hC, fun k i' o' t hk hi' ho' ht => ?_⟩, fun _ _ _ h => h, hV⟩
      · rw [List.length_append, List.length_singleton]
        rcases Nat.lt_trichotomy k j with h | h | h
        · have hne := (hah k i' h hi').2
          rw [doneToo_other hne, hI.so k i' hi']
          omega
        · subst h
          rw [hj] at hi'
          cases hi'
          rw [doneToo_self]
          simp; omega
        · have hne := ((chain_at hchain hi').2 j i h hj).2
          rw [doneToo_other (Ne.symm hne), hI.so k i' hi']
          omega
      · rw [List.length_append, List.length_singleton]
        have := (List.getElem?_eq_some_iff.1 hj).1
        omega
      · rw [List.length_append, List.length_singleton] at hk
        rcases Nat.lt_or_ge k j with h | h
        · have hne := (hah k i' h hi').2
          rw [put_tmps_other, List.getElem?_append_left (by omega)]
          · exact hI.slots k i' o' t (by omega) hi' ho' ht
          · intro e
            have h3 := hs t e
            refine not_wrote (done := fun j => decide (j = i')) h3 ?_ ⟨i', o', ho', ht, by simp⟩
            simp only [decide_eq_false_iff_not]
            exact fun e => hne e.symm
        · obtain rfl : k = j := by omega
          rw [hj] at hi'
          cases hi'
          rw [ho] at ho'
          cases ho'
          rw [List.getElem?_append_right (by omega), hjl, Nat.sub_self, ht]
          have hlt : t < a.tmps.size := by
            rw [hlen]
            rw [List.all_eq_true] at hdst
            have h1 := hdst o (by obtain ⟨h, rfl⟩ := Array.getElem?_eq_some_iff.1 ho; simp)
            rw [ht] at h1
            exact of_decide_eq_true h1
          simp [Act.put, hlt]
  · rintro f w done hall ⟨vs, hI⟩ hV
    have hlen : vs.length = steps.length := by
      rcases Nat.lt_or_ge vs.length steps.length with h | h
      · obtain ⟨i', hi'⟩ : ∃ i', steps[vs.length]? = some i' := ⟨_, List.getElem?_eq_getElem h⟩
        obtain ⟨⟨o2, h2, -⟩, -⟩ := chain_at hchain hi'
        have := (hI.so _ _ hi').1 (hall i' (Array.getElem?_eq_some_iff.1 h2).1)
        omega
      · have := hI.le; omega
    refine hend f w vs hlen hI.c (fun k i o t hk hi ho ht => ?_) hV
    rw [← hI.slots k i o t hk hi ho ht, putAll_tmps, if_pos]
    refine ⟨?_, ?_⟩
    · rw [← hl, dsts, List.mem_filterMap]
      exact ⟨o, by obtain ⟨h, rfl⟩ := Array.getElem?_eq_some_iff.1 ho; simp, ht⟩
    · rw [List.all_eq_true] at hdst
      have h1 := hdst o (by obtain ⟨h, rfl⟩ := Array.getElem?_eq_some_iff.1 ho; simp)
      rw [ht] at h1
      exact of_decide_eq_true h1
end

/-- An operation whose guard is met is as one that has none. -/
theorem wpList_met {P : Program} {ops : Array Oper} {Q : Exit → Act → World → Prop} {a : Act} {w : World} {rest : List Oper} {d : Option Tmp} {op : Op} {t : TypeId} {p : String} {af : Array Edge} {g : Option (Nat × Bool)}
    (hw : Region.wanted ⟨d, op, t, p, af, g⟩ (yielded ops a.tmps) = true) (h : wpList P ops Q (⟨d, op, t, p, af, none⟩ :: rest) a w) : wpList P ops Q (⟨d, op, t, p, af, g⟩ :: rest) a w := by
  unfold wpList at h ⊢
  rw [if_pos hw]
  rw [if_pos (by simp [Region.wanted])] at h
  exact h

end Go.Proofs.YtggokffdgjedgaaGreat
