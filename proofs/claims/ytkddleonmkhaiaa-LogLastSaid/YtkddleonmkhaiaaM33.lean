/-
  A slice of whole numbers that came in, as a list. (Split off XApart, which speaks of bits besides.)
  Stage 18: LogLast's array of what was put last of eight keys.
  Bytes with which no rune begins and none goes on are one rune, whichever they are: mathematics alone.
-/
import Derived.Test.YtkddleonmkhaiaaM02
import Derived.Test.YtkddleonmkhaiaaM31
import Derived.Test.YtkddleonmkhaiaaM32
namespace Go.Proofs.Ytkddleonmkhaiaa
open Go.RowKit

/-- A slice of whole numbers that came in. -/
theorem rv_of_row {k : IntKind} {w : World} {a : Option Addr} {len cap : Nat} {zs : List Int} (h : (a = none ∧ len = 0 ∧ cap = 0 ∧ zs = []) ∨
    ∃ x, a = some x ∧ len ≤ cap ∧ cap ≤ maxLen ∧ zs.length = cap ∧ (∀ i, i < zs.length → w.cell? (x.add i) = some (.int k (zs.getD i 0))) ∧ ∀ n ∈ zs, (Lit.int k n).wf = true) :
    ∃ Z : List Int, Z.length = len ∧ RV w (.slice a len cap) (Z.map (Value.int k)) ∧ len ≤ 9223372036854775807 ∧ ∀ z ∈ Z, (Lit.int k z).wf = true := by
  rcases h with ⟨rfl, rfl, rfl, rfl⟩ | ⟨x, rfl, hl, hmx, hz, hc, hw⟩
  · exact ⟨[], rfl, ⟨none, 0, rfl, Nat.le_refl _, by simp [maxLen], fun _ => rfl, fun h => absurd rfl h⟩, by omega, by simp⟩
  · have hlen : (zs.take len).length = len := by rw [List.length_take]; omega
    refine ⟨zs.take len, hlen, ⟨some x, cap, by rw [List.length_map, hlen], by rw [List.length_map, hlen]; exact hl, hmx, (fun h => by cases h), fun hne => ?_⟩, by unfold maxLen at hmx; omega, fun z hz => hw z (List.mem_of_mem_take hz)⟩
    have hpos : 0 < len := by
      rcases Nat.eq_zero_or_pos len with h0 | h0
      · subst h0; simp at hne
      · exact h0
    obtain ⟨b, o, spot⟩ := x
    have hspot : spot = none := by simpa [Addr.add] using World.cell?_spot (hc 0 (by omega))
    subst hspot
    refine ⟨b, o, rfl, fun i hi => ?_⟩
    rw [List.length_map, hlen] at hi
    have h1 := hc i (by omega)
    have hadd : (⟨b, o, none⟩ : Addr).add i = ⟨b, o + i, none⟩ := by unfold Addr.add; split <;> simp_all
    rw [hadd] at h1
    rw [h1]
    have hi' : i < zs.length := by omega
    simp [List.getD_eq_getElem?_getD, List.getElem?_eq_getElem hi']

end Go.Proofs.Ytkddleonmkhaiaa

namespace Go.Proofs.Ytkddleonmkhaiaa
open Go.RowKit

def nmK (k : Nat) : List UInt8 := [UInt8.ofNat (97 + k)]
theorem nmK_size (k : Nat) : (str (nmK k)).size = 1 := str_size _
theorem nmK_inj : ∀ j k : Fin 8, (nmK j.val = nmK k.val) → j = k := by decide
theorem nmK_iff {j k : Nat} (hj : j < 8) (hk : k < 8) : (str (nmK j)).toList = (str (nmK k)).toList ↔ j = k := by
  rw [ByteArray.toList_eq, ByteArray.toList_eq]
  show nmK j = nmK k ↔ j = k
  exact ⟨fun h => by simpa using congrArg Fin.val (nmK_inj ⟨j, hj⟩ ⟨k, hk⟩ h), fun h => by rw [h]⟩
/-- The record that the array tells of key k. -/
def recA (k : Nat) (z : Int) : RecT := if 0 < z then (str (nmK k), false, 1, z - 1, ⟨#[]⟩) else (str (nmK k), true, 0, 0, ⟨#[]⟩)
theorem recA_key (k : Nat) (z : Int) : (recA k z).1 = str (nmK k) := by unfold recA; split <;> rfl
def updA (A : Nat → Int) (j : Nat) (z : Int) : Nat → Int := fun k => if k = j then z else A k
def cntA (A : Nat → Int) : Nat := (List.range 8).countP fun k => decide (A k ≠ 0)
theorem cntA_eq (A : Nat → Int) : cntA A = (if A 0 ≠ 0 then 1 else 0) + (if A 1 ≠ 0 then 1 else 0) + (if A 2 ≠ 0 then 1 else 0) + (if A 3 ≠ 0 then 1 else 0) + (if A 4 ≠ 0 then 1 else 0) + (if A 5 ≠ 0 then 1 else 0) + (if A 6 ≠ 0 then 1 else 0) + (if A 7 ≠ 0 then 1 else 0) := by
  unfold cntA
  rw [show List.range 8 = [0, 1, 2, 3, 4, 5, 6, 7] from rfl]
  simp only [List.countP_cons, List.countP_nil, decide_eq_true_eq]
  omega
theorem cntA_upd (A : Nat → Int) {j : Nat} (hj : j < 8) {z : Int} (hz : z ≠ 0) : cntA (updA A j z) = if A j = 0 then cntA A + 1 else cntA A := by
  have e (k : Nat) : updA A j z k = if k = j then z else A k := rfl
  rw [cntA_eq, cntA_eq]
  simp only [e]
  rcases (by omega : j = 0 ∨ j = 1 ∨ j = 2 ∨ j = 3 ∨ j = 4 ∨ j = 5 ∨ j = 6 ∨ j = 7) with rfl | rfl | rfl | rfl | rfl | rfl | rfl | rfl <;> simp [hz] <;> split <;> simp_all <;> omega
theorem cntA_le (A : Nat → Int) : cntA A ≤ 8 := List.countP_le_length
theorem cntA_lt (A : Nat → Int) {j : Nat} (hj : j < 8) (h0 : A j = 0) : cntA A ≤ 7 := by
  have h := cntA_upd A hj (z := 1) (by omega)
  rw [if_pos h0] at h
  have := cntA_le (updA A j 1)
  omega

/-- The log's records are those that the array tells. -/
structure LS (A : Nat → Int) (L : List RecT) : Prop where
  has : ∀ k, k < 8 → findK keyR L (str (nmK k)).toList = if A k = 0 then none else some (recA k (A k))
  cnt : L.length = cntA A
  bnd : ∀ k, -41 ≤ A k ∧ A k ≤ 41
theorem LS.start : LS (fun _ => 0) [] := ⟨fun _ _ => rfl, rfl, fun _ => by omega⟩
theorem LS.room {A : Nat → Int} {L : List RecT} (h : LS A L) {j : Nat} (hj : j < 8) : roomR L (str (nmK j)) = true := by
  by_cases h0 : A j = 0
  · exact roomR_small (by rw [h.cnt]; exact cntA_lt A hj h0) _
  · unfold roomR
    rw [h.has j hj, if_neg h0]
    rfl
theorem LS.put {A : Nat → Int} {L : List RecT} (h : LS A L) (hL : KeysOk L) {j : Nat} (hj : j < 8) {z : Int} (hz : z ≠ 0) (hb : -41 ≤ z ∧ z ≤ 41) : LS (updA A j z) (putL L (recA j z)) := by
  have hkey : keyR (recA j z) = (str (nmK j)).toList := by unfold keyR; rw [recA_key]
  refine ⟨fun k hk => ?_, ?_, fun k => ?_⟩
  · rw [find_put hL, hkey, h.has k hk]
    unfold updA
    by_cases e : k = j
    · subst e; simp [hz]
    · rw [if_neg (fun g => e ((nmK_iff hj hk).1 g).symm), if_neg e]
  · rw [cntA_upd A hj hz, ← h.cnt]
    by_cases h0 : A j = 0
    · rw [if_pos h0, putL_new (fun y hy e => ?_)]
      · simp
      · have := h.has j hj
        rw [if_pos h0] at this
        exact (find_none _).1 this y hy (e.trans hkey)
    · rw [if_neg h0, len_put_in hL]
      have := h.has j hj
      rw [if_neg h0, find_iff hL] at this
      exact ⟨_, this.1, this.2.trans hkey.symm⟩
  · unfold updA
    split
    · exact hb
    · exact h.bnd k

/-! ### The array in memory. -/
def rowA (A : Nat → Int) : Array Value := #[.int .i64 (A 0), .int .i64 (A 1), .int .i64 (A 2), .int .i64 (A 3), .int .i64 (A 4), .int .i64 (A 5), .int .i64 (A 6), .int .i64 (A 7)]
theorem rowA_at (A : Nat → Int) (k : Nat) (hk : k < 8) : (rowA A)[k]? = some (.int .i64 (A k)) := by
  rcases (by omega : k = 0 ∨ k = 1 ∨ k = 2 ∨ k = 3 ∨ k = 4 ∨ k = 5 ∨ k = 6 ∨ k = 7) with rfl | rfl | rfl | rfl | rfl | rfl | rfl | rfl <;> rfl
theorem rowA_set (A : Nat → Int) (k : Nat) (hk : k < 8) (z : Int) : (rowA A).setIfInBounds k (.int .i64 z) = rowA (updA A k z) := by
  rcases (by omega : k = 0 ∨ k = 1 ∨ k = 2 ∨ k = 3 ∨ k = 4 ∨ k = 5 ∨ k = 6 ∨ k = 7) with rfl | rfl | rfl | rfl | rfl | rfl | rfl | rfl <;> rfl
theorem idxA8 (q k : Nat) (hk : k < 8) (W : World) : (Instr.indexAt 43 (.pointer (some ⟨q, 0, none⟩)) (.int .i64 (k : Int))).run Try.prog W = .ok (.pointer (some ⟨q, k, none⟩)) W := by
  have hu : Try.prog.underlying 43 = some (.array 8 3) := by kernel_rfl
  have hs : (Try.prog.info? 3).map (fun i => i.size) = some 1 := by kernel_rfl
  have h8 : ¬ 8 ≤ k := by omega
  have h8' : (k : Int) < 8 := by omega
  cases hi : Try.prog.info? 3 with
  | none => rw [hi] at hs; cases hs
  | some i =>
    rw [hi] at hs
    have hs' : i.size = 1 := by simpa using hs
    simp [Instr.indexAt, run_underlying hu, Instr.sureAddr, asIntOf, h8, sizeOf, typeInfo, hi, hs', Result.andThen, Addr.add_mid]
theorem t8Log : 43 ≠ 51 ∧ 43 ≠ 73 ∧ 43 ≠ 26 := by decide
section
variable {w w' : World} {B p d q : Nat} {v : Value} {L : List RecT} {cs : Array Value} {fr : Nat × Nat} {t : TypeId}
/-- A block of another type is none of a log's. -/
theorem LG.other (h : LG w B p d v L) (hq : w.heap[q]? = some (.cells cs t fr)) (ht : t ≠ 51 ∧ t ≠ 73 ∧ t ≠ 26) : q ≠ p ∧ q ≠ d ∧ v.ownBlock ≠ some q := by
  refine ⟨?_, ?_, fun e => ?_⟩
  · rintro rfl
    rw [h.row] at hq
    simp only [Option.some.injEq, Obj.cells.injEq] at hq
    exact ht.1 hq.2.1.symm
  · rintro rfl
    obtain ⟨T, hc, -⟩ := h.ck
    obtain ⟨cs2, fr2, hr⟩ := hc.row
    rw [hr] at hq
    simp only [Option.some.injEq, Obj.cells.injEq] at hq
    exact ht.2.1 hq.2.1.symm
  · obtain ⟨cs2, fr2, hr⟩ := rec_type h.own e
    rw [hr] at hq
    simp only [Option.some.injEq, Obj.cells.injEq] at hq
    exact ht.2.2 hq.2.1.symm
theorem LG.keptBlk (_h : LG w B p d v L) (ho : Off3 p d v.ownBlock w w') (hq : w.heap[q]? = some (.cells cs t fr)) (hn : q ≠ p ∧ q ≠ d ∧ v.ownBlock ≠ some q) : w'.heap[q]? = some (.cells cs t fr) :=
  (ho.block q (Array.getElem?_eq_some_iff.1 hq).1 hn.1 hn.2.1 (fun e => hn.2.2 e.symm)).trans hq
/-- A cell of such a block is stored. -/
theorem LG.aside (h : LG w B p d v L) (hn : q ≠ p ∧ q ≠ d ∧ v.ownBlock ≠ some q) (o : Nat) (u : Value) : LG (w.setCell ⟨q, o, none⟩ u) B p d v L :=
  h.same (Below.heap_setCell _ _ _ _ (Ne.symm hn.1)) (Below.heap_setCell _ _ _ _ (Ne.symm hn.2.1)) fun g hg => Below.heap_setCell _ _ _ _ (by rintro rfl; exact hn.2.2 hg)
theorem rowA_store {A : Nat → Int} (hq : w.heap[q]? = some (.cells (rowA A) t fr)) {k : Nat} (hk : k < 8) (z : Int) : (w.setCell ⟨q, k, none⟩ (.int .i64 z)).heap[q]? = some (.cells (rowA (updA A k z)) t fr) := by
  unfold World.setCell
  rw [Array.getElem?_modify, if_pos rfl, hq]
  simp only [Option.map_some, Option.some.injEq]
  rw [rowA_set A k hk z]
  simp
end
theorem mod8 (z : Int) : ∃ (T : Int) (k : Nat), z.tmod 8 = T ∧ -8 < T ∧ T < 8 ∧ (T + 8).tmod 8 = (k : Int) ∧ k < 8 := by
  refine ⟨z.tmod 8, ((z.tmod 8 + 8).tmod 8).toNat, rfl, ?_⟩
  have h1 : -8 < z.tmod 8 ∧ z.tmod 8 < 8 := by
    have h2 := Int.tmod_lt_of_pos z (show (0 : Int) < 8 by omega)
    have h3 := Int.lt_tmod_of_pos z (show (0 : Int) < 8 by omega)
    omega
  refine ⟨h1.1, h1.2, ?_⟩
  rw [Int.tmod_eq_emod_of_nonneg (by omega)]
  omega

end Go.Proofs.Ytkddleonmkhaiaa

namespace Go.Proofs.Ytkddleonmkhaiaa

/-- No rune begins with it, none goes on by it. -/
def never (x : UInt8) : Prop := 248 ≤ x.toNat ∨ x.toNat = 192 ∨ x.toNat = 193

theorem dec_at (l : List UInt8) : (dr l, dw l) =
    (if (l.getD 0 0).toNat < 128 then ((l.getD 0 0).toNat, 1)
     else if ((l.getD 0 0).toNat / 32 == 6 && (decide (1 < l.length) && (l.getD 1 0).toNat / 64 == 2)) = true then
       if (l.getD 0 0).toNat % 32 * 64 + (l.getD 1 0).toNat % 64 ≥ 128 then ((l.getD 0 0).toNat % 32 * 64 + (l.getD 1 0).toNat % 64, 2) else (65533, 1)
     else if ((l.getD 0 0).toNat / 16 == 14 && (decide (1 < l.length) && (l.getD 1 0).toNat / 64 == 2) && (decide (2 < l.length) && (l.getD 2 0).toNat / 64 == 2)) = true then
       if ((l.getD 0 0).toNat % 16 * 4096 + (l.getD 1 0).toNat % 64 * 64 + (l.getD 2 0).toNat % 64 ≥ 2048 && Utf8.valid (((l.getD 0 0).toNat % 16 * 4096 + (l.getD 1 0).toNat % 64 * 64 + (l.getD 2 0).toNat % 64 : Nat) : Int)) = true then ((l.getD 0 0).toNat % 16 * 4096 + (l.getD 1 0).toNat % 64 * 64 + (l.getD 2 0).toNat % 64, 3) else (65533, 1)
     else if ((l.getD 0 0).toNat / 8 == 30 && (decide (1 < l.length) && (l.getD 1 0).toNat / 64 == 2) && (decide (2 < l.length) && (l.getD 2 0).toNat / 64 == 2) && (decide (3 < l.length) && (l.getD 3 0).toNat / 64 == 2)) = true then
       if ((l.getD 0 0).toNat % 8 * 262144 + (l.getD 1 0).toNat % 64 * 4096 + (l.getD 2 0).toNat % 64 * 64 + (l.getD 3 0).toNat % 64 ≥ 65536 && Utf8.valid (((l.getD 0 0).toNat % 8 * 262144 + (l.getD 1 0).toNat % 64 * 4096 + (l.getD 2 0).toNat % 64 * 64 + (l.getD 3 0).toNat % 64 : Nat) : Int)) = true then ((l.getD 0 0).toNat % 8 * 262144 + (l.getD 1 0).toNat % 64 * 4096 + (l.getD 2 0).toNat % 64 * 64 + (l.getD 3 0).toNat % 64, 4) else (65533, 1)
     else (65533, 1)) := by
  have hg : ∀ k, (str l).get! (0 + k) = l.getD k 0 := fun k => get_str l k
  have hs : ∀ k, (0 + k < (str l).size) = (k < l.length) := by intro k; rw [str_size, Nat.zero_add]
  unfold dr dw Utf8.decode
  simp only [hg, hs, Utf8.runeError]

theorem never_not {x : UInt8} (h : never x) : (x.toNat / 64 == 2) = false ∧ ¬ x.toNat < 128 ∧ (x.toNat / 16 == 14) = false ∧ (x.toNat / 8 == 30) = false := by
  rcases h with h | h | h
  · have hx := x.toNat_lt
    simp only [beq_eq_false_iff_ne]
    omega
  · rw [h]; decide
  · rw [h]; decide

theorem dec_never {x : UInt8} (h : never x) (v : List UInt8) : (dr (x :: v), dw (x :: v)) = (65533, 1) := by
  obtain ⟨h1, h2, h3, h4⟩ := never_not h
  rw [dec_at]
  simp only [List.getD_cons_zero, h2, h3, h4, Bool.false_and, if_false, Bool.false_eq_true]
  split
  · rename_i h5
    rcases h with h | h | h
    · exfalso
      have hx := x.toNat_lt
      simp only [Bool.and_eq_true, beq_iff_eq] at h5
      omega
    · rw [if_neg (by rw [h]; omega)]
    · rw [if_neg (by rw [h]; have : ((x :: v).getD 1 0).toNat % 64 < 64 := Nat.mod_lt _ (by omega); omega)]
  · rfl

/-- What is decoded ahead of such a byte does not hang on which it is, and does not take it. -/
theorem dec_ahead {x y : UInt8} (hx : never x) (hy : never y) : ∀ (u v : List UInt8), u ≠ [] → dr (u ++ x :: v) = dr (u ++ y :: v) ∧ dw (u ++ x :: v) = dw (u ++ y :: v) ∧ dw (u ++ x :: v) ≤ u.length := by
  intro u v hu
  obtain ⟨x1, x2, x3, x4⟩ := never_not hx
  obtain ⟨y1, y2, y3, y4⟩ := never_not hy
  have ex := dec_at (u ++ x :: v)
  have ey := dec_at (u ++ y :: v)
  match u, hu with
  | [a], _ =>
    simp only [List.cons_append, List.nil_append, List.getD_cons_zero, List.getD_cons_succ, x1, Bool.and_false, Bool.false_and, if_false, Bool.false_eq_true] at ex
    simp only [List.cons_append, List.nil_append, List.getD_cons_zero, List.getD_cons_succ, y1, Bool.and_false, Bool.false_and, if_false, Bool.false_eq_true] at ey
    simp only [List.cons_append, List.nil_append]
    split at ex <;> split at ey <;> simp_all
  | [a, b], _ =>
    simp only [List.cons_append, List.nil_append, List.getD_cons_zero, List.getD_cons_succ, x1, Bool.and_false, Bool.false_and, if_false, Bool.false_eq_true, List.length_cons] at ex
    simp only [List.cons_append, List.nil_append, List.getD_cons_zero, List.getD_cons_succ, y1, Bool.and_false, Bool.false_and, if_false, Bool.false_eq_true, List.length_cons] at ey
    simp only [List.cons_append, List.nil_append]
    have h := ex.trans ey.symm
    simp only [Prod.mk.injEq] at h
    refine ⟨h.1, h.2, ?_⟩
    split at ex
    · (simp only [Prod.mk.injEq] at ex; simp only [List.length_cons, List.length_nil]; omega)
    · split at ex
      · split at ex <;> (simp only [Prod.mk.injEq] at ex; simp only [List.length_cons, List.length_nil]; omega)
      · (simp only [Prod.mk.injEq] at ex; simp only [List.length_cons, List.length_nil]; omega)
  | [a, b, c], _ =>
    simp only [List.cons_append, List.nil_append, List.getD_cons_zero, List.getD_cons_succ, x1, Bool.and_false, if_false, Bool.false_eq_true, List.length_cons] at ex
    simp only [List.cons_append, List.nil_append, List.getD_cons_zero, List.getD_cons_succ, y1, Bool.and_false, if_false, Bool.false_eq_true, List.length_cons] at ey
    simp only [List.cons_append, List.nil_append]
    have h := ex.trans ey.symm
    simp only [Prod.mk.injEq] at h
    refine ⟨h.1, h.2, ?_⟩
    split at ex
    · (simp only [Prod.mk.injEq] at ex; simp only [List.length_cons, List.length_nil]; omega)
    · split at ex
      · split at ex <;> (simp only [Prod.mk.injEq] at ex; simp only [List.length_cons, List.length_nil]; omega)
      · split at ex
        · split at ex <;> (simp only [Prod.mk.injEq] at ex; simp only [List.length_cons, List.length_nil]; omega)
        · (simp only [Prod.mk.injEq] at ex; simp only [List.length_cons, List.length_nil]; omega)
  | a :: b :: c :: d :: u', _ =>
    simp only [List.cons_append, List.getD_cons_zero, List.getD_cons_succ, List.length_cons, List.length_append] at ex ey
    simp only [List.cons_append]
    have h := ex.trans ey.symm
    simp only [Prod.mk.injEq] at h
    refine ⟨h.1, h.2, ?_⟩
    have := (dw_le (a :: b :: c :: d :: (u' ++ x :: v)) (by simp)).2.1
    simp only [List.length_cons]
    omega

theorem runes_never {x y : UInt8} (hx : never x) (hy : never y) (v : List UInt8) : ∀ (n : Nat) (u : List UInt8), u.length ≤ n → runesOf (toks (u ++ x :: v)) = runesOf (toks (u ++ y :: v)) := by
  have base : runesOf (toks (x :: v)) = runesOf (toks (y :: v)) := by
    have e1 := dec_never hx v
    have e2 := dec_never hy v
    simp only [Prod.mk.injEq] at e1 e2
    rw [toks_cons (l := x :: v) (by simp), toks_cons (l := y :: v) (by simp), e1.1, e1.2, e2.1, e2.2]
    rfl
  intro n
  induction n with
  | zero =>
    intro u hu
    obtain rfl : u = [] := List.eq_nil_of_length_eq_zero (by omega)
    exact base
  | succ n ih =>
    intro u hu
    by_cases h0 : u = []
    · subst h0; exact base
    · obtain ⟨e1, e2, e3⟩ := dec_ahead hx hy u v h0
      have hne (z : UInt8) : u ++ z :: v ≠ [] := by simp
      have hw := (dw_le (u ++ x :: v) (hne x)).1
      rw [toks_cons (hne x), toks_cons (hne y), ← e1, ← e2, List.drop_append_of_le_length e3, List.drop_append_of_le_length e3]
      unfold runesOf at *
      rw [List.map_cons, List.map_cons, ih (u.drop (dw (u ++ x :: v))) (by rw [List.length_drop]; omega)]

end Go.Proofs.Ytkddleonmkhaiaa
