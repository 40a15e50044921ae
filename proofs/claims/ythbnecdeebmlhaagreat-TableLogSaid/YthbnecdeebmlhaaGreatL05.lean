/-
  Stage 18 (and 19): the reference's tables of records: eight buckets of four slots, six cells each (does one lie there? the record's five).
  Stage 19: the program's tables: eight buckets of four slots, six cells each.
  Stage 18 (and 19): the reference's MayTable, Records.
  Stage 18 (and 19): the reference's Records of a table.
  What a value holds.
  The contract of strings.HasPrefix.
  The contract of runes.Valid.
  Package value: contract of textMay.
  The contract of strings.Clone.
  Package value: contract of Of.
  Package key: contract of May.
  Package record: contracts of valMay, May, Eq.
-/
import Derived.Test.YthbnecdeebmlhaaGreatL04
import Derived.Deep.MidRow
import Derived.BigQuiet
import Derived.Deep.DeepCutAuto
import Derived.LoopTactic
import Derived.Test.YthbnecdeebmlhaaGreatL02
import Derived.Test.YthbnecdeebmlhaaGreatL01
import Derived.Lib.UnsafeStr
import Derived.Lib.BufferWrite
import Derived.Test.YthbnecdeebmlhaaGreatL03
namespace Go.Proofs.YthbnecdeebmlhaaGreat
open Go.RowKit

/-- A table: of each slot whether a record lies there, and which. -/
abbrev TabT := Nat → Bool × RecT
def enc6 (y : Bool × RecT) : List Value := .bool y.1 :: rc5 y.2
theorem enc6_len (y : Bool × RecT) : (enc6 y).length = 6 := rfl
theorem enc6_one (y : Bool × RecT) : ∀ v ∈ enc6 y, v.oneCell' = true := by
  intro v hv
  simp only [enc6, rc5, List.mem_cons, List.not_mem_nil, or_false] at hv
  rcases hv with rfl | rfl | rfl | rfl | rfl | rfl <;> rfl
def tabL (TT : TabT) (n : Nat) : List Value := (List.range n).flatMap fun q => enc6 (TT q)
theorem tabL_succ (TT : TabT) (n : Nat) : tabL TT (n + 1) = tabL TT n ++ enc6 (TT n) := by
  unfold tabL
  rw [List.range_succ, List.flatMap_append]
  simp
theorem tabL_len (TT : TabT) : ∀ n, (tabL TT n).length = 6 * n
  | 0 => rfl
  | n + 1 => by rw [tabL_succ, List.length_append, tabL_len TT n, enc6_len]; omega
theorem tabL_at (TT : TabT) : ∀ (n q j : Nat), q < n → j < 6 → (tabL TT n)[6 * q + j]? = (enc6 (TT q))[j]?
  | 0, q, j, h, _ => absurd h (by omega)
  | n + 1, q, j, h, hj => by
    rw [tabL_succ]
    by_cases hq : q < n
    · rw [List.getElem?_append_left (by rw [tabL_len]; omega)]
      exact tabL_at TT n q j hq hj
    · obtain rfl : q = n := by omega
      rw [List.getElem?_append_right (by rw [tabL_len]; omega), tabL_len, show 6 * q + j - 6 * q = j by omega]

/-- Block g is a table. -/
structure TK (w : World) (g : Nat) (TT : TabT) : Prop where
  row : ∃ cs fr, w.heap[g]? = some (.cells cs 33 fr)
  fr : ∀ o, w.frozen? ⟨g, o, none⟩ = false
  cell : ∀ q j, q < 32 → j < 6 → w.cell? ⟨g, 6 * q + j, none⟩ = (enc6 (TT q))[j]?
section
variable {w w' : World} {g : Nat} {TT : TabT}
theorem TK.same (h : TK w g TT) (hb : w'.heap[g]? = w.heap[g]?) : TK w' g TT := by
  obtain ⟨cs, fr, hr⟩ := h.row
  refine ⟨⟨cs, fr, hb.trans hr⟩, fun o => ?_, fun q j hq hj => (World.cell?_of_block (w := w) (a := ⟨g, 6 * q + j, none⟩) hb).trans (h.cell q j hq hj)⟩
  have e := h.fr o
  unfold World.frozen? at e ⊢
  simp only [] at e ⊢
  rw [hb]
  exact e
theorem TK.lt (h : TK w g TT) : g < w.heap.size := by obtain ⟨cs, fr, hr⟩ := h.row; exact (Array.getElem?_eq_some_iff.1 hr).1
theorem TK.below (h : TK w g TT) (hb : Below w.heap.size w w') : TK w' g TT := h.same (hb.block g h.lt)
theorem TK.at (h : TK w g TT) {b s : Nat} (hb : b < 8) (hs : s < 4) : w.cell? ⟨g, 24 * b + 6 * s, none⟩ = some (.bool (TT (4 * b + s)).1) ∧ w.cell? ⟨g, 24 * b + 6 * s + 1, none⟩ = some (.string (TT (4 * b + s)).2.1) ∧ w.cell? ⟨g, 24 * b + 6 * s + 2, none⟩ = some (.bool (TT (4 * b + s)).2.2.1) ∧ w.cell? ⟨g, 24 * b + 6 * s + 3, none⟩ = some (.int .i64 (TT (4 * b + s)).2.2.2.1) ∧ w.cell? ⟨g, 24 * b + 6 * s + 4, none⟩ = some (.int .i64 (TT (4 * b + s)).2.2.2.2.1) ∧ w.cell? ⟨g, 24 * b + 6 * s + 5, none⟩ = some (.string (TT (4 * b + s)).2.2.2.2.2) := by
  have c := fun j hj => h.cell (4 * b + s) j (by omega) hj
  rw [show 6 * (4 * b + s) = 24 * b + 6 * s by omega] at c
  exact ⟨c 0 (by omega), c 1 (by omega), c 2 (by omega), c 3 (by omega), c 4 (by omega), c 5 (by omega)⟩
theorem TK.range (h : TK w g TT) : w.rangeAt g 0 (tabL TT 32) := by
  intro k v hv
  have hk : k < (tabL TT 32).length := (List.getElem?_eq_some_iff.1 hv).1
  rw [tabL_len] at hk
  have e := tabL_at TT 32 (k / 6) (k % 6) (by omega) (by omega)
  rw [show 6 * (k / 6) + k % 6 = k by omega, hv] at e
  have c := h.cell (k / 6) (k % 6) (by omega) (by omega)
  rw [show 6 * (k / 6) + k % 6 = k by omega] at c
  rw [Nat.zero_add, c]
  exact e.symm
theorem TK.new (w : World) (TT : TabT) : TK (w.alloc (.cells (tabL TT 32).toArray 33)) w.heap.size TT := by
  have hh := heap_alloc_new w (.cells (tabL TT 32).toArray 33)
  refine ⟨⟨_, _, hh⟩, fun o => frozen_of_row _ _ _ _ _ hh, fun q j hq hj => ?_⟩
  rw [cell_of_row _ _ _ _ _ _ hh, List.getElem?_toArray]
  exact tabL_at TT 32 q j hq hj
theorem TK.there (h : TK w g TT) {q : Nat} (hq : q < 32) : w.there g (6 * q) 6 := fun j hj => by
  refine ⟨?_, h.fr _⟩
  rw [h.cell q j hq hj, List.getElem?_eq_getElem (show j < (enc6 (TT q)).length from hj)]
  rfl
def setT (TT : TabT) (q : Nat) (y : Bool × RecT) : TabT := fun k => if k = q then y else TT k
theorem setCells_type : ∀ (vs : List Value) (w : World) (b o : Nat) {t : TypeId}, (∃ cs fr, w.heap[b]? = some (.cells cs t fr)) → ∃ cs fr, (w.setCells b o vs).heap[b]? = some (.cells cs t fr)
  | [], w, b, o, _, h => h
  | v :: r, w, b, o, t, h => by
    rw [World.setCells]
    refine setCells_type r _ _ _ ?_
    obtain ⟨cs, fr, h⟩ := h
    unfold World.setCell
    rw [Array.getElem?_modify, if_pos rfl, h]
    exact ⟨_, _, rfl⟩
/-- A slot is stored. -/
theorem TK.set (h : TK w g TT) {q : Nat} (hq : q < 32) (y : Bool × RecT) : TK (w.setCells g (6 * q) (enc6 y)) g (setT TT q y) := by
  refine ⟨setCells_type _ _ _ _ h.row, fun o => by rw [World.frozen?_setCells]; exact h.fr o, fun k j hk hj => ?_⟩
  unfold setT
  by_cases e : k = q
  · subst e
    rw [if_pos rfl]
    have := World.cell?_setCells_in g (enc6 y) (6 * k) w (fun i hi => by
      rw [h.cell k i hk hi, List.getElem?_eq_getElem (show i < (enc6 (TT k)).length from hi)]
      rfl) j hj
    rw [this]
    exact (List.getElem?_eq_getElem hj).symm
  · rw [if_neg e]
    rw [World.cell?_setCells_out g (enc6 y) (6 * q) w ⟨g, 6 * k + j, none⟩ (fun _ hh => ?_)]
    · exact h.cell k j hk hj
    · simp only [enc6_len] at hh ⊢
      omega
end
theorem idxT (g b : Nat) (hb : b < 8) (W : World) : (Instr.indexAt 33 (.pointer (some ⟨g, 0, none⟩)) (.int .i64 (b : Int))).run Tryz.prog W = .ok (.pointer (some ⟨g, 24 * b, none⟩)) W := by
  have hu : Tryz.prog.underlying 33 = some (.array 8 31) := by kernel_rfl
  have hs : (Tryz.prog.info? 31).map (fun i => i.size) = some 24 := by kernel_rfl
  have h8 : ¬ 8 ≤ b := by omega
  have h8' : (b : Int) < 8 := by omega
  cases hi : Tryz.prog.info? 31 with
  | none => rw [hi] at hs; cases hs
  | some i =>
    rw [hi] at hs
    have hs' : i.size = 24 := by simpa using hs
    simp [Instr.indexAt, run_underlying hu, Instr.sureAddr, asIntOf, h8, sizeOf, typeInfo, hi, hs', Result.andThen, Addr.add_mid, Nat.mul_comm]
theorem idxT2 (g o s : Nat) (hs4 : s < 4) (W : World) : (Instr.indexAt 31 (.pointer (some ⟨g, o, none⟩)) (.int .i64 (s : Int))).run Tryz.prog W = .ok (.pointer (some ⟨g, o + 6 * s, none⟩)) W := by
  have hu : Tryz.prog.underlying 31 = some (.array 4 30) := by kernel_rfl
  have hs : (Tryz.prog.info? 30).map (fun i => i.size) = some 6 := by kernel_rfl
  have h8 : ¬ 4 ≤ s := by omega
  have h8' : (s : Int) < 4 := by omega
  cases hi : Tryz.prog.info? 30 with
  | none => rw [hi] at hs; cases hs
  | some i =>
    rw [hi] at hs
    have hs' : i.size = 6 := by simpa using hs
    simp [Instr.indexAt, run_underlying hu, Instr.sureAddr, asIntOf, h8, sizeOf, typeInfo, hi, hs', Result.andThen, Addr.add_mid, Nat.mul_comm]
theorem infoT : (Tryz.prog.info? 33).map (fun i => (i.zero, i.size)) = some (some (.agg (tabL (fun _ => (false, nullR)) 32).toArray), 192) := by kernel_rfl
theorem zero_tab (W : World) : (zeroValue 33).run Tryz.prog W = .ok (.agg (tabL (fun _ => (false, nullR)) 32).toArray) W := by
  have h := infoT
  cases hi : Tryz.prog.info? 33 with
  | none => rw [hi] at h; cases h
  | some i =>
    rw [hi] at h
    simp only [Option.map_some, Option.some.injEq, Prod.mk.injEq] at h
    simp [zeroValue, typeInfo, hi, h.1]
theorem sizeTab (TT : TabT) : (Tryz.prog.info? 33).map (·.size) = some (tabL TT 32).length := by
  rw [tabL_len]
  kernel_rfl

/-! ### Which table may be; its records. -/
def hasT (TT : TabT) (q : Nat) : Option RecT := if (TT q).1 then some (TT q).2 else none
def keysT (TT : TabT) (n : Nat) : List ByteArray := ((List.range n).filterMap (hasT TT)).map Prod.fst
def okSlot (TT : TabT) (q : Nat) : Bool :=
  if (TT q).1 then mayT (TT q).2 && (q / 4 == firstN (hR (TT q).2) || q / 4 == othN (firstN (hR (TT q).2)) (tagN (hR (TT q).2))) && !(keysT TT q).any fun k => decide (k = (TT q).2.1)
  else decide ((TT q).2 = nullR)
def okTo (TT : TabT) (n : Nat) : Bool := (List.range n).all (okSlot TT)
theorem okTo_succ (TT : TabT) (n : Nat) : okTo TT (n + 1) = (okTo TT n && okSlot TT n) := by unfold okTo; rw [List.range_succ, List.all_append]; simp
theorem okTo_bad {TT : TabT} {q n : Nat} (h : okSlot TT q = false) (hq : q < n) : okTo TT n = false := by
  unfold okTo
  rw [List.all_eq_false]
  exact ⟨q, List.mem_range.2 hq, by simp [h]⟩
def recsT (TT : TabT) (n : Nat) : List RecT := (List.range n).filterMap (hasT TT)
theorem recsT_succ (TT : TabT) (n : Nat) : recsT TT (n + 1) = recsT TT n ++ (if (TT n).1 then [(TT n).2] else []) := by
  unfold recsT hasT
  rw [List.range_succ, List.filterMap_append]
  cases h : (TT n).1 <;> simp [h]
theorem recsT_len (TT : TabT) : ∀ n, (recsT TT n).length ≤ n
  | 0 => by simp [recsT]
  | n + 1 => by
    have := recsT_len TT n
    rw [recsT_succ, List.length_append]
    split <;> simp <;> omega

end Go.Proofs.YthbnecdeebmlhaaGreat

namespace Go.Proofs.YthbnecdeebmlhaaGreat
open Go.RowKit

/-- Block g is a table. -/
structure TO (w : World) (g : Nat) (TT : TabT) : Prop where
  row : ∃ cs fr, w.heap[g]? = some (.cells cs 43 fr)
  fr : ∀ o, w.frozen? ⟨g, o, none⟩ = false
  cell : ∀ q j, q < 32 → j < 6 → w.cell? ⟨g, 6 * q + j, none⟩ = (enc6 (TT q))[j]?
section
variable {w w' : World} {g : Nat} {TT : TabT}
theorem TO.same (h : TO w g TT) (hb : w'.heap[g]? = w.heap[g]?) : TO w' g TT := by
  obtain ⟨cs, fr, hr⟩ := h.row
  refine ⟨⟨cs, fr, hb.trans hr⟩, fun o => ?_, fun q j hq hj => (World.cell?_of_block (w := w) (a := ⟨g, 6 * q + j, none⟩) hb).trans (h.cell q j hq hj)⟩
  have e := h.fr o
  unfold World.frozen? at e ⊢
  simp only [] at e ⊢
  rw [hb]
  exact e
theorem TO.lt (h : TO w g TT) : g < w.heap.size := by obtain ⟨cs, fr, hr⟩ := h.row; exact (Array.getElem?_eq_some_iff.1 hr).1
theorem TO.below (h : TO w g TT) (hb : Below w.heap.size w w') : TO w' g TT := h.same (hb.block g h.lt)
theorem TO.at (h : TO w g TT) {b s : Nat} (hb : b < 8) (hs : s < 4) : w.cell? ⟨g, 24 * b + 6 * s, none⟩ = some (.bool (TT (4 * b + s)).1) ∧ w.cell? ⟨g, 24 * b + 6 * s + 1, none⟩ = some (.string (TT (4 * b + s)).2.1) ∧ w.cell? ⟨g, 24 * b + 6 * s + 2, none⟩ = some (.bool (TT (4 * b + s)).2.2.1) ∧ w.cell? ⟨g, 24 * b + 6 * s + 3, none⟩ = some (.int .i64 (TT (4 * b + s)).2.2.2.1) ∧ w.cell? ⟨g, 24 * b + 6 * s + 4, none⟩ = some (.int .i64 (TT (4 * b + s)).2.2.2.2.1) ∧ w.cell? ⟨g, 24 * b + 6 * s + 5, none⟩ = some (.string (TT (4 * b + s)).2.2.2.2.2) := by
  have c := fun j hj => h.cell (4 * b + s) j (by omega) hj
  rw [show 6 * (4 * b + s) = 24 * b + 6 * s by omega] at c
  exact ⟨c 0 (by omega), c 1 (by omega), c 2 (by omega), c 3 (by omega), c 4 (by omega), c 5 (by omega)⟩
theorem TO.range (h : TO w g TT) : w.rangeAt g 0 (tabL TT 32) := by
  intro k v hv
  have hk : k < (tabL TT 32).length := (List.getElem?_eq_some_iff.1 hv).1
  rw [tabL_len] at hk
  have e := tabL_at TT 32 (k / 6) (k % 6) (by omega) (by omega)
  rw [show 6 * (k / 6) + k % 6 = k by omega, hv] at e
  have c := h.cell (k / 6) (k % 6) (by omega) (by omega)
  rw [show 6 * (k / 6) + k % 6 = k by omega] at c
  rw [Nat.zero_add, c]
  exact e.symm
theorem TO.new (w : World) (TT : TabT) : TO (w.alloc (.cells (tabL TT 32).toArray 43)) w.heap.size TT := by
  have hh := heap_alloc_new w (.cells (tabL TT 32).toArray 43)
  refine ⟨⟨_, _, hh⟩, fun o => frozen_of_row _ _ _ _ _ hh, fun q j hq hj => ?_⟩
  rw [cell_of_row _ _ _ _ _ _ hh, List.getElem?_toArray]
  exact tabL_at TT 32 q j hq hj
theorem TO.there (h : TO w g TT) {q : Nat} (hq : q < 32) : w.there g (6 * q) 6 := fun j hj => by
  refine ⟨?_, h.fr _⟩
  rw [h.cell q j hq hj, List.getElem?_eq_getElem (show j < (enc6 (TT q)).length from hj)]
  rfl
/-- A slot of it is stored. -/
theorem TO.set (h : TO w g TT) {q : Nat} (hq : q < 32) (y : Bool × RecT) : TO (w.setCells g (6 * q) (enc6 y)) g (setT TT q y) := by
  refine ⟨setCells_type _ _ _ _ h.row, fun o => by rw [World.frozen?_setCells]; exact h.fr o, fun k j hk hj => ?_⟩
  unfold setT
  by_cases e : k = q
  · subst e
    rw [if_pos rfl]
    have := World.cell?_setCells_in g (enc6 y) (6 * k) w (fun i hi => by
      rw [h.cell k i hk hi, List.getElem?_eq_getElem (show i < (enc6 (TT k)).length from hi)]
      rfl) j hj
    rw [this]
    exact (List.getElem?_eq_getElem hj).symm
  · rw [if_neg e]
    rw [World.cell?_setCells_out g (enc6 y) (6 * q) w ⟨g, 6 * k + j, none⟩ (fun _ hh => ?_)]
    · exact h.cell k j hk hj
    · simp only [enc6_len] at hh ⊢
      omega
end
theorem idxO (g b : Nat) (hb : b < 8) (W : World) : (Instr.indexAt 43 (.pointer (some ⟨g, 0, none⟩)) (.int .i64 (b : Int))).run Tryz.prog W = .ok (.pointer (some ⟨g, 24 * b, none⟩)) W := by
  have hu : Tryz.prog.underlying 43 = some (.array 8 41) := by kernel_rfl
  have hs : (Tryz.prog.info? 41).map (fun i => i.size) = some 24 := by kernel_rfl
  have h8 : ¬ 8 ≤ b := by omega
  have h8' : (b : Int) < 8 := by omega
  cases hi : Tryz.prog.info? 41 with
  | none => rw [hi] at hs; cases hs
  | some i =>
    rw [hi] at hs
    have hs' : i.size = 24 := by simpa using hs
    simp [Instr.indexAt, run_underlying hu, Instr.sureAddr, asIntOf, h8, sizeOf, typeInfo, hi, hs', Result.andThen, Addr.add_mid, Nat.mul_comm]
theorem idxO2 (g o s : Nat) (hs4 : s < 4) (W : World) : (Instr.indexAt 41 (.pointer (some ⟨g, o, none⟩)) (.int .i64 (s : Int))).run Tryz.prog W = .ok (.pointer (some ⟨g, o + 6 * s, none⟩)) W := by
  have hu : Tryz.prog.underlying 41 = some (.array 4 40) := by kernel_rfl
  have hs : (Tryz.prog.info? 40).map (fun i => i.size) = some 6 := by kernel_rfl
  have h8 : ¬ 4 ≤ s := by omega
  have h8' : (s : Int) < 4 := by omega
  cases hi : Tryz.prog.info? 40 with
  | none => rw [hi] at hs; cases hs
  | some i =>
    rw [hi] at hs
    have hs' : i.size = 6 := by simpa using hs
    simp [Instr.indexAt, run_underlying hu, Instr.sureAddr, asIntOf, h8, sizeOf, typeInfo, hi, hs', Result.andThen, Addr.add_mid, Nat.mul_comm]
theorem infoO : (Tryz.prog.info? 43).map (fun i => (i.zero, i.size)) = some (some (.agg (tabL (fun _ => (false, nullR)) 32).toArray), 192) := by kernel_rfl
theorem zero_tabO (W : World) : (zeroValue 43).run Tryz.prog W = .ok (.agg (tabL (fun _ => (false, nullR)) 32).toArray) W := by
  have h := infoO
  cases hi : Tryz.prog.info? 43 with
  | none => rw [hi] at h; cases h
  | some i =>
    rw [hi] at h
    simp only [Option.map_some, Option.some.injEq, Prod.mk.injEq] at h
    simp [zeroValue, typeInfo, hi, h.1]
theorem sizeTabO (TT : TabT) : (Tryz.prog.info? 43).map (·.size) = some (tabL TT 32).length := by
  rw [tabL_len]
  kernel_rfl


/-! ### A table's rows, as values. -/
def rowL (TT : TabT) (b : Nat) : List Value := (List.range 4).flatMap fun s => enc6 (TT (4 * b + s))
theorem rowL_len (TT : TabT) (b : Nat) : (rowL TT b).length = 24 := by
  simp [rowL, List.range, List.range.loop, enc6_len]
theorem rowL_at (TT : TabT) (b s j : Nat) (hs : s < 4) (hj : j < 6) : (rowL TT b)[6 * s + j]? = (enc6 (TT (4 * b + s)))[j]? := by
  have := tabL_at (fun q => TT (4 * b + q)) 4 s j hs hj
  unfold tabL at this
  unfold rowL
  exact this
theorem extract_get (A : Array Value) (o n i : Nat) (h : o + n ≤ A.size) (hi : i < n) : (A.extract o (o + n))[i]? = A[o + i]? := by
  rw [Array.getElem?_extract]
  rw [if_pos (by omega)]
theorem tab_row (TT : TabT) (b : Nat) (hb : b < 8) : (tabL TT 32).toArray.extract (b * 24) (b * 24 + 24) = (rowL TT b).toArray := by
  have hl := tabL_len TT 32
  apply Array.ext_getElem?
  intro i
  by_cases hi : i < 24
  · rw [extract_get _ _ _ _ (by rw [List.size_toArray, hl]; omega) hi, List.getElem?_toArray, List.getElem?_toArray]
    have h1 := tabL_at TT 32 (4 * b + i / 6) (i % 6) (by omega) (by omega)
    have h2 := rowL_at TT b (i / 6) (i % 6) (by omega) (by omega)
    rw [show 6 * (4 * b + i / 6) + i % 6 = b * 24 + i by omega] at h1
    rw [show 6 * (i / 6) + i % 6 = i by omega] at h2
    rw [h1, h2]
  · rw [Array.getElem?_eq_none (by simp; omega), Array.getElem?_eq_none (by rw [List.size_toArray, rowL_len]; omega)]
theorem row_slot (TT : TabT) (b s : Nat) (hs : s < 4) : (rowL TT b).toArray.extract (s * 6) (s * 6 + 6) = (enc6 (TT (4 * b + s))).toArray := by
  have hl := rowL_len TT b
  apply Array.ext_getElem?
  intro i
  by_cases hi : i < 6
  · rw [extract_get _ _ _ _ (by rw [List.size_toArray, hl]; omega) hi, List.getElem?_toArray, List.getElem?_toArray]
    have h2 := rowL_at TT b s i hs hi
    rw [show s * 6 + i = 6 * s + i by omega]
    exact h2
  · rw [Array.getElem?_eq_none (by simp; omega), Array.getElem?_eq_none (by rw [List.size_toArray, enc6_len]; omega)]
theorem rowL_one (TT : TabT) (b : Nat) : (rowL TT b).toArray.all (fun x => x.oneCell') = true := by
  rw [Array.all_eq_true_iff_forall_mem]
  intro v hv
  rw [List.mem_toArray] at hv
  unfold rowL at hv
  obtain ⟨s, -, hv⟩ := List.mem_flatMap.1 hv
  exact enc6_one _ v hv
theorem index_row (TT : TabT) (b : Nat) (hb : b < 8) (W : World) : (Instr.index 43 (.agg (tabL TT 32).toArray) (.int .i64 (b : Int))).run Tryz.prog W = .ok (.agg (rowL TT b).toArray) W := by
  have hu : Tryz.prog.underlying 43 = some (.array 8 41) := by kernel_rfl
  have h8 : ¬ 8 ≤ b := by omega
  have hs : (Tryz.prog.info? 41).map (fun i => i.size) = some 24 := by kernel_rfl
  have hr := tab_row TT b hb
  have h8' : (b : Int) < 8 := by omega
  generalize (tabL TT 32).toArray = A at *
  cases hi : Tryz.prog.info? 41 with
  | none => rw [hi] at hs; cases hs
  | some i =>
    rw [hi] at hs
    have hs' : i.size = 24 := by simpa using hs
    simp [Instr.index, part, run_underlying hu, Tryz.isAgg41, asIntOf, h8, sizeOf, typeInfo, hi, hs', Result.andThen, hr]
theorem index_slot (TT : TabT) (b s : Nat) (hs4 : s < 4) (W : World) : (Instr.index 41 (.agg (rowL TT b).toArray) (.int .i64 (s : Int))).run Tryz.prog W = .ok (.agg (enc6 (TT (4 * b + s))).toArray) W := by
  have hu : Tryz.prog.underlying 41 = some (.array 4 40) := by kernel_rfl
  have h8 : ¬ 4 ≤ s := by omega
  have hs : (Tryz.prog.info? 40).map (fun i => i.size) = some 6 := by kernel_rfl
  have hr := row_slot TT b s hs4
  have h8' : (s : Int) < 4 := by omega
  generalize (rowL TT b).toArray = A at *
  cases hi : Tryz.prog.info? 40 with
  | none => rw [hi] at hs; cases hs
  | some i =>
    rw [hi] at hs
    have hs' : i.size = 6 := by simpa using hs
    simp [Instr.index, part, run_underlying hu, Tryz.isAgg40, asIntOf, h8, sizeOf, typeInfo, hi, hs', Result.andThen, hr]
theorem infoR4 : (Tryz.prog.info? 41).map (fun i => (i.zero, i.size)) = some (some (.agg (rowL (fun _ => (false, nullR)) 0).toArray), 24) := by kernel_rfl
theorem zero_row4 (W : World) : (zeroValue 41).run Tryz.prog W = .ok (.agg (rowL (fun _ => (false, nullR)) 0).toArray) W := by
  have h := infoR4
  cases hi : Tryz.prog.info? 41 with
  | none => rw [hi] at h; cases h
  | some i =>
    rw [hi] at h
    simp only [Option.map_some, Option.some.injEq, Prod.mk.injEq] at h
    simp [zeroValue, typeInfo, hi, h.1]
theorem sizeRow4 (TT : TabT) (b : Nat) : (Tryz.prog.info? 41).map (·.size) = some (rowL TT b).toArray.size := by
  rw [List.size_toArray, rowL_len]
  kernel_rfl
end Go.Proofs.YthbnecdeebmlhaaGreat

namespace Go.Proofs.YthbnecdeebmlhaaGreat
open Go.RowKit

theorem row6 {w : World} {b : Nat} {a0 a1 a2 a3 a4 a5 : Value} {t : TypeId} {fr : Nat × Nat} (h : w.heap[b]? = some (.cells #[a0, a1, a2, a3, a4, a5] t fr)) :
    w.cell? ⟨b, 0, none⟩ = some a0 ∧ w.cell? ⟨b, 1, none⟩ = some a1 ∧ w.cell? ⟨b, 2, none⟩ = some a2 ∧ w.cell? ⟨b, 3, none⟩ = some a3 ∧ w.cell? ⟨b, 4, none⟩ = some a4 ∧ w.cell? ⟨b, 5, none⟩ = some a5 := by
  have c := fun j => cell_of_row w b j _ _ _ h
  exact ⟨c 0, c 1, c 2, c 3, c 4, c 5⟩

end Go.Proofs.YthbnecdeebmlhaaGreat

namespace Go.Proofs.YthbnecdeebmlhaaGreat
open Go.RowKit

set_option maxHeartbeats 2000000 in
set_option maxRecDepth 100000 in
theorem rrecs_c (TT : TabT) (w : World) :
    Calls Tryz.prog 36 #[.agg (tabL TT 32).toArray] w fun e w' => ∃ v', e = .returned v' ∧ OwnRec w' w.heap.size v' (newestR (recsT TT 32)) ∧ Below w.heap.size w w' := by
  have HT := Go.Lib.hid (TK.new w TT)
  have HB := Go.Lib.hid (below_one w (.cells (tabL TT 32).toArray 33))
  obtain ⟨TA, hTA⟩ : ∃ TA, TA = (tabL TT 32).toArray := ⟨_, rfl⟩
  rw [← hTA] at HT HB ⊢
  clear hTA
  obtain ⟨g, hg⟩ : ∃ g, g = w.heap.size := ⟨_, rfl⟩
  have HG := Go.Lib.hid hg
  clear hg
  go_enter Tryz.func36, Tryz.ntmps36
  go_wp2_with fail
  rw [← HG.out] at HT HB ⊢
  generalize w.alloc (.cells TA 33) = w1 at *
  go_loopw [3, 4] (fun lv ii wr => ∃ (i : Nat) (u : Value), u = lv ∧ i ≤ 32 ∧ ii = .int .i64 (i : Int) ∧ Hid (OwnRec wr g u (newestR (recsT TT i))) ∧ Hid (TK wr g TT) ∧ Hid (Below g w wr)) (fun _ ii _ => 32 - (intOf ii).toNat)
  case atStart => exact ⟨0, _, rfl, by omega, rfl, Go.Lib.hid (OwnRec.nil _ _), HT, HB⟩
  case round =>
    obtain ⟨i, u, rfl, hi, rfl, HO, HT, HB⟩ := hrel
    by_cases hlt : i < 32
    · have hltI : (i : Int) < 32 := by omega
      obtain ⟨D, hD⟩ : ∃ D, D = i / 4 := ⟨_, rfl⟩
      obtain ⟨R, hR⟩ : ∃ R, R = i % 4 := ⟨_, rfl⟩
      have d1 : (i : Int).tdiv 4 = (D : Int) := by rw [Int.tdiv_eq_ediv_of_nonneg (by omega)]; omega
      have r1 : (i : Int).tmod 4 = (R : Int) := by rw [Int.tmod_eq_emod_of_nonneg (by omega)]; omega
      have hD8 : D < 8 := by omega
      have hR4 : R < 4 := by omega
      obtain ⟨c0, c1, c2, c3, c4, c5⟩ := HT.out.at hD8 hR4
      rw [show 4 * D + R = i by omega] at c0 c1 c2 c3 c4 c5
      have hix1 := idxT g D hD8
      have hix2 := idxT2 g (24 * D) R hR4
      have HRN := Go.Lib.hid (recsT_succ TT i)
      have HLN := Go.Lib.hid (show (newestR (recsT TT i)).length ≤ 1000 from by have := newestR_len (recsT TT i); have := recsT_len TT i; omega)
      have HSN := Go.Lib.hid (newest_snoc (recsT TT i) (TT i).2)
      clear hD hR
      generalize TT i = y at *
      obtain ⟨hq, kx, gx, ax, nx, sx⟩ := y
      simp only [] at c0 c1 c2 c3 c4 c5 HRN HSN
      cases hq with
      | false =>
        simp only [Bool.false_eq_true, if_false, List.append_nil] at HRN
        go_wp2_with fail
        exact ⟨⟨i + 1, _, rfl, by omega, by go_num, by rw [HRN.out]; exact HO, HT, HB⟩, by simp only [intOf]; omega⟩
      | true =>
        simp only [if_true] at HRN
        have CS := rset_c u (newestR (recsT TT i)) kx gx ax nx sx wr HO.out.rs HLN.out
        rw [← HSN.out, ← HRN.out] at CS
        unfold recV at CS
        have CS := Go.Lib.hid CS
        go_wp2_with fail
        refine CS.out.mono ?_
        rintro e w2 ⟨v2, rfl, ho, hb⟩
        have hsz : g ≤ wr.heap.size := by have := HB.out.size; have := HG.out; omega
        have HO2 := Go.Lib.hid (ho.mono hsz)
        have HT2 := Go.Lib.hid (HT.out.below hb)
        have HB2 := Go.Lib.hid (HB.out.trans (hb.mono hsz))
        clear ho hb hsz CS c0 c1 c2 c3 c4 c5 hix1 hix2
        go_wp2_with fail
        exact ⟨⟨i + 1, _, rfl, by omega, by go_num, HO2, HT2, HB2⟩, by simp only [intOf]; omega⟩
    · obtain rfl : i = 32 := by omega
      go_wp2_with fail
      go_ret
      exact ⟨_, rfl, by rw [← HG.out]; exact HO.out, by rw [← HG.out]; exact HB.out⟩

end Go.Proofs.YthbnecdeebmlhaaGreat

namespace Go.Proofs.YthbnecdeebmlhaaGreat
open Go.RowKit

/-- What a value holds. -/
inductive VI where
  | none
  | num (n : Int)
  | text (s : ByteArray)
def VI.v : VI → Value
  | .none => .nilIface
  | .num n => .iface 195 (.int .i64 n)
  | .text s => .iface 196 (.string s)
def VI.val (x : VI) : Value := .agg #[x.v]
def ofR (k n : Int) (s : ByteArray) : VI := if mayR k n s then (if k = 1 then .num n else .text s) else .none

end Go.Proofs.YthbnecdeebmlhaaGreat

namespace Go.Proofs.YthbnecdeebmlhaaGreat
open Go.RowKit

/-- Does t begin with p? -/
theorem prefix_eq (s t : ByteArray) : ((s.extract 0 t.size).toList == t.toList) = (bl t).isPrefixOf (bl s) := by
  rw [Bool.eq_iff_iff, beq_iff_eq, List.isPrefixOf_iff_prefix, List.prefix_iff_eq_take, ByteArray.toList_eq, ByteArray.toList_eq, Go.Lib.extract_data]
  unfold bl
  rw [← Go.Lib.size_eq]
  simp
  exact eq_comm

set_option maxRecDepth 100000 in
theorem lprefix_c (s t : ByteArray) (w : World) (_hm : s.size ≤ maxLen) :
    Calls Tryz.prog 181 #[.string s, .string t] w fun e w' => e = .returned (.bool ((bl t).isPrefixOf (bl s))) ∧ w = w' := by
  have hm := _hm
  unfold maxLen at hm
  by_cases h : t.size ≤ s.size
  · have hp := Go.Lib.hid (prefix_eq s t)
    go_enter Tryz.func181, Tryz.ntmps181
    go_wp2
    go_ret
    exact ⟨ret_of (congrArg Value.bool hp.out), rfl⟩
  · have hp : (bl t).isPrefixOf (bl s) = false := by
      cases hx : (bl t).isPrefixOf (bl s) with
      | false => rfl
      | true =>
        rw [List.isPrefixOf_iff_prefix] at hx
        have := hx.length_le
        rw [← bl_size, ← bl_size] at this
        exact absurd this h
    have hp := Go.Lib.hid hp
    go_enter Tryz.func181, Tryz.ntmps181
    go_wp2
    go_ret
    exact ⟨ret_of (congrArg Value.bool hp.out.symm), rfl⟩

theorem prefix_c (s t : ByteArray) (w : World) (hm : s.size ≤ maxLen) :
    Calls Tryz.prog 175 #[.string s, .string t] w fun e w' => e = .returned (.bool ((bl t).isPrefixOf (bl s))) ∧ w = w' := by
  have C := Go.Lib.hid (lprefix_c s t w hm)
  go_enter Tryz.func175, Tryz.ntmps175
  go_wp2_with (refine C.out.mono ?_; rintro e w1 ⟨rfl, rfl⟩)
  go_ret
  exact ⟨rfl, rfl⟩

end Go.Proofs.YthbnecdeebmlhaaGreat

namespace Go.Proofs.YthbnecdeebmlhaaGreat
open Go.RowKit

set_option maxRecDepth 100000 in
theorem valid_c (s : ByteArray) (w : World) (hm : s.size ≤ 1000000000) :
    Calls Tryz.prog 157 #[.string s] w fun e w' => e = .returned (.bool (wellB (toks (bl s)))) ∧ Below w.heap.size w w' := by
  have hl1 := toks_length (bl s)
  rw [← bl_size] at hl1
  obtain ⟨T, hT⟩ : ∃ T, T = (toks (bl s)).length := ⟨_, rfl⟩
  rw [← hT] at hl1
  have HT := Go.Lib.hid hT; clear hT
  go_enter Tryz.func157, Tryz.ntmps157
  go_wp2
  go_loopw [2] (fun _ wr => ∃ n : Nat, n ≤ T ∧ Hid (wellB ((toks (bl s)).take n) = true) ∧ wr.heap[w.heap.size]? = some (.stringIter s (posOf (bl s) n)) ∧ Below w.heap.size w wr) (fun _ wr => s.size - wr.iterPos w.heap.size)
  case atStart => exact ⟨0, by omega, rfl, World.iter_heap w s 0, (Below.refl _ w).alloc (Nat.le_refl _) _⟩
  case round =>
    obtain ⟨n, hn, hwell, hit, hbw⟩ := hrel
    by_cases hlt : n < T
    · have hT' : n < (toks (bl s)).length := by rw [← HT.out]; exact hlt
      obtain ⟨p1, p2, p3, p4⟩ := next_some s n hT'
      have hnx : ∀ ty, (Instr.next (.pointer (some ⟨w.heap.size, 0, none⟩)) true ty).run Tryz.prog wr = _ := fun ty => Go.Lib.run_next_any_at wr w.heap.size s _ ty hit p1
      rw [p3] at hnx
      rw [p2] at hnx
      have hit2 := Go.Lib.iterAt_heap wr w.heap.size s _ (posOf (bl s) (n + 1)) hit
      have hbw2 := below_iter hbw (Nat.le_refl _) s (posOf (bl s) (n + 1))
      have hwt := well_take (bl s) n hT'
      rw [hwell.out, Bool.true_and] at hwt
      have hmeas : Hid (s.size - posOf (bl s) (n + 1) < s.size - wr.iterPos w.heap.size) := by
        have := posOf_lt_succ (bl s) n hT'
        simp only [Hid, World.iterPos, hit]
        omega
      have hne := drop_ne (bl s) n hT'
      have hwf := well_false (bl s) n hT'
      have HP := fun W => prefix_c (s.extract (posOf (bl s) n) s.size) ⟨#[239, 191, 189]⟩ W (by simp [maxLen]; omega)
      rw [drop_bl] at HP
      have hle : posOf (bl s) n ≤ s.size := by omega
      clear p1 p2 p3 p4 hit hbw hwell
      have hof := okB_false (l := (bl s).drop (posOf (bl s) n))
      have hod : okB ((bl s).drop (posOf (bl s) n)) = (enc (dr ((bl s).drop (posOf (bl s) n)))).isPrefixOf ((bl s).drop (posOf (bl s) n)) := rfl
      generalize hL : (bl s).drop (posOf (bl s) n) = L at *
      generalize posOf (bl s) n = p at *
      have HP' := Go.Lib.hid HP; clear HP
      have Hwt := Go.Lib.hid hwt; clear hwt
      have Hwf := Go.Lib.hid hwf; clear hwf
      have Hod := Go.Lib.hid hod; clear hod
      have Hof := Go.Lib.hid hof; clear hof
      clear hL
      generalize wr.iterAt w.heap.size s (posOf (bl s) (n + 1)) = wi at hnx hit2 hbw2
      by_cases hr : dr L = 65533
      · rw [hr] at hnx
        have hpre : Hid ((bl ⟨#[239, 191, 189]⟩).isPrefixOf L = okB L) := by
          unfold Hid
          rw [Hod.out, hr, enc_bad]
          rfl
        cases ho : okB L with
        | true =>
          rw [ho] at hpre
          go_wp2_with (refine (HP'.out _).mono ?_; rintro e w1 ⟨rfl, rfl⟩; rw [hpre.out])
          go_roundw
          case rel => exact ⟨n + 1, by omega, Hwt.out.trans ho, hit2, hbw2⟩
          case measure => simp only [World.iterPos, hit2]; exact hmeas.out
        | false =>
          rw [ho] at hpre
          go_wp2_with (refine (HP'.out _).mono ?_; rintro e w1 ⟨rfl, rfl⟩; rw [hpre.out])
          go_ret
          exact ⟨ret_of (congrArg Value.bool (Hwf.out ho).symm), hbw2⟩
      · have ho : okB L = true := by
          cases ho : okB L with
          | true => rfl
          | false => exact absurd (Hof.out ho hne).1 hr
        have hr2 : ((dr L : Int) == 65533) = false := by
          rw [beq_eq_false_iff_ne]; omega
        generalize dr L = r at hnx hr2
        clear hr
        go_wp2
        go_roundw
        case rel => exact ⟨n + 1, by omega, Hwt.out.trans ho, hit2, hbw2⟩
        case measure => simp only [World.iterPos, hit2]; exact hmeas.out
    · have hend : ¬ posOf (bl s) n < s.size := by
        rw [posOf_all (bl s) n (by rw [← HT.out]; omega), bl_size]
        exact Nat.lt_irrefl _
      have hnx : ∀ ty, (Instr.next (.pointer (some ⟨w.heap.size, 0, none⟩)) true ty).run Tryz.prog wr = _ := fun ty => Go.Lib.run_next_end_at wr w.heap.size s _ ty hit hend
      have hall : Hid (wellB (toks (bl s)) = true) := by
        have := hwell.out
        rwa [List.take_of_length_le (by rw [← HT.out]; omega)] at this
      clear hend
      go_wp2
      go_ret
      exact ⟨ret_of (congrArg Value.bool hall.out.symm), hbw⟩

end Go.Proofs.YthbnecdeebmlhaaGreat

namespace Go.Proofs.YthbnecdeebmlhaaGreat
open Go.RowKit

set_option maxRecDepth 100000 in
theorem textMay_c (s : ByteArray) (w : World) : Calls Tryz.prog 139 #[.string s] w fun e w' => e = .returned (.bool (decide (s.size ≤ 24) && wellB (toks (bl s)))) ∧ Below w.heap.size w w' := by
  by_cases h : s.size ≤ 24
  · have C := Go.Lib.hid fun W => valid_c s W (by omega)
    go_enter Tryz.func139, Tryz.ntmps139
    go_wp2_with fail
    refine (C.out _).mono ?_
    rintro e w1 ⟨rfl, hb1⟩
    go_wp2_with fail
    go_ret
    exact ⟨ret_of (congrArg Value.bool (by simp [h])), hb1⟩
  · go_enter Tryz.func139, Tryz.ntmps139
    go_wp2_with fail
    go_ret
    exact ⟨ret_of (congrArg Value.bool (by simp)), Below.refl _ _⟩

end Go.Proofs.YthbnecdeebmlhaaGreat

namespace Go.Proofs.YthbnecdeebmlhaaGreat
open Go.RowKit

set_option maxRecDepth 100000 in
theorem lclone_c (s : ByteArray) (w : World) (hm : s.size ≤ 140737488355328) :
    Calls Tryz.prog 107 #[.string s] w fun e w' => e = .returned (.string s) ∧ Below w.heap.size w w' := by
  by_cases h0 : s.size = 0
  · have hs : s = ⟨#[]⟩ := ByteArray.ext (Array.eq_empty_of_size_eq_zero h0)
    subst hs
    go_enter Tryz.func107, Tryz.ntmps107
    go_wp2
    go_ret
    exact ⟨rfl, Below.refl _ _⟩
  · have hq : s.size = s.data.toList.length := Go.Lib.size_eq s
    have hco : Tryz.prog.cellsOf 5 = 1 := by kernel_rfl
    have hi1 : (Tryz.prog.info? 5).map (·.size) = some 1 := by kernel_rfl
    obtain ⟨i, hi, hz, hsize, hby⟩ := info_parts info8
    obtain ⟨row0, hrow0⟩ : ∃ r, r = madeCells (Value.int .u8 0).cells s.size := ⟨_, rfl⟩
    have hlen0 : row0.size = s.size := by rw [hrow0, size_madeCells]
    have mk : ∀ W : World, (Instr.makeSlice 47 (.int .i64 (s.size : Int)) (.int .i64 (s.size : Int))).run Tryz.prog W = .ok (.slice (some ⟨W.heap.size, 0, none⟩) s.size s.size) (W.alloc (.cells row0 5)) := by
      intro W
      have hr := run_make (P := Tryz.prog) W 47 5 i (.int .u8 0) Tryz.underlying47 hi hz .i64 .i64 (s.size : Int) (s.size : Int) (by omega) (by omega) (by rw [hby]; omega) (by omega)
      rw [hsize] at hr
      simpa [hrow0] using hr
    have new1 := heap_alloc_new w (.cells row0 5)
    have cp := Go.Lib.run_copy_row_string (P := Tryz.prog) (w.alloc (.cells row0 5)) 47 9 3 5 w.heap.size 0 s.size s.size s row0 5 Tryz.underlying47 hi1 new1 (Nat.le_refl _) (by omega)
    obtain ⟨row1, hrow1⟩ : ∃ r, r = (row0.toList.take 0 ++ Go.Lib.byteCells s.data.toList ++ row0.toList.drop (0 + s.size)).toArray := ⟨_, rfl⟩
    rw [← hrow1] at cp
    have hlist1 : row1.toList = Go.Lib.byteCells s.data.toList := by
      rw [hrow1]
      simp [hlen0]
    have hlen1 : row1.size = s.size := by rw [← Array.length_toList, hlist1, Go.Lib.byteCells_length, hq]
    have new2 := setRow_heap (w.alloc (.cells row0 5)) w.heap.size row0 row1 5 (0, 0) new1
    have us := Go.Lib.run_unsafeString_row (P := Tryz.prog) ((w.alloc (.cells row0 5)).setRow w.heap.size row1) 185 3 9 5 Tryz.underlying185 hco w.heap.size row1.size (by unfold World.shape?; rw [new2]) s.data.toList
      (by intro e; rw [e] at hq; exact h0 hq) (by omega) (by omega)
      (fun j x hx => Go.Lib.cells_of_row new2 row1.size j _ (by rw [List.take_of_length_le (by simp), hlist1]; simp [Go.Lib.byteCells, hx]))
    rw [← hq] at us
    clear hrow1 hrow0 hlen0 new1 new2 hlist1 hlen1 hq hco hi1 hi hz hsize hby
    go_enter Tryz.func107, Tryz.ntmps107
    go_wp2
    go_ret
    have b1 : Below w.heap.size w (w.alloc (.cells row0 5)) := (Below.refl _ w).alloc (Nat.le_refl _) _
    have b2 : Below w.heap.size (w.alloc (.cells row0 5)) ((w.alloc (.cells row0 5)).setRow w.heap.size row1) := ⟨rfl, rfl, rfl, by simp, fun k hk => setRow_other _ _ _ _ (by omega)⟩
    exact ⟨rfl, Go.Lib.below_freeze (b1.trans b2) (p := ⟨w.heap.size, 0, none⟩) (Nat.le_refl _) _⟩

theorem clone_c (s : ByteArray) (w : World) (hm : s.size ≤ 140737488355328) :
    Calls Tryz.prog 73 #[.string s] w fun e w' => e = .returned (.string s) ∧ Below w.heap.size w w' := by
  have C := Go.Lib.hid (lclone_c s w hm)
  go_enter Tryz.func73, Tryz.ntmps73
  go_wp2_with (refine C.out.mono ?_; rintro e w1 ⟨rfl, h1⟩)
  go_ret
  exact ⟨rfl, h1⟩

end Go.Proofs.YthbnecdeebmlhaaGreat

namespace Go.Proofs.YthbnecdeebmlhaaGreat
open Go.RowKit

/-- Two blocks of its own, whatever was made later. -/
theorem two_kept (w : World) (o1 o2 : Obj) (w1 : World) (hb : Below ((w.alloc o1).alloc o2).heap.size ((w.alloc o1).alloc o2) w1) :
    w1.heap[w.heap.size]? = some o1 ∧ w1.heap[w.heap.size + 1]? = some o2 ∧ Below w.heap.size w w1 := by
  have hlt0 : w.heap.size < ((w.alloc o1).alloc o2).heap.size := (Array.getElem?_eq_some_iff.1 (two_first w o1 o2)).1
  have hlt1 : w.heap.size + 1 < ((w.alloc o1).alloc o2).heap.size := (Array.getElem?_eq_some_iff.1 (heap_alloc2_new w o1 o2)).1
  exact ⟨(hb.block _ hlt0).trans (two_first w _ _), (hb.block _ hlt1).trans (heap_alloc2_new w _ _), (below_two w o1 o2).trans (hb.mono (below_two w _ _).size)⟩

/-- A row and one more are what is answered. -/
theorem results_row_one {P : Program} {fn : Func} {p u : Tmp} {ty : TypeId} (h : fn.results = #[.cell p ty, .tmp u]) (tmps : Array Value) (w : World) (g : Nat) (t : TypeId) (cs : Array Value) (fr : Nat × Nat) (d : TypeDesc)
    (hp : tmps.getD p undef = .pointer (some ⟨g, 0, none⟩)) (hg : w.heap[g]? = some (.cells cs t fr))
    (hu : P.underlying ty = some d) (hd : (match d with | .struct _ | .array _ _ => true | _ => false) = true) (hi : (P.info? ty).map (·.size) = some cs.size) :
    (results fn tmps).run P w = .ok (.tuple #[.agg cs, tmps.getD u undef]) w := by
  have hp' : tmps[p]?.getD undef = .pointer (some ⟨g, 0, none⟩) := by simpa using hp
  simp only [results, h]
  simp [Result.andThen, hp', asAddr, run_loadVar_row w g t ty cs fr d hg hu hd hi]

theorem store_vi (x : VI) (W : World) : (store ⟨W.heap.size, 0, none⟩ x.v).run Tryz.prog (W.alloc (.cells #[.nilIface] 174)) = .ok () (W.alloc (.cells #[x.v] 174)) := by
  cases x <;> simp [VI.v, go_sem]

/-- What 'Of' answers. -/
theorem ret_of_at {w w0 : World} {tmps : Array Value} {x : VI} {e : Int} {g : Nat} {fr : Nat × Nat} {v : Value}
    (hp : tmps.getD 2 undef = .pointer (some ⟨g, 0, none⟩)) (hg : w.heap[g]? = some (.cells #[x.v] 174 fr)) (h3 : tmps.getD 3 undef = .int .i64 e)
    (hr : .tuple #[x.val, .int .i64 e] = v) (hb : Below w0.heap.size w0 w) : bodyPost Tryz.prog Tryz.f121 (fun e w' => e = .returned v ∧ Below w0.heap.size w0 w') Exit.ret { tmps := tmps, defers := [] } w := by
  subst hr
  have h := results_row_one (P := Tryz.prog) (fn := Tryz.f121) (p := 2) (u := 3) (ty := 174) rfl tmps w g 174 #[x.v] fr _ hp hg Tryz.underlying174 rfl (by kernel_rfl)
  rw [h3] at h
  exact bodyPost_ret h rfl ⟨rfl, hb⟩

def ofV (k n : Int) (s : ByteArray) : Value := .tuple #[(ofR k n s).val, .int .i64 (if mayR k n s then 0 else 1)]

theorem of_bad {k n : Int} {s : ByteArray} (h : mayR k n s = false) : ofV k n s = .tuple #[VI.none.val, .int .i64 1] := by simp [ofV, ofR, h]
theorem of_num {n : Int} {s : ByteArray} (h : mayR 1 n s = true) : ofV 1 n s = .tuple #[(VI.num n).val, .int .i64 0] := by simp [ofV, ofR, h]
theorem of_text {n : Int} {s : ByteArray} (h : mayR 2 n s = true) : ofV 2 n s = .tuple #[(VI.text s).val, .int .i64 0] := by simp [ofV, ofR, h]

set_option maxRecDepth 100000 in
theorem vof_c (k n : Int) (s : ByteArray) (w : World) : Calls Tryz.prog 121 #[rawV k n s] w fun e w' => e = .returned (ofV k n s) ∧ Below w.heap.size w w' := by
  by_cases h1 : k = 1
  · subst h1
    by_cases h2 : s = ⟨#[]⟩
    · subst h2
      have hv := Go.Lib.hid (of_num (n := n) (s := ⟨#[]⟩) (by unfold mayR; simp))
      unfold rawV
      go_enter Tryz.func121, Tryz.ntmps121
      go_wp2_with fail
      exact ret_of_at (x := .num n) rfl (heap_alloc2_new ..) rfl hv.out.symm (below_two ..)
    · have h3 : Hid (mayR 1 n s = false) := by
        unfold Hid mayR
        rw [if_pos rfl, ByteArray.toList_eq]
        cases hl : s.data.toList with
        | nil => exact absurd (ByteArray.ext (Array.toList_inj.1 (by simpa using hl))) h2
        | cons a l => rfl
      have hv := Go.Lib.hid (of_bad h3.out)
      have h4 : (s.toList == []) = false := by
        have := h3.out
        unfold mayR at this
        rw [if_pos rfl] at this
        rw [← this]
        cases s.toList <;> rfl
      clear h3
      unfold rawV
      go_enter Tryz.func121, Tryz.ntmps121
      go_wp2_with fail
      exact ret_of_at (x := .none) rfl (heap_alloc2_new ..) rfl hv.out.symm (below_two ..)
  by_cases h2 : k = 2
  · subst h2
    by_cases h3 : n = 0
    · subst h3
      have C1 := Go.Lib.hid fun W => textMay_c s W
      have hv : Hid (ofV 2 0 s = if (decide (s.size ≤ 24) && wellB (toks (bl s))) = true then .tuple #[(VI.text s).val, .int .i64 0] else .tuple #[VI.none.val, .int .i64 1]) := by
        unfold Hid
        split
        · rename_i h
          exact of_text (by unfold mayR; simpa using h)
        · rename_i h
          exact of_bad (by unfold mayR; simpa using h)
      have hs : Hid ((decide (s.size ≤ 24) && wellB (toks (bl s))) = true → s.size ≤ 24) := by
        unfold Hid
        intro h
        rw [Bool.and_eq_true, decide_eq_true_eq] at h
        exact h.1
      generalize (decide (s.size ≤ 24) && wellB (toks (bl s))) = t at *
      unfold rawV
      go_enter Tryz.func121, Tryz.ntmps121
      go_wp2_with fail
      refine (C1.out _).mono ?_
      rintro e w1 ⟨rfl, hb1⟩
      obtain ⟨hA, hB, hbb⟩ := two_kept _ _ _ _ hb1
      have HB := Go.Lib.hid hB
      have x2 := cell_of_row w1 w.heap.size 2 _ _ _ hA
      simp only [List.getElem?_toArray, List.getElem?_cons_zero, List.getElem?_cons_succ] at x2
      clear hB hA hb1
      cases t with
      | true =>
        have hv2 := Go.Lib.hid (hv.out.trans (if_pos rfl)).symm
        have C2 := Go.Lib.hid fun W => clone_c s W (by have := hs.out rfl; omega)
        clear hs
        go_wp2_with fail
        refine (C2.out _).mono ?_
        rintro e w2 ⟨rfl, hb2⟩
        have hlt : w.heap.size + 1 < w1.heap.size := (Array.getElem?_eq_some_iff.1 HB.out).1
        have HB2 := Go.Lib.hid ((hb2.block _ hlt).trans HB.out)
        have hbb2 := hbb.trans (hb2.mono hbb.size)
        clear hb2 hlt x2 HB hbb
        go_wp2_with (first
          | (with_reducible show wpList _ _ _ (⟨none, Op.store 174 (.tmp 2) (.tmp 35), _, _, _, _⟩ :: _) _ _; go_loud (refine wpList_store_row rfl 174 (.tmp 2) (.tmp 35) rfl (w.heap.size + 1) #[.iface 196 (.string s)] rfl rfl 174 _ HB2.out (by kernel_rfl) rfl (by simp [Value.oneCell']) ?_))
          | fail)
        exact ret_of_at (x := .text s) rfl (setRow_heap _ _ _ _ _ (0, 0) HB2.out) rfl hv2.out (setRow_below _ hbb2 (by omega))
      | false =>
        have hv2 := Go.Lib.hid (hv.out.trans (if_neg (by decide))).symm
        clear x2 hs
        go_wp2_with (first
          | (with_reducible show wpList _ _ _ (⟨none, Op.store 174 (.tmp 2) (.tmp 36), _, _, _, _⟩ :: _) _ _; go_loud (refine wpList_store_row rfl 174 (.tmp 2) (.tmp 36) rfl (w.heap.size + 1) #[.nilIface] rfl rfl 174 _ HB.out (by kernel_rfl) rfl (by simp [Value.oneCell']) ?_))
          | fail)
        exact ret_of_at (x := .none) rfl (setRow_heap _ _ _ _ _ (0, 0) HB.out) rfl hv2.out (setRow_below _ hbb (by omega))
    · have hv := Go.Lib.hid (of_bad (k := 2) (n := n) (s := s) (by unfold mayR; simp [h3]))
      have h3' : (n == 0) = false := by simp [h3]
      unfold rawV
      go_enter Tryz.func121, Tryz.ntmps121
      go_wp2_with fail
      exact ret_of_at (x := .none) rfl (heap_alloc2_new ..) rfl hv.out.symm (below_two ..)
  · have hv := Go.Lib.hid (of_bad (k := k) (n := n) (s := s) (by unfold mayR; simp [h1, h2]))
    have h1' : (k == 1) = false := by simp [h1]
    have h2' : (k == 2) = false := by simp [h2]
    unfold rawV
    go_enter Tryz.func121, Tryz.ntmps121
    go_wp2_with fail
    exact ret_of_at (x := .none) rfl (heap_alloc2_new ..) rfl hv.out.symm (below_two ..)

end Go.Proofs.YthbnecdeebmlhaaGreat

namespace Go.Proofs.YthbnecdeebmlhaaGreat
open Go.RowKit Go.Op

set_option maxRecDepth 100000 in
theorem kmayL_c (s : ByteArray) (w : World) (hm : s.size ≤ maxLen) : Calls Tryz.prog 93 #[.string s] w fun e w' => e = .returned (.bool (mayK s)) ∧ Below w.heap.size w w' := by
  unfold maxLen at hm
  have hb := Below.refl w.heap.size w
  by_cases h1 : 1 ≤ s.size
  · by_cases h2 : s.size ≤ 16
    · go_enter Tryz.func93, Tryz.ntmps93
      go_wp2
      go_ret
      exact ⟨ret_of (congrArg Value.bool (by unfold mayK; simp [h1, h2]; try omega)), hb⟩
    · go_enter Tryz.func93, Tryz.ntmps93
      go_wp2
      go_ret
      exact ⟨ret_of (congrArg Value.bool (by unfold mayK; simp [h2]; try omega)), hb⟩
  · go_enter Tryz.func93, Tryz.ntmps93
    go_wp2
    go_ret
    exact ⟨ret_of (congrArg Value.bool (by unfold mayK; simp [h1]; try omega)), hb⟩

theorem kmay_c (s : ByteArray) (w : World) (hm : s.size ≤ 1000000) : Calls Tryz.prog 93 #[.string s] w fun e w' => e = .returned (.bool (mayK s)) ∧ Below w.heap.size w w' :=
  kmayL_c s w (by unfold maxLen; omega)

end Go.Proofs.YthbnecdeebmlhaaGreat

namespace Go.Proofs.YthbnecdeebmlhaaGreat
open Go.RowKit Go.Op

theorem ite_zero (k n : Int) (s : ByteArray) (W : World) :
    (if k = 0 then
      if n = 0 then
        if s.toList = [] then Result.ok (Next.value (Value.bool true)) W
        else Result.ok (Next.value (Value.bool false)) W
      else Result.ok (Next.value (Value.bool false)) W
    else Result.ok (Next.value (Value.bool false)) W) =
    Result.ok (Next.value (Value.bool (k == 0 && n == 0 && s.toList.isEmpty))) W := by
  by_cases h1 : k = 0 <;> by_cases h2 : n = 0 <;> by_cases h3 : s.toList = [] <;> simp [h1, h2, h3]

set_option maxRecDepth 100000 in
theorem valmay_c (key : ByteArray) (gone : Bool) (k n : Int) (s : ByteArray) (w : World) :
    Calls Tryz.prog 94 #[recV key gone k n s] w fun e w' => e = .returned (.bool (if gone then k == 0 && n == 0 && s.toList.isEmpty else mayR k n s)) ∧ Below w.heap.size w w' := by
  unfold recV
  have hb1 := below_one w (.cells #[.string key, .bool gone, .int .i64 k, .int .i64 n, .string s] 28)
  cases gone with
  | true =>
    have hz := fun W => ite_zero k n s W
    rw [if_pos rfl]
    generalize (k == 0 && n == 0 && s.toList.isEmpty) = t at *
    go_enter Tryz.func94, Tryz.ntmps94
    go_wp2_with fail
    go_ret
    exact ⟨rfl, hb1⟩
  | false =>
    rw [if_neg (by decide)]
    have C := Go.Lib.hid fun W => vof_c k n s W
    unfold ofV rawV VI.val at C
    obtain ⟨t, ht⟩ : ∃ t, t = mayR k n s := ⟨_, rfl⟩
    rw [← ht] at C ⊢
    clear ht
    go_enter Tryz.func94, Tryz.ntmps94
    go_wp2_with fail
    refine (C.out _).mono ?_
    rintro e w1 ⟨rfl, hb2⟩
    generalize ofR k n s = x at *
    have hst := store_vi x
    have hbb := hb1.trans (hb2.mono hb1.size)
    have hb3 := hbb.trans ((below_one w1 (.cells #[x.v] 174)).mono hbb.size)
    cases t with
    | true =>
      rw [if_pos rfl]
      go_wp2_with fail
      go_ret
      exact ⟨rfl, hb3⟩
    | false =>
      rw [if_neg (by decide)]
      go_wp2_with fail
      go_ret
      exact ⟨rfl, hb3⟩

set_option maxRecDepth 100000 in
theorem pmay_c (key : ByteArray) (gone : Bool) (k n : Int) (s : ByteArray) (w : World) (hk : key.size ≤ maxLen) (_hm : s.size ≤ maxLen) :
    Calls Tryz.prog 56 #[recV key gone k n s] w fun e w' => e = .returned (.bool (mayRec key gone k n s)) ∧ Below w.heap.size w w' := by
  have C1 := Go.Lib.hid fun W => kmayL_c key W hk
  have c2 := fun W => valmay_c key gone k n s W
  unfold recV at c2 ⊢
  have hv : mayRec key gone k n s = (mayK key && (if gone then k == 0 && n == 0 && s.toList.isEmpty else mayR k n s)) := rfl
  rw [hv]
  generalize (if gone then k == 0 && n == 0 && s.toList.isEmpty else mayR k n s) = t at *
  generalize mayK key = m at *
  have C2 := Go.Lib.hid c2
  clear c2 hv
  have hb1 := below_one w (.cells #[.string key, .bool gone, .int .i64 k, .int .i64 n, .string s] 28)
  have hA := heap_alloc_new w (.cells #[.string key, .bool gone, .int .i64 k, .int .i64 n, .string s] 28)
  cases m with
  | false =>
    go_enter Tryz.func56, Tryz.ntmps56
    go_wp2_with fail
    refine (C1.out _).mono ?_
    rintro e w1 ⟨rfl, hb2⟩
    have hbb := hb1.trans (hb2.mono hb1.size)
    go_wp2_with fail
    go_ret
    exact ⟨rfl, hbb⟩
  | true =>
    go_enter Tryz.func56, Tryz.ntmps56
    go_wp2_with fail
    refine (C1.out _).mono ?_
    rintro e w1 ⟨rfl, hb2⟩
    have hbb := hb1.trans (hb2.mono hb1.size)
    have hA := row_kept hA hb2
    obtain ⟨x0, x1, x2, x3, x4⟩ := row5 hA
    go_wp2_with fail
    refine (C2.out _).mono ?_
    rintro e w2 ⟨rfl, hb3⟩
    have hbb := hbb.trans (hb3.mono hbb.size)
    go_wp2_with fail
    go_ret
    exact ⟨by simp, hbb⟩

end Go.Proofs.YthbnecdeebmlhaaGreat
