/-
  Stage 19: the program's tables: eight buckets of four slots, six cells each.
  Stage 18 (and 19): the reference's MayTable, Records.
  Stage 18 (and 19): the reference's Records of a table.
  What a value holds.
  The contract of strings.HasPrefix.
  The contract of runes.Valid.
  Package value: contract of textMay.
  The contract of strings.Clone.
-/
import Derived.Test.YtgalppnpmfpdbaaM07
import Derived.Deep.MidRow
import Derived.BigQuiet
import Derived.Deep.DeepCutAuto
import Derived.LoopTactic
import Derived.Test.YtgalppnpmfpdbaaM03
import Derived.Test.YtgalppnpmfpdbaaM02
import Derived.Lib.UnsafeStr
import Derived.Lib.BufferWrite
namespace Go.Proofs.Ytgalppnpmfpdbaa
open Go.RowKit

/-- Block g is a table. -/
structure TO (w : World) (g : Nat) (TT : TabT) : Prop where
  row : ∃ cs fr, w.heap[g]? = some (.cells cs 38 fr)
  fr : ∀ o, w.frozen? ⟨g, o, none⟩ = false
  cell : ∀ q j, q < 32 → j < 6 → w.cell? ⟨g, 6 * q + j, none⟩ = (enc6 (TT q))[j]?
section
variable {w w' : World} {g : Nat} {TT : TabT}
theorem TO.same (h : TO w g TT) (hb : w'.heap[g]? = w.heap[g]?) : TO w' g TT := by
  obtain ⟨cs, fr, hr⟩ := h.row
  refine ⟨⟨cs, fr, hb.trans hr⟩, fun o => ?_, fun q j hq hj => (World.cell?_of_block (w := w) (a := ⟨g, 6 * q + j, none⟩) hb).trans (h.cell q j hq hj)⟩
  have e := h.fr o
  unfold World.frozen? at e ⊢
  simp only [] at e ⊢
  rw [hb]
  exact e
theorem TO.lt (h : TO w g TT) : g < w.heap.size := by obtain ⟨cs, fr, hr⟩ := h.row; exact (Array.getElem?_eq_some_iff.1 hr).1
theorem TO.below (h : TO w g TT) (hb : Below w.heap.size w w') : TO w' g TT := h.same (hb.block g h.lt)
theorem TO.at (h : TO w g TT) {b s : Nat} (hb : b < 8) (hs : s < 4) : w.cell? ⟨g, 24 * b + 6 * s, none⟩ = some (.bool (TT (4 * b + s)).1) ∧ w.cell? ⟨g, 24 * b + 6 * s + 1, none⟩ = some (.string (TT (4 * b + s)).2.1) ∧ w.cell? ⟨g, 24 * b + 6 * s + 2, none⟩ = some (.bool (TT (4 * b + s)).2.2.1) ∧ w.cell? ⟨g, 24 * b + 6 * s + 3, none⟩ = some (.int .i64 (TT (4 * b + s)).2.2.2.1) ∧ w.cell? ⟨g, 24 * b + 6 * s + 4, none⟩ = some (.int .i64 (TT (4 * b + s)).2.2.2.2.1) ∧ w.cell? ⟨g, 24 * b + 6 * s + 5, none⟩ = some (.string (TT (4 * b + s)).2.2.2.2.2) := by
  have c := fun j hj => h.cell (4 * b + s) j (by omega) hj
  rw [show 6 * (4 * b + s) = 24 * b + 6 * s by omega] at c
  exact ⟨c 0 (by omega), c 1 (by omega), c 2 (by omega), c 3 (by omega), c 4 (by omega), c 5 (by omega)⟩
theorem TO.range (h : TO w g TT) : w.rangeAt g 0 (tabL TT 32) := by
  intro k v hv
  have hk : k < (tabL TT 32).length := (List.getElem?_eq_some_iff.1 hv).1
  rw [tabL_len] at hk
  have e := tabL_at TT 32 (k / 6) (k % 6) (by omega) (by omega)
  rw [show 6 * (k / 6) + k % 6 = k by omega, hv] at e
  have c := h.cell (k / 6) (k % 6) (by omega) (by omega)
  rw [show 6 * (k / 6) + k % 6 = k by omega] at c
  rw [Nat.zero_add, c]
  exact e.symm
theorem TO.new (w : World) (TT : TabT) : TO (w.alloc (.cells (tabL TT 32).toArray 38)) w.heap.size TT := by
  have hh := heap_alloc_new w (.cells (tabL TT 32).toArray 38)
  refine ⟨⟨_, _, hh⟩, fun o => frozen_of_row _ _ _ _ _ hh, fun q j hq hj => ?_⟩
  rw [cell_of_row _ _ _ _ _ _ hh, List.getElem?_toArray]
  exact tabL_at TT 32 q j hq hj
theorem TO.there (h : TO w g TT) {q : Nat} (hq : q < 32) : w.there g (6 * q) 6 := fun j hj => by
  refine ⟨?_, h.fr _⟩
  rw [h.cell q j hq hj, List.getElem?_eq_getElem (show j < (enc6 (TT q)).length from hj)]
  rfl
/-- A slot of it is stored. -/
theorem TO.set (h : TO w g TT) {q : Nat} (hq : q < 32) (y : Bool × RecT) : TO (w.setCells g (6 * q) (enc6 y)) g (setT TT q y) := by
  refine ⟨setCells_type _ _ _ _ h.row, fun o => by rw [World.frozen?_setCells]; exact h.fr o, fun k j hk hj => ?_⟩
  unfold setT
  by_cases e : k = q
  · subst e
    rw [if_pos rfl]
    have := World.cell?_setCells_in g (enc6 y) (6 * k) w (fun i hi => by
      rw [h.cell k i hk hi, List.getElem?_eq_getElem (show i < (enc6 (TT k)).length from hi)]
      rfl) j hj
    rw [this]
    exact (List.getElem?_eq_getElem hj).symm
  · rw [if_neg e]
    rw [World.cell?_setCells_out g (enc6 y) (6 * q) w ⟨g, 6 * k + j, none⟩ (fun _ hh => ?_)]
    · exact h.cell k j hk hj
    · simp only [enc6_len] at hh ⊢
      omega
end
theorem idxO (g b : Nat) (hb : b < 8) (W : World) : (Instr.indexAt 38 (.pointer (some ⟨g, 0, none⟩)) (.int .i64 (b : Int))).run Try.prog W = .ok (.pointer (some ⟨g, 24 * b, none⟩)) W := by
  have hu : Try.prog.underlying 38 = some (.array 8 36) := by kernel_rfl
  have hs : (Try.prog.info? 36).map (fun i => i.size) = some 24 := by kernel_rfl
  have h8 : ¬ 8 ≤ b := by omega
  have h8' : (b : Int) < 8 := by omega
  cases hi : Try.prog.info? 36 with
  | none => rw [hi] at hs; cases hs
  | some i =>
    rw [hi] at hs
    have hs' : i.size = 24 := by simpa using hs
    simp [Instr.indexAt, run_underlying hu, Instr.sureAddr, asIntOf, h8, sizeOf, typeInfo, hi, hs', Result.andThen, Addr.add_mid, Nat.mul_comm]
theorem idxO2 (g o s : Nat) (hs4 : s < 4) (W : World) : (Instr.indexAt 36 (.pointer (some ⟨g, o, none⟩)) (.int .i64 (s : Int))).run Try.prog W = .ok (.pointer (some ⟨g, o + 6 * s, none⟩)) W := by
  have hu : Try.prog.underlying 36 = some (.array 4 35) := by kernel_rfl
  have hs : (Try.prog.info? 35).map (fun i => i.size) = some 6 := by kernel_rfl
  have h8 : ¬ 4 ≤ s := by omega
  have h8' : (s : Int) < 4 := by omega
  cases hi : Try.prog.info? 35 with
  | none => rw [hi] at hs; cases hs
  | some i =>
    rw [hi] at hs
    have hs' : i.size = 6 := by simpa using hs
    simp [Instr.indexAt, run_underlying hu, Instr.sureAddr, asIntOf, h8, sizeOf, typeInfo, hi, hs', Result.andThen, Addr.add_mid, Nat.mul_comm]
theorem infoO : (Try.prog.info? 38).map (fun i => (i.zero, i.size)) = some (some (.agg (tabL (fun _ => (false, nullR)) 32).toArray), 192) := by kernel_rfl
theorem zero_tabO (W : World) : (zeroValue 38).run Try.prog W = .ok (.agg (tabL (fun _ => (false, nullR)) 32).toArray) W := by
  have h := infoO
  cases hi : Try.prog.info? 38 with
  | none => rw [hi] at h; cases h
  | some i =>
    rw [hi] at h
    simp only [Option.map_some, Option.some.injEq, Prod.mk.injEq] at h
    simp [zeroValue, typeInfo, hi, h.1]
theorem sizeTabO (TT : TabT) : (Try.prog.info? 38).map (·.size) = some (tabL TT 32).length := by
  rw [tabL_len]
  kernel_rfl


/-! ### A table's rows, as values. -/
def rowL (TT : TabT) (b : Nat) : List Value := (List.range 4).flatMap fun s => enc6 (TT (4 * b + s))
theorem rowL_len (TT : TabT) (b : Nat) : (rowL TT b).length = 24 := by
  simp [rowL, List.range, List.range.loop, enc6_len]
theorem rowL_at (TT : TabT) (b s j : Nat) (hs : s < 4) (hj : j < 6) : (rowL TT b)[6 * s + j]? = (enc6 (TT (4 * b + s)))[j]? := by
  have := tabL_at (fun q => TT (4 * b + q)) 4 s j hs hj
  unfold tabL at this
  unfold rowL
  exact this
theorem extract_get (A : Array Value) (o n i : Nat) (h : o + n ≤ A.size) (hi : i < n) : (A.extract o (o + n))[i]? = A[o + i]? := by
  rw [Array.getElem?_extract]
  rw [if_pos (by omega)]
theorem tab_row (TT : TabT) (b : Nat) (hb : b < 8) : (tabL TT 32).toArray.extract (b * 24) (b * 24 + 24) = (rowL TT b).toArray := by
  have hl := tabL_len TT 32
  apply Array.ext_getElem?
  intro i
  by_cases hi : i < 24
  · rw [extract_get _ _ _ _ (by rw [List.size_toArray, hl]; omega) hi, List.getElem?_toArray, List.getElem?_toArray]
    have h1 := tabL_at TT 32 (4 * b + i / 6) (i % 6) (by omega) (by omega)
    have h2 := rowL_at TT b (i / 6) (i % 6) (by omega) (by omega)
    rw [show 6 * (4 * b + i / 6) + i % 6 = b * 24 + i by omega] at h1
    rw [show 6 * (i / 6) + i % 6 = i by omega] at h2
    rw [h1, h2]
  · rw [Array.getElem?_eq_none (by simp; omega), Array.getElem?_eq_none (by rw [List.size_toArray, rowL_len]; omega)]
theorem row_slot (TT : TabT) (b s : Nat) (hs : s < 4) : (rowL TT b).toArray.extract (s * 6) (s * 6 + 6) = (enc6 (TT (4 * b + s))).toArray := by
  have hl := rowL_len TT b
  apply Array.ext_getElem?
  intro i
  by_cases hi : i < 6
  · rw [extract_get _ _ _ _ (by rw [List.size_toArray, hl]; omega) hi, List.getElem?_toArray, List.getElem?_toArray]
    have h2 := rowL_at TT b s i hs hi
    rw [show s * 6 + i = 6 * s + i by omega]
    exact h2
  · rw [Array.getElem?_eq_none (by simp; omega), Array.getElem?_eq_none (by rw [List.size_toArray, enc6_len]; omega)]
theorem rowL_one (TT : TabT) (b : Nat) : (rowL TT b).toArray.all (fun x => x.oneCell') = true := by
  rw [Array.all_eq_true_iff_forall_mem]
  intro v hv
  rw [List.mem_toArray] at hv
  unfold rowL at hv
  obtain ⟨s, -, hv⟩ := List.mem_flatMap.1 hv
  exact enc6_one _ v hv
theorem index_row (TT : TabT) (b : Nat) (hb : b < 8) (W : World) : (Instr.index 38 (.agg (tabL TT 32).toArray) (.int .i64 (b : Int))).run Try.prog W = .ok (.agg (rowL TT b).toArray) W := by
  have hu : Try.prog.underlying 38 = some (.array 8 36) := by kernel_rfl
  have h8 : ¬ 8 ≤ b := by omega
  have hs : (Try.prog.info? 36).map (fun i => i.size) = some 24 := by kernel_rfl
  have hr := tab_row TT b hb
  have h8' : (b : Int) < 8 := by omega
  generalize (tabL TT 32).toArray = A at *
  cases hi : Try.prog.info? 36 with
  | none => rw [hi] at hs; cases hs
  | some i =>
    rw [hi] at hs
    have hs' : i.size = 24 := by simpa using hs
    simp [Instr.index, part, run_underlying hu, Try.isAgg36, asIntOf, h8, sizeOf, typeInfo, hi, hs', Result.andThen, hr]
theorem index_slot (TT : TabT) (b s : Nat) (hs4 : s < 4) (W : World) : (Instr.index 36 (.agg (rowL TT b).toArray) (.int .i64 (s : Int))).run Try.prog W = .ok (.agg (enc6 (TT (4 * b + s))).toArray) W := by
  have hu : Try.prog.underlying 36 = some (.array 4 35) := by kernel_rfl
  have h8 : ¬ 4 ≤ s := by omega
  have hs : (Try.prog.info? 35).map (fun i => i.size) = some 6 := by kernel_rfl
  have hr := row_slot TT b s hs4
  have h8' : (s : Int) < 4 := by omega
  generalize (rowL TT b).toArray = A at *
  cases hi : Try.prog.info? 35 with
  | none => rw [hi] at hs; cases hs
  | some i =>
    rw [hi] at hs
    have hs' : i.size = 6 := by simpa using hs
    simp [Instr.index, part, run_underlying hu, Try.isAgg35, asIntOf, h8, sizeOf, typeInfo, hi, hs', Result.andThen, hr]
theorem infoR4 : (Try.prog.info? 36).map (fun i => (i.zero, i.size)) = some (some (.agg (rowL (fun _ => (false, nullR)) 0).toArray), 24) := by kernel_rfl
theorem zero_row4 (W : World) : (zeroValue 36).run Try.prog W = .ok (.agg (rowL (fun _ => (false, nullR)) 0).toArray) W := by
  have h := infoR4
  cases hi : Try.prog.info? 36 with
  | none => rw [hi] at h; cases h
  | some i =>
    rw [hi] at h
    simp only [Option.map_some, Option.some.injEq, Prod.mk.injEq] at h
    simp [zeroValue, typeInfo, hi, h.1]
theorem sizeRow4 (TT : TabT) (b : Nat) : (Try.prog.info? 36).map (·.size) = some (rowL TT b).toArray.size := by
  rw [List.size_toArray, rowL_len]
  kernel_rfl
end Go.Proofs.Ytgalppnpmfpdbaa

namespace Go.Proofs.Ytgalppnpmfpdbaa
open Go.RowKit

def KS : Lay ByteArray := ⟨fun s => [.string s], 1, 9, 87, .string ⟨#[]⟩, 16⟩
theorem KS_ok : KS.Ok Try.prog := ⟨by decide, fun _ => rfl, fun x u hu => by rw [List.mem_singleton.1 hu]; rfl, Try.underlying87, by kernel_rfl, rfl, by decide⟩
theorem KS.at' {w : World} {a : Option Addr} {n cap : Nat} {l : List ByteArray} (h : KS.R w (.slice a n cap) l) (i : Nat) (hi : i < l.length) : ∃ b o, a = some ⟨b, o, none⟩ ∧ n = l.length ∧ b < w.heap.size ∧ w.cell? ⟨b, o + i, none⟩ = some (.string l[i]) := by
  obtain ⟨b, o, h1, h2, h3, h4⟩ := h.at KS_ok i hi
  exact ⟨b, o, h1, h2, h3, by have := h4 0 _ rfl; simpa [KS] using this⟩
theorem idxKS (b o n cap j : Nat) (h : j < n) (W : World) : (Instr.indexAt 87 (.slice (some ⟨b, o, none⟩) n cap) (.int .i64 (j : Int))).run Try.prog W = .ok (.pointer (some ⟨b, o + j, none⟩)) W := by
  have := KS_ok.run_idx b o n cap j h W
  simpa [KS] using this
theorem KS.one' (w : World) (z : ByteArray) : KS.R (w.alloc (.cells #[.string z] 9)) (.slice (some ⟨w.heap.size, 0, none⟩) 1 1) [z] := Lay.R.one w KS_ok z 9 (0, 0)
theorem row6 {w : World} {b : Nat} {a0 a1 a2 a3 a4 a5 : Value} {t : TypeId} {fr : Nat × Nat} (h : w.heap[b]? = some (.cells #[a0, a1, a2, a3, a4, a5] t fr)) :
    w.cell? ⟨b, 0, none⟩ = some a0 ∧ w.cell? ⟨b, 1, none⟩ = some a1 ∧ w.cell? ⟨b, 2, none⟩ = some a2 ∧ w.cell? ⟨b, 3, none⟩ = some a3 ∧ w.cell? ⟨b, 4, none⟩ = some a4 ∧ w.cell? ⟨b, 5, none⟩ = some a5 := by
  have c := fun j => cell_of_row w b j _ _ _ h
  exact ⟨c 0, c 1, c 2, c 3, c 4, c 5⟩

theorem tab_not_key {w : World} {g B : Nat} {TT : TabT} {v : Value} {l : List ByteArray} (h : TK w g TT) (hk : KS.O w B v l) : v.ownBlock ≠ some g := by
  intro e
  obtain ⟨cs, fr, hr⟩ := h.row
  rcases hk.2 with ⟨rfl, -⟩ | ⟨q, cap, cur, rfl, -, h2, -⟩
  · cases e
  · cases e
    rw [hr] at h2
    simp only [Option.some.injEq, Obj.cells.injEq] at h2
    exact absurd h2.2.1 (show 33 ≠ 9 by decide)

set_option maxHeartbeats 8000000 in
set_option maxRecDepth 100000 in
theorem rmaytab_c (TT : TabT) (w : World) (hs : ∀ q, q < 32 → (TT q).2.1.size ≤ 1000 ∧ (TT q).2.2.2.2.2.size ≤ 1000) :
    Calls Try.prog 19 #[.agg (tabL TT 32).toArray] w fun e w' => e = .returned (.bool (okTo TT 32)) ∧ Below w.heap.size w w' := by
  have HT := Go.Lib.hid (TK.new w TT)
  have HB := Go.Lib.hid (below_one w (.cells (tabL TT 32).toArray 33))
  have HS := Go.Lib.hid hs
  clear hs
  obtain ⟨TA, hTA⟩ : ∃ TA, TA = (tabL TT 32).toArray := ⟨_, rfl⟩
  rw [← hTA] at HT HB ⊢
  clear hTA
  obtain ⟨g, hg⟩ : ∃ g, g = w.heap.size := ⟨_, rfl⟩
  have HG := Go.Lib.hid hg
  clear hg
  go_enter Try.func19, Try.ntmps19
  go_wp2_with fail
  rw [← HG.out] at HT HB ⊢
  generalize w.alloc (.cells TA 33) = w1 at *
  go_loopw [3, 4] (fun kv bi wr => ∃ (b : Nat) (u : Value), u = kv ∧ b ≤ 8 ∧ bi = .int .i64 (b : Int) ∧ Hid (KS.O wr g u (keysT TT (4 * b)) ∧ okTo TT (4 * b) = true) ∧ Hid (TK wr g TT) ∧ Hid (Below g w wr)) (fun _ bi _ => 8 - (intOf bi).toNat)
  case atStart => exact ⟨0, _, rfl, by omega, rfl, Go.Lib.hid ⟨Lay.O.nil _ _, rfl⟩, HT, HB⟩
  case round =>
    obtain ⟨b, u, rfl, hb, rfl, HK, HT, HB⟩ := hrel
    by_cases hlt : b < 8
    · have hltI : (b : Int) < 8 := by omega
      go_wp2_with fail
      go_loopw [3, 5] (fun kv si wr => ∃ (s : Nat) (u : Value), u = kv ∧ s ≤ 4 ∧ si = .int .i64 (s : Int) ∧ Hid (KS.O wr g u (keysT TT (4 * b + s)) ∧ okTo TT (4 * b + s) = true) ∧ Hid (TK wr g TT) ∧ Hid (Below g w wr)) (fun _ si _ => 4 - (intOf si).toNat)
      case atStart => exact ⟨0, _, rfl, by omega, rfl, HK, HT, HB⟩
      case round =>
        obtain ⟨s, u, rfl, hs4, rfl, HK, HT, HB⟩ := hrel
        by_cases hslt : s < 4
        · have hsI : (s : Int) < 4 := by omega
          obtain ⟨c0, c1, c2, c3, c4, c5⟩ := HT.out.at hlt hslt
          have hix1 := idxT g b hlt
          have hix2 := idxT2 g (24 * b) s hslt
          have hsz := HS.out (4 * b + s) (by omega)
          have HBAD := Go.Lib.hid fun (h : okSlot TT (4 * b + s) = false) => okTo_bad (n := 32) h (by omega)
          have HOK := Go.Lib.hid fun (h : okSlot TT (4 * b + s) = true) => show okTo TT (4 * b + (s + 1)) = true from by rw [show 4 * b + (s + 1) = (4 * b + s) + 1 by omega, okTo_succ, HK.out.2, h]; rfl
          have HSL := Go.Lib.hid (show okSlot TT (4 * b + s) = _ from rfl)
          have HKN := Go.Lib.hid (show keysT TT (4 * b + (s + 1)) = keysT TT (4 * b + s) ++ (if (TT (4 * b + s)).1 then [(TT (4 * b + s)).2.1] else []) from keysT_succ TT (4 * b + s))
          have HKL := Go.Lib.hid (show (keysT TT (4 * b + s)).length ≤ 32 from by have := keysT_len TT (4 * b + s); omega)
          have HO := Go.Lib.hid HK.out.1
          rw [show okSlot TT (4 * b + s) = if (TT (4 * b + s)).1 then mayT (TT (4 * b + s)).2 && ((4 * b + s) / 4 == firstN (hR (TT (4 * b + s)).2) || (4 * b + s) / 4 == othN (firstN (hR (TT (4 * b + s)).2)) (tagN (hR (TT (4 * b + s)).2))) && !((keysT TT (4 * b + s)).any fun k => decide (k = (TT (4 * b + s)).2.1)) else decide ((TT (4 * b + s)).2 = nullR) from rfl, show (4 * b + s) / 4 = b by omega] at HBAD HOK
          clear HSL HK
          have HKN' := Go.Lib.hid HKN.out
          clear HKN
          generalize keysT TT (4 * b + s) = K at *
          generalize TT (4 * b + s) = y at *
          obtain ⟨hq, kx, gx, ax, nx, sx⟩ := y
          simp only [] at c0 c1 c2 c3 c4 c5 hsz HBAD HOK HKN'
          have hbA := below_one wr (.cells #[.bool hq, .string kx, .bool gx, .int .i64 ax, .int .i64 nx, .string sx] 30)
          have HX := Go.Lib.hid (heap_alloc_new wr (.cells #[.bool hq, .string kx, .bool gx, .int .i64 ax, .int .i64 nx, .string sx] 30))
          have HT2 := Go.Lib.hid (HT.out.below hbA)
          have HB2 := Go.Lib.hid (HB.out.trans (hbA.mono (by have := HB.out.size; have := HG.out; omega)))
          have HO2 := Go.Lib.hid (HO.out.below hbA)
          have CH := Go.Lib.hid fun W => rhash_k kx (hashS kx) rfl W (by omega)
          have CM := fun W => rmayrec_c kx gx ax nx sx W (by unfold maxLen; omega) (by unfold maxLen; omega)
          unfold recV at CM
          have HMT := Go.Lib.hid (show mayRec kx gx ax nx sx = mayT (kx, gx, ax, nx, sx) from rfl)
          rw [HMT.out] at CM
          have CM := Go.Lib.hid CM
          have HHR := Go.Lib.hid (show hR (kx, gx, ax, nx, sx) = hashS kx from rfl)
          rw [HHR.out] at HBAD HOK
          have HHL := Go.Lib.hid (hashS_lt kx)
          clear hbA hsz HT HB HO
          go_upto_region 9 with (fail)
          obtain ⟨g2, hg2⟩ : ∃ g, g = wr.heap.size := ⟨_, rfl⟩
          rw [← hg2] at HX ⊢
          clear hg2 c0 c1 c2 c3 c4 c5 hix1 hix2
          generalize wr.alloc (.cells #[.bool hq, .string kx, .bool gx, .int .i64 ax, .int .i64 nx, .string sx] 30) = w2 at *
          obtain ⟨x0, x1, x2, x3, x4, x5⟩ := row6 HX.out
          cases hq with
          | false => as_aux_lemma =>
            simp only [Bool.false_eq_true, if_false, List.append_nil] at HBAD HOK HKN'
            have CE := reqrec_c kx gx ax nx sx ⟨#[]⟩ false 0 0 ⟨#[]⟩ w2
            rw [show eqRec kx gx ax nx sx ⟨#[]⟩ false 0 0 ⟨#[]⟩ = decide ((kx, gx, ax, nx, sx) = nullR) from eqRec_iff (kx, gx, ax, nx, sx) nullR] at CE
            unfold recV at CE
            generalize decide ((kx, gx, ax, nx, sx) = nullR) = t at *
            have CE := Go.Lib.hid CE
            clear CM CH HMT HHR
            go_wp2_with fail
            refine CE.out.mono ?_
            rintro e w3 ⟨rfl, hc⟩
            have HT3 := Go.Lib.hid (HT2.out.below hc)
            have HB3 := Go.Lib.hid (HB2.out.trans (hc.mono (by have := HB2.out.size; have := HG.out; omega)))
            have HO3 := Go.Lib.hid (HO2.out.below hc)
            clear hc CE x0 x1 x2 x3 x4 x5
            cases t with
            | false =>
              have HE := Go.Lib.hid (HBAD.out rfl)
              go_wp2_with fail
              go_ret
              exact ⟨by rw [HE.out]; rfl, by rw [← HG.out]; exact HB3.out⟩
            | true =>
              have HE := Go.Lib.hid (HOK.out rfl)
              go_wp2_with fail
              exact ⟨⟨s + 1, _, rfl, by omega, by go_num, Go.Lib.hid ⟨by rw [HKN'.out]; exact HO3.out, HE.out⟩, HT3, HB3⟩, by simp only [intOf]; omega⟩
          | true =>
            simp only [if_true] at HBAD HOK HKN'
            go_wp2_with fail
            refine (CH.out _).mono ?_
            rintro e w3 ⟨rfl, hc⟩
            have HT3 := Go.Lib.hid (HT2.out.below hc)
            have HB3 := Go.Lib.hid (HB2.out.trans (hc.mono (by have := HB2.out.size; have := HG.out; omega)))
            have HO3 := Go.Lib.hid (HO2.out.below hc)
            have HX3 := Go.Lib.hid (row_kept HX.out hc)
            have CF := Go.Lib.hid (rfirst_c (hashS kx) w3 HHL.out)
            clear hc CH x0 x1 x2 x3 x4 x5 HX
            have HFL := Go.Lib.hid (first_lt (hashS kx))
            have HTL := Go.Lib.hid (tag_lt (hashS kx))
            go_wp2_with fail
            refine CF.out.mono ?_
            rintro e w4 ⟨rfl, rfl⟩
            obtain ⟨x0, x1, x2, x3, x4, x5⟩ := row6 HX3.out
            clear CF
            go_wp2_with fail
            refine (CM.out _).mono ?_
            rintro e w4 ⟨rfl, hc⟩
            have HT4 := Go.Lib.hid (HT3.out.below hc)
            have HB4 := Go.Lib.hid (HB3.out.trans (hc.mono (by have := HB3.out.size; have := HG.out; omega)))
            have HO4 := Go.Lib.hid (HO3.out.below hc)
            have HX4 := Go.Lib.hid (row_kept HX3.out hc)
            have CTG := Go.Lib.hid fun W => rtag_c (hashS kx) W HHL.out
            have COT := Go.Lib.hid fun W => rother_c (firstN (hashS kx) : Int) (tagN (hashS kx) : Int) W
            rw [otherI_nat HFL.out HTL.out] at COT
            clear hc CM x0 x1 x2 x3 x4 x5 HX3
            generalize mayT (kx, gx, ax, nx, sx) = m at *
            generalize othN (firstN (hashS kx)) (tagN (hashS kx)) = fo at *
            generalize firstN (hashS kx) = ff at *
            generalize tagN (hashS kx) = ft at *
            generalize hashS kx = hx at *
            cases m with
            | false =>
              as_aux_lemma =>
                have HE := Go.Lib.hid (HBAD.out rfl)
                go_wp2_with fail
                go_ret
                exact ⟨by rw [HE.out]; rfl, by rw [← HG.out]; exact HB4.out⟩
            | true =>
              simp only [Bool.true_and] at HBAD HOK
              by_cases hbf : b = ff
              · have hbf1 : ((b : Int) == (ff : Int)) = true := beq_iff_eq.2 (by omega)
                have hbf2 : ((b : Int) != (ff : Int)) = false := by simp [bne, hbf1]
                rw [show ((b == ff || b == fo)) = true from by simp [hbf], Bool.true_and] at HBAD HOK
                have HBF := Go.Lib.hid hbf
                clear hbf
                as_aux_lemma =>
                  go_wp2_with fail
                  clear hbf1 hbf2
                  have hform : ∃ a cap, u = .slice a K.length cap := by obtain ⟨a, cap, h, -⟩ := HO4.out.r.form; exact ⟨a, cap, h⟩
                  obtain ⟨ka, kc, rfl⟩ := hform
                  have hkl := HKL.out
                  go_loopw [9] (fun ii wr => ∃ i : Nat, i ≤ K.length ∧ ii = .int .i64 (i : Int) ∧ Hid (∀ j (hj : j < K.length), j < i → K[j] ≠ kx) ∧ Hid (Below w4.heap.size w4 wr)) (fun ii _ => K.length - (intOf ii).toNat)
                  case atStart => exact ⟨0, by omega, rfl, Go.Lib.hid fun j hj h => absurd h (by omega), Go.Lib.hid (Below.refl _ _)⟩
                  case round =>
                    obtain ⟨i, hi, rfl, HNO, HBI⟩ := hrel
                    by_cases hil : i < K.length
                    · obtain ⟨kb, ko, rfl, -, -, k0⟩ := KS.at' (HO4.out.r.below HBI.out) i hil
                      have hix := idxKS kb ko K.length kc i hil
                      obtain ⟨x0, x1, x2, x3, x4, x5⟩ := row6 (row_kept HX4.out HBI.out)
                      have HHIT := Go.Lib.hid (fun (h : K[i] = kx) => HBAD.out (show (!(K.any fun k => decide (k = kx))) = false from by rw [List.any_eq_true.2 ⟨K[i], List.getElem_mem hil, by simp [h]⟩]; rfl))
                      have HMISS := Go.Lib.hid (fun (h : K[i] ≠ kx) => show ∀ j (hj : j < K.length), j < i + 1 → K[j] ≠ kx from fun j hj hji => by
                        rcases Nat.lt_or_ge j i with h2 | h2
                        · exact HNO.out j hj h2
                        · obtain rfl : j = i := by omega
                          exact h)
                      clear HNO
                      generalize K[i] = ki at *
                      by_cases hq : ki.toList = kx.toList
                      · have hqb : (ki.toList == kx.toList) = true := beq_iff_eq.2 hq
                        have HE := Go.Lib.hid (HHIT.out (ByteArray.ext (Array.toList_inj.1 (by rw [← ByteArray.toList_eq, ← ByteArray.toList_eq]; exact hq))))
                        clear hq HHIT HMISS
                        go_upto_region 19 with (fail)
                        go_quiet (fail)
                        have HB9 := Go.Lib.hid (HB4.out.trans ((HBI.out.trans ((below_drewN (Below.refl _ _) nq).mono HBI.out.size)).mono (by have := HB4.out.size; have := HG.out; omega)))
                        go_wp2_with fail
                        go_ret
                        exact ⟨by rw [HE.out]; rfl, by rw [← HG.out]; exact HB9.out⟩
                      · have hqb : (ki.toList == kx.toList) = false := beq_eq_false_iff_ne.2 hq
                        have HN := Go.Lib.hid (HMISS.out (fun e => hq (by rw [e])))
                        clear hq HHIT HMISS
                        go_upto_region 19 with (fail)
                        go_quiet (fail)
                        have HB9 := Go.Lib.hid (HBI.out.trans ((below_drewN (Below.refl _ _) nq).mono HBI.out.size))
                        clear k0 hix x0 x1 x2 x3 x4 x5
                        generalize wr.drewN nq = w9 at *
                        go_wp2_with fail
                        exact ⟨⟨i + 1, by omega, by go_num, HN, HB9⟩, by simp only [intOf]; omega⟩
                    · obtain rfl : i = K.length := by omega
                      have HE := Go.Lib.hid (HOK.out (show (!(K.any fun k => decide (k = kx))) = true from by
                        rw [Bool.not_eq_true']
                        rw [Bool.eq_false_iff]
                        intro hc
                        obtain ⟨k, hkm, hke⟩ := List.any_eq_true.1 hc
                        obtain ⟨j, hj, rfl⟩ := List.getElem_of_mem hkm
                        exact HNO.out j hj hj (of_decide_eq_true hke)))
                      have hb9 := below_one wr (.cells #[.string kx] 9)
                      have HBX := Go.Lib.hid (HBI.out.trans (hb9.mono HBI.out.size))
                      have HO9 := Go.Lib.hid (HO4.out.below HBX.out)
                      have HT9 := Go.Lib.hid (HT4.out.below HBX.out)
                      have HB9 := Go.Lib.hid (HB4.out.trans (HBX.out.mono (by have := HB4.out.size; have := HG.out; omega)))
                      have HON := Go.Lib.hid (KS.one' wr kx)
                      obtain ⟨x0, x1, x2, x3, x4, x5⟩ := row6 (row_kept HX4.out HBI.out)
                      clear hb9 HNO
                      go_wp2_with (first
                        | (with_reducible show wpList _ _ _ (⟨some 73, _, _, _, _, _⟩ :: _) _ _; go_loud (refine KS_ok.append rfl (.tmp 68) (.tmp 72) rfl g (.slice ka K.length kc) (.slice (some ⟨wr.heap.size, 0, none⟩) 1 1) K [kx] rfl rfl HO9.out HON.out (by have := HKL.out; simp; omega) (by have := HB9.out.size; have := HG.out; omega) ?_); intro v10 w10 ho10 hg10)
                        | fail)
                      have HO10 := Go.Lib.hid ho10
                      have HT10 := Go.Lib.hid (HT9.out.same (hg10.block g HT9.out.lt (fun e => tab_not_key HT9.out HO9.out e.symm)))
                      have HB10 := Go.Lib.hid (HB9.out.grown hg10 (by have := HB9.out.size; have := HG.out; omega) (fun j hj => HO9.out.row j hj))
                      clear ho10 hg10
                      go_wp2_with fail
                      exact ⟨⟨s + 1, _, rfl, by omega, by go_num, Go.Lib.hid ⟨by rw [HKN'.out]; exact HO10.out, HE.out⟩, HT10, HB10⟩, by simp only [intOf]; omega⟩
              · have hbf1 : ((b : Int) == (ff : Int)) = false := beq_eq_false_iff_ne.2 (by omega)
                have hbf2 : ((b : Int) != (ff : Int)) = true := by simp [bne, hbf1]
                by_cases hbo : b = fo
                · have hbo1 : ((b : Int) == (fo : Int)) = true := beq_iff_eq.2 (by omega)
                  have hbo2 : ((b : Int) != (fo : Int)) = false := by simp [bne, hbo1]
                  rw [show ((b == ff || b == fo)) = true from by simp [hbo], Bool.true_and] at HBAD HOK
                  have HBF := Go.Lib.hid hbo
                  clear hbf hbo
                  go_wp2_with fail
                  refine (CTG.out _).mono ?_
                  rintro e w5 ⟨rfl, rfl⟩
                  go_wp2_with fail
                  refine (COT.out _).mono ?_
                  rintro e w5 ⟨rfl, rfl⟩
                  as_aux_lemma =>
                    go_wp2_with fail
                    clear hbf1 hbf2
                    have hform : ∃ a cap, u = .slice a K.length cap := by obtain ⟨a, cap, h, -⟩ := HO4.out.r.form; exact ⟨a, cap, h⟩
                    obtain ⟨ka, kc, rfl⟩ := hform
                    have hkl := HKL.out
                    go_loopw [9] (fun ii wr => ∃ i : Nat, i ≤ K.length ∧ ii = .int .i64 (i : Int) ∧ Hid (∀ j (hj : j < K.length), j < i → K[j] ≠ kx) ∧ Hid (Below w4.heap.size w4 wr)) (fun ii _ => K.length - (intOf ii).toNat)
                    case atStart => exact ⟨0, by omega, rfl, Go.Lib.hid fun j hj h => absurd h (by omega), Go.Lib.hid (Below.refl _ _)⟩
                    case round =>
                      obtain ⟨i, hi, rfl, HNO, HBI⟩ := hrel
                      by_cases hil : i < K.length
                      · obtain ⟨kb, ko, rfl, -, -, k0⟩ := KS.at' (HO4.out.r.below HBI.out) i hil
                        have hix := idxKS kb ko K.length kc i hil
                        obtain ⟨x0, x1, x2, x3, x4, x5⟩ := row6 (row_kept HX4.out HBI.out)
                        have HHIT := Go.Lib.hid (fun (h : K[i] = kx) => HBAD.out (show (!(K.any fun k => decide (k = kx))) = false from by rw [List.any_eq_true.2 ⟨K[i], List.getElem_mem hil, by simp [h]⟩]; rfl))
                        have HMISS := Go.Lib.hid (fun (h : K[i] ≠ kx) => show ∀ j (hj : j < K.length), j < i + 1 → K[j] ≠ kx from fun j hj hji => by
                          rcases Nat.lt_or_ge j i with h2 | h2
                          · exact HNO.out j hj h2
                          · obtain rfl : j = i := by omega
                            exact h)
                        clear HNO
                        generalize K[i] = ki at *
                        by_cases hq : ki.toList = kx.toList
                        · have hqb : (ki.toList == kx.toList) = true := beq_iff_eq.2 hq
                          have HE := Go.Lib.hid (HHIT.out (ByteArray.ext (Array.toList_inj.1 (by rw [← ByteArray.toList_eq, ← ByteArray.toList_eq]; exact hq))))
                          clear hq HHIT HMISS
                          go_upto_region 19 with (fail)
                          go_quiet (fail)
                          have HB9 := Go.Lib.hid (HB4.out.trans ((HBI.out.trans ((below_drewN (Below.refl _ _) nq).mono HBI.out.size)).mono (by have := HB4.out.size; have := HG.out; omega)))
                          go_wp2_with fail
                          go_ret
                          exact ⟨by rw [HE.out]; rfl, by rw [← HG.out]; exact HB9.out⟩
                        · have hqb : (ki.toList == kx.toList) = false := beq_eq_false_iff_ne.2 hq
                          have HN := Go.Lib.hid (HMISS.out (fun e => hq (by rw [e])))
                          clear hq HHIT HMISS
                          go_upto_region 19 with (fail)
                          go_quiet (fail)
                          have HB9 := Go.Lib.hid (HBI.out.trans ((below_drewN (Below.refl _ _) nq).mono HBI.out.size))
                          clear k0 hix x0 x1 x2 x3 x4 x5
                          generalize wr.drewN nq = w9 at *
                          go_wp2_with fail
                          exact ⟨⟨i + 1, by omega, by go_num, HN, HB9⟩, by simp only [intOf]; omega⟩
                      · obtain rfl : i = K.length := by omega
                        have HE := Go.Lib.hid (HOK.out (show (!(K.any fun k => decide (k = kx))) = true from by
                          rw [Bool.not_eq_true']
                          rw [Bool.eq_false_iff]
                          intro hc
                          obtain ⟨k, hkm, hke⟩ := List.any_eq_true.1 hc
                          obtain ⟨j, hj, rfl⟩ := List.getElem_of_mem hkm
                          exact HNO.out j hj hj (of_decide_eq_true hke)))
                        have hb9 := below_one wr (.cells #[.string kx] 9)
                        have HBX := Go.Lib.hid (HBI.out.trans (hb9.mono HBI.out.size))
                        have HO9 := Go.Lib.hid (HO4.out.below HBX.out)
                        have HT9 := Go.Lib.hid (HT4.out.below HBX.out)
                        have HB9 := Go.Lib.hid (HB4.out.trans (HBX.out.mono (by have := HB4.out.size; have := HG.out; omega)))
                        have HON := Go.Lib.hid (KS.one' wr kx)
                        obtain ⟨x0, x1, x2, x3, x4, x5⟩ := row6 (row_kept HX4.out HBI.out)
                        clear hb9 HNO
                        go_wp2_with (first
                          | (with_reducible show wpList _ _ _ (⟨some 73, _, _, _, _, _⟩ :: _) _ _; go_loud (refine KS_ok.append rfl (.tmp 68) (.tmp 72) rfl g (.slice ka K.length kc) (.slice (some ⟨wr.heap.size, 0, none⟩) 1 1) K [kx] rfl rfl HO9.out HON.out (by have := HKL.out; simp; omega) (by have := HB9.out.size; have := HG.out; omega) ?_); intro v10 w10 ho10 hg10)
                          | fail)
                        have HO10 := Go.Lib.hid ho10
                        have HT10 := Go.Lib.hid (HT9.out.same (hg10.block g HT9.out.lt (fun e => tab_not_key HT9.out HO9.out e.symm)))
                        have HB10 := Go.Lib.hid (HB9.out.grown hg10 (by have := HB9.out.size; have := HG.out; omega) (fun j hj => HO9.out.row j hj))
                        clear ho10 hg10
                        go_wp2_with fail
                        exact ⟨⟨s + 1, _, rfl, by omega, by go_num, Go.Lib.hid ⟨by rw [HKN'.out]; exact HO10.out, HE.out⟩, HT10, HB10⟩, by simp only [intOf]; omega⟩
                · have hbo1 : ((b : Int) == (fo : Int)) = false := beq_eq_false_iff_ne.2 (by omega)
                  have hbo2 : ((b : Int) != (fo : Int)) = true := by simp [bne, hbo1]
                  have HE := Go.Lib.hid (HBAD.out (by simp [hbf, hbo]))
                  clear hbf hbo
                  go_wp2_with fail
                  refine (CTG.out _).mono ?_
                  rintro e w5 ⟨rfl, rfl⟩
                  go_wp2_with fail
                  refine (COT.out _).mono ?_
                  rintro e w5 ⟨rfl, rfl⟩
                  go_wp2_with fail
                  go_ret
                  exact ⟨by rw [HE.out]; rfl, by rw [← HG.out]; exact HB4.out⟩
        · obtain rfl : s = 4 := by omega
          go_wp2_with fail
          exact ⟨⟨b + 1, _, rfl, by omega, by go_num, HK, HT, HB⟩, by simp only [intOf]; omega⟩
    · obtain rfl : b = 8 := by omega
      have HE := Go.Lib.hid HK.out.2
      go_wp2_with fail
      go_ret
      exact ⟨by rw [HE.out]; rfl, by have := HB.out; rw [HG.out] at this; exact this⟩

end Go.Proofs.Ytgalppnpmfpdbaa

namespace Go.Proofs.Ytgalppnpmfpdbaa
open Go.RowKit

set_option maxHeartbeats 2000000 in
set_option maxRecDepth 100000 in
theorem rrecs_c (TT : TabT) (w : World) :
    Calls Try.prog 18 #[.agg (tabL TT 32).toArray] w fun e w' => ∃ v', e = .returned v' ∧ OwnRec w' w.heap.size v' (newestR (recsT TT 32)) ∧ Below w.heap.size w w' := by
  have HT := Go.Lib.hid (TK.new w TT)
  have HB := Go.Lib.hid (below_one w (.cells (tabL TT 32).toArray 33))
  obtain ⟨TA, hTA⟩ : ∃ TA, TA = (tabL TT 32).toArray := ⟨_, rfl⟩
  rw [← hTA] at HT HB ⊢
  clear hTA
  obtain ⟨g, hg⟩ : ∃ g, g = w.heap.size := ⟨_, rfl⟩
  have HG := Go.Lib.hid hg
  clear hg
  go_enter Try.func18, Try.ntmps18
  go_wp2_with fail
  rw [← HG.out] at HT HB ⊢
  generalize w.alloc (.cells TA 33) = w1 at *
  go_loopw [3, 4] (fun lv ii wr => ∃ (i : Nat) (u : Value), u = lv ∧ i ≤ 32 ∧ ii = .int .i64 (i : Int) ∧ Hid (OwnRec wr g u (newestR (recsT TT i))) ∧ Hid (TK wr g TT) ∧ Hid (Below g w wr)) (fun _ ii _ => 32 - (intOf ii).toNat)
  case atStart => exact ⟨0, _, rfl, by omega, rfl, Go.Lib.hid (OwnRec.nil _ _), HT, HB⟩
  case round =>
    obtain ⟨i, u, rfl, hi, rfl, HO, HT, HB⟩ := hrel
    by_cases hlt : i < 32
    · have hltI : (i : Int) < 32 := by omega
      obtain ⟨D, hD⟩ : ∃ D, D = i / 4 := ⟨_, rfl⟩
      obtain ⟨R, hR⟩ : ∃ R, R = i % 4 := ⟨_, rfl⟩
      have d1 : (i : Int).tdiv 4 = (D : Int) := by rw [Int.tdiv_eq_ediv_of_nonneg (by omega)]; omega
      have r1 : (i : Int).tmod 4 = (R : Int) := by rw [Int.tmod_eq_emod_of_nonneg (by omega)]; omega
      have hD8 : D < 8 := by omega
      have hR4 : R < 4 := by omega
      obtain ⟨c0, c1, c2, c3, c4, c5⟩ := HT.out.at hD8 hR4
      rw [show 4 * D + R = i by omega] at c0 c1 c2 c3 c4 c5
      have hix1 := idxT g D hD8
      have hix2 := idxT2 g (24 * D) R hR4
      have HRN := Go.Lib.hid (recsT_succ TT i)
      have HLN := Go.Lib.hid (show (newestR (recsT TT i)).length ≤ 1000 from by have := newestR_len (recsT TT i); have := recsT_len TT i; omega)
      have HSN := Go.Lib.hid (newest_snoc (recsT TT i) (TT i).2)
      clear hD hR
      generalize TT i = y at *
      obtain ⟨hq, kx, gx, ax, nx, sx⟩ := y
      simp only [] at c0 c1 c2 c3 c4 c5 HRN HSN
      cases hq with
      | false =>
        simp only [Bool.false_eq_true, if_false, List.append_nil] at HRN
        go_wp2_with fail
        exact ⟨⟨i + 1, _, rfl, by omega, by go_num, by rw [HRN.out]; exact HO, HT, HB⟩, by simp only [intOf]; omega⟩
      | true =>
        simp only [if_true] at HRN
        have CS := rset_c u (newestR (recsT TT i)) kx gx ax nx sx wr HO.out.rs HLN.out
        rw [← HSN.out, ← HRN.out] at CS
        unfold recV at CS
        have CS := Go.Lib.hid CS
        go_wp2_with fail
        refine CS.out.mono ?_
        rintro e w2 ⟨v2, rfl, ho, hb⟩
        have hsz : g ≤ wr.heap.size := by have := HB.out.size; have := HG.out; omega
        have HO2 := Go.Lib.hid (ho.mono hsz)
        have HT2 := Go.Lib.hid (HT.out.below hb)
        have HB2 := Go.Lib.hid (HB.out.trans (hb.mono hsz))
        clear ho hb hsz CS c0 c1 c2 c3 c4 c5 hix1 hix2
        go_wp2_with fail
        exact ⟨⟨i + 1, _, rfl, by omega, by go_num, HO2, HT2, HB2⟩, by simp only [intOf]; omega⟩
    · obtain rfl : i = 32 := by omega
      go_wp2_with fail
      go_ret
      exact ⟨_, rfl, by rw [← HG.out]; exact HO.out, by rw [← HG.out]; exact HB.out⟩

end Go.Proofs.Ytgalppnpmfpdbaa

namespace Go.Proofs.Ytgalppnpmfpdbaa
open Go.RowKit

/-- What a value holds. -/
inductive VI where
  | none
  | num (n : Int)
  | text (s : ByteArray)
def VI.v : VI → Value
  | .none => .nilIface
  | .num n => .iface 132 (.int .i64 n)
  | .text s => .iface 133 (.string s)
def VI.val (x : VI) : Value := .agg #[x.v]
def VI.k : VI → Int
  | .none => 0
  | .num _ => 1
  | .text _ => 2
def VI.n : VI → Int
  | .num n => n
  | _ => 0
def VI.s : VI → ByteArray
  | .text s => s
  | _ => ⟨#[]⟩
def VI.isN : VI → Bool
  | .num _ => true
  | _ => false
def VI.isT : VI → Bool
  | .text _ => true
  | _ => false
def ofR (k n : Int) (s : ByteArray) : VI := if mayR k n s then (if k = 1 then .num n else .text s) else .none

end Go.Proofs.Ytgalppnpmfpdbaa

namespace Go.Proofs.Ytgalppnpmfpdbaa
open Go.RowKit

/-- Does t begin with p? -/
theorem prefix_eq (s t : ByteArray) : ((s.extract 0 t.size).toList == t.toList) = (bl t).isPrefixOf (bl s) := by
  rw [Bool.eq_iff_iff, beq_iff_eq, List.isPrefixOf_iff_prefix, List.prefix_iff_eq_take, ByteArray.toList_eq, ByteArray.toList_eq, Go.Lib.extract_data]
  unfold bl
  rw [← Go.Lib.size_eq]
  simp
  exact eq_comm

set_option maxRecDepth 100000 in
theorem lprefix_c (s t : ByteArray) (w : World) (_hm : s.size ≤ maxLen) :
    Calls Try.prog 96 #[.string s, .string t] w fun e w' => e = .returned (.bool ((bl t).isPrefixOf (bl s))) ∧ w = w' := by
  have hm := _hm
  unfold maxLen at hm
  by_cases h : t.size ≤ s.size
  · have hp := Go.Lib.hid (prefix_eq s t)
    go_enter Try.func96, Try.ntmps96
    go_wp2
    go_ret
    exact ⟨ret_of (congrArg Value.bool hp.out), rfl⟩
  · have hp : (bl t).isPrefixOf (bl s) = false := by
      cases hx : (bl t).isPrefixOf (bl s) with
      | false => rfl
      | true =>
        rw [List.isPrefixOf_iff_prefix] at hx
        have := hx.length_le
        rw [← bl_size, ← bl_size] at this
        exact absurd this h
    have hp := Go.Lib.hid hp
    go_enter Try.func96, Try.ntmps96
    go_wp2
    go_ret
    exact ⟨ret_of (congrArg Value.bool hp.out.symm), rfl⟩

theorem prefix_c (s t : ByteArray) (w : World) (hm : s.size ≤ maxLen) :
    Calls Try.prog 95 #[.string s, .string t] w fun e w' => e = .returned (.bool ((bl t).isPrefixOf (bl s))) ∧ w = w' := by
  have C := Go.Lib.hid (lprefix_c s t w hm)
  go_enter Try.func95, Try.ntmps95
  go_wp2_with (refine C.out.mono ?_; rintro e w1 ⟨rfl, rfl⟩)
  go_ret
  exact ⟨rfl, rfl⟩

end Go.Proofs.Ytgalppnpmfpdbaa

namespace Go.Proofs.Ytgalppnpmfpdbaa
open Go.RowKit

set_option maxRecDepth 100000 in
theorem valid_c (s : ByteArray) (w : World) (hm : s.size ≤ 1000000000) :
    Calls Try.prog 94 #[.string s] w fun e w' => e = .returned (.bool (wellB (toks (bl s)))) ∧ Below w.heap.size w w' := by
  have hl1 := toks_length (bl s)
  rw [← bl_size] at hl1
  obtain ⟨T, hT⟩ : ∃ T, T = (toks (bl s)).length := ⟨_, rfl⟩
  rw [← hT] at hl1
  have HT := Go.Lib.hid hT; clear hT
  go_enter Try.func94, Try.ntmps94
  go_wp2
  go_loopw [2] (fun _ wr => ∃ n : Nat, n ≤ T ∧ Hid (wellB ((toks (bl s)).take n) = true) ∧ wr.heap[w.heap.size]? = some (.stringIter s (posOf (bl s) n)) ∧ Below w.heap.size w wr) (fun _ wr => s.size - wr.iterPos w.heap.size)
  case atStart => exact ⟨0, by omega, rfl, World.iter_heap w s 0, (Below.refl _ w).alloc (Nat.le_refl _) _⟩
  case round =>
    obtain ⟨n, hn, hwell, hit, hbw⟩ := hrel
    by_cases hlt : n < T
    · have hT' : n < (toks (bl s)).length := by rw [← HT.out]; exact hlt
      obtain ⟨p1, p2, p3, p4⟩ := next_some s n hT'
      have hnx : ∀ ty, (Instr.next (.pointer (some ⟨w.heap.size, 0, none⟩)) true ty).run Try.prog wr = _ := fun ty => Go.Lib.run_next_any_at wr w.heap.size s _ ty hit p1
      rw [p3] at hnx
      rw [p2] at hnx
      have hit2 := Go.Lib.iterAt_heap wr w.heap.size s _ (posOf (bl s) (n + 1)) hit
      have hbw2 := below_iter hbw (Nat.le_refl _) s (posOf (bl s) (n + 1))
      have hwt := well_take (bl s) n hT'
      rw [hwell.out, Bool.true_and] at hwt
      have hmeas : Hid (s.size - posOf (bl s) (n + 1) < s.size - wr.iterPos w.heap.size) := by
        have := posOf_lt_succ (bl s) n hT'
        simp only [Hid, World.iterPos, hit]
        omega
      have hne := drop_ne (bl s) n hT'
      have hwf := well_false (bl s) n hT'
      have HP := fun W => prefix_c (s.extract (posOf (bl s) n) s.size) ⟨#[239, 191, 189]⟩ W (by simp [maxLen]; omega)
      rw [drop_bl] at HP
      have hle : posOf (bl s) n ≤ s.size := by omega
      clear p1 p2 p3 p4 hit hbw hwell
      have hof := okB_false (l := (bl s).drop (posOf (bl s) n))
      have hod : okB ((bl s).drop (posOf (bl s) n)) = (enc (dr ((bl s).drop (posOf (bl s) n)))).isPrefixOf ((bl s).drop (posOf (bl s) n)) := rfl
      generalize hL : (bl s).drop (posOf (bl s) n) = L at *
      generalize posOf (bl s) n = p at *
      have HP' := Go.Lib.hid HP; clear HP
      have Hwt := Go.Lib.hid hwt; clear hwt
      have Hwf := Go.Lib.hid hwf; clear hwf
      have Hod := Go.Lib.hid hod; clear hod
      have Hof := Go.Lib.hid hof; clear hof
      clear hL
      generalize wr.iterAt w.heap.size s (posOf (bl s) (n + 1)) = wi at hnx hit2 hbw2
      by_cases hr : dr L = 65533
      · rw [hr] at hnx
        have hpre : Hid ((bl ⟨#[239, 191, 189]⟩).isPrefixOf L = okB L) := by
          unfold Hid
          rw [Hod.out, hr, enc_bad]
          rfl
        cases ho : okB L with
        | true =>
          rw [ho] at hpre
          go_wp2_with (refine (HP'.out _).mono ?_; rintro e w1 ⟨rfl, rfl⟩; rw [hpre.out])
          go_roundw
          case rel => exact ⟨n + 1, by omega, Hwt.out.trans ho, hit2, hbw2⟩
          case measure => simp only [World.iterPos, hit2]; exact hmeas.out
        | false =>
          rw [ho] at hpre
          go_wp2_with (refine (HP'.out _).mono ?_; rintro e w1 ⟨rfl, rfl⟩; rw [hpre.out])
          go_ret
          exact ⟨ret_of (congrArg Value.bool (Hwf.out ho).symm), hbw2⟩
      · have ho : okB L = true := by
          cases ho : okB L with
          | true => rfl
          | false => exact absurd (Hof.out ho hne).1 hr
        have hr2 : ((dr L : Int) == 65533) = false := by
          rw [beq_eq_false_iff_ne]; omega
        generalize dr L = r at hnx hr2
        clear hr
        go_wp2
        go_roundw
        case rel => exact ⟨n + 1, by omega, Hwt.out.trans ho, hit2, hbw2⟩
        case measure => simp only [World.iterPos, hit2]; exact hmeas.out
    · have hend : ¬ posOf (bl s) n < s.size := by
        rw [posOf_all (bl s) n (by rw [← HT.out]; omega), bl_size]
        exact Nat.lt_irrefl _
      have hnx : ∀ ty, (Instr.next (.pointer (some ⟨w.heap.size, 0, none⟩)) true ty).run Try.prog wr = _ := fun ty => Go.Lib.run_next_end_at wr w.heap.size s _ ty hit hend
      have hall : Hid (wellB (toks (bl s)) = true) := by
        have := hwell.out
        rwa [List.take_of_length_le (by rw [← HT.out]; omega)] at this
      clear hend
      go_wp2
      go_ret
      exact ⟨ret_of (congrArg Value.bool hall.out.symm), hbw⟩

end Go.Proofs.Ytgalppnpmfpdbaa

namespace Go.Proofs.Ytgalppnpmfpdbaa
open Go.RowKit

set_option maxRecDepth 100000 in
theorem textMay_c (s : ByteArray) (w : World) : Calls Try.prog 90 #[.string s] w fun e w' => e = .returned (.bool (decide (s.size ≤ 24) && wellB (toks (bl s)))) ∧ Below w.heap.size w w' := by
  by_cases h : s.size ≤ 24
  · have C := Go.Lib.hid fun W => valid_c s W (by omega)
    go_enter Try.func90, Try.ntmps90
    go_wp2_with fail
    refine (C.out _).mono ?_
    rintro e w1 ⟨rfl, hb1⟩
    go_wp2_with fail
    go_ret
    exact ⟨ret_of (congrArg Value.bool (by simp [h])), hb1⟩
  · go_enter Try.func90, Try.ntmps90
    go_wp2_with fail
    go_ret
    exact ⟨ret_of (congrArg Value.bool (by simp)), Below.refl _ _⟩

end Go.Proofs.Ytgalppnpmfpdbaa

namespace Go.Proofs.Ytgalppnpmfpdbaa
open Go.RowKit

set_option maxRecDepth 100000 in
theorem lclone_c (s : ByteArray) (w : World) (hm : s.size ≤ 140737488355328) :
    Calls Try.prog 78 #[.string s] w fun e w' => e = .returned (.string s) ∧ Below w.heap.size w w' := by
  by_cases h0 : s.size = 0
  · have hs : s = ⟨#[]⟩ := ByteArray.ext (Array.eq_empty_of_size_eq_zero h0)
    subst hs
    go_enter Try.func78, Try.ntmps78
    go_wp2
    go_ret
    exact ⟨rfl, Below.refl _ _⟩
  · have hq : s.size = s.data.toList.length := Go.Lib.size_eq s
    have hco : Try.prog.cellsOf 5 = 1 := by kernel_rfl
    have hi1 : (Try.prog.info? 5).map (·.size) = some 1 := by kernel_rfl
    obtain ⟨i, hi, hz, hsize, hby⟩ := info_parts info8
    obtain ⟨row0, hrow0⟩ : ∃ r, r = madeCells (Value.int .u8 0).cells s.size := ⟨_, rfl⟩
    have hlen0 : row0.size = s.size := by rw [hrow0, size_madeCells]
    have mk : ∀ W : World, (Instr.makeSlice 40 (.int .i64 (s.size : Int)) (.int .i64 (s.size : Int))).run Try.prog W = .ok (.slice (some ⟨W.heap.size, 0, none⟩) s.size s.size) (W.alloc (.cells row0 5)) := by
      intro W
      have hr := run_make (P := Try.prog) W 40 5 i (.int .u8 0) Try.underlying40 hi hz .i64 .i64 (s.size : Int) (s.size : Int) (by omega) (by omega) (by rw [hby]; omega) (by omega)
      rw [hsize] at hr
      simpa [hrow0] using hr
    have new1 := heap_alloc_new w (.cells row0 5)
    have cp := Go.Lib.run_copy_row_string (P := Try.prog) (w.alloc (.cells row0 5)) 40 9 3 5 w.heap.size 0 s.size s.size s row0 5 Try.underlying40 hi1 new1 (Nat.le_refl _) (by omega)
    obtain ⟨row1, hrow1⟩ : ∃ r, r = (row0.toList.take 0 ++ Go.Lib.byteCells s.data.toList ++ row0.toList.drop (0 + s.size)).toArray := ⟨_, rfl⟩
    rw [← hrow1] at cp
    have hlist1 : row1.toList = Go.Lib.byteCells s.data.toList := by
      rw [hrow1]
      simp [hlen0]
    have hlen1 : row1.size = s.size := by rw [← Array.length_toList, hlist1, Go.Lib.byteCells_length, hq]
    have new2 := setRow_heap (w.alloc (.cells row0 5)) w.heap.size row0 row1 5 (0, 0) new1
    have us := Go.Lib.run_unsafeString_row (P := Try.prog) ((w.alloc (.cells row0 5)).setRow w.heap.size row1) 130 3 9 5 Try.underlying130 hco w.heap.size row1.size (by unfold World.shape?; rw [new2]) s.data.toList
      (by intro e; rw [e] at hq; exact h0 hq) (by omega) (by omega)
      (fun j x hx => Go.Lib.cells_of_row new2 row1.size j _ (by rw [List.take_of_length_le (by simp), hlist1]; simp [Go.Lib.byteCells, hx]))
    rw [← hq] at us
    clear hrow1 hrow0 hlen0 new1 new2 hlist1 hlen1 hq hco hi1 hi hz hsize hby
    go_enter Try.func78, Try.ntmps78
    go_wp2
    go_ret
    have b1 : Below w.heap.size w (w.alloc (.cells row0 5)) := (Below.refl _ w).alloc (Nat.le_refl _) _
    have b2 : Below w.heap.size (w.alloc (.cells row0 5)) ((w.alloc (.cells row0 5)).setRow w.heap.size row1) := ⟨rfl, rfl, rfl, by simp, fun k hk => setRow_other _ _ _ _ (by omega)⟩
    exact ⟨rfl, Go.Lib.below_freeze (b1.trans b2) (p := ⟨w.heap.size, 0, none⟩) (Nat.le_refl _) _⟩

theorem clone_c (s : ByteArray) (w : World) (hm : s.size ≤ 140737488355328) :
    Calls Try.prog 65 #[.string s] w fun e w' => e = .returned (.string s) ∧ Below w.heap.size w w' := by
  have C := Go.Lib.hid (lclone_c s w hm)
  go_enter Try.func65, Try.ntmps65
  go_wp2_with (refine C.out.mono ?_; rintro e w1 ⟨rfl, h1⟩)
  go_ret
  exact ⟨rfl, h1⟩

end Go.Proofs.Ytgalppnpmfpdbaa
