/-
  Package cuckoo, as the laws meet it.
  Boxes of records: their cells, in whatever world came later.
  Stage 18: a *logstore.Log in memory; New, Len, the nil forms of what only reads.
  Stage 18: find.
  What a value holds.
  The contract of strings.HasPrefix.
  The contract of runes.Valid.
  Package value: contract of textMay.
-/
import Derived.Test.YtkpbbjappndddaaM07
import Derived.Test.YtkpbbjappndddaaM06
import Derived.Test.YtkpbbjappndddaaM03
import Derived.Test.YtkpbbjappndddaaM05
import Derived.BigQuiet
import Derived.Deep.DeepCutAuto
import Derived.LoopTactic
import Derived.Test.YtkpbbjappndddaaM02
import Derived.Test.YtkpbbjappndddaaM01
namespace Go.Proofs.Ytkpbbjappndddaa
open Go.RowKit

theorem way_fits {T : SlT} {es : List EnT} (hf : Fits T es) {x : Nat} {i : Int} {W : List (Nat × Nat)} (h : WayOk T (firstN x) (othN (firstN x) (tagN x)) W) (hne : W ≠ []) : Fits (shiftT T (some (tagN x, i)) W).1 (es ++ [(x, i)]) := by
  rcases h with ⟨h, -⟩ | ⟨c, P, e, s, hc, rfl, h1, h2, h3, h4, h5, h6⟩
  · exact absurd h hne
  · refine shift_fits hf h1 h2 h3 h4 h5 h6 ?_
    unfold keyH
    rcases hc with rfl | rfl
    · rfl
    · exact keyN_oth _ (first_lt x)
section
variable {w : World} {d : Nat} {T : SlT} {es : List EnT}
theorem cinsert_yes (h : CK w d T) (hf : Fits T es) {x : Nat} {i : Int} (hx : x < 18446744073709551616) (hi : idOk i = true) (hr : roomB (es.map Prod.fst ++ [x]) = true) :
    Calls Try.prog 23 #[.pointer (some ⟨d, 0, none⟩), .int .u64 (x : Int), .int .i64 i] w fun e w' => e = .returned (.bool true) ∧ (∃ T', CK w' d T' ∧ Fits T' (es ++ [(x, i)])) ∧ Off1 d w w' := by
  refine (cinsert_w h hx hi).mono ?_
  rintro e w' ⟨W, hW, ⟨rfl, -, -⟩ | ⟨hne, rfl, hck, hoff⟩⟩
  · rcases hW with ⟨-, L, h1, h2⟩ | ⟨c, P, e, s, -, h0, -⟩
    · rw [stuck hf h1 h2] at hr
      cases hr
    · simp at h0
  · exact ⟨rfl, ⟨_, hck, way_fits hf hW hne⟩, hoff⟩
theorem cinsert_none (v : Option Addr) {x : Nat} {i : Int} (w : World) (hi : v = none ∨ idOk i = false) :
    Calls Try.prog 23 #[.pointer v, .int .u64 (x : Int), .int .i64 i] w fun e w' => e = .returned (.bool false) ∧ Below w.heap.size w w' := by
  have HB := Go.Lib.hid (Below.refl w.heap.size w)
  cases v with
  | none =>
    clear hi
    go_enter Try.func23, Try.ntmps23
    go_wp2_with fail
    go_ret
    exact ⟨rfl, HB.out⟩
  | some a =>
    have hi2 : idOk i = false := by
      rcases hi with h | h
      · cases h
      · exact h
    have MC := Go.Lib.hid (fun W => cmay_c i W)
    rw [hi2] at MC
    clear hi hi2
    go_enter Try.func23, Try.ntmps23
    go_wp2_with fail
    refine (MC.out _).mono ?_
    rintro e w1 ⟨rfl, rfl⟩
    go_wp2_with fail
    go_ret
    exact ⟨rfl, HB.out⟩
theorem cinsert_no (h : CK w d T) (hf : Fits T es) {x : Nat} {i : Int} (hx : x < 18446744073709551616) (_hw : (Lit.int .i64 i).wf = true) (hr : (idOk i && roomB (es.map Prod.fst ++ [x])) = false) :
    Calls Try.prog 23 #[.pointer (some ⟨d, 0, none⟩), .int .u64 (x : Int), .int .i64 i] w fun e w' => e = .returned (.bool false) ∧ Below w.heap.size w w' := by
  cases hi : idOk i with
  | false => exact cinsert_none _ w (.inr hi)
  | true =>
    rw [hi, Bool.true_and] at hr
    refine (cinsert_w h hx hi).mono ?_
    rintro e w' ⟨W, hW, ⟨rfl, rfl, hb⟩ | ⟨hne, -, -, -⟩⟩
    · exact ⟨rfl, hb⟩
    · have := room_of_fits (way_fits (i := i) hf hW hne)
      rw [List.map_append] at this
      exact absurd (this.symm.trans hr) (by simp)
end
theorem cnil_insert (x : Nat) (i : Int) (_hx : x < 18446744073709551616) (w : World) : Calls Try.prog 23 #[.pointer none, .int .u64 (x : Int), .int .i64 i] w fun e w' => e = .returned (.bool false) ∧ Below w.heap.size w w' := cinsert_none none w (.inl rfl)

end Go.Proofs.Ytkpbbjappndddaa

namespace Go.Proofs.Ytkpbbjappndddaa
open Go.RowKit

theorem row_kept {w w' : World} {b : Nat} {o : Obj} (h : w.heap[b]? = some o) (hb : Below w.heap.size w w') : w'.heap[b]? = some o := (hb.block _ (Array.getElem?_eq_some_iff.1 h).1).trans h
theorem row5 {w : World} {b : Nat} {a0 a1 a2 a3 a4 : Value} {t : TypeId} {fr : Nat × Nat} (h : w.heap[b]? = some (.cells #[a0, a1, a2, a3, a4] t fr)) :
    w.cell? ⟨b, 0, none⟩ = some a0 ∧ w.cell? ⟨b, 1, none⟩ = some a1 ∧ w.cell? ⟨b, 2, none⟩ = some a2 ∧ w.cell? ⟨b, 3, none⟩ = some a3 ∧ w.cell? ⟨b, 4, none⟩ = some a4 := by
  have c := fun j => cell_of_row w b j _ _ _ h
  exact ⟨c 0, c 1, c 2, c 3, c 4⟩
theorem row_lt {w : World} {b : Nat} {o : Obj} (h : w.heap[b]? = some o) : b < w.heap.size := (Array.getElem?_eq_some_iff.1 h).1
theorem RRec.below {w w' : World} {v : Value} {l : List RecT} (h : RRec w v l) (hb : Below w.heap.size w w') : RRec w' v l := by
  have h5 := h.rs.below hb
  obtain ⟨a, cap, hv, h1, h2, h3, h4, -⟩ := h
  subst hv
  obtain ⟨a', cap', e, -, -, -, h5⟩ := h5
  simp only [Value.slice.injEq] at e
  obtain ⟨rfl, -, rfl⟩ := e
  exact ⟨a, cap, rfl, h1, h2, h3, h4, h5⟩

end Go.Proofs.Ytkpbbjappndddaa

namespace Go.Proofs.Ytkpbbjappndddaa
open Go.RowKit

/-- Of the blocks that there were all but p, d, r are as they were. -/
structure Off3 (p d : Nat) (r : Option Nat) (w w' : World) : Prop where
  os : w'.os = w.os
  tape : w'.tape = w.tape
  output : w'.output = w.output
  size : w.heap.size ≤ w'.heap.size
  block : ∀ k, k < w.heap.size → k ≠ p → k ≠ d → some k ≠ r → w'.heap[k]? = w.heap[k]?
section
variable {p d : Nat} {r r1 : Option Nat} {w w1 w2 w' : World}
theorem Off3.of_below (h : Below w.heap.size w w') : Off3 p d r w w' := ⟨h.os, h.tape, h.output, h.size, fun k hk _ _ _ => h.block k hk⟩
theorem Off3.refl (p d : Nat) (r : Option Nat) (w : World) : Off3 p d r w w := .of_below (Below.refl _ _)
theorem Off3.trans (h : Off3 p d r w w1) (k : Off3 p d r1 w1 w2) (hr : r1 = r ∨ ∀ g, r1 = some g → w.heap.size ≤ g) : Off3 p d r w w2 :=
  ⟨k.os.trans h.os, k.tape.trans h.tape, k.output.trans h.output, Nat.le_trans h.size k.size, fun i hi h1 h2 h3 => (k.block i (Nat.lt_of_lt_of_le hi h.size) h1 h2 (by
    rcases hr with rfl | hr
    · exact h3
    · intro e
      have := hr i e.symm
      omega)).trans (h.block i hi h1 h2 h3)⟩
theorem Off3.above (h : Off3 p d r w w1) (k : Below w1.heap.size w1 w2) : Off3 p d r w w2 := h.trans (r1 := r) (Off3.of_below k) (.inl rfl)
theorem Off3.of_off1 (h : Off1 d w w') : Off3 p d r w w' := ⟨h.os, h.tape, h.output, h.size, fun k hk _ h2 _ => h.block k hk h2⟩
theorem Off3.below {B : Nat} (h : Off3 p d r w w') (hp : B ≤ p) (hd : B ≤ d) (hr : ∀ g, r = some g → B ≤ g) (hB : B ≤ w.heap.size) : Below B w w' :=
  ⟨h.os, h.tape, h.output, h.size, fun k hk => h.block k (by omega) (by omega) (by omega) (by intro e; have := hr k e.symm; omega)⟩
end

/-- Block p is a log of the records L: block d is its directory, v the row of its records; all from block B on. -/
structure LG (w : World) (B p d : Nat) (v : Value) (L : List RecT) : Prop where
  bp : B ≤ p
  bd : B ≤ d
  row : w.heap[p]? = some (.cells #[.pointer (some ⟨d, 0, none⟩), v] 51 (0, 0))
  ck : ∃ T, CK w d T ∧ Fits T (esL L)
  own : OwnRec w B v L
  keys : KeysOk L
  may : ∀ x ∈ L, mayT x = true

theorem tLogDir : 51 ≠ 72 := by decide
theorem tLogRec : 51 ≠ 26 := by decide
theorem tDirRec : 72 ≠ 26 := by decide

section
variable {w w' : World} {B p d : Nat} {v : Value} {L : List RecT}
theorem LG.plt (h : LG w B p d v L) : p < w.heap.size := (Array.getElem?_eq_some_iff.1 h.row).1
theorem LG.dlt (h : LG w B p d v L) : d < w.heap.size := by obtain ⟨T, hc, -⟩ := h.ck; exact hc.lt
theorem LG.vlt (h : LG w B p d v L) : ∀ g, v.ownBlock = some g → g < w.heap.size := fun g hg => (World.ownsRow.lt h.own g hg).2
theorem LG.vge (h : LG w B p d v L) : ∀ g, v.ownBlock = some g → B ≤ g := fun g hg => (World.ownsRow.lt h.own g hg).1
theorem LG.Ble (h : LG w B p d v L) : B ≤ w.heap.size := by have := h.bp; have := h.plt; omega
theorem LG.pd (h : LG w B p d v L) : p ≠ d := by
  rintro rfl
  obtain ⟨T, hc, -⟩ := h.ck
  obtain ⟨cs, fr, hr⟩ := hc.row
  rw [h.row] at hr
  simp only [Option.some.injEq, Obj.cells.injEq] at hr
  exact tLogDir hr.2.1
/-- A row of records has a block of its own type. -/
theorem rec_type {w : World} {B : Nat} {v : Value} {L : List RecT} (h : OwnRec w B v L) {g : Nat} (hg : v.ownBlock = some g) : ∃ cs fr, w.heap[g]? = some (.cells cs 26 fr) := by
  rcases h.2 with ⟨rfl, -⟩ | ⟨q, cap, cur, rfl, -, h2, -⟩
  · cases hg
  · cases hg
    exact ⟨_, _, h2⟩
theorem own_same {w w' : World} {B : Nat} {v : Value} {L : List RecT} (h : OwnRec w B v L) (hs : ∀ g cs fr, w.heap[g]? = some (.cells cs 26 fr) → v.ownBlock = some g → w'.heap[g]? = w.heap[g]?) : OwnRec w' B v L := by
  refine ⟨h.1, ?_⟩
  rcases h.2 with h' | ⟨q, cap, cur, rfl, hB, h2, h3⟩
  · exact .inl h'
  · exact .inr ⟨q, cap, cur, rfl, hB, (hs q _ _ h2 rfl).trans h2, h3⟩
theorem LG.pv (h : LG w B p d v L) : v.ownBlock ≠ some p := by
  intro e
  obtain ⟨cs, fr, hr⟩ := rec_type h.own e
  rw [h.row] at hr
  simp only [Option.some.injEq, Obj.cells.injEq] at hr
  exact tLogRec hr.2.1
theorem LG.dv (h : LG w B p d v L) : v.ownBlock ≠ some d := by
  intro e
  obtain ⟨cs, fr, hr⟩ := rec_type h.own e
  obtain ⟨T, hc, -⟩ := h.ck
  obtain ⟨cs2, fr2, hr2⟩ := hc.row
  rw [hr2] at hr
  simp only [Option.some.injEq, Obj.cells.injEq] at hr
  exact tDirRec hr.2.1
theorem LG.same (h : LG w B p d v L) (h1 : w'.heap[p]? = w.heap[p]?) (h2 : w'.heap[d]? = w.heap[d]?) (h3 : ∀ g, v.ownBlock = some g → w'.heap[g]? = w.heap[g]?) : LG w' B p d v L := by
  obtain ⟨T, hc, hf⟩ := h.ck
  exact ⟨h.bp, h.bd, h1.trans h.row, ⟨T, hc.same h2, hf⟩, own_same h.own fun g _ _ _ hg => h3 g hg, h.keys, h.may⟩
theorem LG.below (h : LG w B p d v L) (hb : Below w.heap.size w w') : LG w' B p d v L := h.same (hb.block _ h.plt) (hb.block _ h.dlt) fun g hg => hb.block g (h.vlt g hg)
theorem LG.mono {B' : Nat} (h : LG w B p d v L) (hB : B' ≤ B) : LG w B' p d v L := ⟨Nat.le_trans hB h.bp, Nat.le_trans hB h.bd, h.row, h.ck, h.own.mono hB, h.keys, h.may⟩
/-- What a log's writes leave: another row of records. -/
theorem LG.keptRow (h : LG w B p d v L) (ho : Off3 p d v.ownBlock w w') {B' : Nat} {u : Value} {M : List RecT} (hu : OwnRec w B' u M) (hne : ∀ g, u.ownBlock = some g → v.ownBlock ≠ some g) : OwnRec w' B' u M :=
  own_same hu fun g cs fr hg hug => ho.block g (Array.getElem?_eq_some_iff.1 hg).1
    (by rintro rfl; rw [h.row] at hg; simp only [Option.some.injEq, Obj.cells.injEq] at hg; exact tLogRec hg.2.1)
    (by rintro rfl; obtain ⟨T, hc, -⟩ := h.ck; obtain ⟨cs2, fr2, hr2⟩ := hc.row; rw [hr2] at hg; simp only [Option.some.injEq, Obj.cells.injEq] at hg; exact tDirRec hg.2.1)
    (fun e => hne g hug e.symm)
theorem LG.offBelow (h : LG w B p d v L) (ho : Off3 p d v.ownBlock w w') : Below B w w' := ho.below h.bp h.bd h.vge h.Ble
theorem LG.cells (h : LG w B p d v L) : w.cell? ⟨p, 0, none⟩ = some (.pointer (some ⟨d, 0, none⟩)) ∧ w.cell? ⟨p, 1, none⟩ = some v := by
  have c := fun j => cell_of_row w p j _ _ _ h.row
  exact ⟨c 0, c 1⟩
theorem LG.len (h : LG w B p d v L) : L.length ≤ 32 := by
  obtain ⟨T, hc, hf⟩ := h.ck
  have h1 := hf.length
  rw [esL_len] at h1
  rw [← h1, ← cntT_all]
  exact cntT_le T 32
theorem LG.sizes (h : LG w B p d v L) {i : Nat} (hi : i < L.length) : L[i].1.size ≤ 16 ∧ L[i].2.2.2.2.size ≤ 24 := mayT_short (h.may _ (List.getElem_mem hi))
end

set_option maxRecDepth 100000 in
theorem lnew_c (w : World) : Calls Try.prog 15 #[] w fun e w' => ∃ p d, e = .returned (.pointer (some ⟨p, 0, none⟩)) ∧ LG w' w.heap.size p d (.slice none 0 0) [] ∧ Below w.heap.size w w' := by
  have C := Go.Lib.hid (cnew_c w)
  go_enter Try.func15, Try.ntmps15
  go_wp2_with fail
  refine C.out.mono ?_
  rintro e w1 ⟨d, rfl, hd, hck, hb⟩
  have hb2 := below_one w1 (.cells #[.pointer (some ⟨d, 0, none⟩), .slice none 0 0] 51)
  have hh := heap_alloc_new w1 (.cells #[.pointer (some ⟨d, 0, none⟩), .slice none 0 0] 51)
  have HG := Go.Lib.hid (show LG (w1.alloc (.cells #[.pointer (some ⟨d, 0, none⟩), .slice none 0 0] 51)) w.heap.size w1.heap.size d (.slice none 0 0) [] from
    ⟨hb.size, hd, hh, ⟨_, hck.below hb2, Fits.empty fun _ _ => rfl⟩, OwnRec.nil _ _, by simp [KeysOk], fun x hx => by cases hx⟩)
  have HB := Go.Lib.hid (hb.trans (hb2.mono hb.size))
  clear hb hb2 hh hck hd C
  go_wp2_with fail
  go_ret
  exact ⟨_, _, rfl, HG.out, HB.out⟩

set_option maxRecDepth 100000 in
theorem llen_c {w : World} {B p d : Nat} {v : Value} {L : List RecT} (h : LG w B p d v L) : Calls Try.prog 13 #[.pointer (some ⟨p, 0, none⟩)] w fun e w' => e = .returned (.int .i64 (L.length : Int)) ∧ w = w' := by
  obtain ⟨x0, x1⟩ := h.cells
  obtain ⟨a, cap, rfl, -⟩ := h.own.rs.form
  clear h
  go_enter Try.func13, Try.ntmps13
  go_wp2_with fail
  go_ret
  exact ⟨rfl, rfl⟩
set_option maxRecDepth 100000 in
theorem lnil_len (w : World) : Calls Try.prog 13 #[.pointer none] w fun e w' => e = .returned (.int .i64 0) ∧ w = w' := by
  go_enter Try.func13, Try.ntmps13
  go_wp2_with fail
  go_ret
  exact ⟨rfl, rfl⟩

end Go.Proofs.Ytkpbbjappndddaa

namespace Go.Proofs.Ytkpbbjappndddaa
open Go.RowKit

/-- The numbers that are found of a key, rising. -/
def idsR (L : List RecT) (key : ByteArray) : List Int := (((esL L).filter fun e => nearN (hashS key) e.1).map Prod.snd).mergeSort (fun a b => decide (a ≤ b))
theorem ids_of {L : List RecT} {key : ByteArray} {F : List Int} (h1 : F.Pairwise (· ≤ ·)) (h2 : F.Perm (((esL L).filter fun e => nearN (hashS key) e.1).map Prod.snd)) : F = idsR L key := by
  have h3 := List.pairwise_mergeSort (le := fun (a b : Int) => decide (a ≤ b)) (fun a b c h g => by simp at *; omega) (fun a b => by simp; omega) (((esL L).filter fun e => nearN (hashS key) e.1).map Prod.snd)
  exact List.Perm.eq_of_pairwise (fun a b _ _ h g => by simp at *; omega) h1 (h3.imp fun h => by simpa using h) (h2.trans (List.mergeSort_perm _ _).symm)
theorem ids_mem {L : List RecT} {key : ByteArray} (z : Int) : z ∈ idsR L key ↔ ∃ i, ∃ h : i < L.length, z = (i : Int) ∧ nearN (hashS key) (hR L[i]) = true := near_mem (List.mergeSort_perm _ _) z
theorem ids_len (L : List RecT) (key : ByteArray) : (idsR L key).length = readsR L key := by
  unfold idsR
  rw [List.length_mergeSort, List.length_map, reads_len]
theorem ids_hit {L : List RecT} {key : ByteArray} {i : Nat} (hi : i < L.length) (hk : L[i].1 = key) : (i : Int) ∈ idsR L key := by
  rw [ids_mem]
  refine ⟨i, hi, rfl, ?_⟩
  unfold hR
  rw [hk]
  exact near_self _
/-- The directory finds, of a log's key, these numbers. -/
theorem lids_c {w : World} {B p d : Nat} {v : Value} {L : List RecT} (h : LG w B p d v L) (key : ByteArray) : Calls Try.prog 25 #[.pointer (some ⟨d, 0, none⟩), .int .u64 (hashS key : Int)] w fun e w' => ∃ u, e = .returned u ∧ KI.R w' u (idsR L key) ∧ Below w.heap.size w w' := by
  obtain ⟨T, hc, hf⟩ := h.ck
  have hl := h.len
  refine (cfind_c hc hf (hashS_lt key) (by rw [esL_len]; omega)).mono ?_
  rintro e w' ⟨u, F, rfl, ho, h1, h2, hb⟩
  rw [ids_of h1 h2] at ho
  exact ⟨u, rfl, ho.r, hb⟩

def VLf (p d hk : Nat) (key : ByteArray) (F : List Int) : Nat → World → Value → Prop
  | 7, _, v => v = .pointer (some ⟨p, 0, none⟩)
  | 8, _, v => v = .pointer (some ⟨p, 0, none⟩)
  | 9, _, v => v = .pointer (some ⟨p, 0, none⟩)
  | 10, _, v => v = .pointer (some ⟨d, 0, none⟩)
  | 11, _, v => v = .string key
  | 12, _, v => v = .int .u64 (hk : Int)
  | 13, w, v => KI.R w v F
  | 14, _, v => v = .int .i64 (F.length : Int)
  | 15, _, v => v = .int .i64 0
  | _, _, _ => True

theorem VLf_below (p d hk : Nat) (key : ByteArray) (F : List Int) : ∀ (i : Nat) (w w' : World) (v : Value), VLf p d hk key F i w v → Below w.heap.size w w' → VLf p d hk key F i w' v := by
  intro i w w' v h hb
  unfold VLf at h ⊢
  split at h <;> first | exact h | trivial | exact Lay.R.below h hb

set_option maxHeartbeats 2000000 in
set_option maxRecDepth 100000 in
theorem lfind_c {w : World} {B p d : Nat} {v : Value} {L : List RecT} (h : LG w B p d v L) (key : ByteArray) (hk : key.size ≤ 1000000) :
    Calls Try.prog 18 #[.pointer (some ⟨p, 0, none⟩), .string key] w fun e w' => ((∃ i, ∃ h : i < L.length, L[i].1 = key ∧ e = .returned (.int .i64 (i : Int))) ∨ ((∀ x ∈ L, x.1 ≠ key) ∧ e = .returned (.int .i64 (-1)))) ∧ Below w.heap.size w w' := by
  have CH := Go.Lib.hid fun W => hof_k key (hashS key) rfl W hk
  have CF := Go.Lib.hid fun W (hb : Below w.heap.size w W) => lids_c (h.below hb) key
  have X0 := Go.Lib.hid h.cells.1
  have X1 := Go.Lib.hid h.cells.2
  obtain ⟨a, cap, rfl, hm⟩ := h.own.rs.form
  have HR := Go.Lib.hid h.own.rs
  have HM := Go.Lib.hid fun z => (ids_mem (L := L) (key := key) z).1
  have HH := Go.Lib.hid fun i (hi : i < L.length) (hk : L[i].1 = key) => ids_hit hi hk
  have HN := Go.Lib.hid h.len
  clear h hk
  generalize idsR L key = F at *
  generalize hashS key = hk at *
  go_enter Try.func18, Try.ntmps18
  go_upto_region 1 with (fail)
  refine wp_region_each (by kernel_rfl) (VLf p d hk key F) (VLf_below p d hk key F) (by decide +kernel) (by decide +kernel) (by rfl) [7, 8, 9, 10, 11, 12, 13, 14, 15] (by rfl) ?_ ?_
  · intro i o ho a w6 hb6 hlen hg
    have x0 := keepC X0.out hb6
    match i, ho with
    | 0, ho =>
      obtain rfl := Option.some.inj ho
      have h0 := given_old hg 0 (by decide +kernel)
      clear hg
      exact st_yield ho (wanted_none rfl) (.pointer (some ⟨p, 0, none⟩)) w6 (by simp [execOp, Act.eval, h0, go_sem]) ⟨_, rfl, Below.refl _ _, by rintro t' ⟨⟩; rfl⟩
    | 1, ho =>
      obtain rfl := Option.some.inj ho
      obtain ⟨_, h7, rfl⟩ := given_fed hg 7 (by decide +kernel)
      clear hg
      exact st_yield ho (wanted_none rfl) (.pointer (some ⟨p, 0, none⟩)) w6 (by simp [execOp, Act.eval, h7, go_sem]) ⟨_, rfl, Below.refl _ _, by rintro t' ⟨⟩; rfl⟩
    | 2, ho =>
      obtain rfl := Option.some.inj ho
      obtain ⟨_, h8, rfl⟩ := given_fed hg 8 (by decide +kernel)
      clear hg
      exact st_yield ho (wanted_none rfl) (.pointer (some ⟨p, 0, none⟩)) w6 (by simp [execOp, Act.eval, h8, go_sem]) ⟨_, rfl, Below.refl _ _, by rintro t' ⟨⟩; rfl⟩
    | 3, ho =>
      obtain rfl := Option.some.inj ho
      obtain ⟨_, h9, rfl⟩ := given_fed hg 9 (by decide +kernel)
      clear hg
      exact st_yield ho (wanted_none rfl) (.pointer (some ⟨d, 0, none⟩)) w6 (by simp [execOp, Act.eval, h9, go_sem, x0]) ⟨_, rfl, Below.refl _ _, by rintro t' ⟨⟩; rfl⟩
    | 4, ho =>
      obtain rfl := Option.some.inj ho
      have h1 := given_old hg 1 (by decide +kernel)
      clear hg
      exact st_yield ho (wanted_none rfl) (.string key) w6 (by simp [execOp, Act.eval, h1, go_sem]) ⟨_, rfl, Below.refl _ _, by rintro t' ⟨⟩; rfl⟩
    | 5, ho =>
      obtain rfl := Option.some.inj ho
      obtain ⟨_, h11, rfl⟩ := given_fed hg 11 (by decide +kernel)
      clear hg
      exact st_enter (w1 := w6) ho (wanted_none rfl) 24 #[.string key] (by simp [execOp, Act.eval, h11, resolve, go_sem]) ((CH.out _).mono (by rintro e w7 ⟨rfl, hb7⟩; exact ⟨_, rfl, _, rfl, hb7, by rintro t' ⟨⟩; rfl⟩))
    | 6, ho =>
      obtain rfl := Option.some.inj ho
      obtain ⟨_, h10, rfl⟩ := given_fed hg 10 (by decide +kernel)
      obtain ⟨_, h12, rfl⟩ := given_fed hg 12 (by decide +kernel)
      clear hg
      exact st_enter (w1 := w6) ho (wanted_none rfl) 25 #[.pointer (some ⟨d, 0, none⟩), .int .u64 (hk : Int)] (by simp [execOp, Act.eval, h10, h12, resolve, go_sem]) ((CF.out w6 hb6).mono (by rintro e w7 ⟨v', rfl, hown, hb7⟩; exact ⟨v', rfl, _, rfl, hb7, by rintro t' ⟨⟩; exact hown⟩))
    | 7, ho =>
      obtain rfl := Option.some.inj ho
      obtain ⟨v13, h13, p13⟩ := given_fed hg 13 (by decide +kernel)
      clear hg
      obtain ⟨a, cap, rfl, -⟩ := p13.form
      exact st_yield ho (wanted_none rfl) (.int .i64 (F.length : Int)) w6 (by simp [execOp, Act.eval, h13, resolve, go_sem]) ⟨_, rfl, Below.refl _ _, by rintro t' ⟨⟩; rfl⟩
    | 8, ho =>
      obtain rfl := Option.some.inj ho
      clear hg
      exact st_yield ho (wanted_none rfl) (.int .i64 0) w6 (by simp [execOp, Act.eval, go_sem]) ⟨_, rfl, Below.refl _ _, by rintro t' ⟨⟩; rfl⟩
    | n + 9, ho => simp at ho
  · intro f w6 hb6 hv
    have h13 := hv 13 (by decide)
    have h14 := hv 14 (by decide)
    have h15 := hv 15 (by decide)
    simp only [VLf] at h13 h14 h15
    obtain ⟨g, cg, hf13, hmF⟩ := h13.form
    rw [hf13] at h13
    have HF := Go.Lib.hid h13
    have HB6 := Go.Lib.hid hb6
    clear hv h13 CF CH
    unfold putAll
    simp only [List.foldl]
    simp only [hf13, h14, h15]
    go_simp
    clear hf13 h14 h15 hb6
    go_wp2_with fail
    go_loopw [6, 15] (fun _ ki wr => ∃ k : Nat, k ≤ F.length ∧ ki = .int .i64 (k : Int) ∧ Hid (∀ j (hj : j < F.length), j < k → ∀ i (hi : i < L.length), F[j] = (i : Int) → L[i].1 ≠ key) ∧ Hid (Below w6.heap.size w6 wr)) (fun _ ki _ => F.length - (intOf ki).toNat)
    case atStart => exact ⟨0, by omega, rfl, Go.Lib.hid fun j hj h => absurd h (by omega), Go.Lib.hid (Below.refl _ _)⟩
    case round =>
      obtain ⟨k, hk2, rfl, HNO, HB⟩ := hrel
      by_cases hlt : k < F.length
      · obtain ⟨b, o, rfl, -, -, c0⟩ := KI.at' (HF.out.below HB.out) k hlt
        have hix := idxI b o F.length cg k hlt
        obtain ⟨i, hi, hz, -⟩ := HM.out _ (List.getElem_mem hlt)
        have HBW := Go.Lib.hid (HB6.out.trans (HB.out.mono HB6.out.size))
        obtain ⟨b2, o2, rfl, -, -, d0, -⟩ := (HR.out.below HBW.out).at i hi
        have x1 := keepC X1.out HBW.out
        have hix2 := run_idx5 b2 o2 L.length cap i hi
        have HST := Go.Lib.hid (show L[i].1 ≠ key → ∀ j (hj : j < F.length), j < k + 1 → ∀ i (hi : i < L.length), F[j] = (i : Int) → L[i].1 ≠ key from fun hne j hj hjk i' hi' he => by
          rcases Nat.lt_or_ge j k with h | h
          · exact HNO.out j hj h i' hi' he
          · obtain rfl : j = k := by omega
            rw [hz] at he
            obtain rfl : i = i' := by omega
            exact hne)
        rw [hz] at c0
        have HYES := Go.Lib.hid (fun (hy : L[i].1 = key) => show ∃ i', ∃ h : i' < L.length, L[i'].1 = key ∧ (i : Int) = (i' : Int) from ⟨i, hi, hy, rfl⟩)
        have HZ := Go.Lib.hid hz
        clear hz HNO
        generalize hx : L[i].1 = kx at *
        by_cases hq : kx.toList = key.toList
        · have HY := Go.Lib.hid (HYES.out (ByteArray.ext (Array.toList_inj.1 (by rw [← ByteArray.toList_eq, ← ByteArray.toList_eq]; exact hq))))
          have hqb : (kx.toList == key.toList) = true := beq_iff_eq.2 hq
          go_wp2_with fail
          go_ret
          obtain ⟨i', h1, h2, h3⟩ := HY.out
          exact ⟨.inl ⟨i', h1, h2, by rw [h3]; rfl⟩, HBW.out⟩
        · have HS := Go.Lib.hid (HST.out (fun e => hq (by rw [e])))
          have hqb : (kx.toList == key.toList) = false := beq_eq_false_iff_ne.2 hq
          go_wp2_with fail
          exact ⟨⟨k + 1, by omega, by go_num, HS, HB⟩, by simp only [intOf]; omega⟩
      · obtain rfl : k = F.length := by omega
        have HNN := Go.Lib.hid (show ∀ x ∈ L, x.1 ≠ key from fun x hx e => by
          obtain ⟨i, hi, rfl⟩ := List.getElem_of_mem hx
          obtain ⟨j, hj, hjz⟩ := List.getElem_of_mem (HH.out i hi e)
          exact HNO.out j hj hj i hi hjz e)
        have HBW := Go.Lib.hid (HB6.out.trans (HB.out.mono HB6.out.size))
        go_wp2_with fail
        go_ret
        exact ⟨.inr ⟨HNN.out, rfl⟩, HBW.out⟩

end Go.Proofs.Ytkpbbjappndddaa

namespace Go.Proofs.Ytkpbbjappndddaa
open Go.RowKit

/-- What a value holds. -/
inductive VI where
  | none
  | num (n : Int)
  | text (s : ByteArray)
def VI.v : VI → Value
  | .none => .nilIface
  | .num n => .iface 112 (.int .i64 n)
  | .text s => .iface 113 (.string s)
def VI.val (x : VI) : Value := .agg #[x.v]
def VI.k : VI → Int
  | .none => 0
  | .num _ => 1
  | .text _ => 2
def VI.n : VI → Int
  | .num n => n
  | _ => 0
def VI.s : VI → ByteArray
  | .text s => s
  | _ => ⟨#[]⟩
def VI.isN : VI → Bool
  | .num _ => true
  | _ => false
def VI.isT : VI → Bool
  | .text _ => true
  | _ => false
def ofR (k n : Int) (s : ByteArray) : VI := if mayR k n s then (if k = 1 then .num n else .text s) else .none

end Go.Proofs.Ytkpbbjappndddaa

namespace Go.Proofs.Ytkpbbjappndddaa
open Go.RowKit

/-- Does t begin with p? -/
theorem prefix_eq (s t : ByteArray) : ((s.extract 0 t.size).toList == t.toList) = (bl t).isPrefixOf (bl s) := by
  rw [Bool.eq_iff_iff, beq_iff_eq, List.isPrefixOf_iff_prefix, List.prefix_iff_eq_take, ByteArray.toList_eq, ByteArray.toList_eq, Go.Lib.extract_data]
  unfold bl
  rw [← Go.Lib.size_eq]
  simp
  exact eq_comm

set_option maxRecDepth 100000 in
theorem lprefix_c (s t : ByteArray) (w : World) (_hm : s.size ≤ maxLen) :
    Calls Try.prog 96 #[.string s, .string t] w fun e w' => e = .returned (.bool ((bl t).isPrefixOf (bl s))) ∧ w = w' := by
  have hm := _hm
  unfold maxLen at hm
  by_cases h : t.size ≤ s.size
  · have hp := Go.Lib.hid (prefix_eq s t)
    go_enter Try.func96, Try.ntmps96
    go_wp2
    go_ret
    exact ⟨ret_of (congrArg Value.bool hp.out), rfl⟩
  · have hp : (bl t).isPrefixOf (bl s) = false := by
      cases hx : (bl t).isPrefixOf (bl s) with
      | false => rfl
      | true =>
        rw [List.isPrefixOf_iff_prefix] at hx
        have := hx.length_le
        rw [← bl_size, ← bl_size] at this
        exact absurd this h
    have hp := Go.Lib.hid hp
    go_enter Try.func96, Try.ntmps96
    go_wp2
    go_ret
    exact ⟨ret_of (congrArg Value.bool hp.out.symm), rfl⟩

theorem prefix_c (s t : ByteArray) (w : World) (hm : s.size ≤ maxLen) :
    Calls Try.prog 90 #[.string s, .string t] w fun e w' => e = .returned (.bool ((bl t).isPrefixOf (bl s))) ∧ w = w' := by
  have C := Go.Lib.hid (lprefix_c s t w hm)
  go_enter Try.func90, Try.ntmps90
  go_wp2_with (refine C.out.mono ?_; rintro e w1 ⟨rfl, rfl⟩)
  go_ret
  exact ⟨rfl, rfl⟩

end Go.Proofs.Ytkpbbjappndddaa

namespace Go.Proofs.Ytkpbbjappndddaa
open Go.RowKit

set_option maxRecDepth 100000 in
theorem valid_c (s : ByteArray) (w : World) (hm : s.size ≤ 1000000000) :
    Calls Try.prog 74 #[.string s] w fun e w' => e = .returned (.bool (wellB (toks (bl s)))) ∧ Below w.heap.size w w' := by
  have hl1 := toks_length (bl s)
  rw [← bl_size] at hl1
  obtain ⟨T, hT⟩ : ∃ T, T = (toks (bl s)).length := ⟨_, rfl⟩
  rw [← hT] at hl1
  have HT := Go.Lib.hid hT; clear hT
  go_enter Try.func74, Try.ntmps74
  go_wp2
  go_loopw [2] (fun _ wr => ∃ n : Nat, n ≤ T ∧ Hid (wellB ((toks (bl s)).take n) = true) ∧ wr.heap[w.heap.size]? = some (.stringIter s (posOf (bl s) n)) ∧ Below w.heap.size w wr) (fun _ wr => s.size - wr.iterPos w.heap.size)
  case atStart => exact ⟨0, by omega, rfl, World.iter_heap w s 0, (Below.refl _ w).alloc (Nat.le_refl _) _⟩
  case round =>
    obtain ⟨n, hn, hwell, hit, hbw⟩ := hrel
    by_cases hlt : n < T
    · have hT' : n < (toks (bl s)).length := by rw [← HT.out]; exact hlt
      obtain ⟨p1, p2, p3, p4⟩ := next_some s n hT'
      have hnx : ∀ ty, (Instr.next (.pointer (some ⟨w.heap.size, 0, none⟩)) true ty).run Try.prog wr = _ := fun ty => Go.Lib.run_next_any_at wr w.heap.size s _ ty hit p1
      rw [p3] at hnx
      rw [p2] at hnx
      have hit2 := Go.Lib.iterAt_heap wr w.heap.size s _ (posOf (bl s) (n + 1)) hit
      have hbw2 := below_iter hbw (Nat.le_refl _) s (posOf (bl s) (n + 1))
      have hwt := well_take (bl s) n hT'
      rw [hwell.out, Bool.true_and] at hwt
      have hmeas : Hid (s.size - posOf (bl s) (n + 1) < s.size - wr.iterPos w.heap.size) := by
        have := posOf_lt_succ (bl s) n hT'
        simp only [Hid, World.iterPos, hit]
        omega
      have hne := drop_ne (bl s) n hT'
      have hwf := well_false (bl s) n hT'
      have HP := fun W => prefix_c (s.extract (posOf (bl s) n) s.size) ⟨#[239, 191, 189]⟩ W (by simp [maxLen]; omega)
      rw [drop_bl] at HP
      have hle : posOf (bl s) n ≤ s.size := by omega
      clear p1 p2 p3 p4 hit hbw hwell
      have hof := okB_false (l := (bl s).drop (posOf (bl s) n))
      have hod : okB ((bl s).drop (posOf (bl s) n)) = (enc (dr ((bl s).drop (posOf (bl s) n)))).isPrefixOf ((bl s).drop (posOf (bl s) n)) := rfl
      generalize hL : (bl s).drop (posOf (bl s) n) = L at *
      generalize posOf (bl s) n = p at *
      have HP' := Go.Lib.hid HP; clear HP
      have Hwt := Go.Lib.hid hwt; clear hwt
      have Hwf := Go.Lib.hid hwf; clear hwf
      have Hod := Go.Lib.hid hod; clear hod
      have Hof := Go.Lib.hid hof; clear hof
      clear hL
      generalize wr.iterAt w.heap.size s (posOf (bl s) (n + 1)) = wi at hnx hit2 hbw2
      by_cases hr : dr L = 65533
      · rw [hr] at hnx
        have hpre : Hid ((bl ⟨#[239, 191, 189]⟩).isPrefixOf L = okB L) := by
          unfold Hid
          rw [Hod.out, hr, enc_bad]
          rfl
        cases ho : okB L with
        | true =>
          rw [ho] at hpre
          go_wp2_with (refine (HP'.out _).mono ?_; rintro e w1 ⟨rfl, rfl⟩; rw [hpre.out])
          go_roundw
          case rel => exact ⟨n + 1, by omega, Hwt.out.trans ho, hit2, hbw2⟩
          case measure => simp only [World.iterPos, hit2]; exact hmeas.out
        | false =>
          rw [ho] at hpre
          go_wp2_with (refine (HP'.out _).mono ?_; rintro e w1 ⟨rfl, rfl⟩; rw [hpre.out])
          go_ret
          exact ⟨ret_of (congrArg Value.bool (Hwf.out ho).symm), hbw2⟩
      · have ho : okB L = true := by
          cases ho : okB L with
          | true => rfl
          | false => exact absurd (Hof.out ho hne).1 hr
        have hr2 : ((dr L : Int) == 65533) = false := by
          rw [beq_eq_false_iff_ne]; omega
        generalize dr L = r at hnx hr2
        clear hr
        go_wp2
        go_roundw
        case rel => exact ⟨n + 1, by omega, Hwt.out.trans ho, hit2, hbw2⟩
        case measure => simp only [World.iterPos, hit2]; exact hmeas.out
    · have hend : ¬ posOf (bl s) n < s.size := by
        rw [posOf_all (bl s) n (by rw [← HT.out]; omega), bl_size]
        exact Nat.lt_irrefl _
      have hnx : ∀ ty, (Instr.next (.pointer (some ⟨w.heap.size, 0, none⟩)) true ty).run Try.prog wr = _ := fun ty => Go.Lib.run_next_end_at wr w.heap.size s _ ty hit hend
      have hall : Hid (wellB (toks (bl s)) = true) := by
        have := hwell.out
        rwa [List.take_of_length_le (by rw [← HT.out]; omega)] at this
      clear hend
      go_wp2
      go_ret
      exact ⟨ret_of (congrArg Value.bool hall.out.symm), hbw⟩

end Go.Proofs.Ytkpbbjappndddaa

namespace Go.Proofs.Ytkpbbjappndddaa
open Go.RowKit

set_option maxRecDepth 100000 in
theorem textMay_c (s : ByteArray) (w : World) : Calls Try.prog 60 #[.string s] w fun e w' => e = .returned (.bool (decide (s.size ≤ 24) && wellB (toks (bl s)))) ∧ Below w.heap.size w w' := by
  by_cases h : s.size ≤ 24
  · have C := Go.Lib.hid fun W => valid_c s W (by omega)
    go_enter Try.func60, Try.ntmps60
    go_wp2_with fail
    refine (C.out _).mono ?_
    rintro e w1 ⟨rfl, hb1⟩
    go_wp2_with fail
    go_ret
    exact ⟨ret_of (congrArg Value.bool (by simp [h])), hb1⟩
  · go_enter Try.func60, Try.ntmps60
    go_wp2_with fail
    go_ret
    exact ⟨ret_of (congrArg Value.bool (by simp)), Below.refl _ _⟩

end Go.Proofs.Ytkpbbjappndddaa
