/-
  Stage 18: a *logstore.Log in memory; New, Len, the nil forms of what only reads.
  Stage 18: find.
  What a value holds.
  The contract of strings.HasPrefix.
  The contract of runes.Valid.
  Package value: contract of textMay.
  The contract of strings.Clone.
  Package value: contract of Of.
-/
import Derived.Test.YtggokffdgjedgaaGreatM05
import Derived.Test.YtggokffdgjedgaaGreatM06
import Derived.Test.YtggokffdgjedgaaGreatM07
import Derived.BigQuiet
import Derived.Deep.DeepCutAuto
import Derived.LoopTactic
import Derived.Test.YtggokffdgjedgaaGreatM02
import Derived.Test.YtggokffdgjedgaaGreatM01
import Derived.Lib.UnsafeStr
import Derived.Lib.BufferWrite
import Derived.Test.YtggokffdgjedgaaGreatM03
namespace Go.Proofs.YtggokffdgjedgaaGreat
open Go.RowKit

/-- Of the blocks that there were all but p, d, r are as they were. -/
structure Off3 (p d : Nat) (r : Option Nat) (w w' : World) : Prop where
  os : w'.os = w.os
  tape : w'.tape = w.tape
  output : w'.output = w.output
  size : w.heap.size ≤ w'.heap.size
  block : ∀ k, k < w.heap.size → k ≠ p → k ≠ d → some k ≠ r → w'.heap[k]? = w.heap[k]?
section
variable {p d : Nat} {r r1 : Option Nat} {w w1 w2 w' : World}
theorem Off3.of_below (h : Below w.heap.size w w') : Off3 p d r w w' := ⟨h.os, h.tape, h.output, h.size, fun k hk _ _ _ => h.block k hk⟩
theorem Off3.refl (p d : Nat) (r : Option Nat) (w : World) : Off3 p d r w w := .of_below (Below.refl _ _)
theorem Off3.trans (h : Off3 p d r w w1) (k : Off3 p d r1 w1 w2) (hr : r1 = r ∨ ∀ g, r1 = some g → w.heap.size ≤ g) : Off3 p d r w w2 :=
  ⟨k.os.trans h.os, k.tape.trans h.tape, k.output.trans h.output, Nat.le_trans h.size k.size, fun i hi h1 h2 h3 => (k.block i (Nat.lt_of_lt_of_le hi h.size) h1 h2 (by
    rcases hr with rfl | hr
    · exact h3
    · intro e
      have := hr i e.symm
      omega)).trans (h.block i hi h1 h2 h3)⟩
theorem Off3.above (h : Off3 p d r w w1) (k : Below w1.heap.size w1 w2) : Off3 p d r w w2 := h.trans (r1 := r) (Off3.of_below k) (.inl rfl)
theorem Off3.of_off1 (h : Off1 d w w') : Off3 p d r w w' := ⟨h.os, h.tape, h.output, h.size, fun k hk _ h2 _ => h.block k hk h2⟩
theorem Off3.below {B : Nat} (h : Off3 p d r w w') (hp : B ≤ p) (hd : B ≤ d) (hr : ∀ g, r = some g → B ≤ g) (hB : B ≤ w.heap.size) : Below B w w' :=
  ⟨h.os, h.tape, h.output, h.size, fun k hk => h.block k (by omega) (by omega) (by omega) (by intro e; have := hr k e.symm; omega)⟩
end

/-- Block p is a log of the records L: block d is its directory, v the row of its records; all from block B on. -/
structure LG (w : World) (B p d : Nat) (v : Value) (L : List RecT) : Prop where
  bp : B ≤ p
  bd : B ≤ d
  row : w.heap[p]? = some (.cells #[.pointer (some ⟨d, 0, none⟩), v] 54 (0, 0))
  ck : ∃ T, CK w d T ∧ Fits T (esL L)
  own : OwnRec w B v L
  keys : KeysOk L
  may : ∀ x ∈ L, mayT x = true

theorem tLogDir : 54 ≠ 82 := by decide
theorem tLogRec : 54 ≠ 33 := by decide
theorem tDirRec : 82 ≠ 33 := by decide

section
variable {w w' : World} {B p d : Nat} {v : Value} {L : List RecT}
theorem LG.plt (h : LG w B p d v L) : p < w.heap.size := (Array.getElem?_eq_some_iff.1 h.row).1
theorem LG.dlt (h : LG w B p d v L) : d < w.heap.size := by obtain ⟨T, hc, -⟩ := h.ck; exact hc.lt
theorem LG.vlt (h : LG w B p d v L) : ∀ g, v.ownBlock = some g → g < w.heap.size := fun g hg => (World.ownsRow.lt h.own g hg).2
theorem LG.vge (h : LG w B p d v L) : ∀ g, v.ownBlock = some g → B ≤ g := fun g hg => (World.ownsRow.lt h.own g hg).1
theorem LG.Ble (h : LG w B p d v L) : B ≤ w.heap.size := by have := h.bp; have := h.plt; omega
theorem LG.pd (h : LG w B p d v L) : p ≠ d := by
  rintro rfl
  obtain ⟨T, hc, -⟩ := h.ck
  obtain ⟨cs, fr, hr⟩ := hc.row
  rw [h.row] at hr
  simp only [Option.some.injEq, Obj.cells.injEq] at hr
  exact tLogDir hr.2.1
/-- A row of records has a block of its own type. -/
theorem rec_type {w : World} {B : Nat} {v : Value} {L : List RecT} (h : OwnRec w B v L) {g : Nat} (hg : v.ownBlock = some g) : ∃ cs fr, w.heap[g]? = some (.cells cs 33 fr) := by
  rcases h.2 with ⟨rfl, -⟩ | ⟨q, cap, cur, rfl, -, h2, -⟩
  · cases hg
  · cases hg
    exact ⟨_, _, h2⟩
theorem own_same {w w' : World} {B : Nat} {v : Value} {L : List RecT} (h : OwnRec w B v L) (hs : ∀ g cs fr, w.heap[g]? = some (.cells cs 33 fr) → v.ownBlock = some g → w'.heap[g]? = w.heap[g]?) : OwnRec w' B v L := by
  refine ⟨h.1, ?_⟩
  rcases h.2 with h' | ⟨q, cap, cur, rfl, hB, h2, h3⟩
  · exact .inl h'
  · exact .inr ⟨q, cap, cur, rfl, hB, (hs q _ _ h2 rfl).trans h2, h3⟩
theorem LG.pv (h : LG w B p d v L) : v.ownBlock ≠ some p := by
  intro e
  obtain ⟨cs, fr, hr⟩ := rec_type h.own e
  rw [h.row] at hr
  simp only [Option.some.injEq, Obj.cells.injEq] at hr
  exact tLogRec hr.2.1
theorem LG.dv (h : LG w B p d v L) : v.ownBlock ≠ some d := by
  intro e
  obtain ⟨cs, fr, hr⟩ := rec_type h.own e
  obtain ⟨T, hc, -⟩ := h.ck
  obtain ⟨cs2, fr2, hr2⟩ := hc.row
  rw [hr2] at hr
  simp only [Option.some.injEq, Obj.cells.injEq] at hr
  exact tDirRec hr.2.1
theorem LG.same (h : LG w B p d v L) (h1 : w'.heap[p]? = w.heap[p]?) (h2 : w'.heap[d]? = w.heap[d]?) (h3 : ∀ g, v.ownBlock = some g → w'.heap[g]? = w.heap[g]?) : LG w' B p d v L := by
  obtain ⟨T, hc, hf⟩ := h.ck
  exact ⟨h.bp, h.bd, h1.trans h.row, ⟨T, hc.same h2, hf⟩, own_same h.own fun g _ _ _ hg => h3 g hg, h.keys, h.may⟩
theorem LG.below (h : LG w B p d v L) (hb : Below w.heap.size w w') : LG w' B p d v L := h.same (hb.block _ h.plt) (hb.block _ h.dlt) fun g hg => hb.block g (h.vlt g hg)
theorem LG.mono {B' : Nat} (h : LG w B p d v L) (hB : B' ≤ B) : LG w B' p d v L := ⟨Nat.le_trans hB h.bp, Nat.le_trans hB h.bd, h.row, h.ck, h.own.mono hB, h.keys, h.may⟩
/-- What a log's writes leave: another row of records. -/
theorem LG.keptRow (h : LG w B p d v L) (ho : Off3 p d v.ownBlock w w') {B' : Nat} {u : Value} {M : List RecT} (hu : OwnRec w B' u M) (hne : ∀ g, u.ownBlock = some g → v.ownBlock ≠ some g) : OwnRec w' B' u M :=
  own_same hu fun g cs fr hg hug => ho.block g (Array.getElem?_eq_some_iff.1 hg).1
    (by rintro rfl; rw [h.row] at hg; simp only [Option.some.injEq, Obj.cells.injEq] at hg; exact tLogRec hg.2.1)
    (by rintro rfl; obtain ⟨T, hc, -⟩ := h.ck; obtain ⟨cs2, fr2, hr2⟩ := hc.row; rw [hr2] at hg; simp only [Option.some.injEq, Obj.cells.injEq] at hg; exact tDirRec hg.2.1)
    (fun e => hne g hug e.symm)
theorem LG.offBelow (h : LG w B p d v L) (ho : Off3 p d v.ownBlock w w') : Below B w w' := ho.below h.bp h.bd h.vge h.Ble
theorem LG.cells (h : LG w B p d v L) : w.cell? ⟨p, 0, none⟩ = some (.pointer (some ⟨d, 0, none⟩)) ∧ w.cell? ⟨p, 1, none⟩ = some v := by
  have c := fun j => cell_of_row w p j _ _ _ h.row
  exact ⟨c 0, c 1⟩
theorem LG.len (h : LG w B p d v L) : L.length ≤ 32 := by
  obtain ⟨T, hc, hf⟩ := h.ck
  have h1 := hf.length
  rw [esL_len] at h1
  rw [← h1, ← cntT_all]
  exact cntT_le T 32
theorem LG.sizes (h : LG w B p d v L) {i : Nat} (hi : i < L.length) : L[i].1.size ≤ 16 ∧ L[i].2.2.2.2.size ≤ 24 := mayT_short (h.may _ (List.getElem_mem hi))
end

set_option maxRecDepth 100000 in
theorem lnew_c (w : World) : Calls Tryz.prog 9 #[] w fun e w' => ∃ p d, e = .returned (.pointer (some ⟨p, 0, none⟩)) ∧ LG w' w.heap.size p d (.slice none 0 0) [] ∧ Below w.heap.size w w' := by
  have C := Go.Lib.hid (cnew_c w)
  go_enter Tryz.func9, Tryz.ntmps9
  go_wp2_with fail
  refine C.out.mono ?_
  rintro e w1 ⟨d, rfl, hd, hck, hb⟩
  have hb2 := below_one w1 (.cells #[.pointer (some ⟨d, 0, none⟩), .slice none 0 0] 54)
  have hh := heap_alloc_new w1 (.cells #[.pointer (some ⟨d, 0, none⟩), .slice none 0 0] 54)
  have HG := Go.Lib.hid (show LG (w1.alloc (.cells #[.pointer (some ⟨d, 0, none⟩), .slice none 0 0] 54)) w.heap.size w1.heap.size d (.slice none 0 0) [] from
    ⟨hb.size, hd, hh, ⟨_, hck.below hb2, Fits.empty fun _ _ => rfl⟩, OwnRec.nil _ _, by simp [KeysOk], fun x hx => by cases hx⟩)
  have HB := Go.Lib.hid (hb.trans (hb2.mono hb.size))
  clear hb hb2 hh hck hd C
  go_wp2_with fail
  go_ret
  exact ⟨_, _, rfl, HG.out, HB.out⟩

set_option maxRecDepth 100000 in
theorem llen_c {w : World} {B p d : Nat} {v : Value} {L : List RecT} (h : LG w B p d v L) : Calls Tryz.prog 22 #[.pointer (some ⟨p, 0, none⟩)] w fun e w' => e = .returned (.int .i64 (L.length : Int)) ∧ w = w' := by
  obtain ⟨x0, x1⟩ := h.cells
  obtain ⟨a, cap, rfl, -⟩ := h.own.rs.form
  clear h
  go_enter Tryz.func22, Tryz.ntmps22
  go_wp2_with fail
  go_ret
  exact ⟨rfl, rfl⟩
set_option maxRecDepth 100000 in
theorem lnil_len (w : World) : Calls Tryz.prog 22 #[.pointer none] w fun e w' => e = .returned (.int .i64 0) ∧ w = w' := by
  go_enter Tryz.func22, Tryz.ntmps22
  go_wp2_with fail
  go_ret
  exact ⟨rfl, rfl⟩

end Go.Proofs.YtggokffdgjedgaaGreat

namespace Go.Proofs.YtggokffdgjedgaaGreat
open Go.RowKit

/-- The numbers that are found of a key, rising. -/
def idsR (L : List RecT) (key : ByteArray) : List Int := (((esL L).filter fun e => nearN (hashS key) e.1).map Prod.snd).mergeSort (fun a b => decide (a ≤ b))
theorem ids_of {L : List RecT} {key : ByteArray} {F : List Int} (h1 : F.Pairwise (· ≤ ·)) (h2 : F.Perm (((esL L).filter fun e => nearN (hashS key) e.1).map Prod.snd)) : F = idsR L key := by
  have h3 := List.pairwise_mergeSort (le := fun (a b : Int) => decide (a ≤ b)) (fun a b c h g => by simp at *; omega) (fun a b => by simp; omega) (((esL L).filter fun e => nearN (hashS key) e.1).map Prod.snd)
  exact List.Perm.eq_of_pairwise (fun a b _ _ h g => by simp at *; omega) h1 (h3.imp fun h => by simpa using h) (h2.trans (List.mergeSort_perm _ _).symm)
theorem ids_mem {L : List RecT} {key : ByteArray} (z : Int) : z ∈ idsR L key ↔ ∃ i, ∃ h : i < L.length, z = (i : Int) ∧ nearN (hashS key) (hR L[i]) = true := near_mem (List.mergeSort_perm _ _) z
theorem ids_len (L : List RecT) (key : ByteArray) : (idsR L key).length = readsR L key := by
  unfold idsR
  rw [List.length_mergeSort, List.length_map, reads_len]
theorem ids_hit {L : List RecT} {key : ByteArray} {i : Nat} (hi : i < L.length) (hk : L[i].1 = key) : (i : Int) ∈ idsR L key := by
  rw [ids_mem]
  refine ⟨i, hi, rfl, ?_⟩
  unfold hR
  rw [hk]
  exact near_self _
/-- The directory finds, of a log's key, these numbers. -/
theorem lids_c {w : World} {B p d : Nat} {v : Value} {L : List RecT} (h : LG w B p d v L) (key : ByteArray) : Calls Tryz.prog 35 #[.pointer (some ⟨d, 0, none⟩), .int .u64 (hashS key : Int)] w fun e w' => ∃ u, e = .returned u ∧ KI.R w' u (idsR L key) ∧ Below w.heap.size w w' := by
  obtain ⟨T, hc, hf⟩ := h.ck
  have hl := h.len
  refine (cfind_c hc hf (hashS_lt key) (by rw [esL_len]; omega)).mono ?_
  rintro e w' ⟨u, F, rfl, ho, h1, h2, hb⟩
  rw [ids_of h1 h2] at ho
  exact ⟨u, rfl, ho.r, hb⟩

def VLf (p d hk : Nat) (key : ByteArray) (F : List Int) : Nat → World → Value → Prop
  | 7, _, v => v = .pointer (some ⟨p, 0, none⟩)
  | 8, _, v => v = .pointer (some ⟨p, 0, none⟩)
  | 9, _, v => v = .pointer (some ⟨p, 0, none⟩)
  | 10, _, v => v = .pointer (some ⟨d, 0, none⟩)
  | 11, _, v => v = .string key
  | 12, _, v => v = .int .u64 (hk : Int)
  | 13, w, v => KI.R w v F
  | 14, _, v => v = .int .i64 (F.length : Int)
  | 15, _, v => v = .int .i64 0
  | _, _, _ => True

theorem VLf_below (p d hk : Nat) (key : ByteArray) (F : List Int) : ∀ (i : Nat) (w w' : World) (v : Value), VLf p d hk key F i w v → Below w.heap.size w w' → VLf p d hk key F i w' v := by
  intro i w w' v h hb
  unfold VLf at h ⊢
  split at h <;> first | exact h | trivial | exact Lay.R.below h hb

set_option maxHeartbeats 2000000 in
set_option maxRecDepth 100000 in
theorem lfind_c {w : World} {B p d : Nat} {v : Value} {L : List RecT} (h : LG w B p d v L) (key : ByteArray) (hk : key.size ≤ 1000000) :
    Calls Tryz.prog 30 #[.pointer (some ⟨p, 0, none⟩), .string key] w fun e w' => ((∃ i, ∃ h : i < L.length, L[i].1 = key ∧ e = .returned (.int .i64 (i : Int))) ∨ ((∀ x ∈ L, x.1 ≠ key) ∧ e = .returned (.int .i64 (-1)))) ∧ Below w.heap.size w w' := by
  have CH := Go.Lib.hid fun W => hof_k key (hashS key) rfl W hk
  have CF := Go.Lib.hid fun W (hb : Below w.heap.size w W) => lids_c (h.below hb) key
  have X0 := Go.Lib.hid h.cells.1
  have X1 := Go.Lib.hid h.cells.2
  obtain ⟨a, cap, rfl, hm⟩ := h.own.rs.form
  have HR := Go.Lib.hid h.own.rs
  have HM := Go.Lib.hid fun z => (ids_mem (L := L) (key := key) z).1
  have HH := Go.Lib.hid fun i (hi : i < L.length) (hk : L[i].1 = key) => ids_hit hi hk
  have HN := Go.Lib.hid h.len
  clear h hk
  generalize idsR L key = F at *
  generalize hashS key = hk at *
  go_enter Tryz.func30, Tryz.ntmps30
  go_upto_region 1 with (fail)
  refine wp_region_each (by kernel_rfl) (VLf p d hk key F) (VLf_below p d hk key F) (by decide +kernel) (by decide +kernel) (by rfl) [7, 8, 9, 10, 11, 12, 13, 14, 15] (by rfl) ?_ ?_
  · intro i o ho a w6 hb6 hlen hg
    have x0 := keepC X0.out hb6
    match i, ho with
    | 0, ho =>
      obtain rfl := Option.some.inj ho
      have h0 := given_old hg 0 (by decide +kernel)
      clear hg
      exact st_yield ho (wanted_none rfl) (.pointer (some ⟨p, 0, none⟩)) w6 (by simp [execOp, Act.eval, h0, go_sem]) ⟨_, rfl, Below.refl _ _, by rintro t' ⟨⟩; rfl⟩
    | 1, ho =>
      obtain rfl := Option.some.inj ho
      obtain ⟨_, h7, rfl⟩ := given_fed hg 7 (by decide +kernel)
      clear hg
      exact st_yield ho (wanted_none rfl) (.pointer (some ⟨p, 0, none⟩)) w6 (by simp [execOp, Act.eval, h7, go_sem]) ⟨_, rfl, Below.refl _ _, by rintro t' ⟨⟩; rfl⟩
    | 2, ho =>
      obtain rfl := Option.some.inj ho
      obtain ⟨_, h8, rfl⟩ := given_fed hg 8 (by decide +kernel)
      clear hg
      exact st_yield ho (wanted_none rfl) (.pointer (some ⟨p, 0, none⟩)) w6 (by simp [execOp, Act.eval, h8, go_sem]) ⟨_, rfl, Below.refl _ _, by rintro t' ⟨⟩; rfl⟩
    | 3, ho =>
      obtain rfl := Option.some.inj ho
      obtain ⟨_, h9, rfl⟩ := given_fed hg 9 (by decide +kernel)
      clear hg
      exact st_yield ho (wanted_none rfl) (.pointer (some ⟨d, 0, none⟩)) w6 (by simp [execOp, Act.eval, h9, go_sem, x0]) ⟨_, rfl, Below.refl _ _, by rintro t' ⟨⟩; rfl⟩
    | 4, ho =>
      obtain rfl := Option.some.inj ho
      have h1 := given_old hg 1 (by decide +kernel)
      clear hg
      exact st_yield ho (wanted_none rfl) (.string key) w6 (by simp [execOp, Act.eval, h1, go_sem]) ⟨_, rfl, Below.refl _ _, by rintro t' ⟨⟩; rfl⟩
    | 5, ho =>
      obtain rfl := Option.some.inj ho
      obtain ⟨_, h11, rfl⟩ := given_fed hg 11 (by decide +kernel)
      clear hg
      exact st_enter (w1 := w6) ho (wanted_none rfl) 33 #[.string key] (by simp [execOp, Act.eval, h11, resolve, go_sem]) ((CH.out _).mono (by rintro e w7 ⟨rfl, hb7⟩; exact ⟨_, rfl, _, rfl, hb7, by rintro t' ⟨⟩; rfl⟩))
    | 6, ho =>
      obtain rfl := Option.some.inj ho
      obtain ⟨_, h10, rfl⟩ := given_fed hg 10 (by decide +kernel)
      obtain ⟨_, h12, rfl⟩ := given_fed hg 12 (by decide +kernel)
      clear hg
      exact st_enter (w1 := w6) ho (wanted_none rfl) 35 #[.pointer (some ⟨d, 0, none⟩), .int .u64 (hk : Int)] (by simp [execOp, Act.eval, h10, h12, resolve, go_sem]) ((CF.out w6 hb6).mono (by rintro e w7 ⟨v', rfl, hown, hb7⟩; exact ⟨v', rfl, _, rfl, hb7, by rintro t' ⟨⟩; exact hown⟩))
    | 7, ho =>
      obtain rfl := Option.some.inj ho
      obtain ⟨v13, h13, p13⟩ := given_fed hg 13 (by decide +kernel)
      clear hg
      obtain ⟨a, cap, rfl, -⟩ := p13.form
      exact st_yield ho (wanted_none rfl) (.int .i64 (F.length : Int)) w6 (by simp [execOp, Act.eval, h13, resolve, go_sem]) ⟨_, rfl, Below.refl _ _, by rintro t' ⟨⟩; rfl⟩
    | 8, ho =>
      obtain rfl := Option.some.inj ho
      clear hg
      exact st_yield ho (wanted_none rfl) (.int .i64 0) w6 (by simp [execOp, Act.eval, go_sem]) ⟨_, rfl, Below.refl _ _, by rintro t' ⟨⟩; rfl⟩
    | n + 9, ho => simp at ho
  · intro f w6 hb6 hv
    have h13 := hv 13 (by decide)
    have h14 := hv 14 (by decide)
    have h15 := hv 15 (by decide)
    simp only [VLf] at h13 h14 h15
    obtain ⟨g, cg, hf13, hmF⟩ := h13.form
    rw [hf13] at h13
    have HF := Go.Lib.hid h13
    have HB6 := Go.Lib.hid hb6
    clear hv h13 CF CH
    unfold putAll
    simp only [List.foldl]
    simp only [hf13, h14, h15]
    go_simp
    clear hf13 h14 h15 hb6
    go_wp2_with fail
    go_loopw [6, 15] (fun _ ki wr => ∃ k : Nat, k ≤ F.length ∧ ki = .int .i64 (k : Int) ∧ Hid (∀ j (hj : j < F.length), j < k → ∀ i (hi : i < L.length), F[j] = (i : Int) → L[i].1 ≠ key) ∧ Hid (Below w6.heap.size w6 wr)) (fun _ ki _ => F.length - (intOf ki).toNat)
    case atStart => exact ⟨0, by omega, rfl, Go.Lib.hid fun j hj h => absurd h (by omega), Go.Lib.hid (Below.refl _ _)⟩
    case round =>
      obtain ⟨k, hk2, rfl, HNO, HB⟩ := hrel
      by_cases hlt : k < F.length
      · obtain ⟨b, o, rfl, -, -, c0⟩ := KI.at' (HF.out.below HB.out) k hlt
        have hix := idxI b o F.length cg k hlt
        obtain ⟨i, hi, hz, -⟩ := HM.out _ (List.getElem_mem hlt)
        have HBW := Go.Lib.hid (HB6.out.trans (HB.out.mono HB6.out.size))
        obtain ⟨b2, o2, rfl, -, -, d0, -⟩ := (HR.out.below HBW.out).at i hi
        have x1 := keepC X1.out HBW.out
        have hix2 := run_idx5 b2 o2 L.length cap i hi
        have HST := Go.Lib.hid (show L[i].1 ≠ key → ∀ j (hj : j < F.length), j < k + 1 → ∀ i (hi : i < L.length), F[j] = (i : Int) → L[i].1 ≠ key from fun hne j hj hjk i' hi' he => by
          rcases Nat.lt_or_ge j k with h | h
          · exact HNO.out j hj h i' hi' he
          · obtain rfl : j = k := by omega
            rw [hz] at he
            obtain rfl : i = i' := by omega
            exact hne)
        rw [hz] at c0
        have HYES := Go.Lib.hid (fun (hy : L[i].1 = key) => show ∃ i', ∃ h : i' < L.length, L[i'].1 = key ∧ (i : Int) = (i' : Int) from ⟨i, hi, hy, rfl⟩)
        have HZ := Go.Lib.hid hz
        clear hz HNO
        generalize hx : L[i].1 = kx at *
        by_cases hq : kx.toList = key.toList
        · have HY := Go.Lib.hid (HYES.out (ByteArray.ext (Array.toList_inj.1 (by rw [← ByteArray.toList_eq, ← ByteArray.toList_eq]; exact hq))))
          have hqb : (kx.toList == key.toList) = true := beq_iff_eq.2 hq
          go_wp2_with fail
          go_ret
          obtain ⟨i', h1, h2, h3⟩ := HY.out
          exact ⟨.inl ⟨i', h1, h2, by rw [h3]; rfl⟩, HBW.out⟩
        · have HS := Go.Lib.hid (HST.out (fun e => hq (by rw [e])))
          have hqb : (kx.toList == key.toList) = false := beq_eq_false_iff_ne.2 hq
          go_wp2_with fail
          exact ⟨⟨k + 1, by omega, by go_num, HS, HB⟩, by simp only [intOf]; omega⟩
      · obtain rfl : k = F.length := by omega
        have HNN := Go.Lib.hid (show ∀ x ∈ L, x.1 ≠ key from fun x hx e => by
          obtain ⟨i, hi, rfl⟩ := List.getElem_of_mem hx
          obtain ⟨j, hj, hjz⟩ := List.getElem_of_mem (HH.out i hi e)
          exact HNO.out j hj hj i hi hjz e)
        have HBW := Go.Lib.hid (HB6.out.trans (HB.out.mono HB6.out.size))
        go_wp2_with fail
        go_ret
        exact ⟨.inr ⟨HNN.out, rfl⟩, HBW.out⟩

end Go.Proofs.YtggokffdgjedgaaGreat

namespace Go.Proofs.YtggokffdgjedgaaGreat
open Go.RowKit

/-- What a value holds. -/
inductive VI where
  | none
  | num (n : Int)
  | text (s : ByteArray)
def VI.v : VI → Value
  | .none => .nilIface
  | .num n => .iface 124 (.int .i64 n)
  | .text s => .iface 125 (.string s)
def VI.val (x : VI) : Value := .agg #[x.v]
def VI.k : VI → Int
  | .none => 0
  | .num _ => 1
  | .text _ => 2
def VI.n : VI → Int
  | .num n => n
  | _ => 0
def VI.s : VI → ByteArray
  | .text s => s
  | _ => ⟨#[]⟩
def VI.isN : VI → Bool
  | .num _ => true
  | _ => false
def VI.isT : VI → Bool
  | .text _ => true
  | _ => false
def ofR (k n : Int) (s : ByteArray) : VI := if mayR k n s then (if k = 1 then .num n else .text s) else .none

end Go.Proofs.YtggokffdgjedgaaGreat

namespace Go.Proofs.YtggokffdgjedgaaGreat
open Go.RowKit

/-- Does t begin with p? -/
theorem prefix_eq (s t : ByteArray) : ((s.extract 0 t.size).toList == t.toList) = (bl t).isPrefixOf (bl s) := by
  rw [Bool.eq_iff_iff, beq_iff_eq, List.isPrefixOf_iff_prefix, List.prefix_iff_eq_take, ByteArray.toList_eq, ByteArray.toList_eq, Go.Lib.extract_data]
  unfold bl
  rw [← Go.Lib.size_eq]
  simp
  exact eq_comm

set_option maxRecDepth 100000 in
theorem lprefix_c (s t : ByteArray) (w : World) (_hm : s.size ≤ maxLen) :
    Calls Tryz.prog 109 #[.string s, .string t] w fun e w' => e = .returned (.bool ((bl t).isPrefixOf (bl s))) ∧ w = w' := by
  have hm := _hm
  unfold maxLen at hm
  by_cases h : t.size ≤ s.size
  · have hp := Go.Lib.hid (prefix_eq s t)
    go_enter Tryz.func109, Tryz.ntmps109
    go_wp2
    go_ret
    exact ⟨ret_of (congrArg Value.bool hp.out), rfl⟩
  · have hp : (bl t).isPrefixOf (bl s) = false := by
      cases hx : (bl t).isPrefixOf (bl s) with
      | false => rfl
      | true =>
        rw [List.isPrefixOf_iff_prefix] at hx
        have := hx.length_le
        rw [← bl_size, ← bl_size] at this
        exact absurd this h
    have hp := Go.Lib.hid hp
    go_enter Tryz.func109, Tryz.ntmps109
    go_wp2
    go_ret
    exact ⟨ret_of (congrArg Value.bool hp.out.symm), rfl⟩

theorem prefix_c (s t : ByteArray) (w : World) (hm : s.size ≤ maxLen) :
    Calls Tryz.prog 103 #[.string s, .string t] w fun e w' => e = .returned (.bool ((bl t).isPrefixOf (bl s))) ∧ w = w' := by
  have C := Go.Lib.hid (lprefix_c s t w hm)
  go_enter Tryz.func103, Tryz.ntmps103
  go_wp2_with (refine C.out.mono ?_; rintro e w1 ⟨rfl, rfl⟩)
  go_ret
  exact ⟨rfl, rfl⟩

end Go.Proofs.YtggokffdgjedgaaGreat

namespace Go.Proofs.YtggokffdgjedgaaGreat
open Go.RowKit

set_option maxRecDepth 100000 in
theorem valid_c (s : ByteArray) (w : World) (hm : s.size ≤ 1000000000) :
    Calls Tryz.prog 87 #[.string s] w fun e w' => e = .returned (.bool (wellB (toks (bl s)))) ∧ Below w.heap.size w w' := by
  have hl1 := toks_length (bl s)
  rw [← bl_size] at hl1
  obtain ⟨T, hT⟩ : ∃ T, T = (toks (bl s)).length := ⟨_, rfl⟩
  rw [← hT] at hl1
  have HT := Go.Lib.hid hT; clear hT
  go_enter Tryz.func87, Tryz.ntmps87
  go_wp2
  go_loopw [2] (fun _ wr => ∃ n : Nat, n ≤ T ∧ Hid (wellB ((toks (bl s)).take n) = true) ∧ wr.heap[w.heap.size]? = some (.stringIter s (posOf (bl s) n)) ∧ Below w.heap.size w wr) (fun _ wr => s.size - wr.iterPos w.heap.size)
  case atStart => exact ⟨0, by omega, rfl, World.iter_heap w s 0, (Below.refl _ w).alloc (Nat.le_refl _) _⟩
  case round =>
    obtain ⟨n, hn, hwell, hit, hbw⟩ := hrel
    by_cases hlt : n < T
    · have hT' : n < (toks (bl s)).length := by rw [← HT.out]; exact hlt
      obtain ⟨p1, p2, p3, p4⟩ := next_some s n hT'
      have hnx : ∀ ty, (Instr.next (.pointer (some ⟨w.heap.size, 0, none⟩)) true ty).run Tryz.prog wr = _ := fun ty => Go.Lib.run_next_any_at wr w.heap.size s _ ty hit p1
      rw [p3] at hnx
      rw [p2] at hnx
      have hit2 := Go.Lib.iterAt_heap wr w.heap.size s _ (posOf (bl s) (n + 1)) hit
      have hbw2 := below_iter hbw (Nat.le_refl _) s (posOf (bl s) (n + 1))
      have hwt := well_take (bl s) n hT'
      rw [hwell.out, Bool.true_and] at hwt
      have hmeas : Hid (s.size - posOf (bl s) (n + 1) < s.size - wr.iterPos w.heap.size) := by
        have := posOf_lt_succ (bl s) n hT'
        simp only [Hid, World.iterPos, hit]
        omega
      have hne := drop_ne (bl s) n hT'
      have hwf := well_false (bl s) n hT'
      have HP := fun W => prefix_c (s.extract (posOf (bl s) n) s.size) ⟨#[239, 191, 189]⟩ W (by simp [maxLen]; omega)
      rw [drop_bl] at HP
      have hle : posOf (bl s) n ≤ s.size := by omega
      clear p1 p2 p3 p4 hit hbw hwell
      have hof := okB_false (l := (bl s).drop (posOf (bl s) n))
      have hod : okB ((bl s).drop (posOf (bl s) n)) = (enc (dr ((bl s).drop (posOf (bl s) n)))).isPrefixOf ((bl s).drop (posOf (bl s) n)) := rfl
      generalize hL : (bl s).drop (posOf (bl s) n) = L at *
      generalize posOf (bl s) n = p at *
      have HP' := Go.Lib.hid HP; clear HP
      have Hwt := Go.Lib.hid hwt; clear hwt
      have Hwf := Go.Lib.hid hwf; clear hwf
      have Hod := Go.Lib.hid hod; clear hod
      have Hof := Go.Lib.hid hof; clear hof
      clear hL
      generalize wr.iterAt w.heap.size s (posOf (bl s) (n + 1)) = wi at hnx hit2 hbw2
      by_cases hr : dr L = 65533
      · rw [hr] at hnx
        have hpre : Hid ((bl ⟨#[239, 191, 189]⟩).isPrefixOf L = okB L) := by
          unfold Hid
          rw [Hod.out, hr, enc_bad]
          rfl
        cases ho : okB L with
        | true =>
          rw [ho] at hpre
          go_wp2_with (refine (HP'.out _).mono ?_; rintro e w1 ⟨rfl, rfl⟩; rw [hpre.out])
          go_roundw
          case rel => exact ⟨n + 1, by omega, Hwt.out.trans ho, hit2, hbw2⟩
          case measure => simp only [World.iterPos, hit2]; exact hmeas.out
        | false =>
          rw [ho] at hpre
          go_wp2_with (refine (HP'.out _).mono ?_; rintro e w1 ⟨rfl, rfl⟩; rw [hpre.out])
          go_ret
          exact ⟨ret_of (congrArg Value.bool (Hwf.out ho).symm), hbw2⟩
      · have ho : okB L = true := by
          cases ho : okB L with
          | true => rfl
          | false => exact absurd (Hof.out ho hne).1 hr
        have hr2 : ((dr L : Int) == 65533) = false := by
          rw [beq_eq_false_iff_ne]; omega
        generalize dr L = r at hnx hr2
        clear hr
        go_wp2
        go_roundw
        case rel => exact ⟨n + 1, by omega, Hwt.out.trans ho, hit2, hbw2⟩
        case measure => simp only [World.iterPos, hit2]; exact hmeas.out
    · have hend : ¬ posOf (bl s) n < s.size := by
        rw [posOf_all (bl s) n (by rw [← HT.out]; omega), bl_size]
        exact Nat.lt_irrefl _
      have hnx : ∀ ty, (Instr.next (.pointer (some ⟨w.heap.size, 0, none⟩)) true ty).run Tryz.prog wr = _ := fun ty => Go.Lib.run_next_end_at wr w.heap.size s _ ty hit hend
      have hall : Hid (wellB (toks (bl s)) = true) := by
        have := hwell.out
        rwa [List.take_of_length_le (by rw [← HT.out]; omega)] at this
      clear hend
      go_wp2
      go_ret
      exact ⟨ret_of (congrArg Value.bool hall.out.symm), hbw⟩

end Go.Proofs.YtggokffdgjedgaaGreat

namespace Go.Proofs.YtggokffdgjedgaaGreat
open Go.RowKit

set_option maxRecDepth 100000 in
theorem textMay_c (s : ByteArray) (w : World) : Calls Tryz.prog 73 #[.string s] w fun e w' => e = .returned (.bool (decide (s.size ≤ 24) && wellB (toks (bl s)))) ∧ Below w.heap.size w w' := by
  by_cases h : s.size ≤ 24
  · have C := Go.Lib.hid fun W => valid_c s W (by omega)
    go_enter Tryz.func73, Tryz.ntmps73
    go_wp2_with fail
    refine (C.out _).mono ?_
    rintro e w1 ⟨rfl, hb1⟩
    go_wp2_with fail
    go_ret
    exact ⟨ret_of (congrArg Value.bool (by simp [h])), hb1⟩
  · go_enter Tryz.func73, Tryz.ntmps73
    go_wp2_with fail
    go_ret
    exact ⟨ret_of (congrArg Value.bool (by simp)), Below.refl _ _⟩

end Go.Proofs.YtggokffdgjedgaaGreat

namespace Go.Proofs.YtggokffdgjedgaaGreat
open Go.RowKit

set_option maxRecDepth 100000 in
theorem lclone_c (s : ByteArray) (w : World) (hm : s.size ≤ 140737488355328) :
    Calls Tryz.prog 63 #[.string s] w fun e w' => e = .returned (.string s) ∧ Below w.heap.size w w' := by
  by_cases h0 : s.size = 0
  · have hs : s = ⟨#[]⟩ := ByteArray.ext (Array.eq_empty_of_size_eq_zero h0)
    subst hs
    go_enter Tryz.func63, Tryz.ntmps63
    go_wp2
    go_ret
    exact ⟨rfl, Below.refl _ _⟩
  · have hq : s.size = s.data.toList.length := Go.Lib.size_eq s
    have hco : Tryz.prog.cellsOf 5 = 1 := by kernel_rfl
    have hi1 : (Tryz.prog.info? 5).map (·.size) = some 1 := by kernel_rfl
    obtain ⟨i, hi, hz, hsize, hby⟩ := info_parts info8
    obtain ⟨row0, hrow0⟩ : ∃ r, r = madeCells (Value.int .u8 0).cells s.size := ⟨_, rfl⟩
    have hlen0 : row0.size = s.size := by rw [hrow0, size_madeCells]
    have mk : ∀ W : World, (Instr.makeSlice 126 (.int .i64 (s.size : Int)) (.int .i64 (s.size : Int))).run Tryz.prog W = .ok (.slice (some ⟨W.heap.size, 0, none⟩) s.size s.size) (W.alloc (.cells row0 5)) := by
      intro W
      have hr := run_make (P := Tryz.prog) W 126 5 i (.int .u8 0) Tryz.underlying126 hi hz .i64 .i64 (s.size : Int) (s.size : Int) (by omega) (by omega) (by rw [hby]; omega) (by omega)
      rw [hsize] at hr
      simpa [hrow0] using hr
    have new1 := heap_alloc_new w (.cells row0 5)
    have cp := Go.Lib.run_copy_row_string (P := Tryz.prog) (w.alloc (.cells row0 5)) 126 9 3 5 w.heap.size 0 s.size s.size s row0 5 Tryz.underlying126 hi1 new1 (Nat.le_refl _) (by omega)
    obtain ⟨row1, hrow1⟩ : ∃ r, r = (row0.toList.take 0 ++ Go.Lib.byteCells s.data.toList ++ row0.toList.drop (0 + s.size)).toArray := ⟨_, rfl⟩
    rw [← hrow1] at cp
    have hlist1 : row1.toList = Go.Lib.byteCells s.data.toList := by
      rw [hrow1]
      simp [hlen0]
    have hlen1 : row1.size = s.size := by rw [← Array.length_toList, hlist1, Go.Lib.byteCells_length, hq]
    have new2 := setRow_heap (w.alloc (.cells row0 5)) w.heap.size row0 row1 5 (0, 0) new1
    have us := Go.Lib.run_unsafeString_row (P := Tryz.prog) ((w.alloc (.cells row0 5)).setRow w.heap.size row1) 127 3 9 5 Tryz.underlying127 hco w.heap.size row1.size (by unfold World.shape?; rw [new2]) s.data.toList
      (by intro e; rw [e] at hq; exact h0 hq) (by omega) (by omega)
      (fun j x hx => Go.Lib.cells_of_row new2 row1.size j _ (by rw [List.take_of_length_le (by simp), hlist1]; simp [Go.Lib.byteCells, hx]))
    rw [← hq] at us
    clear hrow1 hrow0 hlen0 new1 new2 hlist1 hlen1 hq hco hi1 hi hz hsize hby
    go_enter Tryz.func63, Tryz.ntmps63
    go_wp2
    go_ret
    have b1 : Below w.heap.size w (w.alloc (.cells row0 5)) := (Below.refl _ w).alloc (Nat.le_refl _) _
    have b2 : Below w.heap.size (w.alloc (.cells row0 5)) ((w.alloc (.cells row0 5)).setRow w.heap.size row1) := ⟨rfl, rfl, rfl, by simp, fun k hk => setRow_other _ _ _ _ (by omega)⟩
    exact ⟨rfl, Go.Lib.below_freeze (b1.trans b2) (p := ⟨w.heap.size, 0, none⟩) (Nat.le_refl _) _⟩

theorem clone_c (s : ByteArray) (w : World) (hm : s.size ≤ 140737488355328) :
    Calls Tryz.prog 50 #[.string s] w fun e w' => e = .returned (.string s) ∧ Below w.heap.size w w' := by
  have C := Go.Lib.hid (lclone_c s w hm)
  go_enter Tryz.func50, Tryz.ntmps50
  go_wp2_with (refine C.out.mono ?_; rintro e w1 ⟨rfl, h1⟩)
  go_ret
  exact ⟨rfl, h1⟩

end Go.Proofs.YtggokffdgjedgaaGreat

namespace Go.Proofs.YtggokffdgjedgaaGreat
open Go.RowKit

/-- Two blocks of its own, whatever was made later. -/
theorem two_kept (w : World) (o1 o2 : Obj) (w1 : World) (hb : Below ((w.alloc o1).alloc o2).heap.size ((w.alloc o1).alloc o2) w1) :
    w1.heap[w.heap.size]? = some o1 ∧ w1.heap[w.heap.size + 1]? = some o2 ∧ Below w.heap.size w w1 := by
  have hlt0 : w.heap.size < ((w.alloc o1).alloc o2).heap.size := (Array.getElem?_eq_some_iff.1 (two_first w o1 o2)).1
  have hlt1 : w.heap.size + 1 < ((w.alloc o1).alloc o2).heap.size := (Array.getElem?_eq_some_iff.1 (heap_alloc2_new w o1 o2)).1
  exact ⟨(hb.block _ hlt0).trans (two_first w _ _), (hb.block _ hlt1).trans (heap_alloc2_new w _ _), (below_two w o1 o2).trans (hb.mono (below_two w _ _).size)⟩

/-- A row and one more are what is answered. -/
theorem results_row_one {P : Program} {fn : Func} {p u : Tmp} {ty : TypeId} (h : fn.results = #[.cell p ty, .tmp u]) (tmps : Array Value) (w : World) (g : Nat) (t : TypeId) (cs : Array Value) (fr : Nat × Nat) (d : TypeDesc)
    (hp : tmps.getD p undef = .pointer (some ⟨g, 0, none⟩)) (hg : w.heap[g]? = some (.cells cs t fr))
    (hu : P.underlying ty = some d) (hd : (match d with | .struct _ | .array _ _ => true | _ => false) = true) (hi : (P.info? ty).map (·.size) = some cs.size) :
    (results fn tmps).run P w = .ok (.tuple #[.agg cs, tmps.getD u undef]) w := by
  have hp' : tmps[p]?.getD undef = .pointer (some ⟨g, 0, none⟩) := by simpa using hp
  simp only [results, h]
  simp [Result.andThen, hp', asAddr, run_loadVar_row w g t ty cs fr d hg hu hd hi]

theorem vi_one (x : VI) : x.v.oneCell' = true := by cases x <;> rfl
theorem store_vi (x : VI) (W : World) : (store ⟨W.heap.size, 0, none⟩ x.v).run Tryz.prog (W.alloc (.cells #[.nilIface] 112)) = .ok () (W.alloc (.cells #[x.v] 112)) := by
  cases x <;> simp [VI.v, go_sem]

/-- What 'Of' answers. -/
theorem ret_of_at {w w0 : World} {tmps : Array Value} {x : VI} {e : Int} {g : Nat} {fr : Nat × Nat} {v : Value}
    (hp : tmps.getD 2 undef = .pointer (some ⟨g, 0, none⟩)) (hg : w.heap[g]? = some (.cells #[x.v] 112 fr)) (h3 : tmps.getD 3 undef = .int .i64 e)
    (hr : .tuple #[x.val, .int .i64 e] = v) (hb : Below w0.heap.size w0 w) : bodyPost Tryz.prog Tryz.f62 (fun e w' => e = .returned v ∧ Below w0.heap.size w0 w') Exit.ret { tmps := tmps, defers := [] } w := by
  subst hr
  have h := results_row_one (P := Tryz.prog) (fn := Tryz.f62) (p := 2) (u := 3) (ty := 112) rfl tmps w g 112 #[x.v] fr _ hp hg Tryz.underlying112 rfl (by kernel_rfl)
  rw [h3] at h
  exact bodyPost_ret h rfl ⟨rfl, hb⟩

def ofV (k n : Int) (s : ByteArray) : Value := .tuple #[(ofR k n s).val, .int .i64 (if mayR k n s then 0 else 1)]

theorem of_bad {k n : Int} {s : ByteArray} (h : mayR k n s = false) : ofV k n s = .tuple #[VI.none.val, .int .i64 1] := by simp [ofV, ofR, h]
theorem of_num {n : Int} {s : ByteArray} (h : mayR 1 n s = true) : ofV 1 n s = .tuple #[(VI.num n).val, .int .i64 0] := by simp [ofV, ofR, h]
theorem of_text {n : Int} {s : ByteArray} (h : mayR 2 n s = true) : ofV 2 n s = .tuple #[(VI.text s).val, .int .i64 0] := by simp [ofV, ofR, h]

set_option maxRecDepth 100000 in
theorem vof_c (k n : Int) (s : ByteArray) (w : World) : Calls Tryz.prog 62 #[rawV k n s] w fun e w' => e = .returned (ofV k n s) ∧ Below w.heap.size w w' := by
  by_cases h1 : k = 1
  · subst h1
    by_cases h2 : s = ⟨#[]⟩
    · subst h2
      have hv := Go.Lib.hid (of_num (n := n) (s := ⟨#[]⟩) (by unfold mayR; simp))
      unfold rawV
      go_enter Tryz.func62, Tryz.ntmps62
      go_wp2_with fail
      exact ret_of_at (x := .num n) rfl (heap_alloc2_new ..) rfl hv.out.symm (below_two ..)
    · have h3 : Hid (mayR 1 n s = false) := by
        unfold Hid mayR
        rw [if_pos rfl, ByteArray.toList_eq]
        cases hl : s.data.toList with
        | nil => exact absurd (ByteArray.ext (Array.toList_inj.1 (by simpa using hl))) h2
        | cons a l => rfl
      have hv := Go.Lib.hid (of_bad h3.out)
      have h4 : (s.toList == []) = false := by
        have := h3.out
        unfold mayR at this
        rw [if_pos rfl] at this
        rw [← this]
        cases s.toList <;> rfl
      clear h3
      unfold rawV
      go_enter Tryz.func62, Tryz.ntmps62
      go_wp2_with fail
      exact ret_of_at (x := .none) rfl (heap_alloc2_new ..) rfl hv.out.symm (below_two ..)
  by_cases h2 : k = 2
  · subst h2
    by_cases h3 : n = 0
    · subst h3
      have C1 := Go.Lib.hid fun W => textMay_c s W
      have hv : Hid (ofV 2 0 s = if (decide (s.size ≤ 24) && wellB (toks (bl s))) = true then .tuple #[(VI.text s).val, .int .i64 0] else .tuple #[VI.none.val, .int .i64 1]) := by
        unfold Hid
        split
        · rename_i h
          exact of_text (by unfold mayR; simpa using h)
        · rename_i h
          exact of_bad (by unfold mayR; simpa using h)
      have hs : Hid ((decide (s.size ≤ 24) && wellB (toks (bl s))) = true → s.size ≤ 24) := by
        unfold Hid
        intro h
        rw [Bool.and_eq_true, decide_eq_true_eq] at h
        exact h.1
      generalize (decide (s.size ≤ 24) && wellB (toks (bl s))) = t at *
      unfold rawV
      go_enter Tryz.func62, Tryz.ntmps62
      go_wp2_with fail
      refine (C1.out _).mono ?_
      rintro e w1 ⟨rfl, hb1⟩
      obtain ⟨hA, hB, hbb⟩ := two_kept _ _ _ _ hb1
      have HB := Go.Lib.hid hB
      have x2 := cell_of_row w1 w.heap.size 2 _ _ _ hA
      simp only [List.getElem?_toArray, List.getElem?_cons_zero, List.getElem?_cons_succ] at x2
      clear hB hA hb1
      cases t with
      | true =>
        have hv2 := Go.Lib.hid (hv.out.trans (if_pos rfl)).symm
        have C2 := Go.Lib.hid fun W => clone_c s W (by have := hs.out rfl; omega)
        clear hs
        go_wp2_with fail
        refine (C2.out _).mono ?_
        rintro e w2 ⟨rfl, hb2⟩
        have hlt : w.heap.size + 1 < w1.heap.size := (Array.getElem?_eq_some_iff.1 HB.out).1
        have HB2 := Go.Lib.hid ((hb2.block _ hlt).trans HB.out)
        have hbb2 := hbb.trans (hb2.mono hbb.size)
        clear hb2 hlt x2 HB hbb
        go_wp2_with (first
          | (with_reducible show wpList _ _ _ (⟨none, Op.store 112 (.tmp 2) (.tmp 35), _, _, _, _⟩ :: _) _ _; go_loud (refine wpList_store_row rfl 112 (.tmp 2) (.tmp 35) rfl (w.heap.size + 1) #[.iface 125 (.string s)] rfl rfl 112 _ HB2.out (by kernel_rfl) rfl (by simp [Value.oneCell']) ?_))
          | fail)
        exact ret_of_at (x := .text s) rfl (setRow_heap _ _ _ _ _ (0, 0) HB2.out) rfl hv2.out (setRow_below _ hbb2 (by omega))
      | false =>
        have hv2 := Go.Lib.hid (hv.out.trans (if_neg (by decide))).symm
        clear x2 hs
        go_wp2_with (first
          | (with_reducible show wpList _ _ _ (⟨none, Op.store 112 (.tmp 2) (.tmp 36), _, _, _, _⟩ :: _) _ _; go_loud (refine wpList_store_row rfl 112 (.tmp 2) (.tmp 36) rfl (w.heap.size + 1) #[.nilIface] rfl rfl 112 _ HB.out (by kernel_rfl) rfl (by simp [Value.oneCell']) ?_))
          | fail)
        exact ret_of_at (x := .none) rfl (setRow_heap _ _ _ _ _ (0, 0) HB.out) rfl hv2.out (setRow_below _ hbb (by omega))
    · have hv := Go.Lib.hid (of_bad (k := 2) (n := n) (s := s) (by unfold mayR; simp [h3]))
      have h3' : (n == 0) = false := by simp [h3]
      unfold rawV
      go_enter Tryz.func62, Tryz.ntmps62
      go_wp2_with fail
      exact ret_of_at (x := .none) rfl (heap_alloc2_new ..) rfl hv.out.symm (below_two ..)
  · have hv := Go.Lib.hid (of_bad (k := k) (n := n) (s := s) (by unfold mayR; simp [h1, h2]))
    have h1' : (k == 1) = false := by simp [h1]
    have h2' : (k == 2) = false := by simp [h2]
    unfold rawV
    go_enter Tryz.func62, Tryz.ntmps62
    go_wp2_with fail
    exact ret_of_at (x := .none) rfl (heap_alloc2_new ..) rfl hv.out.symm (below_two ..)

end Go.Proofs.YtggokffdgjedgaaGreat
