/-
  Stage 18: a *logstore.Log in memory; New, Len, the nil forms of what only reads.
  Stage 18: find.
  What a value holds.
-/
import Derived.Test.YtkddleonmkhaiaaGreatM12
import Derived.Test.YtkddleonmkhaiaaGreatM17
import Derived.Test.YtkddleonmkhaiaaGreatM21
import Derived.BigQuiet
import Derived.Deep.DeepCutAuto
import Derived.LoopTactic
import Derived.Test.YtkddleonmkhaiaaGreatM05
namespace Go.Proofs.YtkddleonmkhaiaaGreat
open Go.RowKit

/-- Of the blocks that there were all but p, d, r are as they were. -/
structure Off3 (p d : Nat) (r : Option Nat) (w w' : World) : Prop where
  os : w'.os = w.os
  tape : w'.tape = w.tape
  output : w'.output = w.output
  size : w.heap.size ≤ w'.heap.size
  block : ∀ k, k < w.heap.size → k ≠ p → k ≠ d → some k ≠ r → w'.heap[k]? = w.heap[k]?
section
variable {p d : Nat} {r r1 : Option Nat} {w w1 w2 w' : World}
theorem Off3.of_below (h : Below w.heap.size w w') : Off3 p d r w w' := ⟨h.os, h.tape, h.output, h.size, fun k hk _ _ _ => h.block k hk⟩
theorem Off3.refl (p d : Nat) (r : Option Nat) (w : World) : Off3 p d r w w := .of_below (Below.refl _ _)
theorem Off3.trans (h : Off3 p d r w w1) (k : Off3 p d r1 w1 w2) (hr : r1 = r ∨ ∀ g, r1 = some g → w.heap.size ≤ g) : Off3 p d r w w2 :=
  ⟨k.os.trans h.os, k.tape.trans h.tape, k.output.trans h.output, Nat.le_trans h.size k.size, fun i hi h1 h2 h3 => (k.block i (Nat.lt_of_lt_of_le hi h.size) h1 h2 (by
    rcases hr with rfl | hr
    · exact h3
    · intro e
      have := hr i e.symm
      omega)).trans (h.block i hi h1 h2 h3)⟩
theorem Off3.above (h : Off3 p d r w w1) (k : Below w1.heap.size w1 w2) : Off3 p d r w w2 := h.trans (r1 := r) (Off3.of_below k) (.inl rfl)
theorem Off3.of_off1 (h : Off1 d w w') : Off3 p d r w w' := ⟨h.os, h.tape, h.output, h.size, fun k hk _ h2 _ => h.block k hk h2⟩
theorem Off3.below {B : Nat} (h : Off3 p d r w w') (hp : B ≤ p) (hd : B ≤ d) (hr : ∀ g, r = some g → B ≤ g) (hB : B ≤ w.heap.size) : Below B w w' :=
  ⟨h.os, h.tape, h.output, h.size, fun k hk => h.block k (by omega) (by omega) (by omega) (by intro e; have := hr k e.symm; omega)⟩
end

/-- Block p is a log of the records L: block d is its directory, v the row of its records; all from block B on. -/
structure LG (w : World) (B p d : Nat) (v : Value) (L : List RecT) : Prop where
  bp : B ≤ p
  bd : B ≤ d
  row : w.heap[p]? = some (.cells #[.pointer (some ⟨d, 0, none⟩), v] 54 (0, 0))
  ck : ∃ T, CK w d T ∧ Fits T (esL L)
  own : OwnRec w B v L
  keys : KeysOk L
  may : ∀ x ∈ L, mayT x = true

theorem tLogDir : 54 ≠ 82 := by decide
theorem tLogRec : 54 ≠ 33 := by decide
theorem tDirRec : 82 ≠ 33 := by decide

section
variable {w w' : World} {B p d : Nat} {v : Value} {L : List RecT}
theorem LG.plt (h : LG w B p d v L) : p < w.heap.size := (Array.getElem?_eq_some_iff.1 h.row).1
theorem LG.dlt (h : LG w B p d v L) : d < w.heap.size := by obtain ⟨T, hc, -⟩ := h.ck; exact hc.lt
theorem LG.vlt (h : LG w B p d v L) : ∀ g, v.ownBlock = some g → g < w.heap.size := fun g hg => (World.ownsRow.lt h.own g hg).2
theorem LG.vge (h : LG w B p d v L) : ∀ g, v.ownBlock = some g → B ≤ g := fun g hg => (World.ownsRow.lt h.own g hg).1
theorem LG.Ble (h : LG w B p d v L) : B ≤ w.heap.size := by have := h.bp; have := h.plt; omega
theorem LG.pd (h : LG w B p d v L) : p ≠ d := by
  rintro rfl
  obtain ⟨T, hc, -⟩ := h.ck
  obtain ⟨cs, fr, hr⟩ := hc.row
  rw [h.row] at hr
  simp only [Option.some.injEq, Obj.cells.injEq] at hr
  exact tLogDir hr.2.1
/-- A row of records has a block of its own type. -/
theorem rec_type {w : World} {B : Nat} {v : Value} {L : List RecT} (h : OwnRec w B v L) {g : Nat} (hg : v.ownBlock = some g) : ∃ cs fr, w.heap[g]? = some (.cells cs 33 fr) := by
  rcases h.2 with ⟨rfl, -⟩ | ⟨q, cap, cur, rfl, -, h2, -⟩
  · cases hg
  · cases hg
    exact ⟨_, _, h2⟩
theorem own_same {w w' : World} {B : Nat} {v : Value} {L : List RecT} (h : OwnRec w B v L) (hs : ∀ g cs fr, w.heap[g]? = some (.cells cs 33 fr) → v.ownBlock = some g → w'.heap[g]? = w.heap[g]?) : OwnRec w' B v L := by
  refine ⟨h.1, ?_⟩
  rcases h.2 with h' | ⟨q, cap, cur, rfl, hB, h2, h3⟩
  · exact .inl h'
  · exact .inr ⟨q, cap, cur, rfl, hB, (hs q _ _ h2 rfl).trans h2, h3⟩
theorem LG.pv (h : LG w B p d v L) : v.ownBlock ≠ some p := by
  intro e
  obtain ⟨cs, fr, hr⟩ := rec_type h.own e
  rw [h.row] at hr
  simp only [Option.some.injEq, Obj.cells.injEq] at hr
  exact tLogRec hr.2.1
theorem LG.dv (h : LG w B p d v L) : v.ownBlock ≠ some d := by
  intro e
  obtain ⟨cs, fr, hr⟩ := rec_type h.own e
  obtain ⟨T, hc, -⟩ := h.ck
  obtain ⟨cs2, fr2, hr2⟩ := hc.row
  rw [hr2] at hr
  simp only [Option.some.injEq, Obj.cells.injEq] at hr
  exact tDirRec hr.2.1
theorem LG.same (h : LG w B p d v L) (h1 : w'.heap[p]? = w.heap[p]?) (h2 : w'.heap[d]? = w.heap[d]?) (h3 : ∀ g, v.ownBlock = some g → w'.heap[g]? = w.heap[g]?) : LG w' B p d v L := by
  obtain ⟨T, hc, hf⟩ := h.ck
  exact ⟨h.bp, h.bd, h1.trans h.row, ⟨T, hc.same h2, hf⟩, own_same h.own fun g _ _ _ hg => h3 g hg, h.keys, h.may⟩
theorem LG.below (h : LG w B p d v L) (hb : Below w.heap.size w w') : LG w' B p d v L := h.same (hb.block _ h.plt) (hb.block _ h.dlt) fun g hg => hb.block g (h.vlt g hg)
theorem LG.mono {B' : Nat} (h : LG w B p d v L) (hB : B' ≤ B) : LG w B' p d v L := ⟨Nat.le_trans hB h.bp, Nat.le_trans hB h.bd, h.row, h.ck, h.own.mono hB, h.keys, h.may⟩
/-- What a log's writes leave: another row of records. -/
theorem LG.keptRow (h : LG w B p d v L) (ho : Off3 p d v.ownBlock w w') {B' : Nat} {u : Value} {M : List RecT} (hu : OwnRec w B' u M) (hne : ∀ g, u.ownBlock = some g → v.ownBlock ≠ some g) : OwnRec w' B' u M :=
  own_same hu fun g cs fr hg hug => ho.block g (Array.getElem?_eq_some_iff.1 hg).1
    (by rintro rfl; rw [h.row] at hg; simp only [Option.some.injEq, Obj.cells.injEq] at hg; exact tLogRec hg.2.1)
    (by rintro rfl; obtain ⟨T, hc, -⟩ := h.ck; obtain ⟨cs2, fr2, hr2⟩ := hc.row; rw [hr2] at hg; simp only [Option.some.injEq, Obj.cells.injEq] at hg; exact tDirRec hg.2.1)
    (fun e => hne g hug e.symm)
theorem LG.offBelow (h : LG w B p d v L) (ho : Off3 p d v.ownBlock w w') : Below B w w' := ho.below h.bp h.bd h.vge h.Ble
theorem LG.cells (h : LG w B p d v L) : w.cell? ⟨p, 0, none⟩ = some (.pointer (some ⟨d, 0, none⟩)) ∧ w.cell? ⟨p, 1, none⟩ = some v := by
  have c := fun j => cell_of_row w p j _ _ _ h.row
  exact ⟨c 0, c 1⟩
theorem LG.len (h : LG w B p d v L) : L.length ≤ 32 := by
  obtain ⟨T, hc, hf⟩ := h.ck
  have h1 := hf.length
  rw [esL_len] at h1
  rw [← h1, ← cntT_all]
  exact cntT_le T 32
theorem LG.sizes (h : LG w B p d v L) {i : Nat} (hi : i < L.length) : L[i].1.size ≤ 16 ∧ L[i].2.2.2.2.size ≤ 24 := mayT_short (h.may _ (List.getElem_mem hi))
end

set_option maxRecDepth 100000 in
theorem lnew_c (w : World) : Calls Tryz.prog 9 #[] w fun e w' => ∃ p d, e = .returned (.pointer (some ⟨p, 0, none⟩)) ∧ LG w' w.heap.size p d (.slice none 0 0) [] ∧ Below w.heap.size w w' := by
  have C := Go.Lib.hid (cnew_c w)
  go_enter Tryz.func9, Tryz.ntmps9
  go_wp2_with fail
  refine C.out.mono ?_
  rintro e w1 ⟨d, rfl, hd, hck, hb⟩
  have hb2 := below_one w1 (.cells #[.pointer (some ⟨d, 0, none⟩), .slice none 0 0] 54)
  have hh := heap_alloc_new w1 (.cells #[.pointer (some ⟨d, 0, none⟩), .slice none 0 0] 54)
  have HG := Go.Lib.hid (show LG (w1.alloc (.cells #[.pointer (some ⟨d, 0, none⟩), .slice none 0 0] 54)) w.heap.size w1.heap.size d (.slice none 0 0) [] from
    ⟨hb.size, hd, hh, ⟨_, hck.below hb2, Fits.empty fun _ _ => rfl⟩, OwnRec.nil _ _, by simp [KeysOk], fun x hx => by cases hx⟩)
  have HB := Go.Lib.hid (hb.trans (hb2.mono hb.size))
  clear hb hb2 hh hck hd C
  go_wp2_with fail
  go_ret
  exact ⟨_, _, rfl, HG.out, HB.out⟩

set_option maxRecDepth 100000 in
theorem llen_c {w : World} {B p d : Nat} {v : Value} {L : List RecT} (h : LG w B p d v L) : Calls Tryz.prog 22 #[.pointer (some ⟨p, 0, none⟩)] w fun e w' => e = .returned (.int .i64 (L.length : Int)) ∧ w = w' := by
  obtain ⟨x0, x1⟩ := h.cells
  obtain ⟨a, cap, rfl, -⟩ := h.own.rs.form
  clear h
  go_enter Tryz.func22, Tryz.ntmps22
  go_wp2_with fail
  go_ret
  exact ⟨rfl, rfl⟩
set_option maxRecDepth 100000 in
theorem lnil_len (w : World) : Calls Tryz.prog 22 #[.pointer none] w fun e w' => e = .returned (.int .i64 0) ∧ w = w' := by
  go_enter Tryz.func22, Tryz.ntmps22
  go_wp2_with fail
  go_ret
  exact ⟨rfl, rfl⟩

end Go.Proofs.YtkddleonmkhaiaaGreat

namespace Go.Proofs.YtkddleonmkhaiaaGreat
open Go.RowKit

/-- The numbers that are found of a key, rising. -/
def idsR (L : List RecT) (key : ByteArray) : List Int := (((esL L).filter fun e => nearN (hashS key) e.1).map Prod.snd).mergeSort (fun a b => decide (a ≤ b))
theorem ids_of {L : List RecT} {key : ByteArray} {F : List Int} (h1 : F.Pairwise (· ≤ ·)) (h2 : F.Perm (((esL L).filter fun e => nearN (hashS key) e.1).map Prod.snd)) : F = idsR L key := by
  have h3 := List.pairwise_mergeSort (le := fun (a b : Int) => decide (a ≤ b)) (fun a b c h g => by simp at *; omega) (fun a b => by simp; omega) (((esL L).filter fun e => nearN (hashS key) e.1).map Prod.snd)
  exact List.Perm.eq_of_pairwise (fun a b _ _ h g => by simp at *; omega) h1 (h3.imp fun h => by simpa using h) (h2.trans (List.mergeSort_perm _ _).symm)
theorem ids_mem {L : List RecT} {key : ByteArray} (z : Int) : z ∈ idsR L key ↔ ∃ i, ∃ h : i < L.length, z = (i : Int) ∧ nearN (hashS key) (hR L[i]) = true := near_mem (List.mergeSort_perm _ _) z
theorem ids_len (L : List RecT) (key : ByteArray) : (idsR L key).length = readsR L key := by
  unfold idsR
  rw [List.length_mergeSort, List.length_map, reads_len]
theorem ids_hit {L : List RecT} {key : ByteArray} {i : Nat} (hi : i < L.length) (hk : L[i].1 = key) : (i : Int) ∈ idsR L key := by
  rw [ids_mem]
  refine ⟨i, hi, rfl, ?_⟩
  unfold hR
  rw [hk]
  exact near_self _
/-- The directory finds, of a log's key, these numbers. -/
theorem lids_c {w : World} {B p d : Nat} {v : Value} {L : List RecT} (h : LG w B p d v L) (key : ByteArray) : Calls Tryz.prog 35 #[.pointer (some ⟨d, 0, none⟩), .int .u64 (hashS key : Int)] w fun e w' => ∃ u, e = .returned u ∧ KI.R w' u (idsR L key) ∧ Below w.heap.size w w' := by
  obtain ⟨T, hc, hf⟩ := h.ck
  have hl := h.len
  refine (cfind_c hc hf (hashS_lt key) (by rw [esL_len]; omega)).mono ?_
  rintro e w' ⟨u, F, rfl, ho, h1, h2, hb⟩
  rw [ids_of h1 h2] at ho
  exact ⟨u, rfl, ho.r, hb⟩

def VLf (p d hk : Nat) (key : ByteArray) (F : List Int) : Nat → World → Value → Prop
  | 7, _, v => v = .pointer (some ⟨p, 0, none⟩)
  | 8, _, v => v = .pointer (some ⟨p, 0, none⟩)
  | 9, _, v => v = .pointer (some ⟨p, 0, none⟩)
  | 10, _, v => v = .pointer (some ⟨d, 0, none⟩)
  | 11, _, v => v = .string key
  | 12, _, v => v = .int .u64 (hk : Int)
  | 13, w, v => KI.R w v F
  | 14, _, v => v = .int .i64 (F.length : Int)
  | 15, _, v => v = .int .i64 0
  | _, _, _ => True

theorem VLf_below (p d hk : Nat) (key : ByteArray) (F : List Int) : ∀ (i : Nat) (w w' : World) (v : Value), VLf p d hk key F i w v → Below w.heap.size w w' → VLf p d hk key F i w' v := by
  intro i w w' v h hb
  unfold VLf at h ⊢
  split at h <;> first | exact h | trivial | exact Lay.R.below h hb

set_option maxHeartbeats 2000000 in
set_option maxRecDepth 100000 in
theorem lfind_c {w : World} {B p d : Nat} {v : Value} {L : List RecT} (h : LG w B p d v L) (key : ByteArray) (hk : key.size ≤ 1000000) :
    Calls Tryz.prog 30 #[.pointer (some ⟨p, 0, none⟩), .string key] w fun e w' => ((∃ i, ∃ h : i < L.length, L[i].1 = key ∧ e = .returned (.int .i64 (i : Int))) ∨ ((∀ x ∈ L, x.1 ≠ key) ∧ e = .returned (.int .i64 (-1)))) ∧ Below w.heap.size w w' := by
  have CH := Go.Lib.hid fun W => hof_k key (hashS key) rfl W hk
  have CF := Go.Lib.hid fun W (hb : Below w.heap.size w W) => lids_c (h.below hb) key
  have X0 := Go.Lib.hid h.cells.1
  have X1 := Go.Lib.hid h.cells.2
  obtain ⟨a, cap, rfl, hm⟩ := h.own.rs.form
  have HR := Go.Lib.hid h.own.rs
  have HM := Go.Lib.hid fun z => (ids_mem (L := L) (key := key) z).1
  have HH := Go.Lib.hid fun i (hi : i < L.length) (hk : L[i].1 = key) => ids_hit hi hk
  have HN := Go.Lib.hid h.len
  clear h hk
  generalize idsR L key = F at *
  generalize hashS key = hk at *
  go_enter Tryz.func30, Tryz.ntmps30
  go_upto_region 1 with (fail)
  refine wp_region_each (by kernel_rfl) (VLf p d hk key F) (VLf_below p d hk key F) (by decide +kernel) (by decide +kernel) (by rfl) [7, 8, 9, 10, 11, 12, 13, 14, 15] (by rfl) ?_ ?_
  · intro i o ho a w6 hb6 hlen hg
    have x0 := keepC X0.out hb6
    match i, ho with
    | 0, ho =>
      obtain rfl := Option.some.inj ho
      have h0 := given_old hg 0 (by decide +kernel)
      clear hg
      exact st_yield ho (wanted_none rfl) (.pointer (some ⟨p, 0, none⟩)) w6 (by simp [execOp, Act.eval, h0, go_sem]) ⟨_, rfl, Below.refl _ _, by rintro t' ⟨⟩; rfl⟩
    | 1, ho =>
      obtain rfl := Option.some.inj ho
      obtain ⟨_, h7, rfl⟩ := given_fed hg 7 (by decide +kernel)
      clear hg
      exact st_yield ho (wanted_none rfl) (.pointer (some ⟨p, 0, none⟩)) w6 (by simp [execOp, Act.eval, h7, go_sem]) ⟨_, rfl, Below.refl _ _, by rintro t' ⟨⟩; rfl⟩
    | 2, ho =>
      obtain rfl := Option.some.inj ho
      obtain ⟨_, h8, rfl⟩ := given_fed hg 8 (by decide +kernel)
      clear hg
      exact st_yield ho (wanted_none rfl) (.pointer (some ⟨p, 0, none⟩)) w6 (by simp [execOp, Act.eval, h8, go_sem]) ⟨_, rfl, Below.refl _ _, by rintro t' ⟨⟩; rfl⟩
    | 3, ho =>
      obtain rfl := Option.some.inj ho
      obtain ⟨_, h9, rfl⟩ := given_fed hg 9 (by decide +kernel)
      clear hg
      exact st_yield ho (wanted_none rfl) (.pointer (some ⟨d, 0, none⟩)) w6 (by simp [execOp, Act.eval, h9, go_sem, x0]) ⟨_, rfl, Below.refl _ _, by rintro t' ⟨⟩; rfl⟩
    | 4, ho =>
      obtain rfl := Option.some.inj ho
      have h1 := given_old hg 1 (by decide +kernel)
      clear hg
      exact st_yield ho (wanted_none rfl) (.string key) w6 (by simp [execOp, Act.eval, h1, go_sem]) ⟨_, rfl, Below.refl _ _, by rintro t' ⟨⟩; rfl⟩
    | 5, ho =>
      obtain rfl := Option.some.inj ho
      obtain ⟨_, h11, rfl⟩ := given_fed hg 11 (by decide +kernel)
      clear hg
      exact st_enter (w1 := w6) ho (wanted_none rfl) 33 #[.string key] (by simp [execOp, Act.eval, h11, resolve, go_sem]) ((CH.out _).mono (by rintro e w7 ⟨rfl, hb7⟩; exact ⟨_, rfl, _, rfl, hb7, by rintro t' ⟨⟩; rfl⟩))
    | 6, ho =>
      obtain rfl := Option.some.inj ho
      obtain ⟨_, h10, rfl⟩ := given_fed hg 10 (by decide +kernel)
      obtain ⟨_, h12, rfl⟩ := given_fed hg 12 (by decide +kernel)
      clear hg
      exact st_enter (w1 := w6) ho (wanted_none rfl) 35 #[.pointer (some ⟨d, 0, none⟩), .int .u64 (hk : Int)] (by simp [execOp, Act.eval, h10, h12, resolve, go_sem]) ((CF.out w6 hb6).mono (by rintro e w7 ⟨v', rfl, hown, hb7⟩; exact ⟨v', rfl, _, rfl, hb7, by rintro t' ⟨⟩; exact hown⟩))
    | 7, ho =>
      obtain rfl := Option.some.inj ho
      obtain ⟨v13, h13, p13⟩ := given_fed hg 13 (by decide +kernel)
      clear hg
      obtain ⟨a, cap, rfl, -⟩ := p13.form
      exact st_yield ho (wanted_none rfl) (.int .i64 (F.length : Int)) w6 (by simp [execOp, Act.eval, h13, resolve, go_sem]) ⟨_, rfl, Below.refl _ _, by rintro t' ⟨⟩; rfl⟩
    | 8, ho =>
      obtain rfl := Option.some.inj ho
      clear hg
      exact st_yield ho (wanted_none rfl) (.int .i64 0) w6 (by simp [execOp, Act.eval, go_sem]) ⟨_, rfl, Below.refl _ _, by rintro t' ⟨⟩; rfl⟩
    | n + 9, ho => simp at ho
  · intro f w6 hb6 hv
    have h13 := hv 13 (by decide)
    have h14 := hv 14 (by decide)
    have h15 := hv 15 (by decide)
    simp only [VLf] at h13 h14 h15
    obtain ⟨g, cg, hf13, hmF⟩ := h13.form
    rw [hf13] at h13
    have HF := Go.Lib.hid h13
    have HB6 := Go.Lib.hid hb6
    clear hv h13 CF CH
    unfold putAll
    simp only [List.foldl]
    simp only [hf13, h14, h15]
    go_simp
    clear hf13 h14 h15 hb6
    go_wp2_with fail
    go_loopw [6, 15] (fun _ ki wr => ∃ k : Nat, k ≤ F.length ∧ ki = .int .i64 (k : Int) ∧ Hid (∀ j (hj : j < F.length), j < k → ∀ i (hi : i < L.length), F[j] = (i : Int) → L[i].1 ≠ key) ∧ Hid (Below w6.heap.size w6 wr)) (fun _ ki _ => F.length - (intOf ki).toNat)
    case atStart => exact ⟨0, by omega, rfl, Go.Lib.hid fun j hj h => absurd h (by omega), Go.Lib.hid (Below.refl _ _)⟩
    case round =>
      obtain ⟨k, hk2, rfl, HNO, HB⟩ := hrel
      by_cases hlt : k < F.length
      · obtain ⟨b, o, rfl, -, -, c0⟩ := KI.at' (HF.out.below HB.out) k hlt
        have hix := idxI b o F.length cg k hlt
        obtain ⟨i, hi, hz, -⟩ := HM.out _ (List.getElem_mem hlt)
        have HBW := Go.Lib.hid (HB6.out.trans (HB.out.mono HB6.out.size))
        obtain ⟨b2, o2, rfl, -, -, d0, -⟩ := (HR.out.below HBW.out).at i hi
        have x1 := keepC X1.out HBW.out
        have hix2 := run_idx5 b2 o2 L.length cap i hi
        have HST := Go.Lib.hid (show L[i].1 ≠ key → ∀ j (hj : j < F.length), j < k + 1 → ∀ i (hi : i < L.length), F[j] = (i : Int) → L[i].1 ≠ key from fun hne j hj hjk i' hi' he => by
          rcases Nat.lt_or_ge j k with h | h
          · exact HNO.out j hj h i' hi' he
          · obtain rfl : j = k := by omega
            rw [hz] at he
            obtain rfl : i = i' := by omega
            exact hne)
        rw [hz] at c0
        have HYES := Go.Lib.hid (fun (hy : L[i].1 = key) => show ∃ i', ∃ h : i' < L.length, L[i'].1 = key ∧ (i : Int) = (i' : Int) from ⟨i, hi, hy, rfl⟩)
        have HZ := Go.Lib.hid hz
        clear hz HNO
        generalize hx : L[i].1 = kx at *
        by_cases hq : kx.toList = key.toList
        · have HY := Go.Lib.hid (HYES.out (ByteArray.ext (Array.toList_inj.1 (by rw [← ByteArray.toList_eq, ← ByteArray.toList_eq]; exact hq))))
          have hqb : (kx.toList == key.toList) = true := beq_iff_eq.2 hq
          go_wp2_with fail
          go_ret
          obtain ⟨i', h1, h2, h3⟩ := HY.out
          exact ⟨.inl ⟨i', h1, h2, by rw [h3]; rfl⟩, HBW.out⟩
        · have HS := Go.Lib.hid (HST.out (fun e => hq (by rw [e])))
          have hqb : (kx.toList == key.toList) = false := beq_eq_false_iff_ne.2 hq
          go_wp2_with fail
          exact ⟨⟨k + 1, by omega, by go_num, HS, HB⟩, by simp only [intOf]; omega⟩
      · obtain rfl : k = F.length := by omega
        have HNN := Go.Lib.hid (show ∀ x ∈ L, x.1 ≠ key from fun x hx e => by
          obtain ⟨i, hi, rfl⟩ := List.getElem_of_mem hx
          obtain ⟨j, hj, hjz⟩ := List.getElem_of_mem (HH.out i hi e)
          exact HNO.out j hj hj i hi hjz e)
        have HBW := Go.Lib.hid (HB6.out.trans (HB.out.mono HB6.out.size))
        go_wp2_with fail
        go_ret
        exact ⟨.inr ⟨HNN.out, rfl⟩, HBW.out⟩

end Go.Proofs.YtkddleonmkhaiaaGreat

namespace Go.Proofs.YtkddleonmkhaiaaGreat
open Go.RowKit

/-- What a value holds. -/
inductive VI where
  | none
  | num (n : Int)
  | text (s : ByteArray)
def VI.v : VI → Value
  | .none => .nilIface
  | .num n => .iface 124 (.int .i64 n)
  | .text s => .iface 125 (.string s)
def VI.val (x : VI) : Value := .agg #[x.v]
def VI.k : VI → Int
  | .none => 0
  | .num _ => 1
  | .text _ => 2
def VI.n : VI → Int
  | .num n => n
  | _ => 0
def VI.s : VI → ByteArray
  | .text s => s
  | _ => ⟨#[]⟩
def VI.isN : VI → Bool
  | .num _ => true
  | _ => false
def VI.isT : VI → Bool
  | .text _ => true
  | _ => false
def ofR (k n : Int) (s : ByteArray) : VI := if mayR k n s then (if k = 1 then .num n else .text s) else .none

end Go.Proofs.YtkddleonmkhaiaaGreat
