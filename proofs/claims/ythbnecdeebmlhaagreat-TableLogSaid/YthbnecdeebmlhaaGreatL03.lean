/-
  strings.Compare; order.List's comparison of two records, by their keys.
  Boxes of records: their cells, in whatever world came later.
  A slice of records that the call makes at its whole length; a record that is stored into it.
  slices.swapRangeCmpFunc at records.
  slices.symMergeCmpFunc at records.
  slices.symMergeCmpFunc at records, whole.
  A sort's row of any cells (the kit's SWK) as a row that a call made.
  Records: the newest ones, by rising keys (mathematics).
  First, Tag, Other: of the reference, of package hash.
  Mathematics of stage 17 (of no code): who lies where. A hash's two buckets, told as a pair; slots that hold just what is there; who has room.
  What elements of []rune and []int are.
  The contract of the reference's Runes.
-/
import Derived.Test.YthbnecdeebmlhaaGreatL02
import Derived.Lib.Bytealg
import Derived.Deep.MidRow
import Derived.Deep.QuietTactic
import Derived.Shelf.SlSortCmp.QuietGrown
import Derived.BigRegion
import Derived.Shelf.RegionOpenPlain
import Derived.Laws.IdiomCopy
import Derived.Shelf.SlicesQ.Load
import Derived.LoopTactic
import Derived.Deep.DeepCutAuto
import Derived.Test.YthbnecdeebmlhaaGreatL01
import Derived.Shelf.SlSortCmp.KitK
import Derived.Sort.LotA
import Derived.Laws.BitsAllLaws
namespace Go.Proofs.YthbnecdeebmlhaaGreat
open Go.RowKit Go.Lib Go.Sort

theorem compare_less : ∀ a b : List UInt8, decide (compareBytes a b < 0) = Go.Op.bytesLess a b
  | [], [] => rfl
  | [], _ :: _ => rfl
  | _ :: _, [] => rfl
  | x :: a, y :: b => by
    unfold compareBytes Go.Op.bytesLess
    by_cases h1 : x < y
    · simp [h1]
    · by_cases h2 : y < x
      · have h3 : (x == y) = false := by
          rw [beq_eq_false_iff_ne]
          rintro rfl
          exact h1 h2
        simp [h1, h2, h3]
      · have h3 : x = y := UInt8.le_antisymm (UInt8.not_lt.1 h2) (UInt8.not_lt.1 h1)
        subst h3
        simp [h1, compare_less a b]
set_option maxRecDepth 100000 in
theorem scompare_c (a b : ByteArray) (w : World) : Calls Tryz.prog 92 #[.string a, .string b] w fun e w' => e = .returned (.int .i64 (compareBytes a.data.toList b.data.toList)) ∧ w' = w := by
  have C : Calls Tryz.prog 120 #[.string a, .string b] w fun e w' => e = .returned (.int .i64 (compareBytes a.data.toList b.data.toList)) ∧ w' = w := by
    go_enter Tryz.func120, Tryz.ntmps120
    go_wp2
    rw [run_callFunc_extern Tryz.func138 (by kernel_rfl) (by kernel_rfl) (by kernel_rfl) (e := Extern.BytealgCompare.compare) (by kernel_rfl), Lib.run_compareString]
    simp only [Result.andThen]
    rw [Oper.upon_value]
    go_wp2
    go_ret
    exact ⟨rfl, rfl⟩
  have C := Go.Lib.hid C
  generalize compareBytes a.data.toList b.data.toList = r at *
  go_enter Tryz.func92, Tryz.ntmps92
  go_wp2_with fail
  refine C.out.mono ?_
  rintro e w1 ⟨rfl, rfl⟩
  go_wp2_with fail
  go_ret
  exact ⟨rfl, rfl⟩

/-- By their keys. -/
def cmpK (x y : RecT) : Int := compareBytes x.1.data.toList y.1.data.toList
def ltR (x y : RecT) : Bool := decide (cmpK x y < 0)
theorem ltK (x y : RecT) : ltR x y = Go.Op.bytesLess (keyR x) (keyR y) := by
  unfold ltR cmpK keyR
  rw [compare_less, ByteArray.toList_eq, ByteArray.toList_eq]
theorem swoK : SWO ltR where
  irrefl x := by rw [ltK]; exact less_irr _
  trans x y z h1 h2 := by rw [ltK] at *; exact less_trans _ _ _ h1 h2
  ntrans x y z h1 h2 := by
    rw [ltK] at *
    cases h3 : Go.Op.bytesLess (keyR x) (keyR z) with
    | false => rfl
    | true =>
      rcases less_tri (keyR x) (keyR y) with h | h | h
      · rw [h] at h1; cases h1
      · rw [h] at h3; rw [h3] at h2; cases h2
      · rw [less_trans _ _ _ h h3] at h2; cases h2
theorem rc5_len (x : RecT) : (rc5 x).length = 5 := rfl
set_option maxHeartbeats 1000000 in
theorem listfn_c (x y : RecT) (W : World) : Calls Tryz.prog 91 #[.agg (rc5 x).toArray, .agg (rc5 y).toArray] W fun e w' => e = .returned (.int .i64 (cmpK x y)) ∧ ∃ q os', w' = grow (W.drewN q) os' := by
  have C := Go.Lib.hid fun W => scompare_c x.1 y.1 W
  unfold cmpK
  generalize hr : compareBytes x.1.data.toList y.1.data.toList = r at C ⊢
  clear hr
  unfold rc5
  go_enter Tryz.func91, Tryz.ntmps91
  go_wp2_with fail
  refine (C.out _).mono ?_
  rintro e w1 ⟨rfl, rfl⟩
  go_wp2_with fail
  go_ret
  exact ⟨rfl, 0, _, by rw [alloc_eq_grow, alloc_eq_grow, grow_grow]; rfl⟩
end Go.Proofs.YthbnecdeebmlhaaGreat

namespace Go.Proofs.YthbnecdeebmlhaaGreat
open Go.RowKit

theorem row_kept {w w' : World} {b : Nat} {o : Obj} (h : w.heap[b]? = some o) (hb : Below w.heap.size w w') : w'.heap[b]? = some o := (hb.block _ (Array.getElem?_eq_some_iff.1 h).1).trans h
theorem row5 {w : World} {b : Nat} {a0 a1 a2 a3 a4 : Value} {t : TypeId} {fr : Nat × Nat} (h : w.heap[b]? = some (.cells #[a0, a1, a2, a3, a4] t fr)) :
    w.cell? ⟨b, 0, none⟩ = some a0 ∧ w.cell? ⟨b, 1, none⟩ = some a1 ∧ w.cell? ⟨b, 2, none⟩ = some a2 ∧ w.cell? ⟨b, 3, none⟩ = some a3 ∧ w.cell? ⟨b, 4, none⟩ = some a4 := by
  have c := fun j => cell_of_row w b j _ _ _ h
  exact ⟨c 0, c 1, c 2, c 3, c 4⟩
theorem row_lt {w : World} {b : Nat} {o : Obj} (h : w.heap[b]? = some o) : b < w.heap.size := (Array.getElem?_eq_some_iff.1 h).1
theorem RRec.below {w w' : World} {v : Value} {l : List RecT} (h : RRec w v l) (hb : Below w.heap.size w w') : RRec w' v l := by
  have h5 := h.rs.below hb
  obtain ⟨a, cap, hv, h1, h2, h3, h4, -⟩ := h
  subst hv
  obtain ⟨a', cap', e, -, -, -, h5⟩ := h5
  simp only [Value.slice.injEq] at e
  obtain ⟨rfl, -, rfl⟩ := e
  exact ⟨a, cap, rfl, h1, h2, h3, h4, h5⟩

end Go.Proofs.YthbnecdeebmlhaaGreat

namespace Go.Proofs.YthbnecdeebmlhaaGreat
open Go.RowKit

theorem flat5_set (x : RecT) : ∀ (l : List RecT) (i : Nat), i < l.length →
    flat5 (l.set i x) = (((((flat5 l).set (i * 5) (.string x.1)).set (i * 5 + 1) (.bool x.2.1)).set (i * 5 + 1 + 1) (.int .i64 x.2.2.1)).set (i * 5 + 1 + 1 + 1) (.int .i64 x.2.2.2.1)).set (i * 5 + 1 + 1 + 1 + 1) (.string x.2.2.2.2)
  | [], i, h => absurd h (by simp)
  | y :: t, 0, h => rfl
  | y :: t, i + 1, h => by
    have ih := flat5_set x t i (by simpa using h)
    show rc5 y ++ flat5 (t.set i x) = _
    rw [ih]
    show _ = (((((rc5 y ++ flat5 t).set ((i + 1) * 5) _).set ((i + 1) * 5 + 1) _).set ((i + 1) * 5 + 1 + 1) _).set ((i + 1) * 5 + 1 + 1 + 1) _).set ((i + 1) * 5 + 1 + 1 + 1 + 1) _
    rw [show (i + 1) * 5 = i * 5 + 5 by omega]
    have e (l : List Value) (k : Nat) (v : Value) : (rc5 y ++ l).set (k + 5) v = rc5 y ++ l.set k v := by
      rw [List.set_append_right _ _ (by simp [rc5])]
      simp [rc5]
    rw [e, show i * 5 + 5 + 1 = (i * 5 + 1) + 5 by omega, e, show i * 5 + 1 + 5 + 1 = (i * 5 + 1 + 1) + 5 by omega, e, show i * 5 + 1 + 1 + 5 + 1 = (i * 5 + 1 + 1 + 1) + 5 by omega, e, show i * 5 + 1 + 1 + 1 + 5 + 1 = (i * 5 + 1 + 1 + 1 + 1) + 5 by omega, e]

theorem OwnRec.there {w : World} {B g n cap : Nat} {l : List RecT} (h : OwnRec w B (.slice (some ⟨g, 0, none⟩) n cap) l) (i : Nat) (hi : i < l.length) : w.there g (i * 5) 5 := by
  have hn : n = l.length := by
    rcases h.2 with ⟨h', _⟩ | ⟨g', cap', cur, h', _⟩
    · simp at h'
    · simp at h'; exact h'.2.1
  subst hn
  intro j hj
  refine ⟨?_, World.ownsRow.frozenAt h _⟩
  rw [World.ownsRow.cellAt h (i * 5 + j) (by omega), flat5_at l i j hi hj]
  match j, hj with
  | 0, _ => rfl
  | 1, _ => rfl
  | 2, _ => rfl
  | 3, _ => rfl
  | 4, _ => rfl
  | j + 5, hj => omega
/-- A record is stored. -/
theorem OwnRec.store {w : World} {B g n cap : Nat} {l : List RecT} (h : OwnRec w B (.slice (some ⟨g, 0, none⟩) n cap) l) (i : Nat) (hi : i < l.length) (x : RecT) :
    OwnRec (w.setCells g (i * 5) (rc5 x)) B (.slice (some ⟨g, 0, none⟩) n cap) (l.set i x) ∧ w.grownBy (w.setCells g (i * 5) (rc5 x)) (some g) := by
  have hn : n = l.length := by
    rcases h.2 with ⟨h', _⟩ | ⟨g', cap', cur, h', _⟩
    · simp at h'
    · simp at h'; exact h'.2.1
  subst hn
  obtain ⟨h1, g1⟩ := World.ownsRow.stored h (i * 5) (.string x.1)
  obtain ⟨h2, g2⟩ := World.ownsRow.stored h1 (i * 5 + 1) (.bool x.2.1)
  obtain ⟨h3, g3⟩ := World.ownsRow.stored h2 (i * 5 + 1 + 1) (.int .i64 x.2.2.1)
  obtain ⟨h4, g4⟩ := World.ownsRow.stored h3 (i * 5 + 1 + 1 + 1) (.int .i64 x.2.2.2.1)
  obtain ⟨h5, g5⟩ := World.ownsRow.stored h4 (i * 5 + 1 + 1 + 1 + 1) (.string x.2.2.2.2)
  rw [← flat5_set x l i hi] at h5
  refine ⟨?_, (((g1.trans g2).trans g3).trans g4).trans g5⟩
  unfold OwnRec
  rw [List.length_set]
  exact h5

end Go.Proofs.YthbnecdeebmlhaaGreat

namespace Go.Proofs.YthbnecdeebmlhaaGreat
open Go.RowKit Go.Sort

theorem grow_keeps (w : World) (n : Nat) (os : Array Obj) : Below w.heap.size w (grow (w.drewN n) os) := by
  refine ⟨rfl, rfl, rfl, by rw [size_grow]; exact Nat.le_add_right _ _, fun k hk => ?_⟩
  exact heap_grow_old (w.drewN n) os hk
theorem grow_none (W : World) : grow (W.drewN 1) #[] = W.drew := by unfold grow; simp; rfl
/-- A row of records that a sort has in hand: the array, and what changed. -/
structure RW (w0 : World) (B g c : Nat) (d : Array RecT) (W : World) : Prop where
  own : OwnRec W B (.slice (some ⟨g, 0, none⟩) d.size c) d.toList
  gr : w0.grownBy W (some g)
section
variable {w0 W : World} {B g c : Nat} {d : Array RecT}
theorem RW.grown (h : RW w0 B g c d W) (n : Nat) (os : Array Obj) : RW w0 B g c d (grow (W.drewN n) os) := by
  have hb := grow_keeps W n os
  exact ⟨h.own.below hb, h.gr.trans ⟨hb.os, hb.tape, hb.output, hb.size, fun k hk _ => hb.block k hk⟩⟩
theorem RW.cells (h : RW w0 B g c d W) (i : Nat) (hi : i < d.size) (n : Nat) (os : Array Obj) :
    (grow (W.drewN n) os).cell? ⟨g, i * 5, none⟩ = some (.string d[i]!.1) ∧ (grow (W.drewN n) os).cell? ⟨g, i * 5 + 1, none⟩ = some (.bool d[i]!.2.1) ∧ (grow (W.drewN n) os).cell? ⟨g, i * 5 + 2, none⟩ = some (.int .i64 d[i]!.2.2.1) ∧
      (grow (W.drewN n) os).cell? ⟨g, i * 5 + 3, none⟩ = some (.int .i64 d[i]!.2.2.2.1) ∧ (grow (W.drewN n) os).cell? ⟨g, i * 5 + 4, none⟩ = some (.string d[i]!.2.2.2.2) := by
  have hs := (h.grown n os).own.rs
  obtain ⟨b, o, e, -, -, c0, c1, c2, c3, c4⟩ := hs.at i (by simpa using hi)
  simp only [Option.some.injEq, Addr.mk.injEq] at e
  obtain ⟨rfl, rfl, -⟩ := e
  rw [Nat.zero_add] at c0 c1 c2 c3 c4
  rw [getElem!_pos d i hi]
  simp only [Array.getElem_toList] at c0 c1 c2 c3 c4
  exact ⟨c0, c1, c2, c3, c4⟩
theorem set_swp {i j : Nat} : ((d.toList.set i d[j]!).set j d[i]!) = (swp d i j).toList := by
  unfold swp
  simp
/-- Two records change their places, behind a draw. -/
theorem RW.swap (h : RW w0 B g c d W) (i j : Nat) (hi : i < d.size) (hj : j < d.size) : RW w0 B g c (swp d i j) ((W.drew.setCells g (i * 5) (rc5 d[j]!)).setCells g (j * 5) (rc5 d[i]!)) := by
  have h1 := h.grown 1 #[]
  have e : grow (W.drewN 1) #[] = W.drew := grow_none W
  rw [e] at h1
  obtain ⟨o2, g2⟩ := h1.own.store i (by simpa using hi) d[j]!
  obtain ⟨o3, g3⟩ := o2.store j (by simpa using hj) d[i]!
  rw [set_swp] at o3
  have hs := size_swp d i j
  refine ⟨?_, (h1.gr.trans g2).trans g3⟩
  rw [hs]
  exact o3
theorem RW.ld (h : RW w0 B g c d W) (i : Nat) (hi : i < d.size) (n : Nat) (os : Array Obj) : Sem.run Tryz.prog (loadCellsFrom ⟨g, i * 5, none⟩ 0 5 #[]) (grow (W.drewN n) os) = .ok (rc5 d[i]!).toArray (grow (W.drewN n) os) := by
  obtain ⟨c0, c1, c2, c3, c4⟩ := h.cells i hi n os
  refine run_loadCellsFrom_list Tryz.prog _ _ _ 5 rfl ?_
  intro k v hv
  rw [Addr.add_lit]
  match k, hv with
  | 0, hv => cases hv; exact c0
  | 1, hv => cases hv; exact c1
  | 2, hv => cases hv; exact c2
  | 3, hv => cases hv; exact c3
  | 4, hv => cases hv; exact c4
theorem RW.drew (h : RW w0 B g c d W) : RW w0 B g c d W.drew := by
  have := h.grown 1 #[]
  have e : grow (W.drewN 1) #[] = W.drew := grow_none W
  rwa [e] at this
theorem RW.ld1 (h : RW w0 B g c d W) (i : Nat) (hi : i < d.size) : Sem.run Tryz.prog (loadCellsFrom ⟨g, i * 5, none⟩ 0 5 #[]) W.drew = .ok (rc5 d[i]!).toArray W.drew := by
  have := h.ld i hi 1 #[]
  have e : grow (W.drewN 1) #[] = W.drew := grow_none W
  rwa [e] at this
theorem RW.st (h : RW w0 B g c d W) (i : Nat) (hi : i < d.size) (x : RecT) : Sem.run Tryz.prog (storeCells ⟨g, i * 5, none⟩ (rc5 x) 0) W = .ok () (W.setCells g (i * 5) (rc5 x)) := by
  have ht := h.own.there i (by simpa using hi)
  have := run_storeCells_cells (P := Tryz.prog) g (i * 5) (rc5 x) 0 W (fun j hj => by rw [Nat.add_zero]; exact (ht j hj).1) (fun j hj => by rw [Nat.add_zero]; exact (ht j hj).2) (rc5_one x)
  rwa [Nat.add_zero] at this
theorem RW.stored (h : RW w0 B g c d W) (i : Nat) (hi : i < d.size) (x : RecT) : RW w0 B g c (d.setIfInBounds i x) (W.setCells g (i * 5) (rc5 x)) := by
  obtain ⟨o2, g2⟩ := h.own.store i (by simpa using hi) x
  refine ⟨?_, h.gr.trans g2⟩
  rw [Array.size_setIfInBounds, Array.toList_setIfInBounds]
  exact o2
/-- All that an exchange asks, at letters. -/
theorem RW.swapf (h : RW w0 B g c d W) (i j : Nat) (hi : i < d.size) (hj : j < d.size) : ∃ (k : Nat) (cI cJ : List Value), (∀ w, (Go.sizeOf 28).run Tryz.prog w = .ok k w) ∧ cI.length = k ∧ cJ.length = k ∧
    Sem.run Tryz.prog (loadCellsFrom ⟨g, i * k, none⟩ 0 k #[]) W.drew = .ok cI.toArray W.drew ∧ Sem.run Tryz.prog (loadCellsFrom ⟨g, j * k, none⟩ 0 k #[]) W.drew = .ok cJ.toArray W.drew ∧
    Sem.run Tryz.prog (storeCells ⟨g, i * k, none⟩ cJ 0) W.drew = .ok () (W.drew.setCells g (i * k) cJ) ∧
    Sem.run Tryz.prog (storeCells ⟨g, j * k, none⟩ cI 0) (W.drew.setCells g (i * k) cJ) = .ok () ((W.drew.setCells g (i * k) cJ).setCells g (j * k) cI) ∧
    RW w0 B g c (swp d i j) ((W.drew.setCells g (i * k) cJ).setCells g (j * k) cI) :=
  ⟨5, rc5 d[i]!, rc5 d[j]!, Tryz.sizeOf28, rfl, rfl, h.ld1 i hi, h.ld1 j hj, h.drew.st i hi _, (h.drew.stored i hi _).st j (by rw [Array.size_setIfInBounds]; exact hj) _, h.swap i j hi hj⟩
end

set_option maxHeartbeats 4000000 in
set_option maxRecDepth 100000 in
theorem swaprange_c {w0 : World} {B g c : Nat} {d : Array RecT} (a b n : Nat) (W : World) (hn : a + n ≤ b) (hb : b + n ≤ d.size) (hsz : d.size ≤ 1000) (R : RW w0 B g c d W) :
    Calls Tryz.prog 174 #[.slice (some ⟨g, 0, none⟩) d.size c, .int .i64 (a : Int), .int .i64 (b : Int), .int .i64 (n : Int), .func (.func 91) #[] #[]] W fun e w' => e = .returned (.tuple #[]) ∧ ∃ d', SwpR d a b (b + n) n d' ∧ RW w0 B g c d' w' := by
  have HR := Go.Lib.hid R
  have HD := Go.Lib.hid (SwpR.start d a b (b + n))
  obtain ⟨m, hm⟩ : ∃ m, m = d.size := ⟨_, rfl⟩
  have HM := Go.Lib.hid hm
  rw [← hm] at hb hsz
  rw [← hm]
  have HH := Go.Lib.hid (And.intro hn hb)
  clear R hm
  go_enter Tryz.func174, Tryz.ntmps174
  go_wp2_with fail
  go_loopw [10] (fun vi wr => ∃ (r : Nat) (dk : Array RecT), vi = .int .i64 (r : Int) ∧ r ≤ n ∧ Hid (SwpR d a b (b + n) r dk) ∧ Hid (RW w0 B g c dk wr)) (fun vi _ => n - (intOf vi).toNat)
  case atStart => exact ⟨0, d, rfl, by omega, HD, HR⟩
  case round =>
    clear HR HD
    obtain ⟨r, dk, rfl, hr, HS, HR⟩ := hrel
    have hds : dk.size = m := by have := HS.out.size; have := HM.out; omega
    by_cases hlt : r < n
    · have hltI : (r : Int) < (n : Int) := by omega
      have hS2 := Go.Lib.hid (HS.out.step (by omega) (by omega) (by have := HM.out; omega))
      have ha1 : (a : Int) + (r : Int) < (m : Int) := by omega
      have hb1 : (b : Int) + (r : Int) < (m : Int) := by omega
      have ra : IntKind.i64.wrap ((a : Int) + (r : Int)) = ((a + r : Nat) : Int) := by rw [IntKind.wrap_i64]; omega
      have rb : IntKind.i64.wrap ((b : Int) + (r : Int)) = ((b + r : Nat) : Int) := by rw [IntKind.wrap_i64]; omega
      obtain ⟨k, cI, cJ, zE, n1, n2, l1, l2, s1, s2, S2⟩ := HR.out.swapf (a + r) (b + r) (by omega) (by omega)
      have S2 := Go.Lib.hid S2
      have mixed : Tryz.prog.follows .mixedOrders = true := by kernel_rfl
      have aE := Tryz.isAgg28
      have ea : ((a : Int) + (r : Int)).toNat = a + r := by omega
      have eb : ((b : Int) + (r : Int)).toNat = b + r := by omega
      have pa : (0 : Int) ≤ (a : Int) + (r : Int) := by omega
      have pb : (0 : Int) ≤ (b : Int) + (r : Int) := by omega
      clear HS HR ra rb
      have ra : IntKind.i64.wrap ((a : Int) + (r : Int)) = (a : Int) + (r : Int) := by rw [IntKind.wrap_i64]; omega
      have rb : IntKind.i64.wrap ((b : Int) + (r : Int)) = (b : Int) + (r : Int) := by rw [IntKind.wrap_i64]; omega
      go_wp2_with fail
      go_big_region_o
      clear l1 l2 s1 s2 zE n1 n2 aE ra rb
      generalize (wr.drew.setCells g ((a + r) * k) cJ).setCells g ((b + r) * k) cI = w2 at *
      go_wp2_with fail
      go_roundw
      case rel => exact ⟨r + 1, _, by go_num, by omega, hS2, S2⟩
      case measure => simp only [intOf]; omega
    · obtain rfl : r = n := by omega
      go_wp2_with fail
      go_end0
      exact ⟨rfl, dk, HS.out, HR.out⟩

set_option maxHeartbeats 4000000 in
set_option maxRecDepth 100000 in
theorem rotate_c {w0 : World} {B g c : Nat} {d : Array RecT} (a m b : Nat) (W : World) (h1 : a < m) (h2 : m < b) (hb : b ≤ d.size) (hsz : d.size ≤ 1000) (R : RW w0 B g c d W) :
    Calls Tryz.prog 156 #[.slice (some ⟨g, 0, none⟩) d.size c, .int .i64 (a : Int), .int .i64 (m : Int), .int .i64 (b : Int), .func (.func 91) #[] #[]] W fun e w' => e = .returned (.tuple #[]) ∧ ∃ d', Rotd d a m b d' ∧ RW w0 B g c d' w' := by
  have HR := Go.Lib.hid R
  have HD := Go.Lib.hid (RotR.start d h1 h2)
  have SC := Go.Lib.hid fun (dk : Array RecT) (hs : dk.size = d.size) x y n W h h' R => (swaprange_c (w0 := w0) (B := B) (g := g) (c := c) (d := dk) x y n W h h' (by omega) R)
  obtain ⟨N, hN⟩ : ∃ N, N = d.size := ⟨_, rfl⟩
  have HN := Go.Lib.hid hN
  rw [← hN] at hb hsz
  rw [← hN]
  clear R hN
  go_enter Tryz.func156, Tryz.ntmps156
  go_wp2_with fail
  go_loopw [10, 11] (fun vi vj wr => ∃ (i j : Nat) (dk : Array RecT), vi = .int .i64 (i : Int) ∧ vj = .int .i64 (j : Int) ∧ Hid (RotR d a m b i j dk) ∧ Hid (RW w0 B g c dk wr)) (fun vi vj _ => (intOf vi).toNat + (intOf vj).toNat)
  case atStart => exact ⟨m - a, b - m, d, by congr 1; omega, by congr 1; omega, HD, HR⟩
  case round =>
    clear HR HD
    obtain ⟨i, j, dk, rfl, rfl, HS, HR⟩ := hrel
    obtain ⟨i0, j0, hi, hj⟩ : 1 ≤ i ∧ 1 ≤ j ∧ a + i ≤ m ∧ m + j ≤ b := ⟨HS.out.i0, HS.out.j0, HS.out.hi, HS.out.hj⟩
    have hds := HS.out.perm.1
    have HDS := Go.Lib.hid hds
    by_cases hij : i = j
    · subst hij
      have hne : ((i : Int) != (i : Int)) = false := by simp
      have C := SC.out dk hds (m - i) m i wr (by omega) (by have := HN.out; omega) HR.out
      rw [hds, ← HN.out, show ((m - i : Nat) : Int) = (m : Int) - (i : Int) by omega] at C
      have C := Go.Lib.hid C
      clear SC hds
      go_wp2_with fail
      refine C.out.mono ?_
      rintro e w2 ⟨rfl, d2, hs2, hr2⟩
      have HF := Go.Lib.hid (And.intro (HS.out.done (by rw [← HN.out]; exact hb) hs2) hr2)
      clear hs2 hr2 C
      go_wp2_with fail
      go_end0
      exact ⟨rfl, d2, HF.out.1, HF.out.2⟩
    · have hne : ((i : Int) != (j : Int)) = true := by simp only [bne_iff_ne]; omega
      by_cases hgt : j < i
      · have hgtI : (j : Int) < (i : Int) := by omega
        have C := SC.out dk hds (m - i) m j wr (by omega) (by have := HN.out; omega) HR.out
        rw [hds, ← HN.out, show ((m - i : Nat) : Int) = (m : Int) - (i : Int) by omega] at C
        have C := Go.Lib.hid C
        clear hds hij
        go_wp2_with fail
        refine C.out.mono ?_
        rintro e w2 ⟨rfl, d2, hs2, hr2⟩
        have HF := Go.Lib.hid (And.intro (HS.out.gt hgt (by rw [← HN.out]; exact hb) hs2) hr2)
        clear hs2 hr2 C
        go_wp2_with fail
        go_roundw
        case rel => exact ⟨i - j, j, d2, by congr 1; omega, rfl, Go.Lib.hid HF.out.1, Go.Lib.hid HF.out.2⟩
        case measure => simp only [intOf]; omega
      · have hgtI : ¬ (j : Int) < (i : Int) := by omega
        have hlt : i < j := by omega
        have C := SC.out dk hds (m - i) (m + j - i) i wr (by omega) (by have := HN.out; omega) HR.out
        rw [hds, ← HN.out, show ((m - i : Nat) : Int) = (m : Int) - (i : Int) by omega, show ((m + j - i : Nat) : Int) = (m : Int) + (j : Int) - (i : Int) by omega, show m + j - i + i = m + j by omega] at C
        have C := Go.Lib.hid C
        clear hds hij hgt
        go_wp2_with fail
        refine C.out.mono ?_
        rintro e w2 ⟨rfl, d2, hs2, hr2⟩
        have HF := Go.Lib.hid (And.intro (HS.out.less hlt (by rw [← HN.out]; exact hb) hs2) hr2)
        clear hs2 hr2 C
        go_wp2_with fail
        go_roundw
        case rel => exact ⟨i, j - i, d2, rfl, by congr 1; omega, Go.Lib.hid HF.out.1, Go.Lib.hid HF.out.2⟩
        case measure => simp only [intOf]; omega
end Go.Proofs.YthbnecdeebmlhaaGreat

namespace Go.Proofs.YthbnecdeebmlhaaGreat
open Go.RowKit Go.Sort

section
variable {w0 W : World} {B g c : Nat} {d : Array RecT}
/-- A record's cells as a value. -/
abbrev rA (x : RecT) : Value := .agg #[.string x.1, .bool x.2.1, .int .i64 x.2.2.1, .int .i64 x.2.2.2.1, .string x.2.2.2.2]
theorem sym_cmp (W : World) (x y : RecT) (n : Nat) (os : Array Obj) :
    Calls Tryz.prog 91 #[rA x, rA y] (grow (W.drewN n) os) fun e w'' => e = .returned (.int .i64 (cmpK x y)) ∧ ∃ p : GrownBy, w'' = grow (W.drewN p.n) p.os := by
  refine Calls.grown_of ?_
  exact listfn_c x y _

/-- Two elements' cells, at letters, and what their comparison tells. -/
theorem sym_two {P : Value → Value → Nat → Array Obj → Prop} (S : RW w0 B g c d W) (i j : Nat) (hi : i < d.size) (hj : j < d.size) (hc : ∀ n os, P (rA d[i]!) (rA d[j]!) n os) :
    ∃ (x0 : ByteArray) (x1 : Bool) (x2 x3 : Int) (x4 : ByteArray) (y0 : ByteArray) (y1 : Bool) (y2 y3 : Int) (y4 : ByteArray),
      (∀ n os, (grow (W.drewN n) os).cell? ⟨g, i * 5, none⟩ = some (.string x0)) ∧ (∀ n os, (grow (W.drewN n) os).cell? ⟨g, i * 5 + 1, none⟩ = some (.bool x1)) ∧ (∀ n os, (grow (W.drewN n) os).cell? ⟨g, i * 5 + 2, none⟩ = some (.int .i64 x2)) ∧
      (∀ n os, (grow (W.drewN n) os).cell? ⟨g, i * 5 + 3, none⟩ = some (.int .i64 x3)) ∧ (∀ n os, (grow (W.drewN n) os).cell? ⟨g, i * 5 + 4, none⟩ = some (.string x4)) ∧
      (∀ n os, (grow (W.drewN n) os).cell? ⟨g, j * 5, none⟩ = some (.string y0)) ∧ (∀ n os, (grow (W.drewN n) os).cell? ⟨g, j * 5 + 1, none⟩ = some (.bool y1)) ∧ (∀ n os, (grow (W.drewN n) os).cell? ⟨g, j * 5 + 2, none⟩ = some (.int .i64 y2)) ∧
      (∀ n os, (grow (W.drewN n) os).cell? ⟨g, j * 5 + 3, none⟩ = some (.int .i64 y3)) ∧ (∀ n os, (grow (W.drewN n) os).cell? ⟨g, j * 5 + 4, none⟩ = some (.string y4)) ∧
      Hid (∀ n os, P (.agg #[.string x0, .bool x1, .int .i64 x2, .int .i64 x3, .string x4]) (.agg #[.string y0, .bool y1, .int .i64 y2, .int .i64 y3, .string y4]) n os) :=
  have h := fun n os => S.cells i hi n os
  have k := fun n os => S.cells j hj n os
  ⟨_, _, _, _, _, _, _, _, _, _, fun n os => (h n os).1, fun n os => (h n os).2.1, fun n os => (h n os).2.2.1, fun n os => (h n os).2.2.2.1, fun n os => (h n os).2.2.2.2, fun n os => (k n os).1, fun n os => (k n os).2.1, fun n os => (k n os).2.2.1, fun n os => (k n os).2.2.2.1, fun n os => (k n os).2.2.2.2, hc⟩

set_option maxHeartbeats 16000000 in
set_option maxRecDepth 100000 in
/-- One element against a sorted row that lies behind it. -/
theorem symmerge_one (a m b : Nat) (W : World) (hma : m = a + 1) (h2 : m < b) (hb : b ≤ d.size) (hsz : d.size ≤ 1000) (R : RW w0 B g c d W) (h0 : SortedIn ltR m b d) :
    Calls Tryz.prog 137 #[.slice (some ⟨g, 0, none⟩) d.size c, .int .i64 (a : Int), .int .i64 (m : Int), .int .i64 (b : Int), .func (.func 91) #[] #[]] W fun e w' => e = .returned (.tuple #[]) ∧ ∃ d', PermIn a b d d' ∧ SortedIn ltR a b d' ∧ RW w0 B g c d' w' := by
  have HR := Go.Lib.hid R
  have H0 := Go.Lib.hid h0
  obtain ⟨n, hn⟩ : ∃ n, n = d.size := ⟨_, rfl⟩
  rw [← hn] at hb hsz
  have HN := Go.Lib.hid hn
  have eg : ∀ args w, (callFunc 91 args).run Tryz.prog w = .ok (.enter 91 args) w := enters_of Tryz.func91 (by kernel_rfl) rfl
  have mixed : Tryz.prog.follows .mixedOrders = true := by kernel_rfl
  rw [← hn]
  have HH := Go.Lib.hid hma
  clear R h0 hn
  go_enter Tryz.func137, Tryz.ntmps137
  have haI : ((m : Int) - (a : Int) == 1) = true := by rw [beq_iff_eq]; omega
  have haN : a < n := by omega
  clear hma
  go_wp2_with fail
  go_loopw [10, 11] (fun vi vj wr => ∃ (i j : Nat), vi = .int .i64 (i : Int) ∧ vj = .int .i64 (j : Int) ∧ m ≤ i ∧ i ≤ j ∧ j ≤ b ∧ Hid (∀ x, m ≤ x → x < i → ltR d[x]! d[a]! = true) ∧ Hid (∀ x, j ≤ x → x < b → ltR d[x]! d[a]! = false) ∧ Hid (RW w0 B g c d wr)) (fun vi vj _ => (intOf vj - intOf vi).toNat)
  case atStart => exact ⟨m, b, rfl, rfl, Nat.le_refl _, by omega, Nat.le_refl _, Go.Lib.hid (fun x h1 h2 => absurd h2 (by omega)), Go.Lib.hid (fun x h1 h2 => absurd h2 (by omega)), HR⟩
  case round =>
    obtain ⟨i, j, rfl, rfl, hmi, hij, hjb, HL, HG, S⟩ := hrel
    by_cases hlt : i < j
    · obtain ⟨H, hH⟩ : ∃ H : Nat, H = (i + j) / 2 := ⟨_, rfl⟩
      have hHI : ((i : Int) + (j : Int)) / 2 = (H : Int) := by omega
      have hltI : (i : Int) < (j : Int) := by omega
      have hH1 : H < n := by omega
      have hH2 : H < j := by omega
      have hH3 : i ≤ H := by omega
      have hc := fun n' os' => sym_cmp wr d[H]! d[a]! n' os'
      have hS2 := Go.Lib.hid fun n' os' => S.out.grown n' os'
      have HLT := Go.Lib.hid (fun (h : ltR d[H]! d[a]! = true) => search_lt (v := d[a]!) swoK H0.out (by omega) h)
      have HGE := Go.Lib.hid (fun (h : ltR d[H]! d[a]! = false) => search_ge (v := d[a]!) swoK H0.out (by omega) h)
      have HZ := Go.Lib.hid (show ltR d[H]! d[a]! = decide (cmpK d[H]! d[a]! < 0) from rfl)
      generalize ltR d[H]! d[a]! = q at *
      generalize cmpK d[H]! d[a]! = z at *
      obtain ⟨xj0, xj1, xj2, xj3, xj4, xa0, xa1, xa2, xa3, xa4, j0, j1, j2, j3, j4, a0, a1, a2, a3, a4, hc⟩ := sym_two (P := fun X Y n' os' => Calls Tryz.prog 91 #[X, Y] (grow (wr.drewN n') os') fun e w'' => e = .returned (.int .i64 z) ∧ ∃ p : GrownBy, w'' = grow (wr.drewN p.n) p.os) S.out H a (by rw [← HN.out]; omega) (by rw [← HN.out]; omega) hc
      clear S hH
      have HQ := Go.Lib.hid (And.intro hmi (And.intro hij (And.intro hjb (And.intro hlt (And.intro hH2 (And.intro hH3 (And.intro h2 hb)))))))
      by_cases hz : z < 0
      · have HQ1 := Go.Lib.hid (HLT.out (by rw [HZ.out]; exact decide_eq_true hz))
        go_wp2_with fail
        clear hmi hij hjb hlt hH2 hH3 h2 hb
        go_quiet_grown (first | (go_at_fn 91; exact hc.out _ _))
        clear j0 j1 j2 j3 j4 a0 a1 a2 a3 a4 hc
        go_wp2_with fail
        obtain ⟨hmi, hij, hjb, hlt, hH2, hH3, h2, hb⟩ := HQ.out
        go_roundw
        case rel => exact ⟨H + 1, j, by go_num, rfl, by omega, by omega, hjb, Go.Lib.hid (fun x hx hx2 => HQ1.out x hx (by omega)), HG, hS2.out _ _⟩
        case measure => simp only [intOf]; omega
      · have HQ1 := Go.Lib.hid (HGE.out (by rw [HZ.out]; exact decide_eq_false hz))
        go_wp2_with fail
        clear hmi hij hjb hlt hH2 hH3 h2 hb
        go_quiet_grown (first | (go_at_fn 91; exact hc.out _ _))
        clear j0 j1 j2 j3 j4 a0 a1 a2 a3 a4 hc
        go_wp2_with fail
        obtain ⟨hmi, hij, hjb, hlt, hH2, hH3, h2, hb⟩ := HQ.out
        go_roundw
        case rel => exact ⟨i, H, rfl, rfl, hmi, hH3, by omega, HL, Go.Lib.hid (fun x hx hx2 => HQ1.out x hx (by omega)), hS2.out _ _⟩
        case measure => simp only [intOf]; omega
    · obtain rfl : i = j := by omega
      have hltI : ¬ (i : Int) < (i : Int) := by omega
      clear hlt hij
      go_wp2_with fail
      go_loopw [13] (fun vk wr2 => ∃ (k : Nat) (dk : Array RecT), vk = .int .i64 (k : Int) ∧ a ≤ k ∧ k ≤ i - 1 ∧ Hid (ShU d a b k dk) ∧ Hid (RW w0 B g c dk wr2)) (fun vk _ => n - (intOf vk).toNat)
      case atStart => exact ⟨a, d, rfl, Nat.le_refl _, by have := HH.out; omega, Go.Lib.hid (ShU.start d a b), S⟩
      case round =>
        clear S
        obtain ⟨k, dk, rfl, hak, hki, HS, S⟩ := hrel
        have hds : dk.size = n := by have := HS.out.perm.1; have := HN.out; omega
        by_cases hlt : k < i - 1
        · have hltI2 : (k : Int) < (i : Int) - 1 := by omega
          have hS2 := Go.Lib.hid (HS.out.step hak (by omega) (by rw [← HN.out]; exact hb))
          obtain ⟨kk, cI, cJ, zE, n1, n2, l1, l2, s1, s2, S2⟩ := S.out.swapf k (k + 1) (by omega) (by omega)
          have S2 := Go.Lib.hid S2
          have aE := Tryz.isAgg28
          have ea : ((k : Int) + 1).toNat = k + 1 := by omega
          have pa : (0 : Int) ≤ (k : Int) + 1 := by omega
          have ba : (k : Int) + 1 < (n : Int) := by omega
          have bb : (k : Int) < (n : Int) := by omega
          have eb : ((k : Int)).toNat = k := by omega
          have pb : (0 : Int) ≤ (k : Int) := by omega
          have rb : IntKind.i64.wrap ((k : Int)) = (k : Int) := by rw [IntKind.wrap_i64]; omega
          have ra : IntKind.i64.wrap ((k : Int) + 1) = (k : Int) + 1 := by rw [IntKind.wrap_i64]; omega
          have HQ := Go.Lib.hid (And.intro hak (And.intro hki (And.intro hlt hmi)))
          clear HS S
          go_wp2_with fail
          go_big_region_o
          clear l1 l2 s1 s2 zE n1 n2 aE
          generalize (wr.drew.setCells g (k * kk) cJ).setCells g ((k + 1) * kk) cI = w2 at *
          go_wp2_with fail
          obtain ⟨hak, hki, hlt, hmi⟩ := HQ.out
          go_roundw
          case rel => exact ⟨k + 1, _, by go_num, by omega, by omega, hS2, S2⟩
          case measure => simp only [intOf]; omega
        · have hltI2 : ¬ (k : Int) < (i : Int) - 1 := by omega
          obtain rfl : k = i - 1 := by have := HH.out; omega
          have HF := Go.Lib.hid (And.intro HS.out.perm (HS.out.sorted swoK (by have := H0.out; rwa [HH.out] at this) (by have := HH.out; omega) hjb (by have := HL.out; rwa [HH.out] at this) HG.out))
          clear HS hlt
          go_wp2_with fail
          refine bodyPost_ret (results_none rfl _ _ _) rfl ?_
          exact ⟨rfl, dk, HF.out.1, HF.out.2, S.out⟩
set_option maxHeartbeats 16000000 in
set_option maxRecDepth 100000 in
/-- One element against a sorted row that lies ahead of it. -/
theorem symmerge_last (a m b : Nat) (W : World) (h1 : a + 1 < m) (hmb : b = m + 1) (hb : b ≤ d.size) (hsz : d.size ≤ 1000) (R : RW w0 B g c d W) (h0 : SortedIn ltR a m d) :
    Calls Tryz.prog 137 #[.slice (some ⟨g, 0, none⟩) d.size c, .int .i64 (a : Int), .int .i64 (m : Int), .int .i64 (b : Int), .func (.func 91) #[] #[]] W fun e w' => e = .returned (.tuple #[]) ∧ ∃ d', PermIn a b d d' ∧ SortedIn ltR a b d' ∧ RW w0 B g c d' w' := by
  have HR := Go.Lib.hid R
  have H0 := Go.Lib.hid h0
  obtain ⟨n, hn⟩ : ∃ n, n = d.size := ⟨_, rfl⟩
  rw [← hn] at hb hsz
  have HN := Go.Lib.hid hn
  have eg : ∀ args w, (callFunc 91 args).run Tryz.prog w = .ok (.enter 91 args) w := enters_of Tryz.func91 (by kernel_rfl) rfl
  have mixed : Tryz.prog.follows .mixedOrders = true := by kernel_rfl
  rw [← hn]
  have HH := Go.Lib.hid hmb
  clear R h0 hn
  go_enter Tryz.func137, Tryz.ntmps137
  have haI : ((m : Int) - (a : Int) == 1) = false := by rw [beq_eq_false_iff_ne]; omega
  have hbI : ((b : Int) - (m : Int) == 1) = true := by rw [beq_iff_eq]; omega
  have hmN : m < n := by omega
  clear hmb
  go_wp2_with fail
  go_loopw [14, 15] (fun vi vj wr => ∃ (i j : Nat), vi = .int .i64 (i : Int) ∧ vj = .int .i64 (j : Int) ∧ a ≤ i ∧ i ≤ j ∧ j ≤ m ∧ Hid (∀ x, a ≤ x → x < i → ltR d[m]! d[x]! = false) ∧ Hid (∀ x, j ≤ x → x < m → ltR d[m]! d[x]! = true) ∧ Hid (RW w0 B g c d wr)) (fun vi vj _ => (intOf vj - intOf vi).toNat)
  case atStart => exact ⟨a, m, rfl, rfl, Nat.le_refl _, by omega, Nat.le_refl _, Go.Lib.hid (fun x h1 h2 => absurd h2 (by omega)), Go.Lib.hid (fun x h1 h2 => absurd h2 (by omega)), HR⟩
  case round =>
    obtain ⟨i, j, rfl, rfl, hmi, hij, hjb, HL, HG, S⟩ := hrel
    by_cases hlt : i < j
    · obtain ⟨H, hH⟩ : ∃ H : Nat, H = (i + j) / 2 := ⟨_, rfl⟩
      have hHI : ((i : Int) + (j : Int)) / 2 = (H : Int) := by omega
      have hltI : (i : Int) < (j : Int) := by omega
      have hH1 : H < n := by omega
      have hH2 : H < j := by omega
      have hH3 : i ≤ H := by omega
      have hc := fun n' os' => sym_cmp wr d[m]! d[H]! n' os'
      have hS2 := Go.Lib.hid fun n' os' => S.out.grown n' os'
      have HLT := Go.Lib.hid (fun (h : ltR d[m]! d[H]! = true) => search_gt (v := d[m]!) swoK H0.out (by omega) h)
      have HGE := Go.Lib.hid (fun (h : ltR d[m]! d[H]! = false) => search_le (v := d[m]!) swoK H0.out (by omega) h)
      have HZ := Go.Lib.hid (show ltR d[m]! d[H]! = decide (cmpK d[m]! d[H]! < 0) from rfl)
      generalize ltR d[m]! d[H]! = q at *
      generalize cmpK d[m]! d[H]! = z at *
      obtain ⟨xj0, xj1, xj2, xj3, xj4, xa0, xa1, xa2, xa3, xa4, j0, j1, j2, j3, j4, a0, a1, a2, a3, a4, hc⟩ := sym_two (P := fun X Y n' os' => Calls Tryz.prog 91 #[X, Y] (grow (wr.drewN n') os') fun e w'' => e = .returned (.int .i64 z) ∧ ∃ p : GrownBy, w'' = grow (wr.drewN p.n) p.os) S.out m H (by rw [← HN.out]; omega) (by rw [← HN.out]; omega) hc
      clear S hH
      have HQ := Go.Lib.hid (And.intro hmi (And.intro hij (And.intro hjb (And.intro hlt (And.intro hH2 (And.intro hH3 (And.intro h1 hb)))))))
      by_cases hz : z < 0
      · have HQ1 := Go.Lib.hid (HLT.out (by rw [HZ.out]; exact decide_eq_true hz))
        have hd : (!decide (z < 0)) = false := by rw [decide_eq_true hz]; rfl
        go_wp2_with fail
        clear hmi hij hjb hlt hH2 hH3 h1 hb
        go_quiet_grown (first | (go_at_fn 91; exact hc.out _ _))
        clear j0 j1 j2 j3 j4 a0 a1 a2 a3 a4 hc
        go_wp2_with fail
        obtain ⟨hmi, hij, hjb, hlt, hH2, hH3, h1, hb⟩ := HQ.out
        go_roundw
        case rel => exact ⟨i, H, rfl, rfl, hmi, hH3, by omega, HL, Go.Lib.hid (fun x hx hx2 => HQ1.out x hx (by omega)), hS2.out _ _⟩
        case measure => simp only [intOf]; omega
      · have HQ1 := Go.Lib.hid (HGE.out (by rw [HZ.out]; exact decide_eq_false hz))
        have hd : (!decide (z < 0)) = true := by rw [decide_eq_false hz]; rfl
        go_wp2_with fail
        clear hmi hij hjb hlt hH2 hH3 h1 hb
        go_quiet_grown (first | (go_at_fn 91; exact hc.out _ _))
        clear j0 j1 j2 j3 j4 a0 a1 a2 a3 a4 hc
        go_wp2_with fail
        obtain ⟨hmi, hij, hjb, hlt, hH2, hH3, h1, hb⟩ := HQ.out
        go_roundw
        case rel => exact ⟨H + 1, j, by go_num, rfl, by omega, by omega, hjb, Go.Lib.hid (fun x hx hx2 => HQ1.out x hx (by omega)), HG, hS2.out _ _⟩
        case measure => simp only [intOf]; omega
    · obtain rfl : i = j := by omega
      have hltI : ¬ (i : Int) < (i : Int) := by omega
      clear hlt hij
      go_wp2_with fail
      go_loopw [17] (fun vk wr2 => ∃ (k : Nat) (dk : Array RecT), vk = .int .i64 (k : Int) ∧ i ≤ k ∧ k ≤ m ∧ Hid (ShD d a m k dk) ∧ Hid (RW w0 B g c dk wr2)) (fun vk _ => (intOf vk).toNat)
      case atStart => exact ⟨m, d, rfl, hjb, Nat.le_refl _, Go.Lib.hid (ShD.start d a m), S⟩
      case round =>
        clear S
        obtain ⟨k, dk, rfl, hik, hkm, HS, S⟩ := hrel
        have hds : dk.size = n := by have := HS.out.perm.1; have := HN.out; omega
        by_cases hlt : i < k
        · obtain ⟨kp, rfl⟩ : ∃ kp, k = kp + 1 := ⟨k - 1, by omega⟩
          have hltI2 : (i : Int) < (kp : Int) + 1 := by omega
          have hS2 := Go.Lib.hid (HS.out.step (by omega) hkm (by rw [← HN.out]; exact hmN))
          obtain ⟨kk, cI, cJ, zE, n1, n2, l1, l2, s1, s2, S2⟩ := S.out.swapf (kp + 1) kp (by omega) (by omega)
          have S2 := Go.Lib.hid S2
          have aE := Tryz.isAgg28
          have ea : ((kp : Int) + 1).toNat = kp + 1 := by omega
          have pa : (0 : Int) ≤ (kp : Int) + 1 := by omega
          have ba : (kp : Int) + 1 < (n : Int) := by omega
          have bb : (kp : Int) < (n : Int) := by omega
          have eb : ((kp : Int)).toNat = kp := by omega
          have pb : (0 : Int) ≤ (kp : Int) := by omega
          have rb : IntKind.i64.wrap ((kp : Int)) = (kp : Int) := by rw [IntKind.wrap_i64]; omega
          clear HS S
          go_wp2_with fail
          go_big_region_o
          clear l1 l2 s1 s2 zE n1 n2 aE
          generalize (wr.drew.setCells g ((kp + 1) * kk) cJ).setCells g (kp * kk) cI = w2 at *
          go_wp2_with fail
          go_roundw
          case rel => exact ⟨kp, _, rfl, by omega, by omega, hS2, S2⟩
          case measure => simp only [intOf]; omega
        · have hltI2 : ¬ (i : Int) < (k : Int) := by omega
          obtain rfl : k = i := by omega
          have HF := Go.Lib.hid (And.intro HS.out.perm (HS.out.sorted swoK H0.out hmi hjb HL.out HG.out))
          rw [← HH.out] at HF
          clear HS hlt
          go_wp2_with fail
          refine bodyPost_ret (results_none rfl _ _ _) rfl ?_
          exact ⟨rfl, dk, HF.out.1, HF.out.2, S.out⟩
end
end Go.Proofs.YthbnecdeebmlhaaGreat

namespace Go.Proofs.YthbnecdeebmlhaaGreat
open Go.RowKit Go.Sort

section
variable {w0 : World} {B g c : Nat}
set_option maxHeartbeats 32000000 in
set_option maxRecDepth 100000 in
theorem symmerge_c (n : Nat) (hsz : n ≤ 1000) : ∀ (N a m b : Nat) (d : Array RecT) (W : World), b - a ≤ N → a < m → m < b → b ≤ n → n = d.size → SortedIn ltR a m d → SortedIn ltR m b d → RW w0 B g c d W →
    Calls Tryz.prog 137 #[.slice (some ⟨g, 0, none⟩) n c, .int .i64 (a : Int), .int .i64 (m : Int), .int .i64 (b : Int), .func (.func 91) #[] #[]] W fun e w' => e = .returned (.tuple #[]) ∧ ∃ d', PermIn a b d d' ∧ SortedIn ltR a b d' ∧ RW w0 B g c d' w' := by
  intro N
  induction N with
  | zero =>
    intro a m b d W h0 h1 h2
    omega
  | succ N ih =>
    intro a m b d W h0 h1 h2 h3 hn S1 S2 R
    by_cases ha : m - a = 1
    · have h := symmerge_one (c := c) a m b W (by omega) h2 (by rw [← hn]; exact h3) (by rw [← hn]; exact hsz) R S2
      rw [← hn] at h
      exact h
    by_cases hb : b - m = 1
    · have h := symmerge_last (c := c) a m b W (by omega) (by omega) (by rw [← hn]; exact h3) (by rw [← hn]; exact hsz) R S1
      rw [← hn] at h
      exact h
    have IH := Go.Lib.hid ih
    have HR := Go.Lib.hid R
    have HS := Go.Lib.hid (And.intro S1 S2)
    have HN := Go.Lib.hid hn
    have eg : ∀ args w, (callFunc 91 args).run Tryz.prog w = .ok (.enter 91 args) w := enters_of Tryz.func91 (by kernel_rfl) rfl
    have mixed : Tryz.prog.follows .mixedOrders = true := by kernel_rfl
    have haI : ((m : Int) - (a : Int) == 1) = false := by rw [beq_eq_false_iff_ne]; omega
    have hbI : ((b : Int) - (m : Int) == 1) = false := by rw [beq_eq_false_iff_ne]; omega
    obtain ⟨D, hD⟩ : ∃ D : Nat, D = (a + b) / 2 := ⟨_, rfl⟩
    have hDI : ((a : Int) + (b : Int)) / 2 = (D : Int) := by omega
    have HD := Go.Lib.hid (show D = (a + b) / 2 ∧ 2 ≤ m - a ∧ 2 ≤ b - m by omega)
    have hDa : a < D := by omega
    have hDb : D < b := by omega
    have H0 := Go.Lib.hid h0
    clear ih R S1 S2 hn hD ha hb h0
    go_enter Tryz.func137, Tryz.ntmps137
    go_upto_if 140 with fail
    go_cut [20, 21] (fun vs vr wc => ∃ s0 r0 : Nat, vs = .int .i64 (s0 : Int) ∧ vr = .int .i64 (r0 : Int) ∧ a ≤ s0 ∧ s0 ≤ r0 ∧ r0 ≤ m ∧ r0 ≤ D ∧ D + m ≤ s0 + b ∧ Hid (s0 = a ∨ s0 + b = D + m) ∧ Hid (r0 = m ∨ r0 = D) ∧ wc = W)
    case first =>
      by_cases hm : D < m
      · have hmI : (D : Int) < (m : Int) := by omega
        go_wp2_with fail
        go_meet
        case rel => exact ⟨D + m - b, D, by congr 1; have := HD.out; omega, rfl, by have := HD.out; omega, by omega, by omega, Nat.le_refl _, by have := HD.out; omega, Go.Lib.hid (.inr (by have := HD.out; omega)), Go.Lib.hid (.inr rfl), rfl⟩
      · have hmI : ¬ (D : Int) < (m : Int) := by omega
        go_wp2_with fail
        go_meet
        case rel => exact ⟨a, m, rfl, rfl, Nat.le_refl _, by omega, Nat.le_refl _, by omega, by have := HD.out; omega, Go.Lib.hid (.inl rfl), Go.Lib.hid (.inl rfl), rfl⟩
    case rest =>
      obtain ⟨s0, r0, rfl, rfl, q1, q2, q3, q4, q5, HP0, HP1, rfl⟩ := hcut
      go_wp2_with fail
      go_loopw [20, 21] (fun vi vj wr => ∃ (i j : Nat), vi = .int .i64 (i : Int) ∧ vj = .int .i64 (j : Int) ∧ s0 ≤ i ∧ i ≤ j ∧ j ≤ r0 ∧ Hid (i = s0 ∨ ltR d[D + m - i]! d[i - 1]! = false) ∧ Hid (j = r0 ∨ ltR d[D + m - 1 - j]! d[j]! = true) ∧ Hid (RW w0 B g c d wr)) (fun vi vj _ => (intOf vj - intOf vi).toNat)
      case atStart => exact ⟨s0, r0, rfl, rfl, Nat.le_refl _, q2, Nat.le_refl _, Go.Lib.hid (.inl rfl), Go.Lib.hid (.inl rfl), HR⟩
      case round =>
        obtain ⟨i, j, rfl, rfl, hsi, hij, hjr, HL, HG, S⟩ := hrel
        by_cases hlt : i < j
        · obtain ⟨H, hH⟩ : ∃ H : Nat, H = (i + j) / 2 := ⟨_, rfl⟩
          have hHI : ((i : Int) + (j : Int)) / 2 = (H : Int) := by omega
          have hltI : (i : Int) < (j : Int) := by omega
          have hH1 : H < n := by omega
          have hH2 : H < j := by omega
          have hH3 : i ≤ H := by omega
          obtain ⟨E, hE⟩ : ∃ E : Nat, E = D + m - 1 - H := ⟨_, rfl⟩
          have hEI : (D : Int) + (m : Int) - 1 - (H : Int) = (E : Int) := by omega
          have hEw : IntKind.i64.wrap (E : Int) = (E : Int) := by rw [IntKind.wrap_i64]; omega
          have hE1 : E < n := by omega
          have hc := fun n' os' => sym_cmp wr d[E]! d[H]! n' os'
          have hS2 := Go.Lib.hid fun n' os' => S.out.grown n' os'
          have HLT := Go.Lib.hid (fun (h : ltR d[E]! d[H]! = true) => show H = r0 ∨ ltR d[D + m - 1 - H]! d[H]! = true from .inr (by rw [← hE]; exact h))
          have HGE := Go.Lib.hid (fun (h : ltR d[E]! d[H]! = false) => show H + 1 = s0 ∨ ltR d[D + m - (H + 1)]! d[H + 1 - 1]! = false from .inr (by rw [show D + m - (H + 1) = E by omega, Nat.add_sub_cancel]; exact h))
          have HZ := Go.Lib.hid (show ltR d[E]! d[H]! = decide (cmpK d[E]! d[H]! < 0) from rfl)
          generalize ltR d[E]! d[H]! = q at *
          generalize cmpK d[E]! d[H]! = z at *
          obtain ⟨xj0, xj1, xj2, xj3, xj4, xa0, xa1, xa2, xa3, xa4, j0, j1, j2, j3, j4, a0, a1, a2, a3, a4, hc⟩ := sym_two (P := fun X Y n' os' => Calls Tryz.prog 91 #[X, Y] (grow (wr.drewN n') os') fun e w'' => e = .returned (.int .i64 z) ∧ ∃ p : GrownBy, w'' = grow (wr.drewN p.n) p.os) S.out E H (by rw [← HN.out]; omega) (by rw [← HN.out]; omega) hc
          clear S hH hE
          have HQ := Go.Lib.hid (And.intro hsi (And.intro hij (And.intro hjr (And.intro hlt (And.intro hH2 hH3)))))
          by_cases hz : z < 0
          · have HQ1 := Go.Lib.hid (HLT.out (by rw [HZ.out]; exact decide_eq_true hz))
            have hd : (!decide (z < 0)) = false := by rw [decide_eq_true hz]; rfl
            go_wp2_with fail
            clear hsi hij hjr hlt hH2 hH3
            go_quiet_grown (first | (go_at_fn 91; exact hc.out _ _))
            clear j0 j1 j2 j3 j4 a0 a1 a2 a3 a4 hc
            go_wp2_with fail
            obtain ⟨hsi, hij, hjr, hlt, hH2, hH3⟩ := HQ.out
            go_roundw
            case rel => exact ⟨i, H, rfl, rfl, hsi, hH3, by omega, HL, Go.Lib.hid HQ1.out, hS2.out _ _⟩
            case measure => simp only [intOf]; omega
          · have HQ1 := Go.Lib.hid (HGE.out (by rw [HZ.out]; exact decide_eq_false hz))
            have hd : (!decide (z < 0)) = true := by rw [decide_eq_false hz]; rfl
            go_wp2_with fail
            clear hsi hij hjr hlt hH2 hH3
            go_quiet_grown (first | (go_at_fn 91; exact hc.out _ _))
            clear j0 j1 j2 j3 j4 a0 a1 a2 a3 a4 hc
            go_wp2_with fail
            obtain ⟨hsi, hij, hjr, hlt, hH2, hH3⟩ := HQ.out
            go_roundw
            case rel => exact ⟨H + 1, j, by go_num, rfl, by omega, by omega, hjr, Go.Lib.hid HQ1.out, HG, hS2.out _ _⟩
            case measure => simp only [intOf]; omega
        · obtain rfl : i = j := by omega
          have hltI : ¬ (i : Int) < (i : Int) := by omega
          obtain ⟨e, hee⟩ : ∃ e : Nat, e + i = D + m := ⟨D + m - i, by omega⟩
          have heI : (D : Int) + (m : Int) - (i : Int) = (e : Int) := by omega
          have hsm : i ≤ m := by omega
          have hme : m ≤ e := by omega
          have heb : e ≤ b := by omega
          have hai : a ≤ i := by omega
          have hiD : i ≤ D := by omega
          have hDe : D ≤ e := by omega
          have HHL := Go.Lib.hid (show a = i ∨ e = b ∨ ltR d[e]! d[i - 1]! = false by
            rcases HL.out with h | h
            · rcases HP0.out with h2 | h2
              · left; omega
              · right; left; omega
            · right; right
              rw [show D + m - i = e by omega] at h
              exact h)
          have HHR := Go.Lib.hid (show i = m ∨ e = m ∨ ltR d[e - 1]! d[i]! = true by
            rcases HG.out with h | h
            · rcases HP1.out with h2 | h2
              · left; omega
              · right; left; omega
            · right; right
              rw [show D + m - 1 - i = e - 1 by omega] at h
              exact h)
          have HSP := Go.Lib.hid fun (d1 : Array RecT) (h : Rotd d i m e d1) => rot_split (mid := D) swoK h HS.out.1 HS.out.2 hai hsm hme heb (by omega) HHL.out HHR.out
          have HEE := Go.Lib.hid hee
          clear HL HG HP0 HP1 HHL HHR hee q1 q2 q3 q4 q5 hsi hij hjr hlt
          by_cases hs1 : i < m
          · have hs1I : (i : Int) < (m : Int) := by omega
            by_cases hs2 : m < e
            · have hs2I : (m : Int) < (e : Int) := by omega
              have CR := rotate_c (d := d) i m e wr hs1 hs2 (by rw [← HN.out]; omega) (by rw [← HN.out]; exact hsz) S.out
              rw [← HN.out] at CR
              have CR := Go.Lib.hid CR
              go_wp2_with fail
              refine CR.out.mono ?_
              rintro e' w1 ⟨rfl, d1, hrot, S⟩
              have S := Go.Lib.hid S
              have HSP := Go.Lib.hid (And.intro hrot (HSP.out d1 hrot))
              clear hrot CR
              have HD1 := Go.Lib.hid (show n = d1.size by have := HSP.out.1.perm.1; have := HN.out; omega)
              by_cases ht1 : a < i
              · have ht1I : (a : Int) < (i : Int) := by omega
                by_cases ht2 : i < D
                · have ht2I : (i : Int) < (D : Int) := by omega
                  have CL := Go.Lib.hid (IH.out a i D d1 _ (by have := H0.out; omega) ht1 ht2 (by omega) HD1.out HSP.out.2.2.1 HSP.out.2.2.2.1 S.out)
                  go_wp2_with fail
                  refine CL.out.mono ?_
                  rintro e' w2 ⟨rfl, d2, hp2, hs2', S⟩
                  have S := Go.Lib.hid S
                  have HL2 := Go.Lib.hid (And.intro hp2 hs2')
                  clear hp2 hs2' CL
                  have HD2 := Go.Lib.hid (show n = d2.size by have := HL2.out.1.1; have := HD1.out; omega)
                  have HS3 := Go.Lib.hid (And.intro (sorted_congr HSP.out.2.2.2.2.1 (fun x hx _ => HL2.out.1.2.1 x (.inr hx))) (sorted_congr HSP.out.2.2.2.2.2 (fun x hx _ => HL2.out.1.2.1 x (.inr (by omega)))))
                  have HMD := Go.Lib.hid fun (d3 : Array RecT) (h1 : PermIn D b d2 d3) (h2 : SortedIn ltR D b d3) => merge_done (by rw [← HN.out]; exact h3) HSP.out.1 hai heb (by omega) (by omega) HSP.out.2.1 HL2.out.1 HL2.out.2 h1 h2
                  by_cases hu1 : D < e
                  · have hu1I : (D : Int) < (e : Int) := by omega
                    by_cases hu2 : e < b
                    · have hu2I : (e : Int) < (b : Int) := by omega
                      have CR2 := Go.Lib.hid (IH.out D e b d2 _ (by have := H0.out; omega) hu1 hu2 h3 HD2.out HS3.out.1 HS3.out.2 S.out)
                      go_wp2_with fail
                      refine CR2.out.mono ?_
                      rintro e' w3 ⟨rfl, d3, hp3, hs3', S⟩
                      have HF := Go.Lib.hid (HMD.out d3 hp3 hs3')
                      clear CR2 hp3 hs3'
                      go_wp2_with fail
                      go_end0
                      exact ⟨rfl, d3, HF.out.1, HF.out.2, S⟩
                    · have hu2I : ¬ (e : Int) < (b : Int) := by omega
                      have HF := Go.Lib.hid (HMD.out d2 (permIn_refl d2 D b) (sorted_join HS3.out.1 HS3.out.2 (.inr (by omega))))
                      go_wp2_with fail
                      go_end0
                      exact ⟨rfl, d2, HF.out.1, HF.out.2, S.out⟩
                  · have hu1I : ¬ (D : Int) < (e : Int) := by omega
                    have HF := Go.Lib.hid (HMD.out d2 (permIn_refl d2 D b) (sorted_join HS3.out.1 HS3.out.2 (.inl (by omega))))
                    go_wp2_with fail
                    go_end0
                    exact ⟨rfl, d2, HF.out.1, HF.out.2, S.out⟩
                · have ht2I : ¬ (i : Int) < (D : Int) := by omega
                  have HL2 := Go.Lib.hid (And.intro (permIn_refl d1 a D) (sorted_join HSP.out.2.2.1 HSP.out.2.2.2.1 (.inr (by omega))))
                  obtain ⟨d2, hd2⟩ : ∃ d2, d2 = d1 := ⟨_, rfl⟩
                  rw [← hd2] at S
                  have HL2 : Hid (PermIn a D d1 d2 ∧ SortedIn ltR a D d2) := by rw [hd2]; exact HL2
                  clear hd2
                  have HD2 := Go.Lib.hid (show n = d2.size by have := HL2.out.1.1; have := HD1.out; omega)
                  have HS3 := Go.Lib.hid (And.intro (sorted_congr HSP.out.2.2.2.2.1 (fun x hx _ => HL2.out.1.2.1 x (.inr hx))) (sorted_congr HSP.out.2.2.2.2.2 (fun x hx _ => HL2.out.1.2.1 x (.inr (by omega)))))
                  have HMD := Go.Lib.hid fun (d3 : Array RecT) (h1 : PermIn D b d2 d3) (h2 : SortedIn ltR D b d3) => merge_done (by rw [← HN.out]; exact h3) HSP.out.1 hai heb (by omega) (by omega) HSP.out.2.1 HL2.out.1 HL2.out.2 h1 h2
                  by_cases hu1 : D < e
                  · have hu1I : (D : Int) < (e : Int) := by omega
                    by_cases hu2 : e < b
                    · have hu2I : (e : Int) < (b : Int) := by omega
                      have CR2 := Go.Lib.hid (IH.out D e b d2 _ (by have := H0.out; omega) hu1 hu2 h3 HD2.out HS3.out.1 HS3.out.2 S.out)
                      go_wp2_with fail
                      refine CR2.out.mono ?_
                      rintro e' w3 ⟨rfl, d3, hp3, hs3', S⟩
                      have HF := Go.Lib.hid (HMD.out d3 hp3 hs3')
                      clear CR2 hp3 hs3'
                      go_wp2_with fail
                      go_end0
                      exact ⟨rfl, d3, HF.out.1, HF.out.2, S⟩
                    · have hu2I : ¬ (e : Int) < (b : Int) := by omega
                      have HF := Go.Lib.hid (HMD.out d2 (permIn_refl d2 D b) (sorted_join HS3.out.1 HS3.out.2 (.inr (by omega))))
                      go_wp2_with fail
                      go_end0
                      exact ⟨rfl, d2, HF.out.1, HF.out.2, S.out⟩
                  · have hu1I : ¬ (D : Int) < (e : Int) := by omega
                    have HF := Go.Lib.hid (HMD.out d2 (permIn_refl d2 D b) (sorted_join HS3.out.1 HS3.out.2 (.inl (by omega))))
                    go_wp2_with fail
                    go_end0
                    exact ⟨rfl, d2, HF.out.1, HF.out.2, S.out⟩
              · have ht1I : ¬ (a : Int) < (i : Int) := by omega
                have HL2 := Go.Lib.hid (And.intro (permIn_refl d1 a D) (sorted_join HSP.out.2.2.1 HSP.out.2.2.2.1 (.inl (by omega))))
                obtain ⟨d2, hd2⟩ : ∃ d2, d2 = d1 := ⟨_, rfl⟩
                rw [← hd2] at S
                have HL2 : Hid (PermIn a D d1 d2 ∧ SortedIn ltR a D d2) := by rw [hd2]; exact HL2
                clear hd2
                have HD2 := Go.Lib.hid (show n = d2.size by have := HL2.out.1.1; have := HD1.out; omega)
                have HS3 := Go.Lib.hid (And.intro (sorted_congr HSP.out.2.2.2.2.1 (fun x hx _ => HL2.out.1.2.1 x (.inr hx))) (sorted_congr HSP.out.2.2.2.2.2 (fun x hx _ => HL2.out.1.2.1 x (.inr (by omega)))))
                have HMD := Go.Lib.hid fun (d3 : Array RecT) (h1 : PermIn D b d2 d3) (h2 : SortedIn ltR D b d3) => merge_done (by rw [← HN.out]; exact h3) HSP.out.1 hai heb (by omega) (by omega) HSP.out.2.1 HL2.out.1 HL2.out.2 h1 h2
                by_cases hu1 : D < e
                · have hu1I : (D : Int) < (e : Int) := by omega
                  by_cases hu2 : e < b
                  · have hu2I : (e : Int) < (b : Int) := by omega
                    have CR2 := Go.Lib.hid (IH.out D e b d2 _ (by have := H0.out; omega) hu1 hu2 h3 HD2.out HS3.out.1 HS3.out.2 S.out)
                    go_wp2_with fail
                    refine CR2.out.mono ?_
                    rintro e' w3 ⟨rfl, d3, hp3, hs3', S⟩
                    have HF := Go.Lib.hid (HMD.out d3 hp3 hs3')
                    clear CR2 hp3 hs3'
                    go_wp2_with fail
                    go_end0
                    exact ⟨rfl, d3, HF.out.1, HF.out.2, S⟩
                  · have hu2I : ¬ (e : Int) < (b : Int) := by omega
                    have HF := Go.Lib.hid (HMD.out d2 (permIn_refl d2 D b) (sorted_join HS3.out.1 HS3.out.2 (.inr (by omega))))
                    go_wp2_with fail
                    go_end0
                    exact ⟨rfl, d2, HF.out.1, HF.out.2, S.out⟩
                · have hu1I : ¬ (D : Int) < (e : Int) := by omega
                  have HF := Go.Lib.hid (HMD.out d2 (permIn_refl d2 D b) (sorted_join HS3.out.1 HS3.out.2 (.inl (by omega))))
                  go_wp2_with fail
                  go_end0
                  exact ⟨rfl, d2, HF.out.1, HF.out.2, S.out⟩
            · have hs2I : ¬ (m : Int) < (e : Int) := by omega
              have hrot := Rotd.none d hsm hme (.inr (by omega))
              have HSP := Go.Lib.hid (And.intro hrot (HSP.out d hrot))
              clear hrot
              obtain ⟨d1, hd1⟩ : ∃ d1, d1 = d := ⟨_, rfl⟩
              have S : Hid (RW w0 B g c d1 wr) := by rw [hd1]; exact S
              have HSP : Hid (Rotd d i m e d1 ∧ (∀ x y, a ≤ x → x < D → D ≤ y → y < b → ltR d1[y]! d1[x]! = false) ∧ SortedIn ltR a i d1 ∧ SortedIn ltR i D d1 ∧ SortedIn ltR D e d1 ∧ SortedIn ltR e b d1) := by rw [hd1]; exact HSP
              clear hd1
              have HD1 := Go.Lib.hid (show n = d1.size by have := HSP.out.1.perm.1; have := HN.out; omega)
              by_cases ht1 : a < i
              · have ht1I : (a : Int) < (i : Int) := by omega
                by_cases ht2 : i < D
                · have ht2I : (i : Int) < (D : Int) := by omega
                  have CL := Go.Lib.hid (IH.out a i D d1 _ (by have := H0.out; omega) ht1 ht2 (by omega) HD1.out HSP.out.2.2.1 HSP.out.2.2.2.1 S.out)
                  go_wp2_with fail
                  refine CL.out.mono ?_
                  rintro e' w2 ⟨rfl, d2, hp2, hs2', S⟩
                  have S := Go.Lib.hid S
                  have HL2 := Go.Lib.hid (And.intro hp2 hs2')
                  clear hp2 hs2' CL
                  have HD2 := Go.Lib.hid (show n = d2.size by have := HL2.out.1.1; have := HD1.out; omega)
                  have HS3 := Go.Lib.hid (And.intro (sorted_congr HSP.out.2.2.2.2.1 (fun x hx _ => HL2.out.1.2.1 x (.inr hx))) (sorted_congr HSP.out.2.2.2.2.2 (fun x hx _ => HL2.out.1.2.1 x (.inr (by omega)))))
                  have HMD := Go.Lib.hid fun (d3 : Array RecT) (h1 : PermIn D b d2 d3) (h2 : SortedIn ltR D b d3) => merge_done (by rw [← HN.out]; exact h3) HSP.out.1 hai heb (by omega) (by omega) HSP.out.2.1 HL2.out.1 HL2.out.2 h1 h2
                  by_cases hu1 : D < e
                  · have hu1I : (D : Int) < (e : Int) := by omega
                    by_cases hu2 : e < b
                    · have hu2I : (e : Int) < (b : Int) := by omega
                      have CR2 := Go.Lib.hid (IH.out D e b d2 _ (by have := H0.out; omega) hu1 hu2 h3 HD2.out HS3.out.1 HS3.out.2 S.out)
                      go_wp2_with fail
                      refine CR2.out.mono ?_
                      rintro e' w3 ⟨rfl, d3, hp3, hs3', S⟩
                      have HF := Go.Lib.hid (HMD.out d3 hp3 hs3')
                      clear CR2 hp3 hs3'
                      go_wp2_with fail
                      go_end0
                      exact ⟨rfl, d3, HF.out.1, HF.out.2, S⟩
                    · have hu2I : ¬ (e : Int) < (b : Int) := by omega
                      have HF := Go.Lib.hid (HMD.out d2 (permIn_refl d2 D b) (sorted_join HS3.out.1 HS3.out.2 (.inr (by omega))))
                      go_wp2_with fail
                      go_end0
                      exact ⟨rfl, d2, HF.out.1, HF.out.2, S.out⟩
                  · have hu1I : ¬ (D : Int) < (e : Int) := by omega
                    have HF := Go.Lib.hid (HMD.out d2 (permIn_refl d2 D b) (sorted_join HS3.out.1 HS3.out.2 (.inl (by omega))))
                    go_wp2_with fail
                    go_end0
                    exact ⟨rfl, d2, HF.out.1, HF.out.2, S.out⟩
                · have ht2I : ¬ (i : Int) < (D : Int) := by omega
                  have HL2 := Go.Lib.hid (And.intro (permIn_refl d1 a D) (sorted_join HSP.out.2.2.1 HSP.out.2.2.2.1 (.inr (by omega))))
                  obtain ⟨d2, hd2⟩ : ∃ d2, d2 = d1 := ⟨_, rfl⟩
                  rw [← hd2] at S
                  have HL2 : Hid (PermIn a D d1 d2 ∧ SortedIn ltR a D d2) := by rw [hd2]; exact HL2
                  clear hd2
                  have HD2 := Go.Lib.hid (show n = d2.size by have := HL2.out.1.1; have := HD1.out; omega)
                  have HS3 := Go.Lib.hid (And.intro (sorted_congr HSP.out.2.2.2.2.1 (fun x hx _ => HL2.out.1.2.1 x (.inr hx))) (sorted_congr HSP.out.2.2.2.2.2 (fun x hx _ => HL2.out.1.2.1 x (.inr (by omega)))))
                  have HMD := Go.Lib.hid fun (d3 : Array RecT) (h1 : PermIn D b d2 d3) (h2 : SortedIn ltR D b d3) => merge_done (by rw [← HN.out]; exact h3) HSP.out.1 hai heb (by omega) (by omega) HSP.out.2.1 HL2.out.1 HL2.out.2 h1 h2
                  by_cases hu1 : D < e
                  · have hu1I : (D : Int) < (e : Int) := by omega
                    by_cases hu2 : e < b
                    · have hu2I : (e : Int) < (b : Int) := by omega
                      have CR2 := Go.Lib.hid (IH.out D e b d2 _ (by have := H0.out; omega) hu1 hu2 h3 HD2.out HS3.out.1 HS3.out.2 S.out)
                      go_wp2_with fail
                      refine CR2.out.mono ?_
                      rintro e' w3 ⟨rfl, d3, hp3, hs3', S⟩
                      have HF := Go.Lib.hid (HMD.out d3 hp3 hs3')
                      clear CR2 hp3 hs3'
                      go_wp2_with fail
                      go_end0
                      exact ⟨rfl, d3, HF.out.1, HF.out.2, S⟩
                    · have hu2I : ¬ (e : Int) < (b : Int) := by omega
                      have HF := Go.Lib.hid (HMD.out d2 (permIn_refl d2 D b) (sorted_join HS3.out.1 HS3.out.2 (.inr (by omega))))
                      go_wp2_with fail
                      go_end0
                      exact ⟨rfl, d2, HF.out.1, HF.out.2, S.out⟩
                  · have hu1I : ¬ (D : Int) < (e : Int) := by omega
                    have HF := Go.Lib.hid (HMD.out d2 (permIn_refl d2 D b) (sorted_join HS3.out.1 HS3.out.2 (.inl (by omega))))
                    go_wp2_with fail
                    go_end0
                    exact ⟨rfl, d2, HF.out.1, HF.out.2, S.out⟩
              · have ht1I : ¬ (a : Int) < (i : Int) := by omega
                have HL2 := Go.Lib.hid (And.intro (permIn_refl d1 a D) (sorted_join HSP.out.2.2.1 HSP.out.2.2.2.1 (.inl (by omega))))
                obtain ⟨d2, hd2⟩ : ∃ d2, d2 = d1 := ⟨_, rfl⟩
                rw [← hd2] at S
                have HL2 : Hid (PermIn a D d1 d2 ∧ SortedIn ltR a D d2) := by rw [hd2]; exact HL2
                clear hd2
                have HD2 := Go.Lib.hid (show n = d2.size by have := HL2.out.1.1; have := HD1.out; omega)
                have HS3 := Go.Lib.hid (And.intro (sorted_congr HSP.out.2.2.2.2.1 (fun x hx _ => HL2.out.1.2.1 x (.inr hx))) (sorted_congr HSP.out.2.2.2.2.2 (fun x hx _ => HL2.out.1.2.1 x (.inr (by omega)))))
                have HMD := Go.Lib.hid fun (d3 : Array RecT) (h1 : PermIn D b d2 d3) (h2 : SortedIn ltR D b d3) => merge_done (by rw [← HN.out]; exact h3) HSP.out.1 hai heb (by omega) (by omega) HSP.out.2.1 HL2.out.1 HL2.out.2 h1 h2
                by_cases hu1 : D < e
                · have hu1I : (D : Int) < (e : Int) := by omega
                  by_cases hu2 : e < b
                  · have hu2I : (e : Int) < (b : Int) := by omega
                    have CR2 := Go.Lib.hid (IH.out D e b d2 _ (by have := H0.out; omega) hu1 hu2 h3 HD2.out HS3.out.1 HS3.out.2 S.out)
                    go_wp2_with fail
                    refine CR2.out.mono ?_
                    rintro e' w3 ⟨rfl, d3, hp3, hs3', S⟩
                    have HF := Go.Lib.hid (HMD.out d3 hp3 hs3')
                    clear CR2 hp3 hs3'
                    go_wp2_with fail
                    go_end0
                    exact ⟨rfl, d3, HF.out.1, HF.out.2, S⟩
                  · have hu2I : ¬ (e : Int) < (b : Int) := by omega
                    have HF := Go.Lib.hid (HMD.out d2 (permIn_refl d2 D b) (sorted_join HS3.out.1 HS3.out.2 (.inr (by omega))))
                    go_wp2_with fail
                    go_end0
                    exact ⟨rfl, d2, HF.out.1, HF.out.2, S.out⟩
                · have hu1I : ¬ (D : Int) < (e : Int) := by omega
                  have HF := Go.Lib.hid (HMD.out d2 (permIn_refl d2 D b) (sorted_join HS3.out.1 HS3.out.2 (.inl (by omega))))
                  go_wp2_with fail
                  go_end0
                  exact ⟨rfl, d2, HF.out.1, HF.out.2, S.out⟩
          · have hs1I : ¬ (i : Int) < (m : Int) := by omega
            have hrot := Rotd.none d hsm hme (.inl (by omega))
            have HSP := Go.Lib.hid (And.intro hrot (HSP.out d hrot))
            clear hrot
            obtain ⟨d1, hd1⟩ : ∃ d1, d1 = d := ⟨_, rfl⟩
            have S : Hid (RW w0 B g c d1 wr) := by rw [hd1]; exact S
            have HSP : Hid (Rotd d i m e d1 ∧ (∀ x y, a ≤ x → x < D → D ≤ y → y < b → ltR d1[y]! d1[x]! = false) ∧ SortedIn ltR a i d1 ∧ SortedIn ltR i D d1 ∧ SortedIn ltR D e d1 ∧ SortedIn ltR e b d1) := by rw [hd1]; exact HSP
            clear hd1
            have HD1 := Go.Lib.hid (show n = d1.size by have := HSP.out.1.perm.1; have := HN.out; omega)
            by_cases ht1 : a < i
            · have ht1I : (a : Int) < (i : Int) := by omega
              by_cases ht2 : i < D
              · have ht2I : (i : Int) < (D : Int) := by omega
                have CL := Go.Lib.hid (IH.out a i D d1 _ (by have := H0.out; omega) ht1 ht2 (by omega) HD1.out HSP.out.2.2.1 HSP.out.2.2.2.1 S.out)
                go_wp2_with fail
                refine CL.out.mono ?_
                rintro e' w2 ⟨rfl, d2, hp2, hs2', S⟩
                have S := Go.Lib.hid S
                have HL2 := Go.Lib.hid (And.intro hp2 hs2')
                clear hp2 hs2' CL
                have HD2 := Go.Lib.hid (show n = d2.size by have := HL2.out.1.1; have := HD1.out; omega)
                have HS3 := Go.Lib.hid (And.intro (sorted_congr HSP.out.2.2.2.2.1 (fun x hx _ => HL2.out.1.2.1 x (.inr hx))) (sorted_congr HSP.out.2.2.2.2.2 (fun x hx _ => HL2.out.1.2.1 x (.inr (by omega)))))
                have HMD := Go.Lib.hid fun (d3 : Array RecT) (h1 : PermIn D b d2 d3) (h2 : SortedIn ltR D b d3) => merge_done (by rw [← HN.out]; exact h3) HSP.out.1 hai heb (by omega) (by omega) HSP.out.2.1 HL2.out.1 HL2.out.2 h1 h2
                by_cases hu1 : D < e
                · have hu1I : (D : Int) < (e : Int) := by omega
                  by_cases hu2 : e < b
                  · have hu2I : (e : Int) < (b : Int) := by omega
                    have CR2 := Go.Lib.hid (IH.out D e b d2 _ (by have := H0.out; omega) hu1 hu2 h3 HD2.out HS3.out.1 HS3.out.2 S.out)
                    go_wp2_with fail
                    refine CR2.out.mono ?_
                    rintro e' w3 ⟨rfl, d3, hp3, hs3', S⟩
                    have HF := Go.Lib.hid (HMD.out d3 hp3 hs3')
                    clear CR2 hp3 hs3'
                    go_wp2_with fail
                    go_end0
                    exact ⟨rfl, d3, HF.out.1, HF.out.2, S⟩
                  · have hu2I : ¬ (e : Int) < (b : Int) := by omega
                    have HF := Go.Lib.hid (HMD.out d2 (permIn_refl d2 D b) (sorted_join HS3.out.1 HS3.out.2 (.inr (by omega))))
                    go_wp2_with fail
                    go_end0
                    exact ⟨rfl, d2, HF.out.1, HF.out.2, S.out⟩
                · have hu1I : ¬ (D : Int) < (e : Int) := by omega
                  have HF := Go.Lib.hid (HMD.out d2 (permIn_refl d2 D b) (sorted_join HS3.out.1 HS3.out.2 (.inl (by omega))))
                  go_wp2_with fail
                  go_end0
                  exact ⟨rfl, d2, HF.out.1, HF.out.2, S.out⟩
              · have ht2I : ¬ (i : Int) < (D : Int) := by omega
                have HL2 := Go.Lib.hid (And.intro (permIn_refl d1 a D) (sorted_join HSP.out.2.2.1 HSP.out.2.2.2.1 (.inr (by omega))))
                obtain ⟨d2, hd2⟩ : ∃ d2, d2 = d1 := ⟨_, rfl⟩
                rw [← hd2] at S
                have HL2 : Hid (PermIn a D d1 d2 ∧ SortedIn ltR a D d2) := by rw [hd2]; exact HL2
                clear hd2
                have HD2 := Go.Lib.hid (show n = d2.size by have := HL2.out.1.1; have := HD1.out; omega)
                have HS3 := Go.Lib.hid (And.intro (sorted_congr HSP.out.2.2.2.2.1 (fun x hx _ => HL2.out.1.2.1 x (.inr hx))) (sorted_congr HSP.out.2.2.2.2.2 (fun x hx _ => HL2.out.1.2.1 x (.inr (by omega)))))
                have HMD := Go.Lib.hid fun (d3 : Array RecT) (h1 : PermIn D b d2 d3) (h2 : SortedIn ltR D b d3) => merge_done (by rw [← HN.out]; exact h3) HSP.out.1 hai heb (by omega) (by omega) HSP.out.2.1 HL2.out.1 HL2.out.2 h1 h2
                by_cases hu1 : D < e
                · have hu1I : (D : Int) < (e : Int) := by omega
                  by_cases hu2 : e < b
                  · have hu2I : (e : Int) < (b : Int) := by omega
                    have CR2 := Go.Lib.hid (IH.out D e b d2 _ (by have := H0.out; omega) hu1 hu2 h3 HD2.out HS3.out.1 HS3.out.2 S.out)
                    go_wp2_with fail
                    refine CR2.out.mono ?_
                    rintro e' w3 ⟨rfl, d3, hp3, hs3', S⟩
                    have HF := Go.Lib.hid (HMD.out d3 hp3 hs3')
                    clear CR2 hp3 hs3'
                    go_wp2_with fail
                    go_end0
                    exact ⟨rfl, d3, HF.out.1, HF.out.2, S⟩
                  · have hu2I : ¬ (e : Int) < (b : Int) := by omega
                    have HF := Go.Lib.hid (HMD.out d2 (permIn_refl d2 D b) (sorted_join HS3.out.1 HS3.out.2 (.inr (by omega))))
                    go_wp2_with fail
                    go_end0
                    exact ⟨rfl, d2, HF.out.1, HF.out.2, S.out⟩
                · have hu1I : ¬ (D : Int) < (e : Int) := by omega
                  have HF := Go.Lib.hid (HMD.out d2 (permIn_refl d2 D b) (sorted_join HS3.out.1 HS3.out.2 (.inl (by omega))))
                  go_wp2_with fail
                  go_end0
                  exact ⟨rfl, d2, HF.out.1, HF.out.2, S.out⟩
            · have ht1I : ¬ (a : Int) < (i : Int) := by omega
              have HL2 := Go.Lib.hid (And.intro (permIn_refl d1 a D) (sorted_join HSP.out.2.2.1 HSP.out.2.2.2.1 (.inl (by omega))))
              obtain ⟨d2, hd2⟩ : ∃ d2, d2 = d1 := ⟨_, rfl⟩
              rw [← hd2] at S
              have HL2 : Hid (PermIn a D d1 d2 ∧ SortedIn ltR a D d2) := by rw [hd2]; exact HL2
              clear hd2
              have HD2 := Go.Lib.hid (show n = d2.size by have := HL2.out.1.1; have := HD1.out; omega)
              have HS3 := Go.Lib.hid (And.intro (sorted_congr HSP.out.2.2.2.2.1 (fun x hx _ => HL2.out.1.2.1 x (.inr hx))) (sorted_congr HSP.out.2.2.2.2.2 (fun x hx _ => HL2.out.1.2.1 x (.inr (by omega)))))
              have HMD := Go.Lib.hid fun (d3 : Array RecT) (h1 : PermIn D b d2 d3) (h2 : SortedIn ltR D b d3) => merge_done (by rw [← HN.out]; exact h3) HSP.out.1 hai heb (by omega) (by omega) HSP.out.2.1 HL2.out.1 HL2.out.2 h1 h2
              by_cases hu1 : D < e
              · have hu1I : (D : Int) < (e : Int) := by omega
                by_cases hu2 : e < b
                · have hu2I : (e : Int) < (b : Int) := by omega
                  have CR2 := Go.Lib.hid (IH.out D e b d2 _ (by have := H0.out; omega) hu1 hu2 h3 HD2.out HS3.out.1 HS3.out.2 S.out)
                  go_wp2_with fail
                  refine CR2.out.mono ?_
                  rintro e' w3 ⟨rfl, d3, hp3, hs3', S⟩
                  have HF := Go.Lib.hid (HMD.out d3 hp3 hs3')
                  clear CR2 hp3 hs3'
                  go_wp2_with fail
                  go_end0
                  exact ⟨rfl, d3, HF.out.1, HF.out.2, S⟩
                · have hu2I : ¬ (e : Int) < (b : Int) := by omega
                  have HF := Go.Lib.hid (HMD.out d2 (permIn_refl d2 D b) (sorted_join HS3.out.1 HS3.out.2 (.inr (by omega))))
                  go_wp2_with fail
                  go_end0
                  exact ⟨rfl, d2, HF.out.1, HF.out.2, S.out⟩
              · have hu1I : ¬ (D : Int) < (e : Int) := by omega
                have HF := Go.Lib.hid (HMD.out d2 (permIn_refl d2 D b) (sorted_join HS3.out.1 HS3.out.2 (.inl (by omega))))
                go_wp2_with fail
                go_end0
                exact ⟨rfl, d2, HF.out.1, HF.out.2, S.out⟩
end
end Go.Proofs.YthbnecdeebmlhaaGreat

namespace Go.Proofs.YthbnecdeebmlhaaGreat
open Go.RowKit Go.Shelf Go.Lib Go.Sort

theorem flatk_len {α : Type} {enc : α → List Value} {k : Nat} (hk : ∀ x, (enc x).length = k) (l : List α) : (l.flatMap enc).length = l.length * k := by
  induction l with
  | nil => simp
  | cons x l ih => rw [List.flatMap_cons, List.length_append, ih, hk, List.length_cons, Nat.add_mul, Nat.one_mul, Nat.add_comm]
theorem flatk_at {α : Type} {enc : α → List Value} {k : Nat} (hk : ∀ x, (enc x).length = k) : ∀ (l : List α) (i j : Nat) (hi : i < l.length), j < k → (l.flatMap enc)[i * k + j]? = (enc l[i])[j]?
  | [], i, j, hi, _ => absurd hi (by simp)
  | x :: l, 0, j, hi, hj => by
    rw [List.flatMap_cons, Nat.zero_mul, Nat.zero_add, List.getElem?_append_left (by rw [hk]; exact hj)]
    rfl
  | x :: l, i + 1, j, hi, hj => by
    rw [List.flatMap_cons, List.getElem?_append_right (by rw [hk, Nat.add_mul]; omega), hk, show (i + 1) * k + j - k = i * k + j from by rw [Nat.add_mul]; omega]
    exact flatk_at hk l i j (by simpa using hi) hj
theorem flatK_list {α : Type} [Inhabited α] {enc : α → List Value} {k : Nat} (hk : ∀ x, (enc x).length = k) (hk0 : 0 < k) (d : Array α) : (flatK enc k d).toList = d.toList.flatMap enc := by
  apply List.ext_getElem?
  intro t
  by_cases ht : t < d.size * k
  · have hi : t / k < d.toList.length := by rw [Array.length_toList]; exact Nat.div_lt_of_lt_mul (by rw [Nat.mul_comm]; exact ht)
    have hj : t % k < k := Nat.mod_lt _ hk0
    have h1 := flatk_at hk d.toList (t / k) (t % k) hi hj
    rw [show t / k * k + t % k = t from by rw [Nat.mul_comm]; exact Nat.div_add_mod t k] at h1
    rw [h1, Array.getElem?_toList, Array.getElem?_eq_getElem (by rw [size_flatK]; exact ht)]
    have h2 := get_flatK enc k d t ht
    rw [getElem!_pos _ _ (by rw [size_flatK]; exact ht)] at h2
    rw [h2]
    have h3 : d[t / k]! = d.toList[t / k] := by rw [getElem!_pos _ _ (by simpa using hi)]; rfl
    rw [h3, getElem!_pos _ _ (by rw [hk]; exact hj), List.getElem?_eq_getElem (by rw [hk]; exact hj)]
  · rw [List.getElem?_eq_none (by rw [Array.length_toList, size_flatK]; omega), List.getElem?_eq_none (by rw [flatk_len hk, Array.length_toList]; omega)]

section
variable {α : Type} [Inhabited α] {enc : α → List Value} {k : Nat} {w : World} {B g n cap : Nat} {e : TypeId} {d d' : Array α}
theorem row_open {xs : List Value} {s m : Nat} (h : w.ownsRow B e s (.slice (some ⟨g, 0, none⟩) n cap) m xs) : ∃ cur, B ≤ g ∧ w.heap[g]? = some (.cells cur e (0, 0)) ∧ m ≤ cap ∧ cap ≤ maxLen ∧ cur.size = cap * s ∧ cur.toList.take (m * s) = xs ∧ m = n := by
  rcases h.2 with ⟨h', -⟩ | ⟨g', cap', cur, h', hB, h2, h3, h4, h5, h6⟩
  · cases h'
  · simp only [Value.slice.injEq, Option.some.injEq, Addr.mk.injEq] at h'
    obtain ⟨⟨rfl, -⟩, rfl, rfl⟩ := h'
    exact ⟨cur, hB, h2, h3, h4, h5, h6, rfl⟩
theorem holdsK_row (hk : ∀ x, (enc x).length = k) (hk0 : 0 < k) (h : w.ownsRow B e k (.slice (some ⟨g, 0, none⟩) d.size cap) d.size (d.toList.flatMap enc)) : HoldsK enc k w g 0 d := by
  obtain ⟨cur, -, h2, h3, h4, h5, h6, -⟩ := row_open h
  intro t ht
  rw [size_flatK] at ht
  refine ⟨?_, frozen_of_row w g _ _ _ h2⟩
  rw [cell_of_row w g (0 + t) _ _ _ h2, Nat.zero_add]
  have h7 : (flatK enc k d).toList[t]? = cur.toList[t]? := by rw [flatK_list hk hk0, ← h6, List.getElem?_take_of_lt ht]
  rw [Array.getElem?_toList, Array.getElem?_toList] at h7
  rw [← h7, Array.getElem?_eq_getElem (by rw [size_flatK]; exact ht), getElem!_pos _ _ (by rw [size_flatK]; exact ht)]
  rfl
theorem grown_sortedK (m : Nat) (os : Array Obj) : w.grownBy (sortWorldK enc k w g 0 m d' os) (some g) := by
  refine ⟨rfl, rfl, rfl, by simp [sortWorldK, putRowK, putRow, mapBlock, Sort.ahead], fun j hj hne => ?_⟩
  unfold sortWorldK
  rw [heap_grow_old _ _ (by simpa [putRowK, putRow, mapBlock, Sort.ahead] using hj)]
  have : g ≠ j := fun e => hne (by rw [e])
  simp [putRowK, putRow, mapBlock, Sort.ahead, Array.getElem?_modify, this]
theorem row_sortedK (hk : ∀ x, (enc x).length = k) (hk0 : 0 < k) (h : w.ownsRow B e k (.slice (some ⟨g, 0, none⟩) d.size cap) d.size (d.toList.flatMap enc)) (hs : d'.size = d.size) (m : Nat) (os : Array Obj) :
    (sortWorldK enc k w g 0 m d' os).ownsRow B e k (.slice (some ⟨g, 0, none⟩) d.size cap) d.size (d'.toList.flatMap enc) := by
  obtain ⟨cur, hB, h2, h3, h4, h5, h6, -⟩ := row_open h
  have hg : g < w.heap.size := (Array.getElem?_eq_some_iff.1 h2).1
  refine ⟨by rw [flatk_len hk, Array.length_toList, hs], .inr ⟨g, cap, putCells id 0 (flatK enc k d') cur, rfl, hB, ?_, h3, h4, by simp [putCells, h5], ?_⟩⟩
  · unfold sortWorldK
    rw [heap_grow_old _ _ (by simpa [putRowK, putRow, mapBlock, Sort.ahead] using hg)]
    simp [putRowK, putRow, mapBlock, Sort.ahead, Array.getElem?_modify, h2, onCells]
  · have hle : d.size * k ≤ cur.size := by rw [h5]; exact Nat.mul_le_mul_right k h3
    rw [← flatK_list hk hk0]
    apply List.ext_getElem?
    intro j
    by_cases hj : j < d.size * k
    · rw [List.getElem?_take_of_lt hj, Array.getElem?_toList, Array.getElem?_toList]
      simp [putCells, show j < cur.size by omega, show j < d'.size * k by rw [hs]; exact hj]
    · rw [List.getElem?_take_eq_none (by omega), List.getElem?_eq_none (by rw [Array.length_toList, size_flatK, hs]; omega)]
end
theorem permIn_list {α : Type} [Inhabited α] {d d' : Array α} (h : PermIn 0 d.size d d') : d'.toList.Perm d.toList := by
  have := h.2.2
  rw [Array.extract_size] at this
  rw [← h.1, Array.extract_size] at this
  exact this

end Go.Proofs.YthbnecdeebmlhaaGreat

namespace Go.Proofs.YthbnecdeebmlhaaGreat
open Go.RowKit Go.Op

abbrev newestR (l : List RecT) : List RecT := newestK keyR bytesLess l
theorem newestR_len (l : List RecT) : (newestR l).length ≤ l.length := by
  have : ∀ (l acc : List RecT), (l.foldl (fun a r => setGo keyR bytesLess r a false) acc).length ≤ acc.length + l.length := by
    intro l
    induction l with
    | nil => intro acc; simp
    | cons x t ih =>
      intro acc
      rw [List.foldl_cons]
      refine Nat.le_trans (ih _) ?_
      have := (setR_len x acc false).1
      simp only [List.length_cons]
      omega
  simpa [newestR, newestK] using this l []
end Go.Proofs.YthbnecdeebmlhaaGreat

namespace Go.Proofs.YthbnecdeebmlhaaGreat
open Go.RowKit

def firstN (h : Nat) : Nat := h % 8
def tagN (h : Nat) : Nat := h / 256 % 32768
def otherI (b tag : Int) : Int := if b < 0 ∨ 7 < b ∨ tag < 0 ∨ 32767 < tag then -1 else ((b.toNat ^^^ (1 + tag.toNat % 7) : Nat) : Int)

set_option maxRecDepth 100000 in
theorem rfirst_c (h : Nat) (w : World) (hh : h < 18446744073709551616) : Calls Tryz.prog 39 #[.int .u64 (h : Int)] w fun e w' => e = .returned (.int .i64 (firstN h : Int)) ∧ w = w' := by
  have e1 : (firstN h : Int) = (h : Int) % 8 := by unfold firstN; omega
  rw [e1]
  have hh' := Go.Lib.hid hh
  clear hh e1
  go_enter Tryz.func39, Tryz.ntmps39
  go_wp2_with fail
  go_ret
  exact ⟨rfl, rfl⟩
set_option maxRecDepth 100000 in
theorem rtag_c (h : Nat) (w : World) (hh : h < 18446744073709551616) : Calls Tryz.prog 41 #[.int .u64 (h : Int)] w fun e w' => e = .returned (.int .i64 (tagN h : Int)) ∧ w = w' := by
  have e1 : (tagN h : Int) = (h : Int) / 256 % 32768 := by unfold tagN; omega
  rw [e1]
  have hh' := Go.Lib.hid hh
  clear hh e1
  go_enter Tryz.func41, Tryz.ntmps41
  go_wp2_with fail
  go_ret
  have := hh'.out
  refine ⟨ret_int ?_, rfl⟩
  rw [IntKind.wrap_u64, Int.tmod_eq_emod_of_nonneg (by omega)]
  unfold wrap64
  omega
theorem otherI_bad {b t : Int} (h : b < 0 ∨ 7 < b ∨ t < 0 ∨ 32767 < t) : otherI b t = -1 := by unfold otherI; rw [if_pos h]
theorem otherI_ok {b t : Nat} (hb : b ≤ 7) (ht : t ≤ 32767) : otherI (b : Int) (t : Int) = ((b ^^^ (1 + t % 7) : Nat) : Int) := by
  unfold otherI
  rw [if_neg (by omega), Int.toNat_natCast, Int.toNat_natCast]
theorem i64_xor_small (a b : Nat) (ha : a < 128) (hb : b < 128) : bits .xor .i64 (a : Int) (b : Int) = ((a ^^^ b : Nat) : Int) := by
  have hx : a ^^^ b < 2 ^ 7 := Nat.xor_lt_two_pow (by omega) (by omega)
  show IntKind.i64.wrap ((BitVec.ofInt 64 (a : Int) ^^^ BitVec.ofInt 64 (b : Int)).toNat : Int) = _
  have e (a : Nat) (h : a < 128) : (BitVec.ofInt 64 (a : Int)).toNat = a := by
    rw [BitVec.ofInt_natCast, BitVec.toNat_ofNat]; exact Nat.mod_eq_of_lt (by omega)
  rw [BitVec.toNat_xor, e a ha, e b hb, IntKind.wrap_i64]
  omega
set_option maxRecDepth 100000 in
theorem rother_c (b t : Int) (w : World) : Calls Tryz.prog 40 #[.int .i64 b, .int .i64 t] w fun e w' => e = .returned (.int .i64 (otherI b t)) ∧ w = w' := by
  by_cases h1 : b < 0
  · have E := Go.Lib.hid (otherI_bad (b := b) (t := t) (.inl h1))
    go_enter Tryz.func40, Tryz.ntmps40
    go_wp2_with fail
    go_ret
    exact ⟨by rw [E.out]; rfl, rfl⟩
  by_cases h2 : 7 < b
  · have E := Go.Lib.hid (otherI_bad (b := b) (t := t) (.inr (.inl h2)))
    go_enter Tryz.func40, Tryz.ntmps40
    go_wp2_with fail
    go_ret
    exact ⟨by rw [E.out]; rfl, rfl⟩
  by_cases h3 : t < 0
  · have E := Go.Lib.hid (otherI_bad (b := b) (t := t) (.inr (.inr (.inl h3))))
    go_enter Tryz.func40, Tryz.ntmps40
    go_wp2_with fail
    go_ret
    exact ⟨by rw [E.out]; rfl, rfl⟩
  by_cases h4 : 32767 < t
  · have E := Go.Lib.hid (otherI_bad (b := b) (t := t) (.inr (.inr (.inr h4))))
    go_enter Tryz.func40, Tryz.ntmps40
    go_wp2_with fail
    go_ret
    exact ⟨by rw [E.out]; rfl, rfl⟩
  obtain ⟨B, rfl⟩ : ∃ B : Nat, b = (B : Int) := ⟨b.toNat, by omega⟩
  obtain ⟨T, rfl⟩ : ∃ T : Nat, t = (T : Int) := ⟨t.toNat, by omega⟩
  have E := Go.Lib.hid (otherI_ok (b := B) (t := T) (by omega) (by omega))
  have X := i64_xor_small B (1 + T % 7) (by omega) (by omega)
  rw [show ((1 + T % 7 : Nat) : Int) = 1 + (T : Int) % 7 from by omega] at X
  have X := Go.Lib.hid X
  go_enter Tryz.func40, Tryz.ntmps40
  go_wp2_with fail
  go_ret
  exact ⟨by rw [E.out]; rfl, rfl⟩

set_option maxRecDepth 100000 in
theorem hfirst_c (h : Nat) (w : World) (hh : h < 18446744073709551616) : Calls Tryz.prog 87 #[.int .u64 (h : Int)] w fun e w' => e = .returned (.int .i64 (firstN h : Int)) ∧ w = w' := by
  have e1 : (firstN h : Int) = (h : Int) % 8 := by unfold firstN; omega
  rw [e1]
  have hh' := Go.Lib.hid hh
  clear hh e1
  go_enter Tryz.func87, Tryz.ntmps87
  go_wp2_with fail
  go_ret
  exact ⟨rfl, rfl⟩
set_option maxRecDepth 100000 in
theorem htag_c (h : Nat) (w : World) (hh : h < 18446744073709551616) : Calls Tryz.prog 86 #[.int .u64 (h : Int)] w fun e w' => e = .returned (.int .i64 (tagN h : Int)) ∧ w = w' := by
  have e1 : (tagN h : Int) = (h : Int) / 256 % 32768 := by unfold tagN; omega
  rw [e1]
  have hh' := Go.Lib.hid hh
  clear hh e1
  go_enter Tryz.func86, Tryz.ntmps86
  go_wp2_with fail
  go_ret
  exact ⟨rfl, rfl⟩
set_option maxRecDepth 100000 in
theorem hother_c (b t : Int) (w : World) (b0 : -9223372036854775808 ≤ b) (b1 : b ≤ 9223372036854775807) (t0 : -9223372036854775808 ≤ t) (t1 : t ≤ 9223372036854775807) : Calls Tryz.prog 88 #[.int .i64 b, .int .i64 t] w fun e w' => e = .returned (.int .i64 (otherI b t)) ∧ w = w' := by
  by_cases h1 : b < 0
  · have E := Go.Lib.hid (otherI_bad (b := b) (t := t) (.inl h1))
    go_enter Tryz.func88, Tryz.ntmps88
    go_wp2_with fail
    go_ret
    exact ⟨by rw [E.out]; rfl, rfl⟩
  by_cases h2 : 8 ≤ b
  · have E := Go.Lib.hid (otherI_bad (b := b) (t := t) (.inr (.inl (by omega))))
    go_enter Tryz.func88, Tryz.ntmps88
    go_wp2_with fail
    go_ret
    exact ⟨by rw [E.out]; rfl, rfl⟩
  by_cases h3 : t < 0
  · have E := Go.Lib.hid (otherI_bad (b := b) (t := t) (.inr (.inr (.inl h3))))
    go_enter Tryz.func88, Tryz.ntmps88
    go_wp2_with fail
    go_ret
    exact ⟨by rw [E.out]; rfl, rfl⟩
  by_cases h4 : 32768 ≤ t
  · have E := Go.Lib.hid (otherI_bad (b := b) (t := t) (.inr (.inr (.inr (by omega)))))
    go_enter Tryz.func88, Tryz.ntmps88
    go_wp2_with fail
    go_ret
    exact ⟨by rw [E.out]; rfl, rfl⟩
  obtain ⟨B, rfl⟩ : ∃ B : Nat, b = (B : Int) := ⟨b.toNat, by omega⟩
  obtain ⟨T, rfl⟩ : ∃ T : Nat, t = (T : Int) := ⟨t.toNat, by omega⟩
  have E := Go.Lib.hid (otherI_ok (b := B) (t := T) (by omega) (by omega))
  have X := i64_xor_small B (1 + T % 7) (by omega) (by omega)
  rw [show ((1 + T % 7 : Nat) : Int) = 1 + (T : Int) % 7 from by omega] at X
  have X := Go.Lib.hid X
  go_enter Tryz.func88, Tryz.ntmps88
  go_wp2_with fail
  go_ret
  exact ⟨by rw [E.out]; rfl, rfl⟩

end Go.Proofs.YthbnecdeebmlhaaGreat

namespace Go.Proofs.YthbnecdeebmlhaaGreat

/-! ### Two buckets. -/
def othN (b t : Nat) : Nat := b ^^^ (1 + t % 7)
theorem xor_facts : ∀ b c : Fin 8, ∀ m : Fin 7, (b.val ^^^ (1 + m.val) < 8 ∧ (b.val ^^^ (1 + m.val)) ^^^ (1 + m.val) = b.val ∧ b.val ^^^ (1 + m.val) ≠ b.val ∧
    (min b.val (b.val ^^^ (1 + m.val)) = min c.val (c.val ^^^ (1 + m.val)) ↔ (b.val = c.val ∨ b.val = c.val ^^^ (1 + m.val)))) := by decide +kernel
theorem oth_all {b c : Nat} (t : Nat) (hb : b < 8) (hc : c < 8) : othN b t < 8 ∧ othN (othN b t) t = b ∧ othN b t ≠ b ∧ (min b (othN b t) = min c (othN c t) ↔ (b = c ∨ b = othN c t)) :=
  xor_facts ⟨b, hb⟩ ⟨c, hc⟩ ⟨t % 7, Nat.mod_lt _ (by omega)⟩
theorem oth_lt {b : Nat} (t : Nat) (hb : b < 8) : othN b t < 8 := (oth_all t hb hb).1
theorem oth_oth {b : Nat} (t : Nat) (hb : b < 8) : othN (othN b t) t = b := (oth_all t hb hb).2.1
theorem oth_ne {b : Nat} (t : Nat) (hb : b < 8) : othN b t ≠ b := (oth_all t hb hb).2.2.1
theorem first_lt (h : Nat) : firstN h < 8 := by unfold firstN; omega
theorem tag_lt (h : Nat) : tagN h < 32768 := by unfold tagN; omega
theorem otherI_nat {b t : Nat} (hb : b < 8) (ht : t < 32768) : otherI (b : Int) (t : Int) = (othN b t : Int) := otherI_ok (by omega) (by omega)

/-- The pair that bucket b and its other one are, with the tag. -/
def keyN (b t : Nat) : Nat × Nat := (min b (othN b t), t)
theorem keyN_iff {b c t u : Nat} (hb : b < 8) (hc : c < 8) : keyN b t = keyN c u ↔ t = u ∧ (b = c ∨ b = othN c u) := by
  unfold keyN
  rw [Prod.mk.injEq]
  constructor
  · rintro ⟨h1, h2⟩
    subst h2
    exact ⟨rfl, (oth_all t hb hc).2.2.2.1 h1⟩
  · rintro ⟨h1, h2⟩
    subst h1
    exact ⟨(oth_all t hb hc).2.2.2.2 h2, rfl⟩
theorem keyN_oth {b : Nat} (t : Nat) (hb : b < 8) : keyN (othN b t) t = keyN b t := (keyN_iff (oth_lt t hb) hb).2 ⟨rfl, .inr rfl⟩
/-- An entry: its hash, its number. -/
abbrev EnT := Nat × Int
def keyH (h : Nat) : Nat × Nat := keyN (firstN h) (tagN h)
def keyE (e : EnT) : (Nat × Nat) × Int := (keyH e.1, e.2)
def nearN (a b : Nat) : Bool := tagN a == tagN b && (firstN a == firstN b || firstN a == othN (firstN b) (tagN b))
theorem near_iff (a b : Nat) : nearN a b = true ↔ keyH a = keyH b := by
  unfold nearN keyH
  rw [keyN_iff (first_lt a) (first_lt b)]
  simp

/-! ### Slots: eight buckets of four; slot 4 * b + s. -/
abbrev SlT := Nat → Option (Nat × Int)
/-- Bucket, tag, number. -/
def slL (T : SlT) : List (Nat × Nat × Int) := (List.range 32).filterMap fun q => (T q).map fun x => (q / 4, x.1, x.2)
def keyS (x : Nat × Nat × Int) : (Nat × Nat) × Int := (keyN x.1 x.2.1, x.2.2)
/-- The slots hold just those that are there. -/
def Fits (T : SlT) (es : List EnT) : Prop := ((slL T).map keyS).Perm (es.map keyE)
def TOk (T : SlT) : Prop := ∀ q x, T q = some x → q < 32 ∧ x.1 < 32768
theorem slL_bucket {T : SlT} {x : Nat × Nat × Int} (h : x ∈ slL T) : x.1 < 8 := by
  obtain ⟨q, hq, hx⟩ := List.mem_filterMap.1 h
  rw [Option.map_eq_some_iff] at hx
  obtain ⟨y, -, rfl⟩ := hx
  have := List.mem_range.1 hq
  show q / 4 < 8
  omega
theorem slL_none {T : SlT} (h : ∀ q, q < 32 → T q = none) : slL T = [] := by
  unfold slL
  rw [List.filterMap_eq_nil_iff]
  intro q hq
  rw [h q (List.mem_range.1 hq)]
  rfl
theorem Fits.empty {T : SlT} (h : ∀ q, q < 32 → T q = none) : Fits T [] := by unfold Fits; rw [slL_none h]; exact List.Perm.refl _
theorem Fits.length {T : SlT} {es : List EnT} (h : Fits T es) : (slL T).length = es.length := by
  have := List.Perm.length_eq h
  simpa using this
/-- A slot is written. -/
def layT (T : SlT) (q : Nat) (x : Option (Nat × Int)) : SlT := fun k => if k = q then x else T k
theorem fm_congr {α β : Type} {f g : α → Option β} : ∀ {l : List α}, (∀ x ∈ l, f x = g x) → l.filterMap f = l.filterMap g
  | [], _ => rfl
  | x :: l, h => by
    rw [List.filterMap_cons, List.filterMap_cons, h x (List.mem_cons_self ..), fm_congr (l := l) fun y hy => h y (List.mem_cons_of_mem _ hy)]
theorem range_split {q : Nat} (h : q < 32) : List.range 32 = List.range q ++ q :: (List.range (31 - q)).map (fun k => q + 1 + k) := by
  apply List.ext_getElem
  · simp; omega
  · intro i h1 h2
    rw [List.getElem_range]
    by_cases hi : i < q
    · rw [List.getElem_append_left (by simpa using hi), List.getElem_range]
    · by_cases hq : i = q
      · subst hq; simp
      · rw [List.getElem_append_right (by simp; omega)]
        simp only [List.length_range]
        rw [List.getElem_cons, dif_neg (by omega), List.getElem_map, List.getElem_range]
        omega
theorem slL_split (T : SlT) {q : Nat} (h : q < 32) : ∃ a b, (∀ x, slL (layT T q x) = a ++ ((x.map fun y => (q / 4, y.1, y.2)).toList ++ b)) ∧ slL T = a ++ (((T q).map fun y => (q / 4, y.1, y.2)).toList ++ b) := by
  refine ⟨(List.range q).filterMap fun k => (T k).map fun x => (k / 4, x.1, x.2), ((List.range (31 - q)).map (fun k => q + 1 + k)).filterMap fun k => (T k).map fun x => (k / 4, x.1, x.2), fun x => ?_, ?_⟩
  · unfold slL
    rw [range_split h, List.filterMap_append]
    congr 1
    · exact fm_congr fun k hk => by
        have := List.mem_range.1 hk
        unfold layT
        rw [if_neg (by omega)]
    · have e : ((List.range (31 - q)).map (fun k => q + 1 + k)).filterMap (fun k => (layT T q x k).map fun x => (k / 4, x.1, x.2)) = ((List.range (31 - q)).map (fun k => q + 1 + k)).filterMap fun k => (T k).map fun x => (k / 4, x.1, x.2) := fm_congr fun k hk => by
        obtain ⟨j, -, rfl⟩ := List.mem_map.1 hk
        unfold layT
        rw [if_neg (by omega)]
      rw [List.filterMap_cons, e]
      unfold layT
      rw [if_pos rfl]
      cases x <;> rfl
  · unfold slL
    rw [range_split h, List.filterMap_append]
    congr 1
    rw [List.filterMap_cons]
    cases T q <;> rfl
/-! ### Who has room. -/
def bitN (S b : Nat) : Nat := S / 2 ^ b % 2
def roomN (S : Nat) : Nat := ((List.range 8).map fun b => 4 * bitN S b).sum
def inS (S h : Nat) : Bool := bitN S (firstN h) == 1 && bitN S (othN (firstN h) (tagN h)) == 1
def cntN (S : Nat) (hs : List Nat) : Nat := hs.countP (inS S)
def roomB (hs : List Nat) : Bool := (List.range 256).all fun S => decide (cntN S hs ≤ roomN S)
theorem room_slots : ∀ S : Fin 256, (List.range 32).countP (fun q => bitN S.val (q / 4) == 1) = roomN S.val := by decide +kernel
/-- Are both buckets of a pair in the set? -/
def inK (S : Nat) (k : (Nat × Nat) × Int) : Bool := bitN S k.1.1 == 1 && bitN S (othN k.1.1 k.1.2) == 1
theorem inK_of (S b t : Nat) (i : Int) (hb : b < 8) : inK S (keyN b t, i) = (bitN S b == 1 && bitN S (othN b t) == 1) := by
  unfold inK keyN
  simp only []
  rcases Nat.le_total b (othN b t) with h | h
  · rw [Nat.min_eq_left h]
  · rw [Nat.min_eq_right h, oth_oth t hb, Bool.and_comm]
theorem inK_e (S : Nat) (e : EnT) : inK S (keyE e) = inS S e.1 := inK_of S _ _ _ (first_lt e.1)
theorem cnt_keys (S : Nat) (es : List EnT) : cntN S (es.map Prod.fst) = (es.map keyE).countP (inK S) := by
  unfold cntN
  rw [List.countP_map, List.countP_map]
  exact List.countP_congr fun e _ => by simp only [Function.comp]; rw [inK_e]
theorem cnt_slots {T : SlT} {es : List EnT} (h : Fits T es) (S : Nat) : cntN S (es.map Prod.fst) = (slL T).countP fun x => bitN S x.1 == 1 && bitN S (othN x.1 x.2.1) == 1 := by
  rw [cnt_keys, ← List.Perm.countP_eq _ h, List.countP_map]
  exact List.countP_congr fun x hx => by simp only [Function.comp]; unfold keyS; rw [inK_of _ _ _ _ (slL_bucket hx)]
theorem slL_count (T : SlT) (p : Nat × Nat × Int → Bool) : (slL T).countP p = (List.range 32).countP fun q => match T q with | some x => p (q / 4, x.1, x.2) | none => false := by
  unfold slL
  induction List.range 32 with
  | nil => rfl
  | cons q l ih =>
    rw [List.filterMap_cons]
    cases hT : T q with
    | none => simp only [Option.map_none]; rw [ih, List.countP_cons_of_neg (by rw [hT]; simp)]
    | some x =>
      simp only [Option.map_some]
      rw [List.countP_cons, List.countP_cons, ih, hT]
/-- Those that lie have room. -/
theorem room_of_fits {T : SlT} {es : List EnT} (h : Fits T es) : roomB (es.map Prod.fst) = true := by
  unfold roomB
  rw [List.all_eq_true]
  intro S hS
  rw [decide_eq_true_eq, cnt_slots h, slL_count, ← room_slots ⟨S, List.mem_range.1 hS⟩]
  refine List.countP_mono_left fun q _ hq => ?_
  cases hT : T q with
  | none => rw [hT] at hq; cases hq
  | some x => rw [hT] at hq; simp only [Bool.and_eq_true] at hq; exact hq.1
/-- A set of buckets that are full, whose entries all have both of theirs in it: one more has no room. -/
theorem no_room {T : SlT} {es : List EnT} (h : Fits T es) {S h' : Nat} (hS : S < 256) (hh : inS S h' = true)
    (hfull : ∀ q, q < 32 → bitN S (q / 4) = 1 → ∃ x, T q = some x ∧ bitN S (othN (q / 4) x.1) = 1) : roomB (es.map Prod.fst ++ [h']) = false := by
  have hc : cntN S (es.map Prod.fst ++ [h']) = cntN S (es.map Prod.fst) + 1 := by
    unfold cntN
    rw [List.countP_append, List.countP_cons_of_pos hh]
    rfl
  have hle : roomN S ≤ cntN S (es.map Prod.fst) := by
    rw [cnt_slots h, slL_count, ← room_slots ⟨S, hS⟩]
    refine List.countP_mono_left fun q hq hb => ?_
    have hb1 : bitN S (q / 4) = 1 := by simpa using hb
    obtain ⟨x, hx, hx1⟩ := hfull q (List.mem_range.1 hq) hb1
    rw [hx]
    simp [hb1, hx1]
  unfold roomB
  rw [List.all_eq_false]
  refine ⟨S, List.mem_range.2 hS, ?_⟩
  rw [decide_eq_true_eq, hc]
  omega
end Go.Proofs.YthbnecdeebmlhaaGreat

namespace Go.Proofs.YthbnecdeebmlhaaGreat
open Go.RowKit

theorem info32 : (Tryz.prog.info? 21).map (fun i => (i.zero, i.size, i.bytes)) = some (some (.int .i32 0), 1, 4) := by kernel_rfl

theorem info64 : (Tryz.prog.info? 3).map (fun i => (i.zero, i.size, i.bytes)) = some (some (.int .i64 0), 1, 8) := by kernel_rfl

end Go.Proofs.YthbnecdeebmlhaaGreat

namespace Go.Proofs.YthbnecdeebmlhaaGreat
open Go.RowKit

/-- Where each begins. -/
def posl (l : List UInt8) : List Nat := (List.range (toks l).length).map (posOf l)

theorem posl_length (l : List UInt8) : (posl l).length = (toks l).length := by simp [posl]

theorem posl_at (l : List UInt8) (i : Nat) (h : i < (posl l).length) : (posl l)[i] = posOf l i := by simp [posl]

theorem posl_more (l : List UInt8) (n : Nat) (h : n < (toks l).length) : zi .i64 ((posl l).take n) ++ [.int .i64 (posOf l n : Int)] = zi .i64 ((posl l).take (n + 1)) := by
  have h' : n < (posl l).length := by rw [posl_length]; exact h
  rw [List.take_succ_eq_append_getElem h', zi_append, posl_at]
  rfl

set_option maxHeartbeats 1000000 in
set_option maxRecDepth 100000 in
theorem rrunes_c (s : ByteArray) (w : World) (hm : s.size ≤ 1000000000) :
    Calls Tryz.prog 69 #[.string s] w fun e w' => ∃ v1 v2, e = .returned (.tuple #[v1, v2]) ∧ OwnV 21 w' w.heap.size v1 (zi .i32 (runesOf (toks (bl s)))) ∧ OwnV 3 w' w.heap.size v2 (zi .i64 (posl (bl s))) ∧ Below w.heap.size w w' := by
  have hl1 := toks_length (bl s)
  rw [← bl_size] at hl1
  obtain ⟨T, hT⟩ : ∃ T, T = (toks (bl s)).length := ⟨_, rfl⟩
  rw [← hT] at hl1
  have HT := Go.Lib.hid hT; clear hT
  go_enter Tryz.func69, Tryz.ntmps69
  go_wp2
  go_loopw [4, 5, 6] (fun u1 u2 u wr => ∃ (n p : Nat) (v1 v2 : Value), v1 = u1 ∧ v2 = u2 ∧ n ≤ T ∧ u = .int .i64 (p : Int) ∧ p ≤ s.size ∧ Hid (p = posOf (bl s) n) ∧ OwnV 21 wr w.heap.size v1 (zi .i32 ((runesOf (toks (bl s))).take n)) ∧ OwnV 3 wr w.heap.size v2 (zi .i64 ((posl (bl s)).take n)) ∧ Below w.heap.size w wr) (fun _ _ u _ => s.size - (intOf u).toNat)
  case atStart => exact ⟨0, 0, _, _, rfl, rfl, by omega, rfl, by omega, rfl, OwnV.nil _ _ _, OwnV.nil _ _ _, Below.refl _ _⟩
  case round =>
    obtain ⟨n, p, v1, v2, rfl, rfl, hn, rfl, hps, hp, hown1, hown2, hbw⟩ := hrel
    by_cases hlt : n < T
    · have hT' : n < (toks (bl s)).length := by rw [← HT.out]; exact hlt
      have hne := drop_ne (bl s) n hT'
      rw [← hp.out] at hne
      have hplt : p < s.size := by
        rw [bl_size]
        exact Nat.lt_of_not_le fun hh => hne (List.drop_eq_nil_of_le hh)
      have hsz : (s.extract p s.size).size ≤ maxLen := by rw [ByteArray.size_extract]; unfold maxLen; omega
      have C := fun W => decode_c (s.extract p s.size) W (by rw [drop_bl]; exact hne) hsz
      rw [drop_bl] at C
      have hsucc := posOf_succ (bl s) n hT'
      have hm1 := Go.Lib.hid (zi_more .i32 (toks (bl s)) n hT')
      have hm2 := Go.Lib.hid (posl_more (bl s) n hT')
      have hg := congrArg Prod.fst (get_toks (bl s) n hT')
      have hple := posOf_le (bl s) (n + 1)
      rw [← bl_size] at hple
      rw [← hp.out] at hsucc hg hm2
      have hdw := (dw_le _ hne).1
      rw [hsucc] at hple
      have hn1 : (zi .i32 ((runesOf (toks (bl s))).take n)).length = n := by rw [zi_length, List.length_take, runesOf_length]; omega
      have hn2 : (zi .i64 ((posl (bl s)).take n)).length = n := by rw [zi_length, List.length_take, posl_length]; omega
      simp only at hg
      rw [hg] at hm1
      clear hsz hne hg
      unfold dv at C
      generalize (bl s).drop p = L at *
      have Hsucc := Go.Lib.hid hsucc; clear hsucc
      have HC := Go.Lib.hid C; clear C
      generalize dr L = r at *
      generalize dw L = d at *
      generalize okB L = ok at *
      have Hn1 := Go.Lib.hid hn1; clear hn1
      have Hn2 := Go.Lib.hid hn2; clear hn2
      generalize zi .i32 ((runesOf (toks (bl s))).take n) = z1 at *
      generalize zi .i64 ((posl (bl s)).take n) = z2 at *
      go_wp2_with (first
        | (refine (HC.out _).mono ?_; rintro e w1 ⟨rfl, rfl⟩)
        | (with_reducible show wpList _ _ _ (⟨some 25, _, _, _, _, _⟩ :: _) _ _; go_loud (refine wpList_append_RV rfl (.tmp 22) (.tmp 24) 114 rfl w.heap.size 21 Tryz.underlying114 (.int .i32 0) 4 rfl info32 v1 (.slice (some ⟨wr.heap.size, 0, none⟩) 1 1) z1 [.int .i32 (r : Int)] rfl rfl (hown1.alloc _) (RV.one _ _ _) (one_one _ _) (by rw [Hn1.out]; simp only [List.length_cons, List.length_nil]; omega) (by rw [Hn1.out]; simp only [List.length_cons, List.length_nil]; omega) (hbw.alloc hbw.size _).size ?_); intro v3 w3 hown3 hg3; have hb3 := (hbw.alloc hbw.size _).grown hg3 (hbw.alloc hbw.size _).size hown1.row; have hown2' := (hown2.alloc _).kept hg3 (own_apart (by decide) hown1 hown2))
        | (with_reducible show wpList _ _ _ (⟨some 29, _, _, _, _, _⟩ :: _) _ _; go_loud (refine wpList_append_RV rfl (.tmp 26) (.tmp 28) 108 rfl w.heap.size 3 Tryz.underlying108 (.int .i64 0) 8 rfl info64 v2 (.slice (some ⟨w3.heap.size, 0, none⟩) 1 1) z2 [.int .i64 (p : Int)] rfl rfl (hown2'.alloc _) (RV.one _ _ _) (one_one _ _) (by rw [Hn2.out]; simp only [List.length_cons, List.length_nil]; omega) (by rw [Hn2.out]; simp only [List.length_cons, List.length_nil]; omega) (hb3.alloc hb3.size _).size ?_); intro v5 w5 hown5 hg5; have hb5 := (hb3.alloc hb3.size _).grown hg5 (hb3.alloc hb3.size _).size hown2'.row; have hown3' := (hown3.alloc _).kept hg5 (own_apart (by decide) hown2' hown3))
        | fail)
      go_roundw
      case rel => exact ⟨n + 1, p + d, _, _, rfl, rfl, by omega, by go_num, by omega, Hsucc.out.symm, by rw [← hm1.out]; exact hown3', by rw [← hm2.out]; exact hown5, hb5⟩
      case measure => simp [intOf]; omega
    · have hpe : p = s.size := by
        rw [hp.out, posOf_all (bl s) n (by rw [← HT.out]; omega), bl_size]
      rw [List.take_of_length_le (by rw [runesOf_length, ← HT.out]; omega)] at hown1
      rw [List.take_of_length_le (by rw [posl_length, ← HT.out]; omega)] at hown2
      clear hp
      subst hpe
      go_wp2
      go_ret2
      exact ⟨_, _, rfl, hown1, hown2, hbw⟩

end Go.Proofs.YthbnecdeebmlhaaGreat
