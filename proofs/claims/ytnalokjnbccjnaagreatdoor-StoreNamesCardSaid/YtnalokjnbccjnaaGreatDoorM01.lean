/-
  Bytes in memory: what a []byte reads as, what the call itself owns, and laws of single operations over them. Plain facts, of no one program.
  Package num: what each function answers, as plain functions on numbers and bytes, and the contracts of the Go functions that say so.
  Contracts of package num's functions and of the reference's.
  Contracts of Get and GetText, the program's and the reference's.
  Contracts of GetText, the program's and the reference's, and of the law's own numbers.
  Slices of entries (a name, three numbers; an entry's cells lie flat: Name, Len, Span.At, Span.Len): as an argument, as one that is read, as one that the call makes.
  Mathematics of stage 10 (of no code): rows that rise by their keys, and what the last of each key is.
  Mathematics: the order of bytes is an order of keys (of no code).
-/
import Derived.Test.YtnalokjnbccjnaaGreatDoorRows
import Derived.WalkKit
import Derived.WalkSpells
import Derived.WalkLawsBesides
import Derived.ProofKit
import Derived.OpenShut
import Derived.Lib.AppendStr
import Derived.Lib.Varint
import Derived.Lib.Zigzag
import Derived.Lib.SlBytesRow
import Derived.Lib.SlBytesConst
import Derived.Lib.Hide
import Derived.Laws.AppendOwnNone
import Derived.Laws.CopyOwn
import Derived.Deep.DeepMust
import Derived.Deep.DeepFit
import Derived.Laws.DeepNot64
import Derived.Lib.VarintBits
import Derived.Lib.SmallJoins
import Derived.Deep.Slices
import Derived.Deep.Fields
import Derived.ChangeSame
namespace Go.Proofs.YtnalokjnbccjnaaGreatDoor
open Go.RowKit

def cells (l : List UInt8) : List Value := l.map fun x => Value.int .u8 (x.toNat : Int)
def str (l : List UInt8) : ByteArray := ⟨l.toArray⟩

theorem cells_length (l : List UInt8) : (cells l).length = l.length := by simp [cells]
theorem cells_append (l m : List UInt8) : cells (l ++ m) = cells l ++ cells m := by simp [cells]
theorem cells_one (l : List UInt8) : ∀ u ∈ cells l, u.oneCell' = true := by
  intro u hu
  simp only [cells, List.mem_map] at hu
  obtain ⟨b, _, rfl⟩ := hu
  rfl
theorem cells_at (l : List UInt8) (i : Nat) (h : i < l.length) : (cells l)[i]? = some (.int .u8 (l[i].toNat : Int)) := by
  simp [cells, h]
theorem str_size (l : List UInt8) : (str l).size = l.length := by simp [str, ByteArray.size]
theorem str_toList (s : ByteArray) : str s.data.toList = s := by simp [str]
theorem strCells_eq (s : ByteArray) : Go.Lib.strCells s = cells s.data.toList := rfl
theorem str_inj {l m : List UInt8} (h : str l = str m) : l = m := by
  have := congrArg (fun s : ByteArray => s.data.toList) h
  simpa [str] using this

/-- v, a []byte, reads as l. -/
def RB (w : World) (v : Value) (l : List UInt8) : Prop :=
  ∃ a cap, v = .slice a l.length cap ∧ l.length ≤ cap ∧ cap ≤ maxLen ∧ (a = none → cap = 0) ∧
    (l ≠ [] → ∃ b o, a = some ⟨b, o, none⟩ ∧ ∀ i (h : i < l.length), w.cell? ⟨b, o + i, none⟩ = some (.int .u8 (l[i].toNat : Int)))

/-- v, a []byte that was made from block B on, holds l; e: the type of bytes. -/
def Own (e : TypeId) (w : World) (B : Nat) (v : Value) (l : List UInt8) : Prop := w.ownsRow B e 1 v l.length (cells l)

theorem RB.block {w : World} {l : List UInt8} {b o : Nat} (h : ∀ i (h : i < l.length), w.cell? ⟨b, o + i, none⟩ = some (.int .u8 (l[i].toNat : Int))) (hl : l ≠ []) : b < w.heap.size := by
  have hp : 0 < l.length := List.length_pos_iff.2 hl
  exact World.block_lt_of_cell? w _ (h 0 hp)

theorem RB.below {w w' : World} {v : Value} {l : List UInt8} (h : RB w v l) (hb : Below w.heap.size w w') : RB w' v l := by
  obtain ⟨a, cap, hv, h1, h2, h3, h4⟩ := h
  refine ⟨a, cap, hv, h1, h2, h3, fun hl => ?_⟩
  obtain ⟨b, o, ha, hc⟩ := h4 hl
  have hlt := RB.block hc hl
  exact ⟨b, o, ha, fun i hi => (hb.cell (by exact hlt)).trans (hc i hi)⟩

theorem RB.len {w : World} {a : Option Addr} {len cap : Nat} {l : List UInt8} (h : RB w (.slice a len cap) l) : len = l.length ∧ len ≤ cap ∧ cap ≤ maxLen := by
  obtain ⟨a', cap', hv, h1, h2, h3, h4⟩ := h
  cases hv
  exact ⟨rfl, h1, h2⟩

/-- A byte of it. -/
theorem RB.at {w : World} {a : Option Addr} {len cap : Nat} {l : List UInt8} (h : RB w (.slice a len cap) l) (k : Nat) (hk : k < l.length) : ∃ b o, a = some ⟨b, o, none⟩ ∧ w.cell? ⟨b, o + k, none⟩ = some (.int .u8 (l[k].toNat : Int)) ∧ b < w.heap.size := by
  obtain ⟨a', cap', hv, h1, h2, h3, h4⟩ := h
  cases hv
  have hne : l ≠ [] := by intro e; subst e; simp at hk
  obtain ⟨b, o, rfl, hc⟩ := h4 hne
  exact ⟨b, o, rfl, hc k hk, RB.block hc hne⟩

/-- What a law's argument reads as. -/
theorem rb_of_row {w : World} {a : Option Addr} {len cap : Nat} {zs : List Int} (h : (a = none ∧ len = 0 ∧ cap = 0 ∧ zs = []) ∨
    ∃ x, a = some x ∧ len ≤ cap ∧ cap ≤ maxLen ∧ zs.length = cap ∧ (∀ i, i < zs.length → w.cell? (x.add i) = some (.int .u8 (zs.getD i 0))) ∧ ∀ n ∈ zs, (Lit.int .u8 n).wf = true) :
    ∃ l : List UInt8, RB w (.slice a len cap) l := by
  rcases h with ⟨rfl, rfl, rfl, rfl⟩ | ⟨x, rfl, hl, hm, hz, hc, hw⟩
  · exact ⟨[], none, 0, rfl, Nat.le_refl _, by simp [maxLen], fun _ => rfl, fun h => absurd rfl h⟩
  · have hlen : ((zs.take len).map fun n => UInt8.ofNat n.toNat).length = len := by simp; omega
    refine ⟨(zs.take len).map fun n => UInt8.ofNat n.toNat, some x, cap, by rw [hlen], by rw [hlen]; exact hl, hm, (fun h => by cases h), fun hne => ?_⟩
    have hpos : 0 < len := by rw [← hlen]; exact List.length_pos_iff.2 hne
    obtain ⟨b, o, spot⟩ := x
    have hspot : spot = none := by simpa [Addr.add] using World.cell?_spot (hc 0 (by omega))
    subst hspot
    refine ⟨b, o, rfl, fun i hi => ?_⟩
    rw [hlen] at hi
    have h1 := hc i (by omega)
    have hadd : (⟨b, o, none⟩ : Addr).add i = ⟨b, o + i, none⟩ := by unfold Addr.add; split <;> simp_all
    rw [hadd] at h1
    rw [h1]
    have hi' : i < zs.length := by omega
    have hwf := bounds_u8 (hw zs[i] (List.getElem_mem hi'))
    simp only [List.getElem_map, List.getElem_take, List.getD_eq_getElem?_getD, List.getElem?_eq_getElem hi', Option.getD_some]
    congr 2
    simp
    omega

theorem below_drewN {B : Nat} {a w : World} (h : Below B a w) (n : Nat) : Below B a (w.drewN n) := h.trans ⟨rfl, rfl, rfl, Nat.le_refl _, fun _ _ => rfl⟩
theorem RB.drewN {w : World} {v : Value} {l : List UInt8} (h : RB w v l) (n : Nat) : RB (w.drewN n) v l := h.below (below_drewN (Below.refl _ _) n)

theorem RB.nil (w : World) : RB w (.slice none 0 0) [] := ⟨none, 0, rfl, Nat.le_refl _, by simp [maxLen], fun _ => rfl, fun h => absurd rfl h⟩

theorem Own.nil (e : TypeId) (w : World) (B : Nat) : Own e w B (.slice none 0 0) [] := World.ownsRow_nil w B e 1

theorem Own.rb {e : TypeId} {w : World} {B : Nat} {v : Value} {l : List UInt8} (h : Own e w B v l) : RB w v l := by
  rcases h.2 with ⟨rfl, hn⟩ | ⟨g, cap, cur, rfl, hb, hg, h1, h2, h3, h4⟩
  · obtain rfl : l = [] := List.eq_nil_of_length_eq_zero hn
    exact RB.nil w
  · refine ⟨some ⟨g, 0, none⟩, cap, rfl, h1, h2, (fun h => by cases h), fun hl => ⟨g, 0, rfl, fun i hi => ?_⟩⟩
    have := World.ownsRow.cells h (g := g) rfl i _ (cells_at l i hi)
    have hadd : (⟨g, 0, none⟩ : Addr).add i = ⟨g, 0 + i, none⟩ := by unfold Addr.add; split <;> simp_all
    rw [hadd] at this
    exact this

theorem Own.mono {e : TypeId} {w : World} {B B' : Nat} {v : Value} {l : List UInt8} (h : Own e w B v l) (hB : B' ≤ B) : Own e w B' v l := by
  refine ⟨h.1, ?_⟩
  rcases h.2 with h' | ⟨g, cap, cur, h1, hb, h2⟩
  · exact .inl h'
  · exact .inr ⟨g, cap, cur, h1, Nat.le_trans hB hb, h2⟩

theorem Own.below {e : TypeId} {w w' : World} {B : Nat} {v : Value} {l : List UInt8} (h : Own e w B v l) (hb : Below w.heap.size w w') : Own e w' B v l := by
  refine ⟨h.1, ?_⟩
  rcases h.2 with h' | ⟨g, cap, cur, h1, hB, h2, h3⟩
  · exact .inl h'
  · exact .inr ⟨g, cap, cur, h1, hB, (hb.block g (Array.getElem?_eq_some_iff.1 h2).1).trans h2, h3⟩

theorem Own.alloc {e : TypeId} {w : World} {B : Nat} {v : Value} {l : List UInt8} (h : Own e w B v l) (o : Obj) : Own e (w.alloc o) B v l := World.ownsRow.alloc h o

theorem Own.kept {e : TypeId} {w w' : World} {B : Nat} {v : Value} {l : List UInt8} {row : Option Nat} (h : Own e w B v l) (hg : w.grownBy w' row) (hne : v.ownBlock = none ∨ v.ownBlock ≠ row) : Own e w' B v l :=
  World.ownsRow.kept h hg hne

theorem Own.drew {e : TypeId} {w : World} {B : Nat} {v : Value} {l : List UInt8} (h : Own e w B v l) : Own e w.drew B v l := World.ownsRow.drew h

/-- What it is, where it is not empty. -/
theorem Own.form {e : TypeId} {w : World} {B : Nat} {v : Value} {l : List UInt8} (h : Own e w B v l) (hl : 0 < l.length) : ∃ g cap, v = .slice (some ⟨g, 0, none⟩) l.length cap ∧ B ≤ g ∧ g < w.heap.size ∧ l.length ≤ cap ∧ cap ≤ maxLen ∧ w.frozen? ⟨g, 0, none⟩ = false := by
  rcases h.2 with ⟨_, h0⟩ | ⟨g, cap, cur, hv, hB, hg, h1, h2, _⟩
  · omega
  · exact ⟨g, cap, hv, hB, (Array.getElem?_eq_some_iff.1 hg).1, h1, h2, frozen_of_row w g 0 cur e hg⟩

theorem Own.cell {e : TypeId} {w : World} {B : Nat} {l : List UInt8} {g n cap : Nat} (h : Own e w B (.slice (some ⟨g, 0, none⟩) n cap) l) (i : Nat) (hi : i < l.length) : w.cell? ⟨g, i, none⟩ = some (.int .u8 (l[i].toNat : Int)) := by
  have hn : n = l.length := by
    rcases h.2 with ⟨h', _⟩ | ⟨g', cap', cur, h', _⟩
    · simp at h'
    · simp at h'; exact h'.2.1
  subst hn
  have := World.ownsRow.cells h (g := g) rfl i _ (cells_at l i hi)
  have hadd : (⟨g, 0, none⟩ : Addr).add i = ⟨g, 0 + i, none⟩ := by unfold Addr.add; split <;> simp_all
  rw [hadd, Nat.zero_add] at this
  exact this

theorem Own.frozenAt {e : TypeId} {w : World} {B : Nat} {l : List UInt8} {g n cap : Nat} (h : Own e w B (.slice (some ⟨g, 0, none⟩) n cap) l) (i : Nat) : w.frozen? ⟨g, i, none⟩ = false := by
  rcases h.2 with ⟨h', _⟩ | ⟨g', cap', cur, h', _, hg, _⟩
  · simp at h'
  · simp at h'
    obtain ⟨rfl, -, -⟩ := h'
    exact frozen_of_row w g i cur e hg

/-- A byte is stored. -/
theorem Own.store {e : TypeId} {w : World} {B : Nat} {l : List UInt8} {g n cap : Nat} (h : Own e w B (.slice (some ⟨g, 0, none⟩) n cap) l) (j : Nat) (c : UInt8) (x : Int) (hx : x = (c.toNat : Int)) : Own e (w.setCell ⟨g, j, none⟩ (.int .u8 x)) B (.slice (some ⟨g, 0, none⟩) n cap) (l.set j c) := by
  have hn : n = l.length := by
    rcases h.2 with ⟨h', _⟩ | ⟨g', cap', cur, h', _⟩
    · simp at h'
    · simp at h'; exact h'.2.1
  subst hn hx
  have := (World.ownsRow.stored h j (.int .u8 (c.toNat : Int))).1
  unfold Own
  rw [List.length_set]
  have e1 : cells (l.set j c) = (cells l).set j (.int .u8 (c.toNat : Int)) := by unfold cells; rw [List.map_set]
  rw [e1]
  exact this

/-- What was made is below a bound, and the rest is as it was. -/
theorem Own.row {e : TypeId} {w : World} {B : Nat} {v : Value} {l : List UInt8} (h : Own e w B v l) : ∀ k, v.ownBlock = some k → B ≤ k := fun k hk => (World.ownsRow.lt h k hk).1

theorem grown_below {w w' : World} {B : Nat} {row : Option Nat} (hg : w.grownBy w' row) (hB : B ≤ w.heap.size) (hr : ∀ k, row = some k → B ≤ k) : Below B w w' := (Below.refl B w).grown hg hB hr

/-- One byte in a new block of its own. -/
theorem RB.one (w : World) (e : TypeId) (x : Int) (c : UInt8) (h : x = (c.toNat : Int)) : RB (w.alloc (.cells #[.int .u8 x] e)) (.slice (some ⟨w.heap.size, 0, none⟩) 1 1) [c] := by
  subst h
  refine ⟨some ⟨w.heap.size, 0, none⟩, 1, rfl, Nat.le_refl _, by simp [maxLen], (fun h => by cases h), fun _ => ⟨w.heap.size, 0, rfl, fun i hi => ?_⟩⟩
  obtain rfl : i = 0 := by simpa using hi
  rw [cell_of_row _ w.heap.size 0 #[.int .u8 (c.toNat : Int)] e (0, 0) (heap_alloc_new w _)]
  simp

/-- Bytes that are written out, in a new block of their own. -/
theorem RB.lits (w : World) (e : TypeId) (fr : Nat × Nat) (l : List UInt8) (arr : Array Value) (n : Nat) (h : arr = (cells l).toArray) (hn : n = l.length) (hm : l.length ≤ 1000) : RB (w.alloc (.cells arr e fr)) (.slice (some ⟨w.heap.size, 0, none⟩) n n) l := by
  subst h hn
  refine ⟨some ⟨w.heap.size, 0, none⟩, l.length, rfl, Nat.le_refl _, by unfold maxLen; omega, (fun h => by cases h), fun _ => ⟨w.heap.size, 0, rfl, fun i hi => ?_⟩⟩
  rw [cell_of_row _ w.heap.size (0 + i) (cells l).toArray e fr (heap_alloc_new w _)]
  simpa using cells_at l i hi

/-- A piece of what reads as l reads as that piece. -/
theorem RB.cut {w : World} {a : Option Addr} {len cap : Nat} {l : List UInt8} (h : RB w (.slice a len cap) l) (i j : Nat) (hij : i ≤ j) (hj : j ≤ l.length) : RB w (sliced a i j cap 1) ((l.take j).drop i) := by
  obtain ⟨a', cap', hv, h1, h2, h3, h4⟩ := h
  cases hv
  have hlen : ((l.take j).drop i).length = j - i := by simp; omega
  unfold sliced
  refine ⟨_, cap - i, by rw [hlen], by rw [hlen]; omega, by omega, ?_, fun hne => ?_⟩
  · intro hn
    by_cases hc : cap = i
    · omega
    · rw [if_neg hc] at hn
      have := h3 (by simpa using hn)
      omega
  · have hji : i < j := by
      rcases Nat.lt_or_ge i j with h | h
      · exact h
      · exact absurd (List.eq_nil_of_length_eq_zero (by rw [hlen]; omega)) hne
    have hl : l ≠ [] := by intro e; subst e; simp at hj; omega
    obtain ⟨b, o, rfl, hc⟩ := h4 hl
    refine ⟨b, o + i, ?_, fun q hq => ?_⟩
    · rw [if_neg (by omega)]
      have hadd : (⟨b, o, none⟩ : Addr).add (i * 1) = ⟨b, o + i, none⟩ := by unfold Addr.add; split <;> simp_all
      simpa using hadd
    · rw [hlen] at hq
      have := hc (i + q) (by omega)
      rw [Nat.add_assoc, this]
      simp

theorem ret_int {k : IntKind} {a b : Int} (h : a = b) : Ending.returned (.int k a) = .returned (.int k b) := by rw [h]

theorem ret_of {a b : Value} (h : a = b) : Ending.returned a = Ending.returned b := by rw [h]

theorem info8 : (Tryz.prog.info? 5).map (fun i => (i.zero, i.size, i.bytes)) = some (some (.int .u8 0), 1, 1) := by kernel_rfl

theorem u8_xor_c (a b : UInt8) : bits .xor .u8 (a.toNat : Int) (b.toNat : Int) = ((a ^^^ b).toNat : Int) := by
  show IntKind.u8.wrap ((BitVec.ofInt 8 (a.toNat : Int) ^^^ BitVec.ofInt 8 (b.toNat : Int)).toNat : Int) = _
  have e (a : UInt8) : BitVec.ofInt 8 (a.toNat : Int) = a.toBitVec := by
    apply BitVec.eq_of_toNat_eq
    rw [BitVec.toNat_ofInt]
    have := a.toNat_lt
    have h : a.toBitVec.toNat = a.toNat := rfl
    omega
  rw [e, e]
  have h : (a ^^^ b).toNat = (a.toBitVec ^^^ b.toBitVec).toNat := rfl
  rw [h]
  have := (a.toBitVec ^^^ b.toBitVec).isLt
  have hw (n : Int) : IntKind.u8.wrap n = n % 256 := by simp [IntKind.wrap, IntKind.bits, IntKind.signed]
  rw [hw]
  omega

section
variable {P : Program}

/-- An operation that yields a value and leaves the world w'. -/
theorem wpList_gives {ops : Array Oper} {rest : List Oper} {o : Oper} {a : Act} {w : World} {Q : Exit → Act → World → Prop} (hg : o.guard = none)
    (v : Value) (w' : World) (hrun : (execOp a.eval o).run P w = .ok (.value v) w')
    (h : wpList P ops Q rest (a.put o.dst v) w') : wpList P ops Q (o :: rest) a w := by
  refine wpList_plain hg fun K hK => ?_
  unfold Oper.wp
  rw [hrun, Oper.upon_value]
  exact hK _ _ h

/-- 'append(s, x...)', s the call's own, x whatever reads as m. -/
theorem wpList_append_RB {ops : Array Oper} {rest : List Oper} {o : Oper} {a : Act} {w : World} {Q : Exit → Act → World → Prop} (hgd : o.guard = none) (s x : Operand) (t : TypeId)
    (ho : o.op = .call { callee := .builtin .append, args := #[s, x], argTypes := #[t, t] })
    (B : Nat) (e : TypeId) (ht : P.underlying t = some (.slice e)) (hinfo : (P.info? e).map (fun i => (i.zero, i.size, i.bytes)) = some (some (.int .u8 0), 1, 1))
    (v xv : Value) (l m : List UInt8) (hs : a.eval s = v) (hx : a.eval x = xv) (hown : Own e w B v l) (hrb : RB w xv m)
    (hlen : l.length + m.length ≤ 140737488355328) (hbase : B ≤ w.heap.size)
    (h : ∀ v' w', Own e w' B v' (l ++ m) → w.grownBy w' v.ownBlock → wpList P ops Q rest (a.put o.dst v') w') : wpList P ops Q (o :: rest) a w := by
  obtain ⟨i, hi, hz, hsize, hby⟩ := info_parts hinfo
  obtain ⟨ad, cap, rfl, h1, h2, h3, h4⟩ := hrb
  cases ad with
  | none =>
    obtain rfl := h3 rfl
    obtain rfl : m = [] := List.eq_nil_of_length_eq_zero (by omega)
    refine wpList_append_own_none hgd s x t ho B e i 1 ht hi v l.length (cells l) hs hown hx ?_
    exact h v w (by simpa using hown) (World.grownBy.refl _ _)
  | some ad =>
    refine wpList_append_own w hgd s x t ho B e i (.int .u8 0) 1 1 ht hi hz hsize hby rfl (by decide) v l.length (cells l) hs hown ad m.length cap (cells m) hx (by simp [cells_length]) ?_ (cells_one m) (by unfold maxLen; omega) (by omega) hbase ?_
    · intro j u hj
      have hjm : j < m.length := by
        rcases Nat.lt_or_ge j m.length with hlt | hge
        · exact hlt
        · rw [List.getElem?_eq_none (by simpa [cells_length] using hge)] at hj; cases hj
      obtain ⟨b, o', hao, hc⟩ := h4 (by intro hm; subst hm; simp at hjm)
      cases hao
      rw [cells_at m j hjm] at hj
      cases hj
      have hadd : (⟨b, o', none⟩ : Addr).add j = ⟨b, o' + j, none⟩ := by unfold Addr.add; split <;> simp_all
      rw [hadd]
      exact hc j hjm
    · intro v' w' hown' hg _
      exact h v' w' (by unfold Own; rw [List.length_append, cells_append]; exact hown') hg

/-- 'append(s, x...)', s the call's own, x a string. -/
theorem wpList_append_str {ops : Array Oper} {rest : List Oper} {o : Oper} {a : Act} {w : World} {Q : Exit → Act → World → Prop} (hgd : o.guard = none) (s x : Operand) (t u : TypeId)
    (ho : o.op = .call { callee := .builtin .append, args := #[s, x], argTypes := #[t, u] })
    (B : Nat) (e : TypeId) (ht : P.underlying t = some (.slice e)) (hu : P.underlying u = some .string) (hinfo : (P.info? e).map (fun i => (i.zero, i.size, i.bytes)) = some (some (.int .u8 0), 1, 1))
    (v : Value) (l : List UInt8) (q : ByteArray) (hs : a.eval s = v) (hx : a.eval x = .string q) (hown : Own e w B v l)
    (hlen : l.length + q.size ≤ 140737488355328) (hbase : B ≤ w.heap.size)
    (h : ∀ v' w', Own e w' B v' (l ++ q.data.toList) → w.grownBy w' v.ownBlock → wpList P ops Q rest (a.put o.dst v') w') : wpList P ops Q (o :: rest) a w := by
  obtain ⟨i, hi, hz, hsize, hby⟩ := info_parts hinfo
  refine Go.Lib.wpList_append_own_string w hgd s x t u ho B e i ht hu hi hz hsize hby v l.length (cells l) hs hown q hx (by unfold maxLen; omega) hlen hbase ?_
  intro v' w' hown' hg _
  refine h v' w' ?_ hg
  unfold Own
  rw [List.length_append, cells_append, ← strCells_eq, ← Go.Lib.size_eq]
  exact hown'

/-- 'make([]byte, n, c)'. -/
theorem wpList_make_len {ops : Array Oper} {rest : List Oper} {o : Oper} {a : Act} {w : World} {Q : Exit → Act → World → Prop} (hgd : o.guard = none) (lo co : Operand) (t : TypeId)
    (hop : o.op = Op.makeSlice t lo co) (e : TypeId) (ht : P.underlying t = some (.slice e)) (hinfo : (P.info? e).map (fun i => (i.zero, i.size, i.bytes)) = some (some (.int .u8 0), 1, 1))
    (kl kc : IntKind) (L C : Int) (n c : Nat) (hl : a.eval lo = .int kl L) (hc : a.eval co = .int kc C) (hL : L = (n : Int)) (hC : C = (c : Int)) (hnc : n ≤ c) (hcm : c ≤ 140737488355328)
    (h : ∀ v w', Own e w' w.heap.size v (List.replicate n 0) → w.grownBy w' none → wpList P ops Q rest (a.put o.dst v) w') : wpList P ops Q (o :: rest) a w := by
  obtain ⟨i, hi, hz, hsize, hby⟩ := info_parts hinfo
  subst hL hC
  have hr := run_make (P := P) w t e i (.int .u8 0) ht hi hz kl kc n c (by omega) (by omega) (by rw [hby]; omega) (by omega)
  simp only [Int.toNat_natCast, hsize, Nat.mul_one] at hr
  refine wpList_gives hgd (.slice (some ⟨w.heap.size, 0, none⟩) n c) (w.alloc (.cells (madeCells (Value.int IntKind.u8 0).cells c) e)) (by simp [execOp, hop, hl, hc, hr, Result.andThen]) (h _ _ ?_ (World.grownBy_alloc w _ none))
  refine ⟨by simp [cells_length], .inr ⟨w.heap.size, c, madeCells #[Value.int .u8 0] c, (by simp), Nat.le_refl _, ?_, by simpa using hnc, by unfold maxLen; omega, by simp [size_madeCells], ?_⟩⟩
  · exact heap_alloc_new w _
  · rw [toList_madeCells_one, List.take_replicate]
    simp [cells, Nat.min_eq_left hnc]

/-- 'copy(d, s)' where the whole of d is written anew. -/
theorem wpList_copy_RB {ops : Array Oper} {rest : List Oper} {o : Oper} {a : Act} {w : World} {Q : Exit → Act → World → Prop} (hgd : o.guard = none) (d s : Operand) (t : TypeId)
    (ho : o.op = .call { callee := .builtin .copy, args := #[d, s], argTypes := #[t, t] })
    (B : Nat) (e : TypeId) (ht : P.underlying t = some (.slice e)) (hinfo : (P.info? e).map (fun i => (i.zero, i.size, i.bytes)) = some (some (.int .u8 0), 1, 1))
    (v sv : Value) (l0 l : List UInt8) (hd : a.eval d = v) (hs : a.eval s = sv) (hown : Own e w B v l0) (hrb : RB w sv l) (hlen : l.length = l0.length) (w0 : World) (hb : Below B w0 w)
    (h : ∀ w', Own e w' B v l → Below B w0 w' → wpList P ops Q rest (a.put o.dst (goInt l.length)) w') : wpList P ops Q (o :: rest) a w := by
  obtain ⟨i, hi, hz, hsize, hby⟩ := info_parts hinfo
  obtain ⟨ad, cap, rfl, h1, h2, h3, h4⟩ := hrb
  have hsz : (P.info? e).map (·.size) = some 1 := by rw [hi]; simp [hsize]
  rcases hown.2 with ⟨rfl, hn⟩ | ⟨g, dcap, cur, rfl, hB, hg, d1, d2, d3, d4⟩
  · have hl0 : l.length = 0 := by omega
    obtain rfl : l = [] := List.eq_nil_of_length_eq_zero hl0
    refine wpList_copy_nothing hgd d s t t ho e ht hsz none ad 0 0 0 cap hd hs (by simp) ?_
    exact h w (Own.nil e w B) hb
  · refine wpList_copy_splice hgd d s t t ho e ht hsz (some ⟨g, 0, none⟩) ad l0.length dcap l.length cap hd hs g 0 cur.toList e (by simpa using hg) (cells l) (by rw [cells_length, hlen]; simp) ?_ ?_ (cells_one l) B w0 hb hB ?_
    · intro hp
      rw [cells_length] at hp
      obtain ⟨b, o', hao, hc⟩ := h4 (List.length_pos_iff.1 hp)
      refine ⟨rfl, _, hao, fun j u hj => ?_⟩
      have hjm : j < l.length := by
        rcases Nat.lt_or_ge j l.length with hlt | hge
        · exact hlt
        · rw [List.getElem?_eq_none (by simpa [cells_length] using hge)] at hj; cases hj
      rw [cells_at l j hjm] at hj
      cases hj
      have hadd : (⟨b, o', none⟩ : Addr).add j = ⟨b, o' + j, none⟩ := by unfold Addr.add; split <;> simp_all
      rw [hadd]
      exact hc j hjm
    · simp only [cells_length, Nat.zero_add, Array.length_toList]; omega
    · intro w' hw' hb'
      have hh := hw'.out
      rw [cells_length]
      refine h w' ⟨by simp [cells_length], .inr ⟨g, dcap, _, by rw [hlen], hB, hh, by omega, d2, ?_, ?_⟩⟩ hb'
      · rw [List.size_toArray, length_splice _ _ _ (by simp only [cells_length, Array.length_toList]; omega), Array.length_toList, d3]
      · simp [splice, cells_length]

theorem run_sizeOf {w : World} {t e : TypeId} (ht : P.underlying t = some (.slice e)) (hinfo : (P.info? e).map (fun i => (i.zero, i.size, i.bytes)) = some (some (.int .u8 0), 1, 1)) :
    P.underlying t = some (.slice (P.elem t)) ∧ (sizeOf (P.elem t)).run P w = .ok 1 w := by
  obtain ⟨i, hi, hz, hsize, hby⟩ := info_parts hinfo
  have he : P.elem t = e := by simp [Program.elem, ht]
  rw [he]
  exact ⟨ht, by simp [sizeOf, typeInfo, hi, hsize]⟩

/-- 'b[:n]', in whatever world: for a region that draws its order. -/
theorem RB.run_h {w : World} {a : Option Addr} {len cap : Nat} {l : List UInt8} (h : RB w (.slice a len cap) l) (t e : TypeId) (ht : P.underlying t = some (.slice e)) (hinfo : (P.info? e).map (fun i => (i.zero, i.size, i.bytes)) = some (some (.int .u8 0), 1, 1))
    (n : Nat) (hn : n ≤ l.length) (k : IntKind) : ∃ v, RB w v (l.take n) ∧ ∀ W, (Instr.slice t (.slice a len cap) none (some (.int k (n : Int))) none).run P W = .ok v W := by
  obtain ⟨h1, h2, h3⟩ := h.len
  have hc := h.cut 0 n (by omega) hn
  rw [List.drop_zero] at hc
  refine ⟨_, hc, fun W => ?_⟩
  obtain ⟨ht', hs⟩ := run_sizeOf (P := P) (w := W) ht hinfo
  have hr := run_slice_h (P := P) W t a len cap ht' k (n : Int) (by omega) (by omega)
  rw [hs] at hr
  simpa [Result.andThen] using hr

/-- 'b[i:j]'. -/
theorem wpList_slice_lh {ops : Array Oper} {rest : List Oper} {o : Oper} {a : Act} {w : World} {Q : Exit → Act → World → Prop} (hgd : o.guard = none) (x lo hi : Operand) (t : TypeId)
    (ho : o.op = .slice t x (some lo) (some hi) none) (e : TypeId) (ht : P.underlying t = some (.slice e)) (hinfo : (P.info? e).map (fun i => (i.zero, i.size, i.bytes)) = some (some (.int .u8 0), 1, 1))
    (v : Value) (l : List UInt8) (kl kh : IntKind) (L H : Int) (i j : Nat) (hx : a.eval x = v) (hlo : a.eval lo = .int kl L) (hhi : a.eval hi = .int kh H) (hL : L = (i : Int)) (hH : H = (j : Int)) (hrb : RB w v l) (hij : i ≤ j) (hj : j ≤ l.length)
    (hK : ∀ v', RB w v' ((l.take j).drop i) → wpList P ops Q rest (a.put o.dst v') w) : wpList P ops Q (o :: rest) a w := by
  have hrb0 := hrb
  obtain ⟨ad, cap, rfl, h1, h2, h3, h4⟩ := hrb
  obtain ⟨ht', hs⟩ := run_sizeOf (P := P) (w := w) ht hinfo
  subst hL hH
  have hr := run_slice_lh (P := P) w t ad l.length cap ht' kl kh (i : Int) (j : Int) (by omega) (by omega) (by omega)
  rw [hs] at hr
  simp only [Int.toNat_natCast, Result.andThen] at hr
  exact wpList_gives hgd _ _ (by simp [execOp, ho, hx, hlo, hhi, hr, run_sliceAt_slice w t _ _ _ _ ht', Result.andThen]) (hK _ (hrb0.cut i j hij hj))

/-- 'b[i:]'. -/
theorem wpList_slice_l {ops : Array Oper} {rest : List Oper} {o : Oper} {a : Act} {w : World} {Q : Exit → Act → World → Prop} (hgd : o.guard = none) (x lo : Operand) (t : TypeId)
    (ho : o.op = .slice t x (some lo) none none) (e : TypeId) (ht : P.underlying t = some (.slice e)) (hinfo : (P.info? e).map (fun i => (i.zero, i.size, i.bytes)) = some (some (.int .u8 0), 1, 1))
    (v : Value) (l : List UInt8) (kl : IntKind) (L : Int) (i : Nat) (hx : a.eval x = v) (hlo : a.eval lo = .int kl L) (hL : L = (i : Int)) (hrb : RB w v l) (hi : i ≤ l.length)
    (hK : ∀ v', RB w v' (l.drop i) → wpList P ops Q rest (a.put o.dst v') w) : wpList P ops Q (o :: rest) a w := by
  have hrb0 := hrb
  obtain ⟨ad, cap, rfl, h1, h2, h3, h4⟩ := hrb
  obtain ⟨ht', hs⟩ := run_sizeOf (P := P) (w := w) ht hinfo
  subst hL
  have hr := run_slice_l (P := P) w t ad l.length cap ht' kl (i : Int) (by omega) (by omega)
  rw [hs] at hr
  simp only [Int.toNat_natCast, Result.andThen] at hr
  have hc := hrb0.cut i l.length hi (Nat.le_refl _)
  rw [List.take_length] at hc
  exact wpList_gives hgd _ _ (by simp [execOp, ho, hx, hlo, hr, run_sliceAt_slice w t _ _ _ _ ht', Result.andThen]) (hK _ hc)

/-- 'b[:j]'. -/
theorem wpList_slice_h {ops : Array Oper} {rest : List Oper} {o : Oper} {a : Act} {w : World} {Q : Exit → Act → World → Prop} (hgd : o.guard = none) (x hi : Operand) (t : TypeId)
    (ho : o.op = .slice t x none (some hi) none) (e : TypeId) (ht : P.underlying t = some (.slice e)) (hinfo : (P.info? e).map (fun i => (i.zero, i.size, i.bytes)) = some (some (.int .u8 0), 1, 1))
    (v : Value) (l : List UInt8) (kh : IntKind) (H : Int) (j : Nat) (hx : a.eval x = v) (hhi : a.eval hi = .int kh H) (hH : H = (j : Int)) (hrb : RB w v l) (hj : j ≤ l.length)
    (hK : ∀ v', RB w v' (l.take j) → wpList P ops Q rest (a.put o.dst v') w) : wpList P ops Q (o :: rest) a w := by
  have hrb0 := hrb
  obtain ⟨ad, cap, rfl, h1, h2, h3, h4⟩ := hrb
  obtain ⟨ht', hs⟩ := run_sizeOf (P := P) (w := w) ht hinfo
  subst hH
  have hr := run_slice_h (P := P) w t ad l.length cap ht' kh (j : Int) (by omega) (by omega)
  rw [hs] at hr
  simp only [Int.toNat_natCast, Result.andThen] at hr
  have hc := hrb0.cut 0 j (by omega) hj
  rw [List.drop_zero] at hc
  exact wpList_gives hgd _ _ (by simp [execOp, ho, hx, hhi, hr, run_sliceAt_slice w t _ _ _ _ ht', Result.andThen]) (hK _ hc)

/-- 'string(b)'. -/
theorem run_string_RB (w : World) (src e dst : TypeId) (hs : P.underlying src = some (.slice e)) (he : P.underlying e = some (.int .u8)) (hd : P.underlying dst = some .string)
    (v : Value) (l : List UInt8) (h : RB w v l) : (convert src dst v).run P w = .ok (.string (str l)) w := by
  obtain ⟨a, cap, rfl, h1, h2, h3, h4⟩ := h
  by_cases hl : l = []
  · subst hl
    cases a with
    | none => exact run_convert_bytes_nil w src e hs he _ _ dst hd
    | some a =>
      have hlc : (loadCells a 0).run P w = .ok (([] : List Int).map (Value.int .u8)).toArray w := by simp [loadCells, loadCellsFrom]
      have := run_bytesToString (P := P) w a 0 cap [] hlc
      rw [run_convert_bytes_string w src dst e _ _ cap hs he hd]
      have e0 : str [] = ByteArray.empty := rfl
      rw [e0]
      simpa using this
  · obtain ⟨b, o, rfl, hc⟩ := h4 hl
    have := Go.Lib.run_convert_whole (P := P) w src e dst hs he hd b o (str l) (fun i hi => by
      have hi' : i < l.length := by rwa [str_size] at hi
      rw [hc i hi']
      rfl) cap
    rw [str_size] at this
    exact this

theorem wpList_string_RB {ops : Array Oper} {rest : List Oper} {o : Oper} {a : Act} {w : World} {Q : Exit → Act → World → Prop} (hgd : o.guard = none) (x : Operand) (src dst : TypeId)
    (ho : o.op = .convert src dst x) (e : TypeId) (hs : P.underlying src = some (.slice e)) (he : P.underlying e = some (.int .u8)) (hd : P.underlying dst = some .string)
    (v : Value) (l : List UInt8) (hx : a.eval x = v) (h : RB w v l) (hK : wpList P ops Q rest (a.put o.dst (.string (str l))) w) : wpList P ops Q (o :: rest) a w := by
  have hr := run_string_RB w src e dst hs he hd v l h
  exact wpList_gives hgd _ _ (by simp [execOp, ho, hx, hr, Result.andThen]) hK

end

end Go.Proofs.YtnalokjnbccjnaaGreatDoor

namespace Go.Proofs.YtnalokjnbccjnaaGreatDoor
open Go.RowKit
open Go.Lib (uvarint zigzag)

/-! the plain functions -/
/-- What a zigzag number stands for. -/
def unzig (u : Nat) : Int := if u % 2 = 1 then -((u / 2 : Nat) : Int) - 1 else ((u / 2 : Nat) : Int)

/-- A number at the beginning of l, k bytes of it gone, u gathered: the number, its bytes, the error. -/
def getS : List UInt8 → Nat → Nat → Int × Nat × Int
  | [], _, _ => (0, 0, 2)
  | c :: r, k, u =>
    if k = 9 ∧ 1 < c.toNat then (0, 0, 1)
    else if 128 ≤ c.toNat then getS r (k + 1) (u + c.toNat % 128 * 128 ^ k)
    else if c.toNat = 0 ∧ 0 < k then (0, 0, 1)
    else (unzig (u + c.toNat * 128 ^ k), k + 1, 0)

def getB (l : List UInt8) : Int × Nat × Int := getS l 0 0

theorem getS_of (r : List UInt8) : ∀ (n x k u : Nat), x ≤ n → k ≤ 9 → x < 128 ^ (9 - k) * 2 → (0 < k → 0 < x) → getS (uvarint x ++ r) k u = (unzig (u + x * 128 ^ k), k + (uvarint x).length, 0) := by
  intro n
  induction n with
  | zero =>
    intro x k u hn hk hx hp
    obtain rfl : x = 0 := by omega
    have hk0 : k = 0 := by
      rcases Nat.eq_zero_or_pos k with h | h
      · exact h
      · exact absurd (hp h) (by omega)
    subst hk0
    rw [Go.Lib.uvarint_small (by omega)]
    simp [getS]
  | succ n ih =>
    intro x k u hn hk hx hp
    by_cases hs : x < 128
    · rw [Go.Lib.uvarint_small hs]
      have hc : (x.toUInt8).toNat = x := by simp; omega
      have h9 : ¬ (k = 9 ∧ 1 < x) := by
        rintro ⟨rfl, h⟩
        simp at hx
        omega
      have h0 : ¬ (x = 0 ∧ 0 < k) := by
        rintro ⟨h, h'⟩
        have := hp h'
        omega
      simp [getS, hc, h9, h0, show ¬ 128 ≤ x from by omega]
    · rw [Go.Lib.uvarint_big (by omega)]
      have hc : ((x % 128 + 128).toUInt8).toNat = x % 128 + 128 := by simp; omega
      have hk8 : k < 9 := by
        rcases Nat.lt_or_ge k 9 with h | h
        · exact h
        · obtain rfl : k = 9 := by omega
          simp at hx
          omega
      have hpow : 128 ^ (9 - k) = 128 * 128 ^ (9 - (k + 1)) := by
        rw [show 9 - k = (9 - (k + 1)) + 1 from by omega, Nat.pow_succ, Nat.mul_comm]
      have h2 : x / 128 < 128 ^ (9 - (k + 1)) * 2 := by
        rw [hpow, Nat.mul_assoc] at hx
        exact Nat.div_lt_of_lt_mul hx
      have := ih (x / 128) (k + 1) (u + x % 128 * 128 ^ k) (by omega) (by omega) h2 (fun _ => by omega)
      simp only [List.cons_append, getS, hc, show ¬ (k = 9 ∧ 1 < x % 128 + 128) from by omega, if_false, show 128 ≤ x % 128 + 128 from by omega, if_true, List.length_cons]
      rw [show (x % 128 + 128) % 128 = x % 128 from by omega, this]
      have e : u + x % 128 * 128 ^ k + x / 128 * 128 ^ (k + 1) = u + x * 128 ^ k := by
        rw [Nat.pow_succ, Nat.mul_comm (128 ^ k) 128, ← Nat.mul_assoc, Nat.add_assoc, ← Nat.add_mul]
        congr 2
        omega
      rw [e, show k + 1 + (uvarint (x / 128)).length = k + ((uvarint (x / 128)).length + 1) from by omega]

theorem unzig_zigzag (n : Int) : unzig (zigzag n) = n := by
  unfold unzig zigzag
  split <;> split <;> omega

/-- Whatever stands behind, the number comes back. -/
theorem getB_put (n : Int) (h0 : -9223372036854775808 ≤ n) (h1 : n ≤ 9223372036854775807) (r : List UInt8) : getB (uvarint (zigzag n) ++ r) = (n, (uvarint (zigzag n)).length, 0) := by
  have hz := Go.Lib.zigzag_lt h0 h1
  have := getS_of r (zigzag n) (zigzag n) 0 0 (Nat.le_refl _) (by omega) (by simpa using hz) (by omega)
  unfold getB
  rw [this]
  simp [unzig_zigzag]

/-- Cut off anywhere it is not all there. -/
theorem getS_cut : ∀ (n x k u j : Nat), x ≤ n → k ≤ 9 → x < 128 ^ (9 - k) * 2 → j < (uvarint x).length → getS ((uvarint x).take j) k u = (0, 0, 2) := by
  intro n
  induction n with
  | zero =>
    intro x k u j hn hk hx hj
    obtain rfl : x = 0 := by omega
    rw [Go.Lib.uvarint_small (by omega)] at hj ⊢
    obtain rfl : j = 0 := by simpa using hj
    simp [getS]
  | succ n ih =>
    intro x k u j hn hk hx hj
    by_cases hs : x < 128
    · rw [Go.Lib.uvarint_small hs] at hj ⊢
      obtain rfl : j = 0 := by simpa using hj
      simp [getS]
    · rw [Go.Lib.uvarint_big (by omega)] at hj ⊢
      have hc : ((x % 128 + 128).toUInt8).toNat = x % 128 + 128 := by simp; omega
      cases j with
      | zero => simp [getS]
      | succ j =>
        have hk8 : k < 9 := by
          rcases Nat.lt_or_ge k 9 with h | h
          · exact h
          · obtain rfl : k = 9 := by omega
            simp at hx
            omega
        have hpow : 128 ^ (9 - k) = 128 * 128 ^ (9 - (k + 1)) := by
          rw [show 9 - k = (9 - (k + 1)) + 1 from by omega, Nat.pow_succ, Nat.mul_comm]
        have h2 : x / 128 < 128 ^ (9 - (k + 1)) * 2 := by
          rw [hpow, Nat.mul_assoc] at hx
          exact Nat.div_lt_of_lt_mul hx
        simp only [List.length_cons] at hj
        have := ih (x / 128) (k + 1) (u + (x % 128 + 128) % 128 * 128 ^ k) j (by omega) (by omega) h2 (by omega)
        simp only [List.take_succ_cons, getS, hc, show ¬ (k = 9 ∧ 1 < x % 128 + 128) from by omega, if_false, show 128 ≤ x % 128 + 128 from by omega, if_true]
        exact this

theorem getB_cut (n : Int) (h0 : -9223372036854775808 ≤ n) (h1 : n ≤ 9223372036854775807) (j : Nat) (hj : j < (uvarint (zigzag n)).length) : getB ((uvarint (zigzag n)).take j) = (0, 0, 2) := by
  have hz := Go.Lib.zigzag_lt h0 h1
  exact getS_cut (zigzag n) (zigzag n) 0 0 j (Nat.le_refl _) (by omega) (by simpa using hz) hj

/-- What Get answers fits its kinds. -/
theorem getS_fits : ∀ (l : List UInt8) (k u : Nat), k ≤ 9 → u < 128 ^ k → -9223372036854775808 ≤ (getS l k u).1 ∧ (getS l k u).1 ≤ 9223372036854775807 ∧ (getS l k u).2.1 ≤ k + l.length ∧ ((getS l k u).2.2 = 0 ∨ (getS l k u).2.2 = 1 ∨ (getS l k u).2.2 = 2) ∧ ((getS l k u).2.2 = 0 → 1 ≤ (getS l k u).2.1) ∧ (getS l k u).2.1 ≤ 10 := by
  intro l
  induction l with
  | nil => intro k u _ _; simp [getS]
  | cons c r ih =>
    intro k u hk hu
    have hc : c.toNat < 256 := c.toNat_lt
    have hpow : 128 ^ k ≤ 128 ^ 9 := Nat.pow_le_pow_right (by omega) hk
    unfold getS
    split
    · simp
    · rename_i h9
      split
      · rename_i hbig
        have hk8 : k < 9 := by omega
        have hu' : u + c.toNat % 128 * 128 ^ k < 128 ^ (k + 1) := by
          rw [Nat.pow_succ]
          have : c.toNat % 128 * 128 ^ k ≤ 127 * 128 ^ k := Nat.mul_le_mul_right _ (by omega)
          omega
        have := ih (k + 1) _ (by omega) hu'
        simp only [List.length_cons]
        omega
      · split
        · simp
        · simp only [List.length_cons]
          have hb : u + c.toNat * 128 ^ k < 18446744073709551616 := by
            by_cases hk9 : k = 9
            · subst hk9
              have : c.toNat * 128 ^ 9 ≤ 1 * 128 ^ 9 := Nat.mul_le_mul_right _ (by omega)
              omega
            · have h8 : 128 ^ k ≤ 128 ^ 8 := Nat.pow_le_pow_right (by omega) (by omega)
              have : c.toNat * 128 ^ k ≤ 127 * 128 ^ k := Nat.mul_le_mul_right _ (by omega)
              omega
          unfold unzig
          refine ⟨?_, ?_, by omega, by simp, by simp, by omega⟩ <;> split <;> omega

theorem getB_fits (l : List UInt8) : -9223372036854775808 ≤ (getB l).1 ∧ (getB l).1 ≤ 9223372036854775807 ∧ (getB l).2.1 ≤ l.length ∧ ((getB l).2.2 = 0 ∨ (getB l).2.2 = 1 ∨ (getB l).2.2 = 2) ∧ ((getB l).2.2 = 0 → 1 ≤ (getB l).2.1) ∧ (getB l).2.1 ≤ 10 := by
  have := getS_fits l 0 0 (by omega) (by simp)
  unfold getB
  omega

/-- A text at the beginning of l. -/
def textB (l : List UInt8) : List UInt8 × Nat × Int :=
  if (getB l).2.2 ≠ 0 then ([], 0, (getB l).2.2)
  else if (getB l).1 < 0 ∨ 65536 < (getB l).1 then ([], 0, 1)
  else if l.length < (getB l).2.1 + (getB l).1.toNat then ([], 0, 2)
  else ((l.drop (getB l).2.1).take (getB l).1.toNat, (getB l).2.1 + (getB l).1.toNat, 0)

def putT (s : List UInt8) : List UInt8 := uvarint (zigzag s.length) ++ s

theorem textB_put (s r : List UInt8) (hs : s.length ≤ 65536) : textB (putT s ++ r) = (s, (putT s).length, 0) := by
  have h := getB_put (s.length : Int) (by omega) (by omega) (s ++ r)
  unfold putT textB
  rw [List.append_assoc, h]
  simp only [List.length_append]
  rw [if_neg (by simp), if_neg (by omega), if_neg (by omega)]
  simp

theorem textB_cut (s : List UInt8) (hs : s.length ≤ 65536) (j : Nat) (hj : j < (putT s).length) : textB ((putT s).take j) = ([], 0, 2) := by
  unfold putT at hj ⊢
  rw [List.length_append] at hj
  by_cases hc : j < (uvarint (zigzag s.length)).length
  · have h := getB_cut (s.length : Int) (by omega) (by omega) j hc
    rw [List.take_append_of_le_length (by omega)]
    unfold textB
    rw [h]
    simp
  · have h := getB_put (s.length : Int) (by omega) (by omega) (s.take (j - (uvarint (zigzag s.length)).length))
    rw [List.take_append, List.take_of_length_le (by omega)]
    unfold textB
    rw [h]
    simp only [List.length_append, List.length_take]
    rw [if_neg (by simp), if_neg (by omega), if_pos (by omega)]

end Go.Proofs.YtnalokjnbccjnaaGreatDoor

namespace Go.Proofs.YtnalokjnbccjnaaGreatDoor
open Go.RowKit
open Go.Lib (uvarint zigzag)

theorem i64_not_all (n : Int) (h0 : -9223372036854775808 ≤ n) (h1 : n ≤ 9223372036854775807) : bits .xor .i64 (-1) n = -n - 1 := by
  show IntKind.i64.wrap ((BitVec.ofInt 64 (-1) ^^^ BitVec.ofInt 64 n).toNat : Int) = _
  have e1 : BitVec.ofInt 64 (-1) = BitVec.allOnes 64 := by decide
  have e2 : BitVec.allOnes 64 ^^^ BitVec.ofInt 64 n = ~~~ (BitVec.ofInt 64 n) := by rw [BitVec.allOnes_xor]
  rw [e1, e2, BitVec.toNat_not, BitVec.toNat_ofInt, IntKind.wrap_i64]
  omega

theorem unsigned_neg (n : Int) (h0 : -9223372036854775808 ≤ n) (hn : n < 0) :
    bits BinOp.or IntKind.u64 (IntKind.u64.wrap (IntKind.u64.wrap (bits BinOp.xor IntKind.i64 (-1) n) * 2)) 1 = ((zigzag n : Nat) : Int) := by
  rw [i64_not_all n h0 (by omega), IntKind.wrap_u64, IntKind.wrap_u64]
  have e : (-n - 1) % 18446744073709551616 * 2 % 18446744073709551616 = 2 * (-n - 1) := by omega
  rw [e, bits_join .u64 64 (by decide) wraps_u64 1 _ _ (by omega) (by omega) (by omega) (by omega) (by omega) (by omega)]
  unfold Go.Lib.zigzag
  rw [if_neg (by omega)]
  omega

theorem unsigned_c (n : Int) (w : World) (h0 : -9223372036854775808 ≤ n) (h1 : n ≤ 9223372036854775807) :
    Calls Tryz.prog 100 #[.int .i64 n] w fun e w' => e = .returned (.int .u64 (zigzag n : Nat)) ∧ w = w' := by
  by_cases hn : n < 0
  · go_enter Tryz.func100, Tryz.ntmps100
    go_wp2
    go_ret
    exact ⟨ret_int (unsigned_neg n h0 hn), rfl⟩
  · have hn' : 0 ≤ n := by omega
    go_enter Tryz.func100, Tryz.ntmps100
    go_wp2
    go_ret
    exact ⟨ret_int (Go.Lib.zigzag_nonneg hn').symm, rfl⟩

theorem signed_c (n : Nat) (w : World) (h1 : n < 18446744073709551616) :
    Calls Tryz.prog 117 #[.int .u64 n] w fun e w' => e = .returned (.int .i64 (unzig n)) ∧ w = w' := by
  have hb := Go.Lib.u64_and1 n (by omega) (by omega)
  have hx := Go.Lib.i64_not (n / 2) (by omega)
  by_cases hn : n % 2 = 1
  · have hd : (bits .and .u64 (n : Int) 1 == 1) = true := by rw [hb]; simp; omega
    have Hb := Go.Lib.hid hb; clear hb
    have Hx := Go.Lib.hid hx; clear hx
    have Hn := Go.Lib.hid hn; clear hn
    go_enter Tryz.func117, Tryz.ntmps117
    go_wp2
    go_ret
    refine ⟨ret_int ?_, rfl⟩
    rw [unzig, if_pos Hn.out, ← Hx.out]
    rfl
  · have hd : (bits .and .u64 (n : Int) 1 == 1) = false := by rw [hb]; simp; omega
    have Hb := Go.Lib.hid hb; clear hb
    have Hx := Go.Lib.hid hx; clear hx
    have Hn := Go.Lib.hid hn; clear hn
    go_enter Tryz.func117, Tryz.ntmps117
    go_wp2
    go_ret
    refine ⟨ret_int ?_, rfl⟩
    rw [unzig, if_neg Hn.out]
    rfl

/-- 'copyWithRoom(b, more)'. -/
theorem copy_c (v : Value) (l : List UInt8) (n : Int) (w : World) (hv : RB w v l) (h0 : 0 ≤ n) (hn : l.length + n.toNat ≤ 140737488355328) :
    Calls Tryz.prog 79 #[v, .int .i64 n] w fun e w' => ∃ v', e = .returned v' ∧ Own 5 w' w.heap.size v' l ∧ Below w.heap.size w w' := by
  have hrb := hv
  obtain ⟨a, cap, rfl, h1, h2, h3, h4⟩ := hv
  have hs := h2
  unfold maxLen at hs
  clear h3 h4
  go_enter Tryz.func79, Tryz.ntmps79
  go_wp2_with (first
    | (at_make; refine wpList_make_len rfl (.tmp 7) (.tmp 11) 45 rfl 5 Tryz.underlying45 info8 .i64 .i64 _ _ l.length (l.length + n.toNat) rfl rfl rfl (by omega) (by omega) (by omega) ?_; intro v1 w1 hown1 hg1)
    | (with_reducible show wpList _ _ _ (⟨some 15, _, _, _, _, _⟩ :: _) _ _; go_loud (refine wpList_copy_RB rfl (.tmp 13) (.tmp 14) 45 rfl w.heap.size 5 Tryz.underlying45 info8 v1 (.slice a l.length cap) _ l rfl rfl hown1 (hrb.below (grown_below hg1 (Nat.le_refl _) (by simp))) (by simp) w (grown_below hg1 (Nat.le_refl _) (by simp)) ?_); intro w2 hown2 hb2))
  go_ret
  exact ⟨_, rfl, hown2, hb2⟩

set_option maxRecDepth 100000 in
/-- 'addNum(out, n)', out the call's own. -/
theorem add_c (B : Nat) (v : Value) (l : List UInt8) (n : Int) (w : World) (hv : Own 5 w B v l) (hB : B ≤ w.heap.size) (h0 : -9223372036854775808 ≤ n) (h1 : n ≤ 9223372036854775807) (hl : l.length + 10 ≤ 140737488355328) :
    Calls Tryz.prog 78 #[v, .int .i64 n] w fun e w' => ∃ v', e = .returned v' ∧ Own 5 w' B v' (l ++ uvarint (zigzag n)) ∧ Below B w w' := by
  have hz := Go.Lib.zigzag_lt h0 h1
  have hzl := Go.Lib.uvarint_length64 hz
  obtain ⟨z, Hz⟩ : ∃ z, z = zigzag n := ⟨_, rfl⟩
  rw [← Hz] at hz hzl ⊢
  have Hzl := Go.Lib.hid hzl; clear hzl
  have HZ := Go.Lib.hid Hz; clear Hz
  go_enter Tryz.func78, Tryz.ntmps78
  go_wp2_with (go_at_call 100; refine (unsigned_c n _ h0 h1).mono ?_; rintro e w1 ⟨rfl, rfl⟩; rw [← HZ.out])
  go_loopw [0, 5] (fun x u wr => ∃ (p : List UInt8) (y : Nat), y < 18446744073709551616 ∧ u = .int .u64 (y : Int) ∧ Own 5 wr B x (l ++ p) ∧ Below B w wr ∧ Hid (uvarint z = p ++ uvarint y)) (fun _ u _ => (intOf u).toNat)
  case atStart => exact ⟨[], z, hz, rfl, by simpa using hv, Below.refl _ _, by simp [Hid]⟩
  case round =>
    obtain ⟨p, y, hy, rfl, hown, hbel, hz1⟩ := hrel
    have hpl : Hid (p.length + (uvarint y).length ≤ 10) := by
      have := Hzl.out
      rw [hz1.out, List.length_append] at this
      exact this
    have hpl1 : p.length + 1 ≤ 10 := by have := hpl.out; have := Go.Lib.uvarint_pos y; omega
    by_cases hs : y < 128
    · have hc : (y : Int) = ((UInt8.ofNat y).toNat : Int) := by simp; omega
      have Hc := Go.Lib.hid hc; clear hc
      go_wp2_with (at_builtin; go_loud (refine wpList_append_RB rfl (.tmp 18) (.tmp 21) 45 rfl B 5 Tryz.underlying45 info8 u0 (.slice (some ⟨wr.heap.size, 0, none⟩) 1 1) (l ++ p) [UInt8.ofNat y] rfl rfl (hown.alloc _) (RB.one wr _ _ _ Hc.out) (by simp; omega) (by have := hbel.size; simp; omega) ?_); intro v2 w2 hown2 hg2)
      go_ret
      have hu : uvarint z = p ++ [UInt8.ofNat y] := by rw [hz1.out, Go.Lib.uvarint_small hs]
      refine ⟨_, rfl, ?_, (hbel.alloc (by have := hbel.size; omega) _).grown hg2 (by have := hbel.size; simp; omega) hown.row⟩
      rw [hu, ← List.append_assoc]
      exact hown2
    · have hc : bits BinOp.or IntKind.u8 ((y : Int) % 256) 128 = ((UInt8.ofNat (y % 128 + 128)).toNat : Int) := by
        rw [Go.Lib.u8_or128_any _ (by omega) (by omega)]; simp; omega
      have Hc := Go.Lib.hid hc; clear hc
      go_wp2_with (at_builtin; go_loud (refine wpList_append_RB rfl (.tmp 10) (.tmp 14) 45 rfl B 5 Tryz.underlying45 info8 u0 (.slice (some ⟨wr.heap.size, 0, none⟩) 1 1) (l ++ p) [UInt8.ofNat (y % 128 + 128)] rfl rfl (hown.alloc _) (RB.one wr _ _ _ Hc.out) (by simp; omega) (by have := hbel.size; simp; omega) ?_); intro v2 w2 hown2 hg2)
      have hu : uvarint z = (p ++ [UInt8.ofNat (y % 128 + 128)]) ++ uvarint (y / 128) := by rw [hz1.out, Go.Lib.uvarint_big (by omega)]; simp
      have Hu := Go.Lib.hid hu; clear hu
      have hbel2 : Below B w w2 := (hbel.alloc (by have := hbel.size; omega) _).grown hg2 (by have := hbel.size; simp; omega) hown.row
      clear hbel hg2 hz1 hpl
      go_roundw
      case rel => exact ⟨p ++ [UInt8.ofNat (y % 128 + 128)], y / 128, by omega, by go_num, by rw [← List.append_assoc]; exact hown2, hbel2, Hu⟩
      case measure => simp [intOf]; omega

/-- 'Put(b, n)'. -/
theorem put_c (v : Value) (l : List UInt8) (n : Int) (w : World) (hv : RB w v l) (h0 : -9223372036854775808 ≤ n) (h1 : n ≤ 9223372036854775807) (hl : l.length + 10 ≤ 140737488355328) :
    Calls Tryz.prog 52 #[v, .int .i64 n] w fun e w' => ∃ v', e = .returned v' ∧ Own 5 w' w.heap.size v' (l ++ uvarint (zigzag n)) ∧ Below w.heap.size w w' := by
  go_enter Tryz.func52, Tryz.ntmps52
  go_wp2_with fail
  refine (copy_c v l 10 w hv (by omega) (by omega)).mono ?_
  rintro e w1 ⟨v1, rfl, hown1, hb1⟩
  go_wp2_with fail
  refine (add_c w.heap.size v1 l n w1 hown1 hb1.size h0 h1 hl).mono ?_
  rintro e w2 ⟨v2, rfl, hown2, hb2⟩
  go_wp2_with fail
  go_ret
  exact ⟨_, rfl, hown2, hb1.trans hb2⟩

/-- 'PutText(b, s)'. -/
theorem putText_c (v : Value) (l : List UInt8) (q : ByteArray) (w : World) (hv : RB w v l) (hl : l.length + q.size + 10 ≤ 140737488355328) :
    Calls Tryz.prog 88 #[v, .string q] w fun e w' => ∃ v', e = .returned v' ∧ Own 5 w' w.heap.size v' (l ++ putT q.data.toList) ∧ Below w.heap.size w w' := by
  have e1 : IntKind.i64.wrap (10 + (q.size : Int)) = 10 + (q.size : Int) := IntWalk.i64_in _ (by omega)
  have hq : (q.data.toList.length : Int) = q.size := by rw [← Go.Lib.size_eq]
  have Hq := Go.Lib.hid hq; clear hq
  go_enter Tryz.func88, Tryz.ntmps88
  go_wp2_with fail
  refine (copy_c v l (10 + (q.size : Int)) w hv (by omega) (by omega)).mono ?_
  rintro e w1 ⟨v1, rfl, hown1, hb1⟩
  go_wp2_with fail
  refine (add_c w.heap.size v1 l (q.size : Int) w1 hown1 hb1.size (by omega) (by omega) (by omega)).mono ?_
  rintro e w2 ⟨v2, rfl, hown2, hb2⟩
  have hzl := Go.Lib.uvarint_length64 (Go.Lib.zigzag_lt (x := (q.size : Int)) (by omega) (by omega))
  have Hzl := Go.Lib.hid hzl; clear hzl
  have hb12 := hb1.trans hb2
  clear hb1 hb2
  go_wp2_with (at_builtin; go_loud (refine wpList_append_str rfl (.tmp 14) (.tmp 15) 45 9 rfl w.heap.size 5 Tryz.underlying45 Tryz.underlying9 info8 v2 (l ++ uvarint (zigzag (q.size : Int))) q rfl rfl hown2 (by have := Hzl.out; simp; omega) hb12.size ?_); intro v3 w3 hown3 hg3)
  go_ret
  refine ⟨_, rfl, ?_, hb12.grown hg3 hb12.size hown2.row⟩
  unfold putT
  rw [Hq.out, ← List.append_assoc]
  exact hown3

end Go.Proofs.YtnalokjnbccjnaaGreatDoor

namespace Go.Proofs.YtnalokjnbccjnaaGreatDoor
open Go.RowKit
open Go.Lib (uvarint zigzag)

/-- What Get answers, as values. -/
def gv (r : Int × Nat × Int) : Value := .tuple #[.int .i64 r.1, .int .i64 (r.2.1 : Int), .int .i64 r.2.2]

theorem getS_step (l : List UInt8) (k u : Nat) (h : k < l.length) : getS (l.drop k) k u =
    if k = 9 ∧ 1 < l[k].toNat then (0, 0, 1)
    else if 128 ≤ l[k].toNat then getS (l.drop (k + 1)) (k + 1) (u + l[k].toNat % 128 * 128 ^ k)
    else if l[k].toNat = 0 ∧ 0 < k then (0, 0, 1)
    else (unzig (u + l[k].toNat * 128 ^ k), k + 1, 0) := by
  rw [List.drop_eq_getElem_cons h, getS]

set_option maxRecDepth 100000 in
theorem gather (acc c k : Nat) (hk : k ≤ 9) (hc : c < 256) (hacc : acc < 128 ^ k) (hck : k = 9 → c % 128 ≤ 1) :
    bits BinOp.or IntKind.u64 (acc : Int) (IntKind.u64.wrap (IntKind.u64.wrap (bits BinOp.and IntKind.u8 (c : Int) 127) * 2 ^ (7 * k))) = ((acc + c % 128 * 128 ^ k : Nat) : Int) ∧ acc + c % 128 * 128 ^ k < 18446744073709551616 := by
  have hp : (2 : Nat) ^ (7 * k) = 128 ^ k := by rw [Nat.pow_mul]
  have hlt : c % 128 * 128 ^ k + 128 ^ k ≤ 18446744073709551616 := by
    clear hp
    by_cases h9 : k = 9
    · have := hck h9
      subst h9
      have h99 : (128 : Nat) ^ 9 = 9223372036854775808 := by decide
      rw [h99]
      clear hacc hck hk
      omega
    · have h8 : 128 ^ k ≤ 128 ^ 8 := Nat.pow_le_pow_right (by omega) (by omega)
      have : c % 128 * 128 ^ k ≤ 127 * 128 ^ k := Nat.mul_le_mul_right _ (by omega)
      omega
  have e1 : IntKind.u64.wrap (bits BinOp.and IntKind.u8 (c : Int) 127) = ((c % 128 : Nat) : Int) := by
    rw [u8_and127 _ (by omega) (by omega), IntKind.wrap_u64]; omega
  have e2 : ((c % 128 : Nat) : Int) * 2 ^ (7 * k) = ((c % 128 * 128 ^ k : Nat) : Int) := by
    rw [← hp]; simp
  have e3 : IntKind.u64.wrap ((c % 128 * 128 ^ k : Nat) : Int) = ((c % 128 * 128 ^ k : Nat) : Int) := by
    rw [IntKind.wrap_u64]
    have hpos : 0 < 128 ^ k := Nat.pow_pos (by omega)
    omega
  have hpos : 0 < 128 ^ k := Nat.pow_pos (by omega)
  rw [e1, e2, e3]
  refine ⟨?_, by omega⟩
  have hmod : ((c % 128 * 128 ^ k : Nat) : Int) % 2 ^ (7 * k) = 0 := by
    have : (c % 128 * 128 ^ k) % 2 ^ (7 * k) = 0 := by rw [hp]; exact Nat.mul_mod_left _ _
    exact_mod_cast this
  have hlow : ((acc : Nat) : Int) < 2 ^ (7 * k) := by
    have : acc < 2 ^ (7 * k) := by rw [hp]; exact hacc
    exact_mod_cast this
  rw [bits_join_low .u64 64 (by decide) wraps_u64 (7 * k) _ _ (by omega) hlow (by omega) (by omega) hmod (by omega)]
  simp

theorem gather_next (acc c k : Nat) (hacc : acc < 128 ^ k) : acc + c % 128 * 128 ^ k < 128 ^ (k + 1) := by
  rw [Nat.pow_succ]
  have : c % 128 * 128 ^ k ≤ 127 * 128 ^ k := Nat.mul_le_mul_right _ (by omega)
  omega

theorem gather2 (acc c k W : Nat) (hW : W = 128 ^ k) (hk : k ≤ 9) (hc : c < 256) (hacc : acc < 128 ^ k) (hck : k = 9 → c % 128 ≤ 1) :
    IntKind.u64.wrap ((acc : Int) + IntKind.u64.wrap ((c : Int) % 128 * (W : Int))) = ((acc + c % 128 * 128 ^ k : Nat) : Int) ∧ acc + c % 128 * 128 ^ k < 18446744073709551616 := by
  have h := (gather acc c k hk hc hacc hck).2
  have e2 : (c : Int) % 128 * (W : Int) = ((c % 128 * 128 ^ k : Nat) : Int) := by
    rw [hW]; simp
  refine ⟨?_, h⟩
  have hpos : 0 < 128 ^ k := Nat.pow_pos (by omega)
  rw [e2]
  generalize c % 128 * 128 ^ k = q at h ⊢
  rw [IntKind.wrap_u64, IntKind.wrap_u64]
  omega

theorem nextW (k W : Nat) (hW : W = 128 ^ k) (hk : k < 9) : IntKind.u64.wrap ((W : Int) * 128) = ((W * 128 : Nat) : Int) ∧ W * 128 < 18446744073709551616 ∧ W * 128 = 128 ^ (k + 1) := by
  have h8 : 128 ^ k ≤ 128 ^ 8 := Nat.pow_le_pow_right (by omega) (by omega)
  rw [← hW] at h8
  have h88 : (128 : Nat) ^ 8 = 72057594037927936 := by decide
  rw [h88] at h8
  refine ⟨?_, by omega, by rw [hW, Nat.pow_succ]⟩
  rw [IntKind.wrap_u64]
  omega

theorem ret_gv {e : Ending} {r s : Int × Nat × Int} (he : e = .returned (gv r)) (h : r = s) : e = .returned (gv s) := by rw [he, h]

set_option maxRecDepth 100000 in
theorem get_c (v : Value) (l : List UInt8) (w : World) (hv : RB w v l) :
    Calls Tryz.prog 92 #[v] w fun e w' => e = .returned (gv (getB l)) ∧ w = w' := by
  obtain ⟨a, cap, rfl, h1, h2, h3, h4⟩ := hv
  have hm : l.length ≤ 9223372036854775807 := by unfold maxLen at h2; omega
  have H4 := Go.Lib.hid h4; clear h4
  clear h3
  go_enter Tryz.func92, Tryz.ntmps92
  go_wp2_with fail
  go_loop [5, 10] (fun u i => ∃ k acc : Nat, k ≤ l.length ∧ k ≤ 9 ∧ i = .int .i64 (k : Int) ∧ u = .int .u64 (acc : Int) ∧ acc < 18446744073709551616 ∧ Hid (acc < 128 ^ k) ∧ Hid (getB l = getS (l.drop k) k acc)) (fun _ i => l.length - (intOf i).toNat)
  case atStart => exact ⟨0, 0, by omega, by omega, rfl, rfl, by omega, by simp [Hid], rfl⟩
  case round =>
    obtain ⟨k, acc, hk, hk9, rfl, rfl, hacc, hpow, hg⟩ := hrel
    by_cases hlt : k < l.length
    · obtain ⟨b, o, rfl, hc⟩ := H4.out (by intro e; subst e; simp at hlt)
      have hck := hc k hlt
      clear hc
      have hst := getS_step l k acc hlt
      obtain ⟨c, Hc⟩ : ∃ c, c = l[k] := ⟨_, rfl⟩
      have hc256 : c.toNat < 256 := c.toNat_lt
      rw [← Hc] at hck hst
      have Hst := Go.Lib.hid hst; clear hst
      have HC := Go.Lib.hid Hc; clear Hc
      by_cases hb9 : k = 9 ∧ 1 < c.toNat
      · have h9 : ((k : Int) == 9) = true := by simp; omega
        have hc1 : (1 : Int) < (c.toNat : Int) := by omega
        have Hb9 := Go.Lib.hid hb9; clear hb9
        go_wp2
        go_ret3
        exact ⟨ret_gv (r := (0, 0, 1)) rfl (by rw [hg.out, Hst.out, if_pos Hb9.out]), rfl⟩
      · obtain ⟨A, HA⟩ : ∃ A, A = acc + c.toNat % 128 * 128 ^ k := ⟨_, rfl⟩
        have hu0 := gather acc c.toNat k hk9 hc256 hpow.out (by intro h; omega)
        rw [← HA] at hu0
        obtain ⟨hu, hA⟩ := hu0
        have hnx := gather_next acc c.toNat k hpow.out
        rw [← HA] at hnx
        have Hnx := Go.Lib.hid hnx; clear hnx
        have HA' := Go.Lib.hid HA; clear HA
        have Hb9 := Go.Lib.hid hb9
        have hq9 : ¬ ((k : Int) = 9 ∧ (1 : Int) < (c.toNat : Int)) := by omega
        clear hb9
        by_cases h128 : 128 ≤ c.toNat
        · have hk9' : k < 9 := by omega
          have h9 : ((k : Int) == 9) = false := by simp; omega
          go_wp2
          go_round
          case rel => exact ⟨k + 1, A, by omega, by omega, by go_num, rfl, hA, Hnx, by rw [Hid, hg.out, Hst.out, if_neg Hb9.out, if_pos h128, HA'.out]⟩
          case measure => simp [intOf]; omega
        · by_cases h0 : c.toNat = 0 ∧ 0 < k
          · have H0 := Go.Lib.hid h0
            have hc0 : ((c.toNat : Int) == 0) = true := by simp; omega
            have hkp : 0 < k := h0.2
            have hc1 : ¬ (1 : Int) < (c.toNat : Int) := by omega
            have hd : decide ((1 : Int) < (c.toNat : Int)) = false := by simp; omega
            clear h0
            by_cases h9 : ((k : Int) == 9) = true
            all_goals
              go_wp2
              go_ret3
              exact ⟨ret_gv (r := (0, 0, 1)) rfl (by rw [hg.out, Hst.out, if_neg Hb9.out, if_neg h128, if_pos H0.out]), rfl⟩
          · have H0 := Go.Lib.hid h0
            have hfin : getB l = (unzig A, k + 1, 0) := by
              rw [hg.out, Hst.out, if_neg Hb9.out, if_neg h128, if_neg h0, HA'.out, Nat.mod_eq_of_lt (by omega)]
            have Hfin := Go.Lib.hid hfin
            clear h0 hfin
            by_cases hk9' : k = 9
            · have h9 : ((k : Int) == 9) = true := by simp; omega
              have hd : decide ((1 : Int) < (c.toNat : Int)) = false := by simp; omega
              have hc0 : ((c.toNat : Int) == 0) = false := by have := H0.out; simp; omega
              have Hk9 := Go.Lib.hid hk9'; clear hk9'
              go_wp2_with (go_at_call 117; refine (signed_c A _ hA).mono ?_; rintro e w1 ⟨rfl, rfl⟩)
              go_ret3
              exact ⟨ret_gv (r := (unzig A, k + 1, 0)) rfl Hfin.out.symm, rfl⟩
            · have h9 : ((k : Int) == 9) = false := by simp; omega
              by_cases hc0 : ((c.toNat : Int) == 0) = true
              · have hkp : ¬ (0 : Int) < (k : Int) := by have := H0.out; simp at hc0; omega
                have hd : decide ((0 : Int) < (k : Int)) = false := by simp; omega
                go_wp2_with (go_at_call 117; refine (signed_c A _ hA).mono ?_; rintro e w1 ⟨rfl, rfl⟩)
                go_ret3
                exact ⟨ret_gv (r := (unzig A, k + 1, 0)) rfl Hfin.out.symm, rfl⟩
              · have hc0' : ((c.toNat : Int) == 0) = false := by simpa using hc0
                clear hc0
                go_wp2_with (go_at_call 117; refine (signed_c A _ hA).mono ?_; rintro e w1 ⟨rfl, rfl⟩)
                go_ret3
                exact ⟨ret_gv (r := (unzig A, k + 1, 0)) rfl Hfin.out.symm, rfl⟩
    · go_wp2
      go_ret3
      exact ⟨ret_gv (r := (0, 0, 2)) rfl (by rw [hg.out, List.drop_of_length_le (by omega), getS]), rfl⟩

end Go.Proofs.YtnalokjnbccjnaaGreatDoor

namespace Go.Proofs.YtnalokjnbccjnaaGreatDoor
open Go.RowKit
open Go.Lib (uvarint zigzag)

/-- What GetText answers, as values. -/
def tv (r : List UInt8 × Nat × Int) : Value := .tuple #[.string (str r.1), .int .i64 (r.2.1 : Int), .int .i64 r.2.2]

theorem ret_tv {e : Ending} {r s : List UInt8 × Nat × Int} (he : e = .returned (tv r)) (h : r = s) : e = .returned (tv s) := by rw [he, h]

theorem getText_c (v : Value) (l : List UInt8) (w : World) (hv : RB w v l) :
    Calls Tryz.prog 136 #[v] w fun e w' => e = .returned (tv (textB l)) ∧ w = w' := by
  have hrb := hv
  obtain ⟨a, cap, rfl, h1, h2, h3, h4⟩ := hv
  have hm : l.length ≤ 9223372036854775807 := by unfold maxLen at h2; omega
  clear h4 h3
  have hget := get_c (.slice a l.length cap) l w hrb
  have hfit := getB_fits l
  have htx : textB l = textB l := rfl
  conv at htx => rhs; unfold textB
  rcases hr : getB l with ⟨n, k, er⟩
  rw [hr] at hget hfit htx
  simp only [] at hfit htx
  obtain ⟨f1, f2, f3, f4, f5, f6⟩ := hfit
  have Hget := Go.Lib.hid hget; clear hget
  have Hr := Go.Lib.hid hr; clear hr
  have Htx := Go.Lib.hid htx; clear htx
  by_cases her : er = 0
  · subst her
    by_cases hn : n < 0 ∨ 65536 < n
    · have htx := Htx.out
      rw [if_neg (by simp), if_pos hn] at htx
      have Ht := Go.Lib.hid htx; clear htx
      by_cases hn0 : n < 0
      all_goals
        go_enter Tryz.func136, Tryz.ntmps136
        go_wp2_with (go_at_call 92; refine Hget.out.mono ?_; rintro e w1 ⟨rfl, rfl⟩; unfold gv)
        go_ret3
        exact ⟨ret_tv (r := ([], 0, 1)) rfl Ht.out.symm, rfl⟩
    · by_cases hlen : l.length < k + n.toNat
      · have htx := Htx.out
        rw [if_neg (by simp), if_neg hn, if_pos hlen] at htx
        have Ht := Go.Lib.hid htx; clear htx
        go_enter Tryz.func136, Tryz.ntmps136
        go_wp2_with (go_at_call 92; refine Hget.out.mono ?_; rintro e w1 ⟨rfl, rfl⟩; unfold gv)
        go_ret3
        exact ⟨ret_tv (r := ([], 0, 2)) rfl Ht.out.symm, rfl⟩
      · obtain ⟨m, rfl⟩ : ∃ m : Nat, n = (m : Int) := ⟨n.toNat, by omega⟩
        have htx := Htx.out
        rw [if_neg (by simp), if_neg hn, if_neg hlen, Int.toNat_natCast] at htx
        have ht2 : textB l = ((l.take (k + m)).drop k, k + m, 0) := by rw [htx, List.drop_take, show k + m - k = m from by omega]
        have Ht := Go.Lib.hid ht2; clear htx ht2
        rw [Int.toNat_natCast] at hlen
        go_enter Tryz.func136, Tryz.ntmps136
        go_wp2_with (first
          | (go_at_call 92; refine Hget.out.mono ?_; rintro e w1 ⟨rfl, rfl⟩; unfold gv)
          | (with_reducible show wpList _ _ _ (⟨some 34, _, _, _, _, _⟩ :: _) _ _; go_loud (refine wpList_slice_lh rfl (.tmp 31) (.tmp 32) (.tmp 33) 45 rfl 5 Tryz.underlying45 info8 (.slice a l.length cap) l .i64 .i64 _ _ k (k + m) rfl rfl rfl rfl (by omega) hrb (by omega) (by omega) ?_); intro v2 hv2)
          | (with_reducible show wpList _ _ _ (⟨some 35, _, _, _, _, _⟩ :: _) _ _; go_loud (refine wpList_string_RB rfl (.tmp 34) 45 9 rfl 5 Tryz.underlying45 Tryz.underlying5 Tryz.underlying9 v2 _ rfl hv2 ?_)))
        go_ret3
        exact ⟨ret_tv (r := ((l.take (k + m)).drop k, k + m, 0)) rfl Ht.out.symm, rfl⟩
  · have htx := Htx.out
    rw [if_pos her] at htx
    have Ht := Go.Lib.hid htx; clear htx
    go_enter Tryz.func136, Tryz.ntmps136
    go_wp2_with (go_at_call 92; refine Hget.out.mono ?_; rintro e w1 ⟨rfl, rfl⟩; unfold gv)
    go_ret3
    exact ⟨ret_tv (r := ([], 0, er)) rfl Ht.out.symm, rfl⟩

end Go.Proofs.YtnalokjnbccjnaaGreatDoor

namespace Go.Proofs.YtnalokjnbccjnaaGreatDoor
open Go.RowKit Go.Joins Go.ChangeShapes Go.WideShapes Go.Deep

/-- Name, Len, Span.At, Span.Len. -/
abbrev EntT := ByteArray × Int × Int × Int
def EntOk (x : EntT) : Prop := x.1.size ≤ maxLen ∧ (Lit.int .i64 x.2.1).wf = true ∧ (Lit.int .i64 x.2.2.1).wf = true ∧ (Lit.int .i64 x.2.2.2).wf = true
/-- An entry as the program holds it. -/
def entV (nm : ByteArray) (n a s : Int) : Value := .agg #[.string nm, .int .i64 n, .int .i64 a, .int .i64 s]
def entO (nm : ByteArray) (n a s : Int) : Obj := .cells #[.string nm, .int .i64 n, .int .i64 a, .int .i64 s] 98

set_option maxRecDepth 100000 in
/-- What four cells hold. -/
theorem ent_cells {H : Type} {enc : TypeId × Value → H} {W : World} {fuel : Nat} {c0 c1 c2 c3 : Value} {x : DataW H × List MemPlace} (h : DataW.trod enc Tryz.prog W 0 (fun _ => true) true fuel 98 [c0, c1, c2, c3] = some x) :
    ∃ nm n a s, c0 = .string nm ∧ c1 = .int .i64 n ∧ c2 = .int .i64 a ∧ c3 = .int .i64 s ∧ EntOk (nm, n, a, s) := by
  have g0 : Tryz.prog.cellsOf 3 = 1 := by kernel_rfl
  have g2 : Tryz.prog.cellsOf 9 = 1 := by kernel_rfl
  have g4 : Tryz.prog.cellsOf 96 = 2 := by kernel_rfl
  obtain ⟨y0, y1, y2, m, -, -, h0, h1, h2⟩ := trod_struct3 Tryz.underlying98 h
  simp only [g0, g2, g4, List.drop_zero, List.drop_succ_cons, List.take_succ_cons, List.take_zero] at h0 h1 h2
  obtain ⟨z0, z1, m', -, -, k0, k1⟩ := trod_struct2 Tryz.underlying96 h2
  simp only [g0, List.drop_zero, List.drop_succ_cons, List.take_succ_cons, List.take_zero] at k0 k1
  obtain ⟨nm, e0, -, w0⟩ := DataW.trod_string Tryz.underlying9 h0
  obtain ⟨n, e1, -, w1⟩ := DataW.trod_int Tryz.underlying3 h1
  obtain ⟨a, e2, -, w2⟩ := DataW.trod_int Tryz.underlying3 k0
  obtain ⟨s, e3, -, w3⟩ := DataW.trod_int Tryz.underlying3 k1
  simp only [List.cons.injEq, and_true] at e0 e1 e2 e3
  exact ⟨nm, n, a, s, e0, e1, e2, e3, w0, w1, w2, w3⟩

/-- v, a slice of entries, reads as l. -/
def RE (w : World) (v : Value) (l : List EntT) : Prop :=
  ∃ a cap, v = .slice a l.length cap ∧ l.length ≤ cap ∧ cap ≤ maxLen ∧ (a = none → cap = 0) ∧
    (l ≠ [] → ∃ b o, a = some ⟨b, o, none⟩ ∧ ∀ i (h : i < l.length), w.cell? ⟨b, o + i * 4, none⟩ = some (.string l[i].1) ∧ w.cell? ⟨b, o + i * 4 + 1, none⟩ = some (.int .i64 l[i].2.1) ∧ w.cell? ⟨b, o + i * 4 + 2, none⟩ = some (.int .i64 l[i].2.2.1) ∧ w.cell? ⟨b, o + i * 4 + 3, none⟩ = some (.int .i64 l[i].2.2.2))

theorem list_of_ent {α : Type} (n : Nat) (p : Nat → α → Prop) (h : ∀ i, i < n → ∃ x, p i x) : ∃ l : List α, l.length = n ∧ ∀ i (hi : i < l.length), p i l[i] := by
  induction n with
  | zero => exact ⟨[], rfl, fun i hi => absurd hi (by simp)⟩
  | succ n ih =>
    obtain ⟨l, hl, hp⟩ := ih fun i hi => h i (by omega)
    obtain ⟨x, hx⟩ := h n (by omega)
    refine ⟨l ++ [x], by simp [hl], fun i hi => ?_⟩
    by_cases hin : i < l.length
    · rw [List.getElem_append_left hin]; exact hp i hin
    · obtain rfl : i = n := by simp at hi; omega
      simpa [hl] using hx

/-- An argument. -/
def REnt (w : World) (v : Value) (l : List EntT) : Prop := RE w v l ∧ ∀ x ∈ l, EntOk x

set_option maxRecDepth 100000 in
theorem open_ents {H : Type} {enc : TypeId × Value → H} {W : World} {a : Option Addr} {len cap : Nat} {d : DataW H} {p : List MemPlace} (h : DataW.Trod enc Tryz.prog W 0 (fun _ => true) true 71 (.slice a len cap) d p) :
    ∃ l, REnt W (.slice a len cap) l := by
  obtain ⟨fuel, hf⟩ := h
  rcases open_slice Tryz.underlying71 hf with ⟨hcs, -⟩ | ⟨x, l, c, m, n, D, Pl, hcs, hb, hl, hm, hmm, -, hi⟩
  · simp [Value.cells] at hcs
    obtain ⟨rfl, rfl, rfl⟩ := hcs
    exact ⟨[], ⟨none, 0, rfl, Nat.le_refl _, by simp [maxLen], fun _ => rfl, fun h => absurd rfl h⟩, fun x hx => by cases hx⟩
  · simp [Value.cells] at hcs
    obtain ⟨rfl, rfl, rfl⟩ := hcs
    have hC : Tryz.prog.cellsOf 98 = 4 := by kernel_rfl
    simp only [if_true] at hmm
    subst hmm
    have key : ∀ i, i < len → ∃ y : EntT, EntOk y ∧ W.cell? (x.add (i * 4)) = some (.string y.1) ∧ W.cell? ((x.add (i * 4)).add 1) = some (.int .i64 y.2.1) ∧ W.cell? ((x.add (i * 4)).add 2) = some (.int .i64 y.2.2.1) ∧ W.cell? ((x.add (i * 4)).add 3) = some (.int .i64 y.2.2.2) := by
      intro i hil
      obtain ⟨cs', hc, ht⟩ := hi i (by omega)
      rw [hC] at hc
      obtain ⟨-, hcl, hat⟩ := World.cells?_some hc
      obtain ⟨c0, c1, c2, c3, rfl⟩ : ∃ c0 c1 c2 c3, cs' = [c0, c1, c2, c3] := by
        match cs', hcl with
        | [c0, c1, c2, c3], _ => exact ⟨c0, c1, c2, c3, rfl⟩
      obtain ⟨nm, n, a, s, rfl, rfl, rfl, rfl, ok⟩ := ent_cells ht
      have hz : (x.add (i * 4)).add 0 = x.add (i * 4) := by generalize x.add (i * 4) = y; unfold Addr.add; simp
      have t0 := hat 0 (by omega)
      rw [hz] at t0
      exact ⟨(nm, n, a, s), ok, t0, hat 1 (by omega), hat 2 (by omega), hat 3 (by omega)⟩
    obtain ⟨L, hL, hp⟩ := list_of_ent len _ key
    subst hL
    refine ⟨L, ⟨some x, _, rfl, hl, hm, (fun h => by cases h), ?_⟩, ?_⟩
    · intro hne
      obtain ⟨b, o, spot⟩ := x
      have h0 := (hp 0 (List.length_pos_iff.2 hne)).2.1
      have hspot : spot = none := by simpa [Addr.add] using World.cell?_spot h0
      subst hspot
      have hadd (j k : Nat) : (⟨b, j, none⟩ : Addr).add k = ⟨b, j + k, none⟩ := by unfold Addr.add; split <;> simp_all
      refine ⟨b, o, rfl, fun i hi' => ?_⟩
      have := (hp i hi').2
      rw [hadd, hadd, hadd, hadd] at this
      exact this
    · intro y hy
      obtain ⟨i, hi', rfl⟩ := List.mem_iff_getElem.1 hy
      exact (hp i hi').1

section
variable {w w' : World} {v : Value} {l : List EntT}
theorem RE.form (h : RE w v l) : ∃ a cap, v = .slice a l.length cap ∧ l.length ≤ 9223372036854775807 := by
  obtain ⟨a, cap, hv, h1, h2, -⟩ := h
  exact ⟨a, cap, hv, by unfold maxLen at h2; omega⟩
theorem RE.at {a : Option Addr} {n cap : Nat} (h : RE w (.slice a n cap) l) (i : Nat) (hi : i < l.length) :
    ∃ b o, a = some ⟨b, o, none⟩ ∧ n = l.length ∧ b < w.heap.size ∧ w.cell? ⟨b, o + i * 4, none⟩ = some (.string l[i].1) ∧ w.cell? ⟨b, o + i * 4 + 1, none⟩ = some (.int .i64 l[i].2.1) ∧ w.cell? ⟨b, o + i * 4 + 2, none⟩ = some (.int .i64 l[i].2.2.1) ∧ w.cell? ⟨b, o + i * 4 + 3, none⟩ = some (.int .i64 l[i].2.2.2) := by
  obtain ⟨a', cap', hv, h1, h2, h3, h5⟩ := h
  simp only [Value.slice.injEq] at hv
  obtain ⟨rfl, rfl, rfl⟩ := hv
  obtain ⟨b, o, ha, hc⟩ := h5 (by intro e; subst e; simp at hi)
  obtain ⟨c0, c1, c2, c3⟩ := hc i hi
  exact ⟨b, o, ha, rfl, World.block_lt_of_cell? w _ c0, c0, c1, c2, c3⟩
theorem keptC {p : Addr} {c : Value} (h : w.cell? p = some c) (hb : Below w.heap.size w w') : w'.cell? p = some c :=
  (hb.cell (World.block_lt_of_cell? w _ h)).trans h
theorem RE.below (h : RE w v l) (hb : Below w.heap.size w w') : RE w' v l := by
  obtain ⟨a, cap, hv, h1, h2, h3, h5⟩ := h
  refine ⟨a, cap, hv, h1, h2, h3, fun hl => ?_⟩
  obtain ⟨b, o, ha, hc⟩ := h5 hl
  exact ⟨b, o, ha, fun i hi => ⟨keptC (hc i hi).1 hb, keptC (hc i hi).2.1 hb, keptC (hc i hi).2.2.1 hb, keptC (hc i hi).2.2.2 hb⟩⟩
theorem RE.nil (w : World) : RE w (.slice none 0 0) [] := ⟨none, 0, rfl, Nat.le_refl _, by simp [maxLen], fun _ => rfl, fun h => absurd rfl h⟩
theorem REnt.below (h : REnt w v l) (hb : Below w.heap.size w w') : REnt w' v l := ⟨h.1.below hb, h.2⟩
end

def ec (x : EntT) : List Value := [.string x.1, .int .i64 x.2.1, .int .i64 x.2.2.1, .int .i64 x.2.2.2]
def flatE (l : List EntT) : List Value := l.flatMap ec
/-- v, a slice that was made from block B on, holds l. -/
def OwnE (w : World) (B : Nat) (v : Value) (l : List EntT) : Prop := w.ownsRow B 98 4 v l.length (flatE l)
theorem flatE_at : ∀ (l : List EntT) (i j : Nat) (hi : i < l.length), j < 4 → (flatE l)[i * 4 + j]? = (ec l[i])[j]?
  | [], i, j, hi, _ => absurd hi (by simp)
  | x :: l, 0, j, hi, hj => by
    show (ec x ++ flatE l)[0 * 4 + j]? = (ec x)[j]?
    rw [Nat.zero_mul, Nat.zero_add, List.getElem?_append_left (by simpa [ec] using hj)]
  | x :: l, i + 1, j, hi, hj => by
    show (ec x ++ flatE l)[(i + 1) * 4 + j]? = _
    rw [List.getElem?_append_right (by simp [ec]; omega), show (i + 1) * 4 + j - (ec x).length = i * 4 + j from by simp [ec]; omega]
    exact flatE_at l i j (by simpa using hi) hj
theorem flatE_len (l : List EntT) : (flatE l).length = l.length * 4 := by
  induction l with
  | nil => rfl
  | cons x l ih =>
    show (ec x ++ flatE l).length = _
    rw [List.length_append, ih, List.length_cons]
    simp [ec]
    omega
theorem OwnE.nil (w : World) (B : Nat) : OwnE w B (.slice none 0 0) [] := World.ownsRow_nil w B _ 4
section
variable {w w' : World} {B : Nat} {v : Value} {l : List EntT}
theorem OwnE.below (h : OwnE w B v l) (hb : Below w.heap.size w w') : OwnE w' B v l := by
  refine ⟨h.1, ?_⟩
  rcases h.2 with h' | ⟨g, cap, cur, h1, hB, h2, h3⟩
  · exact .inl h'
  · exact .inr ⟨g, cap, cur, h1, hB, (hb.block g (Array.getElem?_eq_some_iff.1 h2).1).trans h2, h3⟩
theorem OwnE.mono {B' : Nat} (h : OwnE w B v l) (hB : B' ≤ B) : OwnE w B' v l := by
  refine ⟨h.1, ?_⟩
  rcases h.2 with h' | ⟨g, cap, cur, h1, hb, h2⟩
  · exact .inl h'
  · exact .inr ⟨g, cap, cur, h1, Nat.le_trans hB hb, h2⟩
theorem OwnE.row (h : OwnE w B v l) : ∀ k, v.ownBlock = some k → B ≤ k := fun k hk => (World.ownsRow.lt h k hk).1
/-- Another block is written to. -/
theorem OwnE.same (h : OwnE w B v l) (hk : ∀ k cs fr, w.heap[k]? = some (.cells cs 98 fr) → B ≤ k → w'.heap[k]? = w.heap[k]?) : OwnE w' B v l := by
  refine ⟨h.1, ?_⟩
  rcases h.2 with h' | ⟨g, cap, cur, h1, hB, h2, h3⟩
  · exact .inl h'
  · exact .inr ⟨g, cap, cur, h1, hB, (hk g _ _ h2 hB).trans h2, h3⟩
theorem OwnE.re (h : OwnE w B v l) : RE w v l := by
  rcases h.2 with ⟨h', hn⟩ | ⟨g, cap, cur, rfl, hB, h2, h3, h4, -⟩
  · obtain rfl : l = [] := List.eq_nil_of_length_eq_zero hn
    rw [h']
    exact RE.nil w
  · refine ⟨_, cap, rfl, h3, h4, (fun h => by cases h), fun hl => ⟨g, 0, rfl, fun i hi => ?_⟩⟩
    have c := fun j (hj : j < 4) => (World.ownsRow.cellAt h (i * 4 + j) (by omega)).trans (flatE_at l i j hi hj)
    simp only [Nat.zero_add]
    exact ⟨c 0 (by omega), c 1 (by omega), c 2 (by omega), c 3 (by omega)⟩
end

theorem infoE : (Tryz.prog.info? 98).map (fun i => (i.zero, i.size, i.bytes)) = some (some (.agg #[.string ⟨#[]⟩, .int .i64 0, .int .i64 0, .int .i64 0]), 4, 40) := by kernel_rfl

/-- 'l[j]', in whatever world. -/
theorem run_idxE (b o n cap j : Nat) (h : j < n) (W : World) : (Instr.indexAt 71 (.slice (some ⟨b, o, none⟩) n cap) (.int .i64 (j : Int))).run Tryz.prog W = .ok (.pointer (some ⟨b, o + j * 4, none⟩)) W := by
  obtain ⟨i, hi, -, hsize, -⟩ := info_parts infoE
  have he : Tryz.prog.elem 71 = 98 := by kernel_rfl
  have hs : (sizeOf 98).run Tryz.prog W = .ok 4 W := by simp [sizeOf, typeInfo, hi, hsize]
  have hadd : (⟨b, o, none⟩ : Addr).add (j * 4) = ⟨b, o + j * 4, none⟩ := by unfold Addr.add; split <;> simp_all
  rw [run_indexAt_slice W _ _ _ _ _ _ (by rw [he]; exact Tryz.underlying71), if_pos ⟨by omega, by omega⟩, he, hs]
  simp [Result.andThen, hadd]

/-- 'append(s, l...)', s the call's own. -/
theorem wpList_append_ents {ops : Array Oper} {rest : List Oper} {o : Oper} {a : Act} {w : World} {Q : Exit → Act → World → Prop} (hgd : o.guard = none) (s x : Operand)
    (ho : o.op = .call { callee := .builtin .append, args := #[s, x], argTypes := #[71, 71] })
    (B : Nat) (v xv : Value) (l m : List EntT) (hs : a.eval s = v) (hx : a.eval x = xv) (hown : OwnE w B v l) (hrb : RE w xv m) (hl : l.length + m.length ≤ 1000000) (hbase : B ≤ w.heap.size)
    (h : ∀ v' w', OwnE w' B v' (l ++ m) → w.grownBy w' v.ownBlock → wpList Tryz.prog ops Q rest (a.put o.dst v') w') : wpList Tryz.prog ops Q (o :: rest) a w := by
  obtain ⟨i, hi, hz, hsize, hby⟩ := info_parts infoE
  obtain ⟨ad, cap, rfl, h1, h2, h3, h4⟩ := hrb
  cases ad with
  | none =>
    obtain rfl := h3 rfl
    obtain rfl : m = [] := List.eq_nil_of_length_eq_zero (by omega)
    refine wpList_append_own_none hgd s x _ ho B 98 i 4 Tryz.underlying71 hi v l.length (flatE l) hs hown hx ?_
    exact h v w (by simpa using hown) (World.grownBy.refl _ _)
  | some ad =>
    refine wpList_append_own w hgd s x _ ho B 98 i _ 4 40 Tryz.underlying71 hi hz hsize hby rfl (by decide) v l.length (flatE l) hs hown ad m.length cap (flatE m) hx (by rw [flatE_len]) ?_ ?_ (by unfold maxLen; omega) (by omega) hbase ?_
    · intro j u hj
      have hjm : j < m.length * 4 := by
        rw [← flatE_len]
        exact (List.getElem?_eq_some_iff.1 hj).1
      have hi4 : j / 4 < m.length := by omega
      obtain ⟨b, o', hao, hc⟩ := h4 (by intro hm; subst hm; simp at hi4)
      cases hao
      have hadd : (⟨b, o', none⟩ : Addr).add j = ⟨b, o' + j, none⟩ := by unfold Addr.add; split <;> simp_all
      rw [hadd]
      obtain ⟨c0, c1, c2, c3⟩ := hc (j / 4) hi4
      have hr := flatE_at m (j / 4) (j % 4) hi4 (by omega)
      rw [show j / 4 * 4 + j % 4 = j from by omega, hj] at hr
      have h5 : j % 4 < 4 := by omega
      rw [show o' + j = o' + j / 4 * 4 + j % 4 from by omega]
      generalize j % 4 = r at *
      match r, h5 with
      | 0, _ => rw [Nat.add_zero, c0]; exact hr.symm
      | 1, _ => rw [c1]; exact hr.symm
      | 2, _ => rw [c2]; exact hr.symm
      | 3, _ => rw [c3]; exact hr.symm
      | r + 4, h5 => omega
    · intro u hu
      obtain ⟨x, -, hx⟩ := List.mem_flatMap.1 hu
      simp only [ec, List.mem_cons, List.not_mem_nil, or_false] at hx
      rcases hx with rfl | rfl | rfl | rfl <;> rfl
    · intro v' w' hown' hg _
      refine h v' w' ?_ hg
      unfold OwnE
      rw [List.length_append]
      unfold flatE at *
      rw [List.flatMap_append]
      exact hown'

/-- 'make([]dir.Entry, 0, n)'. -/
theorem wpList_make_ents {ops : Array Oper} {rest : List Oper} {o : Oper} {a : Act} {w : World} {Q : Exit → Act → World → Prop} (hgd : o.guard = none) (lo co : Operand)
    (hop : o.op = Op.makeSlice 71 lo co) (kc : IntKind) (C : Int) (c : Nat) (hl : a.eval lo = .int .i64 0) (hc : a.eval co = .int kc C) (hC : C = (c : Int)) (hcm : c ≤ 1000)
    (h : ∀ v w', OwnE w' w.heap.size v [] → w.grownBy w' none → wpList Tryz.prog ops Q rest (a.put o.dst v) w') : wpList Tryz.prog ops Q (o :: rest) a w := by
  obtain ⟨i, hi, hz, hsize, hby⟩ := info_parts infoE
  subst hC
  have hr := run_make (P := Tryz.prog) w 71 98 i _ Tryz.underlying71 hi hz .i64 kc 0 c (by omega) (by omega) (by rw [hby]; omega) (by omega)
  simp only [Int.toNat_natCast, hsize] at hr
  refine wpList_gives hgd (.slice (some ⟨w.heap.size, 0, none⟩) 0 c) (w.alloc (.cells (madeCells (Value.agg #[.string ⟨#[]⟩, .int .i64 0, .int .i64 0, .int .i64 0]).cells (c * 4)) 98)) (by simp at hr; simp [execOp, hop, hl, hc, hr, Result.andThen]) (h _ _ ?_ (World.grownBy_alloc w _ none))
  refine ⟨rfl, .inr ⟨w.heap.size, c, _, rfl, Nat.le_refl _, heap_alloc_new w _, by simp, by unfold maxLen; omega, ?_, ?_⟩⟩
  · simp [size_madeCells, Value.cells]
  · simp [flatE]

/-- One entry in a new block of its own. -/
theorem RE.one (w : World) (nm : ByteArray) (n a s : Int) : RE (w.alloc (entO nm n a s)) (.slice (some ⟨w.heap.size, 0, none⟩) 1 1) [(nm, n, a, s)] := by
  refine ⟨some ⟨w.heap.size, 0, none⟩, 1, rfl, Nat.le_refl _, by simp [maxLen], (fun h => by cases h), fun _ => ⟨w.heap.size, 0, rfl, fun i hi => ?_⟩⟩
  obtain rfl : i = 0 := by simpa using hi
  have c := fun j => cell_of_row _ w.heap.size j _ _ _ (heap_alloc_new w (entO nm n a s))
  exact ⟨c 0, c 1, c 2, c 3⟩

theorem newB (w : World) (o : Obj) : Below w.heap.size w (w.alloc o) := (Below.refl _ w).alloc (Nat.le_refl _) o
theorem keptR {w w' : World} {b : Nat} {o : Obj} (h : w.heap[b]? = some o) (hb : Below w.heap.size w w') : w'.heap[b]? = some o := (hb.block _ (Array.getElem?_eq_some_iff.1 h).1).trans h
theorem row4 {w : World} {b : Nat} {a0 a1 a2 a3 : Value} {t : TypeId} {fr : Nat × Nat} (h : w.heap[b]? = some (.cells #[a0, a1, a2, a3] t fr)) :
    w.cell? ⟨b, 0, none⟩ = some a0 ∧ w.cell? ⟨b, 1, none⟩ = some a1 ∧ w.cell? ⟨b, 2, none⟩ = some a2 ∧ w.cell? ⟨b, 3, none⟩ = some a3 := by
  have c := fun j => cell_of_row w b j _ _ _ h
  exact ⟨c 0, c 1, c 2, c 3⟩
theorem ltR {w : World} {b : Nat} {o : Obj} (h : w.heap[b]? = some o) : b < w.heap.size := (Array.getElem?_eq_some_iff.1 h).1

end Go.Proofs.YtnalokjnbccjnaaGreatDoor

namespace Go.Proofs.YtnalokjnbccjnaaGreatDoor

section
variable {R K : Type} [DecidableEq K] (key : R → K) (lt : K → K → Bool)

/-- The order of keys. -/
structure Ordered : Prop where
  irr : ∀ a, lt a a = false
  trans : ∀ a b c, lt a b = true → lt b c = true → lt a c = true
  tri : ∀ a b, lt a b = true ∨ a = b ∨ lt b a = true

def Rising (l : List R) : Prop := l.Pairwise fun a b => lt (key a) (key b) = true
def findK (l : List R) (k : K) : Option R := l.find? fun x => decide (key x = k)
/-- One record more: the walk of the reference. -/
def setGo (r : R) : List R → Bool → List R
  | [], done => if done then [] else [r]
  | x :: t, done => (if !done && !(lt (key x) (key r)) then [r] else []) ++ ((if key x = key r then [] else [x]) ++ setGo r t (done || (!done && !(lt (key x) (key r)))))
def newestK (l : List R) : List R := l.foldl (fun a r => setGo key lt r a false) []

variable {key lt}
theorem setGo_done (r : R) : ∀ l : List R, (∀ x ∈ l, key x ≠ key r) → setGo key lt r l true = l := by
  intro l
  induction l with
  | nil => intro _; rfl
  | cons x t ih =>
    intro h
    have hx := h x (List.mem_cons_self ..)
    simp [setGo, hx, ih fun y hy => h y (List.mem_cons_of_mem _ hy)]

/-- Of a row that rises: what lies below, the record, what lies above. -/
theorem setGo_mem (O : Ordered lt) (r : R) : ∀ l : List R, Rising key lt l → ∀ y, y ∈ setGo key lt r l false → y = r ∨ (y ∈ l ∧ key y ≠ key r) := by
  intro l
  induction l with
  | nil => intro _ y hy; simp [setGo] at hy; exact .inl hy
  | cons x t ih =>
    intro hl y hy
    have ht : Rising key lt t := (List.pairwise_cons.1 hl).2
    have hxt := (List.pairwise_cons.1 hl).1
    cases hb : lt (key x) (key r) with
    | true =>
      have hne : key x ≠ key r := fun e => by rw [e, O.irr] at hb; cases hb
      simp [setGo, hb, hne] at hy
      rcases hy with rfl | hy
      · exact .inr ⟨List.mem_cons_self .., hne⟩
      · rcases ih ht y hy with h | h
        · exact .inl h
        · exact .inr ⟨List.mem_cons_of_mem _ h.1, h.2⟩
    | false =>
      have hd : ∀ z ∈ t, key z ≠ key r := by
        intro z hz e
        have := hxt z hz
        rw [e, hb] at this
        cases this
      have e := setGo_done (lt := lt) r t hd
      by_cases hk : key x = key r
      · simp [setGo, hk, O.irr, e] at hy
        rcases hy with h | h
        · exact .inl h
        · exact .inr ⟨List.mem_cons_of_mem _ h, hd y h⟩
      · simp [setGo, hb, hk, e] at hy
        rcases hy with h | h | h
        · exact .inl h
        · subst h; exact .inr ⟨List.mem_cons_self .., hk⟩
        · exact .inr ⟨List.mem_cons_of_mem _ h, hd y h⟩

theorem setGo_rising (O : Ordered lt) (r : R) : ∀ l : List R, Rising key lt l → Rising key lt (setGo key lt r l false) := by
  intro l
  induction l with
  | nil => intro _; simp [setGo, Rising]
  | cons x t ih =>
    intro hl
    have ht : Rising key lt t := (List.pairwise_cons.1 hl).2
    have hxt := (List.pairwise_cons.1 hl).1
    cases hb : lt (key x) (key r) with
    | true =>
      have hne : key x ≠ key r := fun e => by rw [e, O.irr] at hb; cases hb
      have e : setGo key lt r (x :: t) false = x :: setGo key lt r t false := by simp [setGo, hb, hne]
      rw [e]
      refine List.pairwise_cons.2 ⟨fun y hy => ?_, ih ht⟩
      rcases setGo_mem O r t ht y hy with rfl | h
      · exact hb
      · exact hxt y h.1
    | false =>
      have hd : ∀ z ∈ t, key z ≠ key r := by
        intro z hz e
        have := hxt z hz
        rw [e, hb] at this
        cases this
      have e := setGo_done (lt := lt) r t hd
      by_cases hk : key x = key r
      · have e2 : setGo key lt r (x :: t) false = r :: t := by simp [setGo, hk, O.irr, e]
        rw [e2]
        exact List.pairwise_cons.2 ⟨fun y hy => by rw [← hk]; exact hxt y hy, ht⟩
      · have e2 : setGo key lt r (x :: t) false = r :: x :: t := by simp [setGo, hb, hk, e]
        rw [e2]
        have hrx : lt (key r) (key x) = true := by
          rcases O.tri (key x) (key r) with h | h | h
          · rw [h] at hb; cases hb
          · exact absurd h hk
          · exact h
        refine List.pairwise_cons.2 ⟨fun y hy => ?_, hl⟩
        rcases List.mem_cons.1 hy with rfl | h
        · exact hrx
        · exact O.trans _ _ _ hrx (hxt y h)

theorem setGo_find (O : Ordered lt) (r : R) (k : K) : ∀ l : List R, Rising key lt l → findK key (setGo key lt r l false) k = if key r = k then some r else findK key l k := by
  intro l
  induction l with
  | nil => intro _; by_cases h : key r = k <;> simp [setGo, findK, h]
  | cons x t ih =>
    intro hl
    have ht : Rising key lt t := (List.pairwise_cons.1 hl).2
    have hxt := (List.pairwise_cons.1 hl).1
    cases hb : lt (key x) (key r) with
    | true =>
      have hne : key x ≠ key r := fun e => by rw [e, O.irr] at hb; cases hb
      have e : setGo key lt r (x :: t) false = x :: setGo key lt r t false := by simp [setGo, hb, hne]
      rw [e]
      have := ih ht
      unfold findK at this ⊢
      rw [List.find?_cons, List.find?_cons]
      by_cases hx : key x = k
      · have hr : ¬ key r = k := fun h => hne (hx.trans h.symm)
        simp [hx, hr]
      · simp [hx, this]
    | false =>
      have hd : ∀ z ∈ t, key z ≠ key r := by
        intro z hz e
        have := hxt z hz
        rw [e, hb] at this
        cases this
      have e := setGo_done (lt := lt) r t hd
      by_cases hk : key x = key r
      · have e2 : setGo key lt r (x :: t) false = r :: t := by simp [setGo, hk, O.irr, e]
        rw [e2]
        unfold findK
        rw [List.find?_cons, List.find?_cons]
        by_cases hr : key r = k
        · simp [hr]
        · simp [hr, hk]
      · have e2 : setGo key lt r (x :: t) false = r :: x :: t := by simp [setGo, hb, hk, e]
        rw [e2]
        unfold findK
        rw [List.find?_cons]
        by_cases hr : key r = k <;> simp [hr]

theorem rising_ext (O : Ordered lt) : ∀ l m : List R, Rising key lt l → Rising key lt m → (∀ k, findK key l k = findK key m k) → l = m := by
  have hnone : ∀ l : List R, (∀ k, findK key l k = none) → l = [] := by
    intro l h
    cases l with
    | nil => rfl
    | cons x t => have := h (key x); simp [findK] at this
  have habove : ∀ (x : R) (t : List R) (k : K), (∀ a ∈ t, lt (key x) (key a) = true) → lt k (key x) = true ∨ k = key x → findK key t k = none := by
    intro x t k h hk
    unfold findK
    rw [List.find?_eq_none]
    intro a ha
    simp only [decide_eq_true_eq]
    intro e
    have h1 := h a ha
    rw [e] at h1
    rcases hk with h2 | h2
    · have := O.trans _ _ _ h2 h1
      rw [O.irr] at this; cases this
    · rw [h2, O.irr] at h1; cases h1
  intro l
  induction l with
  | nil => intro m _ _ h; exact (hnone m fun k => (h k).symm).symm
  | cons x t ih =>
    intro m hl hm h
    cases m with
    | nil => have := h (key x); simp [findK] at this
    | cons y u =>
      have hxt := (List.pairwise_cons.1 hl).1
      have hyu := (List.pairwise_cons.1 hm).1
      have hx := h (key x)
      have hy := h (key y)
      have hkk : key x = key y := by
        rcases O.tri (key x) (key y) with g | g | g
        · have hne : key y ≠ key x := fun e => by rw [e, O.irr] at g; cases g
          have := habove y u (key x) hyu (.inl g)
          unfold findK at hx this
          rw [List.find?_cons, List.find?_cons, this] at hx
          simp [hne] at hx
        · exact g
        · have hne : key x ≠ key y := fun e => by rw [e, O.irr] at g; cases g
          have := habove x t (key y) hxt (.inl g)
          unfold findK at hy this
          rw [List.find?_cons, List.find?_cons, this] at hy
          simp [hne] at hy
      have hxy : x = y := by
        unfold findK at hx
        rw [List.find?_cons, List.find?_cons] at hx
        simpa [hkk] using hx
      subst hxy
      refine congrArg (x :: ·) (ih u (List.pairwise_cons.1 hl).2 (List.pairwise_cons.1 hm).2 fun k => ?_)
      by_cases hk : key x = k
      · subst hk
        rw [habove x t _ hxt (.inr rfl), habove x u _ hyu (.inr rfl)]
      · have := h k
        unfold findK at this ⊢
        rw [List.find?_cons, List.find?_cons] at this
        simpa [hk] using this

theorem newestK_rising (O : Ordered lt) (l : List R) : Rising key lt (newestK key lt l) := by
  have : ∀ (l a : List R), Rising key lt a → Rising key lt (l.foldl (fun a r => setGo key lt r a false) a) := by
    intro l
    induction l with
    | nil => intro a h; exact h
    | cons r l ih => intro a h; exact ih _ (setGo_rising O r a h)
  exact this l [] List.Pairwise.nil
theorem newestK_find (O : Ordered lt) (l : List R) (k : K) : findK key (newestK key lt l) k = findK key l.reverse k := by
  have : ∀ (l a : List R), Rising key lt a → findK key (l.foldl (fun a r => setGo key lt r a false) a) k = findK key (l.reverse ++ a) k := by
    intro l
    induction l with
    | nil => intro a _; rfl
    | cons r l ih =>
      intro a h
      rw [List.foldl_cons, ih _ (setGo_rising O r a h), List.reverse_cons, List.append_assoc]
      have := setGo_find O r k a h
      unfold findK at this ⊢
      rw [List.find?_append, List.find?_append, this, List.singleton_append, List.find?_cons]
      by_cases hr : key r = k <;> simp [hr]
  have h := this l [] List.Pairwise.nil
  rw [List.append_nil] at h
  exact h
/-- What rises and has of each key the last one is the reference's answer. -/
theorem newestK_of (O : Ordered lt) (l n : List R) (hn : Rising key lt n) (h : ∀ k, findK key n k = findK key l.reverse k) : n = newestK key lt l :=
  rising_ext O n _ hn (newestK_rising O l) fun k => by rw [h, newestK_find O]
theorem rising_rev (O : Ordered lt) (l : List R) (hl : Rising key lt l) (k : K) : findK key l.reverse k = findK key l k := by
  induction l with
  | nil => rfl
  | cons x t ih =>
    have ht := ih (List.pairwise_cons.1 hl).2
    have hxt := (List.pairwise_cons.1 hl).1
    unfold findK at ht ⊢
    rw [List.reverse_cons, List.find?_append, ht, List.find?_cons]
    by_cases hx : key x = k
    · have : t.find? (fun x => decide (key x = k)) = none := by
        rw [List.find?_eq_none]
        intro a ha
        simp only [decide_eq_true_eq]
        intro e
        have := hxt a ha
        rw [e, hx, O.irr] at this
        cases this
      simp [this, hx]
    · simp [hx]
theorem newestK_twice (O : Ordered lt) (l : List R) : newestK key lt (newestK key lt l) = newestK key lt l :=
  (newestK_of O _ _ (newestK_rising O l) fun k => (rising_rev O _ (newestK_rising O l) k).symm).symm
end

end Go.Proofs.YtnalokjnbccjnaaGreatDoor

namespace Go.Proofs.YtnalokjnbccjnaaGreatDoor
open Go.Op

theorem less_irr : ∀ x, bytesLess x x = false
  | [] => rfl
  | a :: x => by simp [bytesLess, less_irr x]
theorem less_trans : ∀ x y z, bytesLess x y = true → bytesLess y z = true → bytesLess x z = true
  | [], [], _, h, _ => by cases h
  | [], _ :: _, [], _, h => by cases h
  | [], _ :: _, _ :: _, _, _ => rfl
  | _ :: _, [], _, h, _ => by cases h
  | _ :: _, _ :: _, [], _, h => by cases h
  | a :: x, b :: y, c :: z, h, g => by
    simp only [bytesLess, Bool.or_eq_true, decide_eq_true_eq, Bool.and_eq_true, beq_iff_eq] at h g ⊢
    rcases h with h | ⟨rfl, h⟩
    · rcases g with g | ⟨rfl, -⟩
      · exact .inl (UInt8.lt_trans h g)
      · exact .inl h
    · rcases g with g | ⟨rfl, g⟩
      · exact .inl g
      · exact .inr ⟨rfl, less_trans x y z h g⟩
theorem less_tri : ∀ x y, bytesLess x y = true ∨ x = y ∨ bytesLess y x = true
  | [], [] => .inr (.inl rfl)
  | [], _ :: _ => .inl rfl
  | _ :: _, [] => .inr (.inr rfl)
  | a :: x, b :: y => by
    simp only [bytesLess, Bool.or_eq_true, decide_eq_true_eq, Bool.and_eq_true, beq_iff_eq]
    rcases Nat.lt_trichotomy a.toNat b.toNat with h | h | h
    · exact .inl (.inl (UInt8.lt_iff_toNat_lt.2 h))
    · obtain rfl := UInt8.toNat_inj.1 h
      rcases less_tri x y with h | h | h
      · exact .inl (.inr ⟨rfl, h⟩)
      · exact .inr (.inl (by rw [h]))
      · exact .inr (.inr (.inr ⟨rfl, h⟩))
    · exact .inr (.inr (.inl (UInt8.lt_iff_toNat_lt.2 h)))
theorem ordR : Ordered bytesLess := ⟨less_irr, less_trans, less_tri⟩

end Go.Proofs.YtnalokjnbccjnaaGreatDoor
