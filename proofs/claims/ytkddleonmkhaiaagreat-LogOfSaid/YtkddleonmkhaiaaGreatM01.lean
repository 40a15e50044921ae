/-
  Bytes in memory: what a []byte reads as, what the call itself owns, and laws of single operations over them. Plain facts, of no one program.
  Records as arguments: one by value, and a slice of them (a record's cells lie flat: Key, Gone, Kind, N, S).
  Keys: contract of the reference's MayKey.
-/
import Derived.Test.YtkddleonmkhaiaaGreatRows
import Derived.WalkKit
import Derived.WalkSpells
import Derived.WalkLawsBesides
import Derived.ProofKit
import Derived.OpenShut
import Derived.Lib.AppendStr
import Derived.Lib.Varint
import Derived.Lib.Zigzag
import Derived.Lib.SlBytesRow
import Derived.Lib.SlBytesConst
import Derived.Lib.Hide
import Derived.Laws.AppendOwnNone
import Derived.Laws.CopyOwn
import Derived.Deep.DeepMust
import Derived.Deep.DeepFit
import Derived.Lib.SmallJoins
import Derived.Deep.Slices
import Derived.Deep.Fields
import Derived.ChangeSame
namespace Go.Proofs.YtkddleonmkhaiaaGreat
open Go.RowKit

def cells (l : List UInt8) : List Value := l.map fun x => Value.int .u8 (x.toNat : Int)
def str (l : List UInt8) : ByteArray := ⟨l.toArray⟩

theorem cells_length (l : List UInt8) : (cells l).length = l.length := by simp [cells]
theorem cells_append (l m : List UInt8) : cells (l ++ m) = cells l ++ cells m := by simp [cells]
theorem cells_one (l : List UInt8) : ∀ u ∈ cells l, u.oneCell' = true := by
  intro u hu
  simp only [cells, List.mem_map] at hu
  obtain ⟨b, _, rfl⟩ := hu
  rfl
theorem cells_at (l : List UInt8) (i : Nat) (h : i < l.length) : (cells l)[i]? = some (.int .u8 (l[i].toNat : Int)) := by
  simp [cells, h]
theorem str_size (l : List UInt8) : (str l).size = l.length := by simp [str, ByteArray.size]
theorem str_toList (s : ByteArray) : str s.data.toList = s := by simp [str]
theorem strCells_eq (s : ByteArray) : Go.Lib.strCells s = cells s.data.toList := rfl
theorem str_inj {l m : List UInt8} (h : str l = str m) : l = m := by
  have := congrArg (fun s : ByteArray => s.data.toList) h
  simpa [str] using this

/-- v, a []byte, reads as l. -/
def RB (w : World) (v : Value) (l : List UInt8) : Prop :=
  ∃ a cap, v = .slice a l.length cap ∧ l.length ≤ cap ∧ cap ≤ maxLen ∧ (a = none → cap = 0) ∧
    (l ≠ [] → ∃ b o, a = some ⟨b, o, none⟩ ∧ ∀ i (h : i < l.length), w.cell? ⟨b, o + i, none⟩ = some (.int .u8 (l[i].toNat : Int)))

/-- v, a []byte that was made from block B on, holds l; e: the type of bytes. -/
def Own (e : TypeId) (w : World) (B : Nat) (v : Value) (l : List UInt8) : Prop := w.ownsRow B e 1 v l.length (cells l)

theorem RB.block {w : World} {l : List UInt8} {b o : Nat} (h : ∀ i (h : i < l.length), w.cell? ⟨b, o + i, none⟩ = some (.int .u8 (l[i].toNat : Int))) (hl : l ≠ []) : b < w.heap.size := by
  have hp : 0 < l.length := List.length_pos_iff.2 hl
  exact World.block_lt_of_cell? w _ (h 0 hp)

theorem RB.below {w w' : World} {v : Value} {l : List UInt8} (h : RB w v l) (hb : Below w.heap.size w w') : RB w' v l := by
  obtain ⟨a, cap, hv, h1, h2, h3, h4⟩ := h
  refine ⟨a, cap, hv, h1, h2, h3, fun hl => ?_⟩
  obtain ⟨b, o, ha, hc⟩ := h4 hl
  have hlt := RB.block hc hl
  exact ⟨b, o, ha, fun i hi => (hb.cell (by exact hlt)).trans (hc i hi)⟩

theorem RB.len {w : World} {a : Option Addr} {len cap : Nat} {l : List UInt8} (h : RB w (.slice a len cap) l) : len = l.length ∧ len ≤ cap ∧ cap ≤ maxLen := by
  obtain ⟨a', cap', hv, h1, h2, h3, h4⟩ := h
  cases hv
  exact ⟨rfl, h1, h2⟩

/-- A byte of it. -/
theorem RB.at {w : World} {a : Option Addr} {len cap : Nat} {l : List UInt8} (h : RB w (.slice a len cap) l) (k : Nat) (hk : k < l.length) : ∃ b o, a = some ⟨b, o, none⟩ ∧ w.cell? ⟨b, o + k, none⟩ = some (.int .u8 (l[k].toNat : Int)) ∧ b < w.heap.size := by
  obtain ⟨a', cap', hv, h1, h2, h3, h4⟩ := h
  cases hv
  have hne : l ≠ [] := by intro e; subst e; simp at hk
  obtain ⟨b, o, rfl, hc⟩ := h4 hne
  exact ⟨b, o, rfl, hc k hk, RB.block hc hne⟩

/-- What a law's argument reads as. -/
theorem rb_of_row {w : World} {a : Option Addr} {len cap : Nat} {zs : List Int} (h : (a = none ∧ len = 0 ∧ cap = 0 ∧ zs = []) ∨
    ∃ x, a = some x ∧ len ≤ cap ∧ cap ≤ maxLen ∧ zs.length = cap ∧ (∀ i, i < zs.length → w.cell? (x.add i) = some (.int .u8 (zs.getD i 0))) ∧ ∀ n ∈ zs, (Lit.int .u8 n).wf = true) :
    ∃ l : List UInt8, RB w (.slice a len cap) l := by
  rcases h with ⟨rfl, rfl, rfl, rfl⟩ | ⟨x, rfl, hl, hm, hz, hc, hw⟩
  · exact ⟨[], none, 0, rfl, Nat.le_refl _, by simp [maxLen], fun _ => rfl, fun h => absurd rfl h⟩
  · have hlen : ((zs.take len).map fun n => UInt8.ofNat n.toNat).length = len := by simp; omega
    refine ⟨(zs.take len).map fun n => UInt8.ofNat n.toNat, some x, cap, by rw [hlen], by rw [hlen]; exact hl, hm, (fun h => by cases h), fun hne => ?_⟩
    have hpos : 0 < len := by rw [← hlen]; exact List.length_pos_iff.2 hne
    obtain ⟨b, o, spot⟩ := x
    have hspot : spot = none := by simpa [Addr.add] using World.cell?_spot (hc 0 (by omega))
    subst hspot
    refine ⟨b, o, rfl, fun i hi => ?_⟩
    rw [hlen] at hi
    have h1 := hc i (by omega)
    have hadd : (⟨b, o, none⟩ : Addr).add i = ⟨b, o + i, none⟩ := by unfold Addr.add; split <;> simp_all
    rw [hadd] at h1
    rw [h1]
    have hi' : i < zs.length := by omega
    have hwf := bounds_u8 (hw zs[i] (List.getElem_mem hi'))
    simp only [List.getElem_map, List.getElem_take, List.getD_eq_getElem?_getD, List.getElem?_eq_getElem hi', Option.getD_some]
    congr 2
    simp
    omega

theorem below_drewN {B : Nat} {a w : World} (h : Below B a w) (n : Nat) : Below B a (w.drewN n) := h.trans ⟨rfl, rfl, rfl, Nat.le_refl _, fun _ _ => rfl⟩
theorem RB.drewN {w : World} {v : Value} {l : List UInt8} (h : RB w v l) (n : Nat) : RB (w.drewN n) v l := h.below (below_drewN (Below.refl _ _) n)

theorem RB.nil (w : World) : RB w (.slice none 0 0) [] := ⟨none, 0, rfl, Nat.le_refl _, by simp [maxLen], fun _ => rfl, fun h => absurd rfl h⟩

theorem Own.nil (e : TypeId) (w : World) (B : Nat) : Own e w B (.slice none 0 0) [] := World.ownsRow_nil w B e 1

theorem Own.rb {e : TypeId} {w : World} {B : Nat} {v : Value} {l : List UInt8} (h : Own e w B v l) : RB w v l := by
  rcases h.2 with ⟨rfl, hn⟩ | ⟨g, cap, cur, rfl, hb, hg, h1, h2, h3, h4⟩
  · obtain rfl : l = [] := List.eq_nil_of_length_eq_zero hn
    exact RB.nil w
  · refine ⟨some ⟨g, 0, none⟩, cap, rfl, h1, h2, (fun h => by cases h), fun hl => ⟨g, 0, rfl, fun i hi => ?_⟩⟩
    have := World.ownsRow.cells h (g := g) rfl i _ (cells_at l i hi)
    have hadd : (⟨g, 0, none⟩ : Addr).add i = ⟨g, 0 + i, none⟩ := by unfold Addr.add; split <;> simp_all
    rw [hadd] at this
    exact this

theorem Own.mono {e : TypeId} {w : World} {B B' : Nat} {v : Value} {l : List UInt8} (h : Own e w B v l) (hB : B' ≤ B) : Own e w B' v l := by
  refine ⟨h.1, ?_⟩
  rcases h.2 with h' | ⟨g, cap, cur, h1, hb, h2⟩
  · exact .inl h'
  · exact .inr ⟨g, cap, cur, h1, Nat.le_trans hB hb, h2⟩

theorem Own.below {e : TypeId} {w w' : World} {B : Nat} {v : Value} {l : List UInt8} (h : Own e w B v l) (hb : Below w.heap.size w w') : Own e w' B v l := by
  refine ⟨h.1, ?_⟩
  rcases h.2 with h' | ⟨g, cap, cur, h1, hB, h2, h3⟩
  · exact .inl h'
  · exact .inr ⟨g, cap, cur, h1, hB, (hb.block g (Array.getElem?_eq_some_iff.1 h2).1).trans h2, h3⟩

theorem Own.alloc {e : TypeId} {w : World} {B : Nat} {v : Value} {l : List UInt8} (h : Own e w B v l) (o : Obj) : Own e (w.alloc o) B v l := World.ownsRow.alloc h o

theorem Own.kept {e : TypeId} {w w' : World} {B : Nat} {v : Value} {l : List UInt8} {row : Option Nat} (h : Own e w B v l) (hg : w.grownBy w' row) (hne : v.ownBlock = none ∨ v.ownBlock ≠ row) : Own e w' B v l :=
  World.ownsRow.kept h hg hne

theorem Own.drew {e : TypeId} {w : World} {B : Nat} {v : Value} {l : List UInt8} (h : Own e w B v l) : Own e w.drew B v l := World.ownsRow.drew h

/-- What it is, where it is not empty. -/
theorem Own.form {e : TypeId} {w : World} {B : Nat} {v : Value} {l : List UInt8} (h : Own e w B v l) (hl : 0 < l.length) : ∃ g cap, v = .slice (some ⟨g, 0, none⟩) l.length cap ∧ B ≤ g ∧ g < w.heap.size ∧ l.length ≤ cap ∧ cap ≤ maxLen ∧ w.frozen? ⟨g, 0, none⟩ = false := by
  rcases h.2 with ⟨_, h0⟩ | ⟨g, cap, cur, hv, hB, hg, h1, h2, _⟩
  · omega
  · exact ⟨g, cap, hv, hB, (Array.getElem?_eq_some_iff.1 hg).1, h1, h2, frozen_of_row w g 0 cur e hg⟩

theorem Own.cell {e : TypeId} {w : World} {B : Nat} {l : List UInt8} {g n cap : Nat} (h : Own e w B (.slice (some ⟨g, 0, none⟩) n cap) l) (i : Nat) (hi : i < l.length) : w.cell? ⟨g, i, none⟩ = some (.int .u8 (l[i].toNat : Int)) := by
  have hn : n = l.length := by
    rcases h.2 with ⟨h', _⟩ | ⟨g', cap', cur, h', _⟩
    · simp at h'
    · simp at h'; exact h'.2.1
  subst hn
  have := World.ownsRow.cells h (g := g) rfl i _ (cells_at l i hi)
  have hadd : (⟨g, 0, none⟩ : Addr).add i = ⟨g, 0 + i, none⟩ := by unfold Addr.add; split <;> simp_all
  rw [hadd, Nat.zero_add] at this
  exact this

theorem Own.frozenAt {e : TypeId} {w : World} {B : Nat} {l : List UInt8} {g n cap : Nat} (h : Own e w B (.slice (some ⟨g, 0, none⟩) n cap) l) (i : Nat) : w.frozen? ⟨g, i, none⟩ = false := by
  rcases h.2 with ⟨h', _⟩ | ⟨g', cap', cur, h', _, hg, _⟩
  · simp at h'
  · simp at h'
    obtain ⟨rfl, -, -⟩ := h'
    exact frozen_of_row w g i cur e hg

/-- A byte is stored. -/
theorem Own.store {e : TypeId} {w : World} {B : Nat} {l : List UInt8} {g n cap : Nat} (h : Own e w B (.slice (some ⟨g, 0, none⟩) n cap) l) (j : Nat) (c : UInt8) (x : Int) (hx : x = (c.toNat : Int)) : Own e (w.setCell ⟨g, j, none⟩ (.int .u8 x)) B (.slice (some ⟨g, 0, none⟩) n cap) (l.set j c) := by
  have hn : n = l.length := by
    rcases h.2 with ⟨h', _⟩ | ⟨g', cap', cur, h', _⟩
    · simp at h'
    · simp at h'; exact h'.2.1
  subst hn hx
  have := (World.ownsRow.stored h j (.int .u8 (c.toNat : Int))).1
  unfold Own
  rw [List.length_set]
  have e1 : cells (l.set j c) = (cells l).set j (.int .u8 (c.toNat : Int)) := by unfold cells; rw [List.map_set]
  rw [e1]
  exact this

/-- What was made is below a bound, and the rest is as it was. -/
theorem Own.row {e : TypeId} {w : World} {B : Nat} {v : Value} {l : List UInt8} (h : Own e w B v l) : ∀ k, v.ownBlock = some k → B ≤ k := fun k hk => (World.ownsRow.lt h k hk).1

theorem grown_below {w w' : World} {B : Nat} {row : Option Nat} (hg : w.grownBy w' row) (hB : B ≤ w.heap.size) (hr : ∀ k, row = some k → B ≤ k) : Below B w w' := (Below.refl B w).grown hg hB hr

/-- One byte in a new block of its own. -/
theorem RB.one (w : World) (e : TypeId) (x : Int) (c : UInt8) (h : x = (c.toNat : Int)) : RB (w.alloc (.cells #[.int .u8 x] e)) (.slice (some ⟨w.heap.size, 0, none⟩) 1 1) [c] := by
  subst h
  refine ⟨some ⟨w.heap.size, 0, none⟩, 1, rfl, Nat.le_refl _, by simp [maxLen], (fun h => by cases h), fun _ => ⟨w.heap.size, 0, rfl, fun i hi => ?_⟩⟩
  obtain rfl : i = 0 := by simpa using hi
  rw [cell_of_row _ w.heap.size 0 #[.int .u8 (c.toNat : Int)] e (0, 0) (heap_alloc_new w _)]
  simp

/-- Bytes that are written out, in a new block of their own. -/
theorem RB.lits (w : World) (e : TypeId) (fr : Nat × Nat) (l : List UInt8) (arr : Array Value) (n : Nat) (h : arr = (cells l).toArray) (hn : n = l.length) (hm : l.length ≤ 1000) : RB (w.alloc (.cells arr e fr)) (.slice (some ⟨w.heap.size, 0, none⟩) n n) l := by
  subst h hn
  refine ⟨some ⟨w.heap.size, 0, none⟩, l.length, rfl, Nat.le_refl _, by unfold maxLen; omega, (fun h => by cases h), fun _ => ⟨w.heap.size, 0, rfl, fun i hi => ?_⟩⟩
  rw [cell_of_row _ w.heap.size (0 + i) (cells l).toArray e fr (heap_alloc_new w _)]
  simpa using cells_at l i hi

/-- A piece of what reads as l reads as that piece. -/
theorem RB.cut {w : World} {a : Option Addr} {len cap : Nat} {l : List UInt8} (h : RB w (.slice a len cap) l) (i j : Nat) (hij : i ≤ j) (hj : j ≤ l.length) : RB w (sliced a i j cap 1) ((l.take j).drop i) := by
  obtain ⟨a', cap', hv, h1, h2, h3, h4⟩ := h
  cases hv
  have hlen : ((l.take j).drop i).length = j - i := by simp; omega
  unfold sliced
  refine ⟨_, cap - i, by rw [hlen], by rw [hlen]; omega, by omega, ?_, fun hne => ?_⟩
  · intro hn
    by_cases hc : cap = i
    · omega
    · rw [if_neg hc] at hn
      have := h3 (by simpa using hn)
      omega
  · have hji : i < j := by
      rcases Nat.lt_or_ge i j with h | h
      · exact h
      · exact absurd (List.eq_nil_of_length_eq_zero (by rw [hlen]; omega)) hne
    have hl : l ≠ [] := by intro e; subst e; simp at hj; omega
    obtain ⟨b, o, rfl, hc⟩ := h4 hl
    refine ⟨b, o + i, ?_, fun q hq => ?_⟩
    · rw [if_neg (by omega)]
      have hadd : (⟨b, o, none⟩ : Addr).add (i * 1) = ⟨b, o + i, none⟩ := by unfold Addr.add; split <;> simp_all
      simpa using hadd
    · rw [hlen] at hq
      have := hc (i + q) (by omega)
      rw [Nat.add_assoc, this]
      simp

theorem ret_int {k : IntKind} {a b : Int} (h : a = b) : Ending.returned (.int k a) = .returned (.int k b) := by rw [h]

theorem ret_of {a b : Value} (h : a = b) : Ending.returned a = Ending.returned b := by rw [h]

theorem info8 : (Tryz.prog.info? 5).map (fun i => (i.zero, i.size, i.bytes)) = some (some (.int .u8 0), 1, 1) := by kernel_rfl

theorem u8_xor_c (a b : UInt8) : bits .xor .u8 (a.toNat : Int) (b.toNat : Int) = ((a ^^^ b).toNat : Int) := by
  show IntKind.u8.wrap ((BitVec.ofInt 8 (a.toNat : Int) ^^^ BitVec.ofInt 8 (b.toNat : Int)).toNat : Int) = _
  have e (a : UInt8) : BitVec.ofInt 8 (a.toNat : Int) = a.toBitVec := by
    apply BitVec.eq_of_toNat_eq
    rw [BitVec.toNat_ofInt]
    have := a.toNat_lt
    have h : a.toBitVec.toNat = a.toNat := rfl
    omega
  rw [e, e]
  have h : (a ^^^ b).toNat = (a.toBitVec ^^^ b.toBitVec).toNat := rfl
  rw [h]
  have := (a.toBitVec ^^^ b.toBitVec).isLt
  have hw (n : Int) : IntKind.u8.wrap n = n % 256 := by simp [IntKind.wrap, IntKind.bits, IntKind.signed]
  rw [hw]
  omega

section
variable {P : Program}

/-- An operation that yields a value and leaves the world w'. -/
theorem wpList_gives {ops : Array Oper} {rest : List Oper} {o : Oper} {a : Act} {w : World} {Q : Exit → Act → World → Prop} (hg : o.guard = none)
    (v : Value) (w' : World) (hrun : (execOp a.eval o).run P w = .ok (.value v) w')
    (h : wpList P ops Q rest (a.put o.dst v) w') : wpList P ops Q (o :: rest) a w := by
  refine wpList_plain hg fun K hK => ?_
  unfold Oper.wp
  rw [hrun, Oper.upon_value]
  exact hK _ _ h

/-- 'append(s, x...)', s the call's own, x whatever reads as m. -/
theorem wpList_append_RB {ops : Array Oper} {rest : List Oper} {o : Oper} {a : Act} {w : World} {Q : Exit → Act → World → Prop} (hgd : o.guard = none) (s x : Operand) (t : TypeId)
    (ho : o.op = .call { callee := .builtin .append, args := #[s, x], argTypes := #[t, t] })
    (B : Nat) (e : TypeId) (ht : P.underlying t = some (.slice e)) (hinfo : (P.info? e).map (fun i => (i.zero, i.size, i.bytes)) = some (some (.int .u8 0), 1, 1))
    (v xv : Value) (l m : List UInt8) (hs : a.eval s = v) (hx : a.eval x = xv) (hown : Own e w B v l) (hrb : RB w xv m)
    (hlen : l.length + m.length ≤ 140737488355328) (hbase : B ≤ w.heap.size)
    (h : ∀ v' w', Own e w' B v' (l ++ m) → w.grownBy w' v.ownBlock → wpList P ops Q rest (a.put o.dst v') w') : wpList P ops Q (o :: rest) a w := by
  obtain ⟨i, hi, hz, hsize, hby⟩ := info_parts hinfo
  obtain ⟨ad, cap, rfl, h1, h2, h3, h4⟩ := hrb
  cases ad with
  | none =>
    obtain rfl := h3 rfl
    obtain rfl : m = [] := List.eq_nil_of_length_eq_zero (by omega)
    refine wpList_append_own_none hgd s x t ho B e i 1 ht hi v l.length (cells l) hs hown hx ?_
    exact h v w (by simpa using hown) (World.grownBy.refl _ _)
  | some ad =>
    refine wpList_append_own w hgd s x t ho B e i (.int .u8 0) 1 1 ht hi hz hsize hby rfl (by decide) v l.length (cells l) hs hown ad m.length cap (cells m) hx (by simp [cells_length]) ?_ (cells_one m) (by unfold maxLen; omega) (by omega) hbase ?_
    · intro j u hj
      have hjm : j < m.length := by
        rcases Nat.lt_or_ge j m.length with hlt | hge
        · exact hlt
        · rw [List.getElem?_eq_none (by simpa [cells_length] using hge)] at hj; cases hj
      obtain ⟨b, o', hao, hc⟩ := h4 (by intro hm; subst hm; simp at hjm)
      cases hao
      rw [cells_at m j hjm] at hj
      cases hj
      have hadd : (⟨b, o', none⟩ : Addr).add j = ⟨b, o' + j, none⟩ := by unfold Addr.add; split <;> simp_all
      rw [hadd]
      exact hc j hjm
    · intro v' w' hown' hg _
      exact h v' w' (by unfold Own; rw [List.length_append, cells_append]; exact hown') hg

/-- 'append(s, x...)', s the call's own, x a string. -/
theorem wpList_append_str {ops : Array Oper} {rest : List Oper} {o : Oper} {a : Act} {w : World} {Q : Exit → Act → World → Prop} (hgd : o.guard = none) (s x : Operand) (t u : TypeId)
    (ho : o.op = .call { callee := .builtin .append, args := #[s, x], argTypes := #[t, u] })
    (B : Nat) (e : TypeId) (ht : P.underlying t = some (.slice e)) (hu : P.underlying u = some .string) (hinfo : (P.info? e).map (fun i => (i.zero, i.size, i.bytes)) = some (some (.int .u8 0), 1, 1))
    (v : Value) (l : List UInt8) (q : ByteArray) (hs : a.eval s = v) (hx : a.eval x = .string q) (hown : Own e w B v l)
    (hlen : l.length + q.size ≤ 140737488355328) (hbase : B ≤ w.heap.size)
    (h : ∀ v' w', Own e w' B v' (l ++ q.data.toList) → w.grownBy w' v.ownBlock → wpList P ops Q rest (a.put o.dst v') w') : wpList P ops Q (o :: rest) a w := by
  obtain ⟨i, hi, hz, hsize, hby⟩ := info_parts hinfo
  refine Go.Lib.wpList_append_own_string w hgd s x t u ho B e i ht hu hi hz hsize hby v l.length (cells l) hs hown q hx (by unfold maxLen; omega) hlen hbase ?_
  intro v' w' hown' hg _
  refine h v' w' ?_ hg
  unfold Own
  rw [List.length_append, cells_append, ← strCells_eq, ← Go.Lib.size_eq]
  exact hown'

/-- 'make([]byte, n, c)'. -/
theorem wpList_make_len {ops : Array Oper} {rest : List Oper} {o : Oper} {a : Act} {w : World} {Q : Exit → Act → World → Prop} (hgd : o.guard = none) (lo co : Operand) (t : TypeId)
    (hop : o.op = Op.makeSlice t lo co) (e : TypeId) (ht : P.underlying t = some (.slice e)) (hinfo : (P.info? e).map (fun i => (i.zero, i.size, i.bytes)) = some (some (.int .u8 0), 1, 1))
    (kl kc : IntKind) (L C : Int) (n c : Nat) (hl : a.eval lo = .int kl L) (hc : a.eval co = .int kc C) (hL : L = (n : Int)) (hC : C = (c : Int)) (hnc : n ≤ c) (hcm : c ≤ 140737488355328)
    (h : ∀ v w', Own e w' w.heap.size v (List.replicate n 0) → w.grownBy w' none → wpList P ops Q rest (a.put o.dst v) w') : wpList P ops Q (o :: rest) a w := by
  obtain ⟨i, hi, hz, hsize, hby⟩ := info_parts hinfo
  subst hL hC
  have hr := run_make (P := P) w t e i (.int .u8 0) ht hi hz kl kc n c (by omega) (by omega) (by rw [hby]; omega) (by omega)
  simp only [Int.toNat_natCast, hsize, Nat.mul_one] at hr
  refine wpList_gives hgd (.slice (some ⟨w.heap.size, 0, none⟩) n c) (w.alloc (.cells (madeCells (Value.int IntKind.u8 0).cells c) e)) (by simp [execOp, hop, hl, hc, hr, Result.andThen]) (h _ _ ?_ (World.grownBy_alloc w _ none))
  refine ⟨by simp [cells_length], .inr ⟨w.heap.size, c, madeCells #[Value.int .u8 0] c, (by simp), Nat.le_refl _, ?_, by simpa using hnc, by unfold maxLen; omega, by simp [size_madeCells], ?_⟩⟩
  · exact heap_alloc_new w _
  · rw [toList_madeCells_one, List.take_replicate]
    simp [cells, Nat.min_eq_left hnc]

/-- 'copy(d, s)' where the whole of d is written anew. -/
theorem wpList_copy_RB {ops : Array Oper} {rest : List Oper} {o : Oper} {a : Act} {w : World} {Q : Exit → Act → World → Prop} (hgd : o.guard = none) (d s : Operand) (t : TypeId)
    (ho : o.op = .call { callee := .builtin .copy, args := #[d, s], argTypes := #[t, t] })
    (B : Nat) (e : TypeId) (ht : P.underlying t = some (.slice e)) (hinfo : (P.info? e).map (fun i => (i.zero, i.size, i.bytes)) = some (some (.int .u8 0), 1, 1))
    (v sv : Value) (l0 l : List UInt8) (hd : a.eval d = v) (hs : a.eval s = sv) (hown : Own e w B v l0) (hrb : RB w sv l) (hlen : l.length = l0.length) (w0 : World) (hb : Below B w0 w)
    (h : ∀ w', Own e w' B v l → Below B w0 w' → wpList P ops Q rest (a.put o.dst (goInt l.length)) w') : wpList P ops Q (o :: rest) a w := by
  obtain ⟨i, hi, hz, hsize, hby⟩ := info_parts hinfo
  obtain ⟨ad, cap, rfl, h1, h2, h3, h4⟩ := hrb
  have hsz : (P.info? e).map (·.size) = some 1 := by rw [hi]; simp [hsize]
  rcases hown.2 with ⟨rfl, hn⟩ | ⟨g, dcap, cur, rfl, hB, hg, d1, d2, d3, d4⟩
  · have hl0 : l.length = 0 := by omega
    obtain rfl : l = [] := List.eq_nil_of_length_eq_zero hl0
    refine wpList_copy_nothing hgd d s t t ho e ht hsz none ad 0 0 0 cap hd hs (by simp) ?_
    exact h w (Own.nil e w B) hb
  · refine wpList_copy_splice hgd d s t t ho e ht hsz (some ⟨g, 0, none⟩) ad l0.length dcap l.length cap hd hs g 0 cur.toList e (by simpa using hg) (cells l) (by rw [cells_length, hlen]; simp) ?_ ?_ (cells_one l) B w0 hb hB ?_
    · intro hp
      rw [cells_length] at hp
      obtain ⟨b, o', hao, hc⟩ := h4 (List.length_pos_iff.1 hp)
      refine ⟨rfl, _, hao, fun j u hj => ?_⟩
      have hjm : j < l.length := by
        rcases Nat.lt_or_ge j l.length with hlt | hge
        · exact hlt
        · rw [List.getElem?_eq_none (by simpa [cells_length] using hge)] at hj; cases hj
      rw [cells_at l j hjm] at hj
      cases hj
      have hadd : (⟨b, o', none⟩ : Addr).add j = ⟨b, o' + j, none⟩ := by unfold Addr.add; split <;> simp_all
      rw [hadd]
      exact hc j hjm
    · simp only [cells_length, Nat.zero_add, Array.length_toList]; omega
    · intro w' hw' hb'
      have hh := hw'.out
      rw [cells_length]
      refine h w' ⟨by simp [cells_length], .inr ⟨g, dcap, _, by rw [hlen], hB, hh, by omega, d2, ?_, ?_⟩⟩ hb'
      · rw [List.size_toArray, length_splice _ _ _ (by simp only [cells_length, Array.length_toList]; omega), Array.length_toList, d3]
      · simp [splice, cells_length]

theorem run_sizeOf {w : World} {t e : TypeId} (ht : P.underlying t = some (.slice e)) (hinfo : (P.info? e).map (fun i => (i.zero, i.size, i.bytes)) = some (some (.int .u8 0), 1, 1)) :
    P.underlying t = some (.slice (P.elem t)) ∧ (sizeOf (P.elem t)).run P w = .ok 1 w := by
  obtain ⟨i, hi, hz, hsize, hby⟩ := info_parts hinfo
  have he : P.elem t = e := by simp [Program.elem, ht]
  rw [he]
  exact ⟨ht, by simp [sizeOf, typeInfo, hi, hsize]⟩

/-- 'b[:n]', in whatever world: for a region that draws its order. -/
theorem RB.run_h {w : World} {a : Option Addr} {len cap : Nat} {l : List UInt8} (h : RB w (.slice a len cap) l) (t e : TypeId) (ht : P.underlying t = some (.slice e)) (hinfo : (P.info? e).map (fun i => (i.zero, i.size, i.bytes)) = some (some (.int .u8 0), 1, 1))
    (n : Nat) (hn : n ≤ l.length) (k : IntKind) : ∃ v, RB w v (l.take n) ∧ ∀ W, (Instr.slice t (.slice a len cap) none (some (.int k (n : Int))) none).run P W = .ok v W := by
  obtain ⟨h1, h2, h3⟩ := h.len
  have hc := h.cut 0 n (by omega) hn
  rw [List.drop_zero] at hc
  refine ⟨_, hc, fun W => ?_⟩
  obtain ⟨ht', hs⟩ := run_sizeOf (P := P) (w := W) ht hinfo
  have hr := run_slice_h (P := P) W t a len cap ht' k (n : Int) (by omega) (by omega)
  rw [hs] at hr
  simpa [Result.andThen] using hr

/-- 'b[i:j]'. -/
theorem wpList_slice_lh {ops : Array Oper} {rest : List Oper} {o : Oper} {a : Act} {w : World} {Q : Exit → Act → World → Prop} (hgd : o.guard = none) (x lo hi : Operand) (t : TypeId)
    (ho : o.op = .slice t x (some lo) (some hi) none) (e : TypeId) (ht : P.underlying t = some (.slice e)) (hinfo : (P.info? e).map (fun i => (i.zero, i.size, i.bytes)) = some (some (.int .u8 0), 1, 1))
    (v : Value) (l : List UInt8) (kl kh : IntKind) (L H : Int) (i j : Nat) (hx : a.eval x = v) (hlo : a.eval lo = .int kl L) (hhi : a.eval hi = .int kh H) (hL : L = (i : Int)) (hH : H = (j : Int)) (hrb : RB w v l) (hij : i ≤ j) (hj : j ≤ l.length)
    (hK : ∀ v', RB w v' ((l.take j).drop i) → wpList P ops Q rest (a.put o.dst v') w) : wpList P ops Q (o :: rest) a w := by
  have hrb0 := hrb
  obtain ⟨ad, cap, rfl, h1, h2, h3, h4⟩ := hrb
  obtain ⟨ht', hs⟩ := run_sizeOf (P := P) (w := w) ht hinfo
  subst hL hH
  have hr := run_slice_lh (P := P) w t ad l.length cap ht' kl kh (i : Int) (j : Int) (by omega) (by omega) (by omega)
  rw [hs] at hr
  simp only [Int.toNat_natCast, Result.andThen] at hr
  exact wpList_gives hgd _ _ (by simp [execOp, ho, hx, hlo, hhi, hr, run_sliceAt_slice w t _ _ _ _ ht', Result.andThen]) (hK _ (hrb0.cut i j hij hj))

/-- 'b[i:]'. -/
theorem wpList_slice_l {ops : Array Oper} {rest : List Oper} {o : Oper} {a : Act} {w : World} {Q : Exit → Act → World → Prop} (hgd : o.guard = none) (x lo : Operand) (t : TypeId)
    (ho : o.op = .slice t x (some lo) none none) (e : TypeId) (ht : P.underlying t = some (.slice e)) (hinfo : (P.info? e).map (fun i => (i.zero, i.size, i.bytes)) = some (some (.int .u8 0), 1, 1))
    (v : Value) (l : List UInt8) (kl : IntKind) (L : Int) (i : Nat) (hx : a.eval x = v) (hlo : a.eval lo = .int kl L) (hL : L = (i : Int)) (hrb : RB w v l) (hi : i ≤ l.length)
    (hK : ∀ v', RB w v' (l.drop i) → wpList P ops Q rest (a.put o.dst v') w) : wpList P ops Q (o :: rest) a w := by
  have hrb0 := hrb
  obtain ⟨ad, cap, rfl, h1, h2, h3, h4⟩ := hrb
  obtain ⟨ht', hs⟩ := run_sizeOf (P := P) (w := w) ht hinfo
  subst hL
  have hr := run_slice_l (P := P) w t ad l.length cap ht' kl (i : Int) (by omega) (by omega)
  rw [hs] at hr
  simp only [Int.toNat_natCast, Result.andThen] at hr
  have hc := hrb0.cut i l.length hi (Nat.le_refl _)
  rw [List.take_length] at hc
  exact wpList_gives hgd _ _ (by simp [execOp, ho, hx, hlo, hr, run_sliceAt_slice w t _ _ _ _ ht', Result.andThen]) (hK _ hc)

/-- 'b[:j]'. -/
theorem wpList_slice_h {ops : Array Oper} {rest : List Oper} {o : Oper} {a : Act} {w : World} {Q : Exit → Act → World → Prop} (hgd : o.guard = none) (x hi : Operand) (t : TypeId)
    (ho : o.op = .slice t x none (some hi) none) (e : TypeId) (ht : P.underlying t = some (.slice e)) (hinfo : (P.info? e).map (fun i => (i.zero, i.size, i.bytes)) = some (some (.int .u8 0), 1, 1))
    (v : Value) (l : List UInt8) (kh : IntKind) (H : Int) (j : Nat) (hx : a.eval x = v) (hhi : a.eval hi = .int kh H) (hH : H = (j : Int)) (hrb : RB w v l) (hj : j ≤ l.length)
    (hK : ∀ v', RB w v' (l.take j) → wpList P ops Q rest (a.put o.dst v') w) : wpList P ops Q (o :: rest) a w := by
  have hrb0 := hrb
  obtain ⟨ad, cap, rfl, h1, h2, h3, h4⟩ := hrb
  obtain ⟨ht', hs⟩ := run_sizeOf (P := P) (w := w) ht hinfo
  subst hH
  have hr := run_slice_h (P := P) w t ad l.length cap ht' kh (j : Int) (by omega) (by omega)
  rw [hs] at hr
  simp only [Int.toNat_natCast, Result.andThen] at hr
  have hc := hrb0.cut 0 j (by omega) hj
  rw [List.drop_zero] at hc
  exact wpList_gives hgd _ _ (by simp [execOp, ho, hx, hhi, hr, run_sliceAt_slice w t _ _ _ _ ht', Result.andThen]) (hK _ hc)

/-- 'string(b)'. -/
theorem run_string_RB (w : World) (src e dst : TypeId) (hs : P.underlying src = some (.slice e)) (he : P.underlying e = some (.int .u8)) (hd : P.underlying dst = some .string)
    (v : Value) (l : List UInt8) (h : RB w v l) : (convert src dst v).run P w = .ok (.string (str l)) w := by
  obtain ⟨a, cap, rfl, h1, h2, h3, h4⟩ := h
  by_cases hl : l = []
  · subst hl
    cases a with
    | none => exact run_convert_bytes_nil w src e hs he _ _ dst hd
    | some a =>
      have hlc : (loadCells a 0).run P w = .ok (([] : List Int).map (Value.int .u8)).toArray w := by simp [loadCells, loadCellsFrom]
      have := run_bytesToString (P := P) w a 0 cap [] hlc
      rw [run_convert_bytes_string w src dst e _ _ cap hs he hd]
      have e0 : str [] = ByteArray.empty := rfl
      rw [e0]
      simpa using this
  · obtain ⟨b, o, rfl, hc⟩ := h4 hl
    have := Go.Lib.run_convert_whole (P := P) w src e dst hs he hd b o (str l) (fun i hi => by
      have hi' : i < l.length := by rwa [str_size] at hi
      rw [hc i hi']
      rfl) cap
    rw [str_size] at this
    exact this

theorem wpList_string_RB {ops : Array Oper} {rest : List Oper} {o : Oper} {a : Act} {w : World} {Q : Exit → Act → World → Prop} (hgd : o.guard = none) (x : Operand) (src dst : TypeId)
    (ho : o.op = .convert src dst x) (e : TypeId) (hs : P.underlying src = some (.slice e)) (he : P.underlying e = some (.int .u8)) (hd : P.underlying dst = some .string)
    (v : Value) (l : List UInt8) (hx : a.eval x = v) (h : RB w v l) (hK : wpList P ops Q rest (a.put o.dst (.string (str l))) w) : wpList P ops Q (o :: rest) a w := by
  have hr := run_string_RB w src e dst hs he hd v l h
  exact wpList_gives hgd _ _ (by simp [execOp, ho, hx, hr, Result.andThen]) hK

end

/-- What fits an int. -/
theorem bounds_wf {n : Int} (h0 : -9223372036854775808 ≤ n) (h1 : n ≤ 9223372036854775807) : (Lit.int .i64 n).wf = true := by
  have : n = wrap64 n := by unfold wrap64; omega
  rw [this]
  exact wrap64_wf _

end Go.Proofs.YtkddleonmkhaiaaGreat

namespace Go.Proofs.YtkddleonmkhaiaaGreat
open Go.RowKit Go.Joins Go.ChangeShapes Go.WideShapes Go.Deep

/-- A record as the program holds it. -/
def recV (key : ByteArray) (gone : Bool) (k n : Int) (s : ByteArray) : Value := .agg #[.string key, .bool gone, .int .i64 k, .int .i64 n, .string s]
/-- Key, Gone, Kind, N, S. -/
abbrev RecT := ByteArray × Bool × Int × Int × ByteArray
def RecOk (x : RecT) : Prop := x.1.size ≤ maxLen ∧ (Lit.int .i64 x.2.2.1).wf = true ∧ (Lit.int .i64 x.2.2.2.1).wf = true ∧ x.2.2.2.2.size ≤ maxLen

theorem array5 {α : Type} {cs : Array α} (h : cs.size = 5) : ∃ a b c d e, cs = #[a, b, c, d, e] := by
  obtain ⟨l⟩ := cs
  match l, h with
  | [a, b, c, d, e], _ => exact ⟨a, b, c, d, e, rfl⟩

set_option maxRecDepth 100000 in
/-- What five cells hold. -/
theorem rec_cells {H : Type} {enc : TypeId × Value → H} {W : World} {fuel : Nat} {c0 c1 c2 c3 c4 : Value} {x : DataW H × List MemPlace} (h : DataW.trod enc Tryz.prog W 0 (fun _ => true) true fuel 33 [c0, c1, c2, c3, c4] = some x) :
    ∃ key gone k n s, c0 = .string key ∧ c1 = .bool gone ∧ c2 = .int .i64 k ∧ c3 = .int .i64 n ∧ c4 = .string s ∧ RecOk (key, gone, k, n, s) := by
  have g0 : Tryz.prog.cellsOf 3 = 1 := by kernel_rfl
  have g1 : Tryz.prog.cellsOf 2 = 1 := by kernel_rfl
  have g2 : Tryz.prog.cellsOf 9 = 1 := by kernel_rfl
  have g3 : Tryz.prog.cellsOf 4 = 1 := by kernel_rfl
  have g4 : Tryz.prog.cellsOf 31 = 3 := by kernel_rfl
  obtain ⟨y0, y1, y2, m, -, -, h0, h1, h2⟩ := trod_struct3 Tryz.underlying33 h
  simp only [g2, g3, g4, List.drop_zero, List.drop_succ_cons, List.take_succ_cons, List.take_zero] at h0 h1 h2
  obtain ⟨z0, z1, z2, m', -, -, k0, k1, k2⟩ := trod_struct3 Tryz.underlying31 h2
  simp only [g0, g1, g2, List.drop_zero, List.drop_succ_cons, List.take_succ_cons, List.take_zero] at k0 k1 k2
  obtain ⟨key, e0, -, w0⟩ := DataW.trod_string Tryz.underlying9 h0
  obtain ⟨gone, e1, -⟩ := DataW.trod_bool Tryz.underlying4 h1
  obtain ⟨a, e2, -, w2⟩ := DataW.trod_int Tryz.underlying3 k0
  obtain ⟨b, e3, -, w3⟩ := DataW.trod_int Tryz.underlying2 k1
  obtain ⟨s, e4, -, w4⟩ := DataW.trod_string Tryz.underlying9 k2
  simp only [List.cons.injEq, and_true] at e0 e1 e2 e3 e4
  exact ⟨key, gone, a, b, s, e0, e1, e2, e3, e4, w0, w2, w3, w4⟩

set_option maxRecDepth 100000 in
theorem open_rec {H : Type} {enc : TypeId × Value → H} {W : World} {base : Nat} {v : Value} {d : DataW H} {p : List MemPlace} (hok : Value.okWide Tryz.prog W .any base 33 v) (h : DataW.Trod enc Tryz.prog W 0 (fun _ => true) true 33 v d p) :
    ∃ key gone k n s, v = recV key gone k n s ∧ RecOk (key, gone, k, n, s) := by
  obtain ⟨cs, rfl, hsz⟩ := okWide_struct Tryz.underlying33 hok
  have hC : Tryz.prog.cellsOf 33 = 5 := by kernel_rfl
  obtain ⟨c0, c1, c2, c3, c4, rfl⟩ := array5 (hsz.trans hC)
  obtain ⟨fuel, hf⟩ := h
  obtain ⟨key, gone, k, n, s, rfl, rfl, rfl, rfl, rfl, ok⟩ := rec_cells (by simpa [Value.cells] using hf)
  exact ⟨key, gone, k, n, s, rfl, ok⟩

/-- v, a slice of records, reads as l. -/
def RRec (w : World) (v : Value) (l : List RecT) : Prop :=
  ∃ a cap, v = .slice a l.length cap ∧ l.length ≤ cap ∧ cap ≤ maxLen ∧ (a = none → cap = 0) ∧ (∀ x ∈ l, RecOk x) ∧
    (l ≠ [] → ∃ b o, a = some ⟨b, o, none⟩ ∧ ∀ i (h : i < l.length), w.cell? ⟨b, o + i * 5, none⟩ = some (.string l[i].1) ∧ w.cell? ⟨b, o + i * 5 + 1, none⟩ = some (.bool l[i].2.1) ∧ w.cell? ⟨b, o + i * 5 + 2, none⟩ = some (.int .i64 l[i].2.2.1) ∧ w.cell? ⟨b, o + i * 5 + 3, none⟩ = some (.int .i64 l[i].2.2.2.1) ∧ w.cell? ⟨b, o + i * 5 + 4, none⟩ = some (.string l[i].2.2.2.2))

theorem list_of_rec {α : Type} (n : Nat) (p : Nat → α → Prop) (h : ∀ i, i < n → ∃ x, p i x) : ∃ l : List α, l.length = n ∧ ∀ i (hi : i < l.length), p i l[i] := by
  induction n with
  | zero => exact ⟨[], rfl, fun i hi => absurd hi (by simp)⟩
  | succ n ih =>
    obtain ⟨l, hl, hp⟩ := ih fun i hi => h i (by omega)
    obtain ⟨x, hx⟩ := h n (by omega)
    refine ⟨l ++ [x], by simp [hl], fun i hi => ?_⟩
    by_cases hin : i < l.length
    · rw [List.getElem_append_left hin]; exact hp i hin
    · obtain rfl : i = n := by simp at hi; omega
      simpa [hl] using hx

set_option maxRecDepth 100000 in
theorem open_recs {H : Type} {enc : TypeId × Value → H} {W : World} {a : Option Addr} {len cap : Nat} {d : DataW H} {p : List MemPlace} (h : DataW.Trod enc Tryz.prog W 0 (fun _ => true) true 22 (.slice a len cap) d p) :
    ∃ l, RRec W (.slice a len cap) l := by
  obtain ⟨fuel, hf⟩ := h
  rcases open_slice Tryz.underlying22 hf with ⟨hcs, -⟩ | ⟨x, l, c, m, n, D, Pl, hcs, hb, hl, hm, hmm, -, hi⟩
  · simp [Value.cells] at hcs
    obtain ⟨rfl, rfl, rfl⟩ := hcs
    exact ⟨[], none, 0, rfl, Nat.le_refl _, by simp [maxLen], fun _ => rfl, (fun x hx => by cases hx), fun h => absurd rfl h⟩
  · simp [Value.cells] at hcs
    obtain ⟨rfl, rfl, rfl⟩ := hcs
    have hC : Tryz.prog.cellsOf 33 = 5 := by kernel_rfl
    simp only [if_true] at hmm
    subst hmm
    have key : ∀ i, i < len → ∃ y : RecT, RecOk y ∧ W.cell? (x.add (i * 5)) = some (.string y.1) ∧ W.cell? ((x.add (i * 5)).add 1) = some (.bool y.2.1) ∧ W.cell? ((x.add (i * 5)).add 2) = some (.int .i64 y.2.2.1) ∧ W.cell? ((x.add (i * 5)).add 3) = some (.int .i64 y.2.2.2.1) ∧ W.cell? ((x.add (i * 5)).add 4) = some (.string y.2.2.2.2) := by
      intro i hil
      obtain ⟨cs', hc, ht⟩ := hi i (by omega)
      rw [hC] at hc
      obtain ⟨-, hcl, hat⟩ := World.cells?_some hc
      obtain ⟨c0, c1, c2, c3, c4, rfl⟩ : ∃ c0 c1 c2 c3 c4, cs' = [c0, c1, c2, c3, c4] := by
        match cs', hcl with
        | [c0, c1, c2, c3, c4], _ => exact ⟨c0, c1, c2, c3, c4, rfl⟩
      obtain ⟨key, gone, k, n, s, rfl, rfl, rfl, rfl, rfl, ok⟩ := rec_cells ht
      have hz : (x.add (i * 5)).add 0 = x.add (i * 5) := by generalize x.add (i * 5) = y; unfold Addr.add; simp
      have t0 := hat 0 (by omega)
      rw [hz] at t0
      exact ⟨(key, gone, k, n, s), ok, t0, hat 1 (by omega), hat 2 (by omega), hat 3 (by omega), hat 4 (by omega)⟩
    obtain ⟨L, hL, hp⟩ := list_of_rec len _ key
    subst hL
    refine ⟨L, some x, _, rfl, hl, hm, (fun h => by cases h), ?_, ?_⟩
    · intro y hy
      obtain ⟨i, hi', rfl⟩ := List.mem_iff_getElem.1 hy
      exact (hp i hi').1
    · intro hne
      obtain ⟨b, o, spot⟩ := x
      have h0 := (hp 0 (List.length_pos_iff.2 hne)).2.1
      have hspot : spot = none := by simpa [Addr.add] using World.cell?_spot h0
      subst hspot
      have hadd (j k : Nat) : (⟨b, j, none⟩ : Addr).add k = ⟨b, j + k, none⟩ := by unfold Addr.add; split <;> simp_all
      refine ⟨b, o, rfl, fun i hi' => ?_⟩
      have := (hp i hi').2
      rw [hadd, hadd, hadd, hadd, hadd] at this
      exact this

end Go.Proofs.YtkddleonmkhaiaaGreat

namespace Go.Proofs.YtkddleonmkhaiaaGreat
open Go.RowKit Go.Op

def mayK (s : ByteArray) : Bool := decide (1 ≤ s.size) && decide (s.size ≤ 16)

set_option maxRecDepth 100000 in
theorem rmay_c (s : ByteArray) (w : World) (hm : s.size ≤ maxLen) : Calls Tryz.prog 25 #[.string s] w fun e w' => e = .returned (.bool (mayK s)) ∧ w = w' := by
  unfold maxLen at hm
  by_cases h1 : 1 ≤ s.size
  · by_cases h2 : s.size ≤ 16
    · go_enter Tryz.func25, Tryz.ntmps25
      go_wp2
      go_ret
      exact ⟨ret_of (congrArg Value.bool (by unfold mayK; simp [h1, h2]; try omega)), rfl⟩
    · go_enter Tryz.func25, Tryz.ntmps25
      go_wp2
      go_ret
      exact ⟨ret_of (congrArg Value.bool (by unfold mayK; simp [h2]; try omega)), rfl⟩
  · go_enter Tryz.func25, Tryz.ntmps25
    go_wp2
    go_ret
    exact ⟨ret_of (congrArg Value.bool (by unfold mayK; simp [h1]; try omega)), rfl⟩

end Go.Proofs.YtkddleonmkhaiaaGreat
