/-
  A slice of the law's Ops as an argument (an Op's cells lie flat: Kind, I, B, Keep; B and Keep are slices themselves).
-/
import Derived.Test.YtdobkocckdpghaaBase
import Derived.Test.YtdobkocckdpghaaOpenB
import Derived.Lib.SmallJoins
import Derived.Deep.Slices
import Derived.Deep.Fields
import Derived.ChangeSame
import Derived.OpenShut
namespace Go.Proofs.Ytdobkocckdpghaa
open Go.RowKit Go.Joins Go.ChangeShapes Go.WideShapes Go.Deep

/-- Kind, I, B and its bytes, Keep and its bools. -/
structure OpT where
  kind : Int
  at_ : Int
  bv : Value
  bs : List UInt8
  kv : Value
  ks : List Bool
structure OpOk (w : World) (x : OpT) : Prop where
  wk : (Lit.int .i64 x.kind).wf = true
  wa : (Lit.int .i64 x.at_).wf = true
  rb : RB w x.bv x.bs
  rk : RV w x.kv (zb x.ks)
theorem OpOk.below {w w' : World} {x : OpT} (h : OpOk w x) (hb : Below w.heap.size w w') : OpOk w' x := ⟨h.wk, h.wa, h.rb.below hb, h.rk.below hb⟩

theorem open_bytes1 {H : Type} {enc : TypeId × Value → H} {W : World} {fuel : Nat} {c : Value} {x : DataW H × List MemPlace} (hf : DataW.trod enc Try.prog W 0 (fun _ => true) true fuel 31 [c] = some x) : ∃ l, RB W c l := by
  rcases open_ints Try.underlying31 Try.underlying5 (by kernel_rfl) hf with ⟨hcs, _⟩ | ⟨x, l, c, zs, hcs, _, hl, hm, hz, _, hcell, hwz⟩
  · simp only [List.cons.injEq, and_true] at hcs
    subst hcs
    exact ⟨[], RB.nil _⟩
  · simp only [List.cons.injEq, and_true] at hcs
    subst hcs
    exact rb_of_row (.inr ⟨_, rfl, hl, hm, by simpa using hz, hcell, hwz⟩)
theorem open_bools1 {H : Type} {enc : TypeId × Value → H} {W : World} {fuel : Nat} {c : Value} {x : DataW H × List MemPlace} (hf : DataW.trod enc Try.prog W 0 (fun _ => true) true fuel 28 [c] = some x) : ∃ l, RV W c (zb l) := by
  have hform : ∃ a len cap, c = .slice a len cap := by
    rcases Go.Deep.open_bools Try.underlying28 Try.underlying4 (by kernel_rfl) hf with ⟨hcs, -⟩ | ⟨x, l, c, B, hcs, -⟩
    · simp only [List.cons.injEq, and_true] at hcs
      exact ⟨_, _, _, hcs⟩
    · simp only [List.cons.injEq, and_true] at hcs
      exact ⟨_, _, _, hcs⟩
  obtain ⟨a, len, cap, rfl⟩ := hform
  exact open_zb Try.underlying28 Try.underlying4 (by kernel_rfl) ⟨fuel, by simpa [Value.cells] using hf⟩

set_option maxRecDepth 100000 in
/-- What four cells hold. -/
theorem op_cells {H : Type} {enc : TypeId × Value → H} {W : World} {fuel : Nat} {c0 c1 c2 c3 : Value} {x : DataW H × List MemPlace} (h : DataW.trod enc Try.prog W 0 (fun _ => true) true fuel 33 [c0, c1, c2, c3] = some x) :
    ∃ y : OpT, c0 = .int .i64 y.kind ∧ c1 = .int .i64 y.at_ ∧ c2 = y.bv ∧ c3 = y.kv ∧ OpOk W y := by
  have g0 : Try.prog.cellsOf 3 = 1 := by kernel_rfl
  have g1 : Try.prog.cellsOf 31 = 1 := by kernel_rfl
  have g2 : Try.prog.cellsOf 28 = 1 := by kernel_rfl
  obtain ⟨y0, y1, y2, y3, m, -, -, h0, h1, h2, h3⟩ := trod_struct4 Try.underlying33 h
  simp only [g0, g1, g2, List.drop_zero, List.drop_succ_cons, List.take_succ_cons, List.take_zero] at h0 h1 h2 h3
  obtain ⟨a, e0, -, w0⟩ := DataW.trod_int Try.underlying3 h0
  obtain ⟨b, e1, -, w1⟩ := DataW.trod_int Try.underlying3 h1
  obtain ⟨l, hl⟩ := open_bytes1 h2
  obtain ⟨k, hk⟩ := open_bools1 h3
  simp only [List.cons.injEq, and_true] at e0 e1
  exact ⟨⟨a, b, c2, l, c3, k⟩, e0, e1, rfl, rfl, w0, w1, hl, hk⟩

/-- v, a slice of Ops, reads as l. -/
def ROps (w : World) (v : Value) (l : List OpT) : Prop :=
  ∃ a cap, v = .slice a l.length cap ∧ l.length ≤ cap ∧ cap ≤ maxLen ∧ (∀ x ∈ l, OpOk w x) ∧
    (l ≠ [] → ∃ b o, a = some ⟨b, o, none⟩ ∧ ∀ i (h : i < l.length), w.cell? ⟨b, o + i * 4, none⟩ = some (.int .i64 l[i].kind) ∧ w.cell? ⟨b, o + i * 4 + 1, none⟩ = some (.int .i64 l[i].at_) ∧ w.cell? ⟨b, o + i * 4 + 2, none⟩ = some l[i].bv ∧ w.cell? ⟨b, o + i * 4 + 3, none⟩ = some l[i].kv)

theorem list_of_op {α : Type} (n : Nat) (p : Nat → α → Prop) (h : ∀ i, i < n → ∃ x, p i x) : ∃ l : List α, l.length = n ∧ ∀ i (hi : i < l.length), p i l[i] := by
  induction n with
  | zero => exact ⟨[], rfl, fun i hi => absurd hi (by simp)⟩
  | succ n ih =>
    obtain ⟨l, hl, hp⟩ := ih fun i hi => h i (by omega)
    obtain ⟨x, hx⟩ := h n (by omega)
    refine ⟨l ++ [x], by simp [hl], fun i hi => ?_⟩
    by_cases hin : i < l.length
    · rw [List.getElem_append_left hin]; exact hp i hin
    · obtain rfl : i = n := by simp at hi; omega
      simpa [hl] using hx

set_option maxRecDepth 100000 in
theorem open_ops {H : Type} {enc : TypeId × Value → H} {W : World} {a : Option Addr} {len cap : Nat} {d : DataW H} {p : List MemPlace} (h : DataW.Trod enc Try.prog W 0 (fun _ => true) true 22 (.slice a len cap) d p) :
    ∃ l, ROps W (.slice a len cap) l := by
  obtain ⟨fuel, hf⟩ := h
  rcases open_slice Try.underlying22 hf with ⟨hcs, -⟩ | ⟨x, l, c, m, n, D, Pl, hcs, hb, hl, hm, hmm, -, hi⟩
  · simp [Value.cells] at hcs
    obtain ⟨rfl, rfl, rfl⟩ := hcs
    exact ⟨[], none, 0, rfl, Nat.le_refl _, by simp [maxLen], (fun x hx => by cases hx), fun h => absurd rfl h⟩
  · simp [Value.cells] at hcs
    obtain ⟨rfl, rfl, rfl⟩ := hcs
    have hC : Try.prog.cellsOf 33 = 4 := by kernel_rfl
    simp only [if_true] at hmm
    subst hmm
    have key : ∀ i, i < len → ∃ y : OpT, OpOk W y ∧ W.cell? (x.add (i * 4)) = some (.int .i64 y.kind) ∧ W.cell? ((x.add (i * 4)).add 1) = some (.int .i64 y.at_) ∧ W.cell? ((x.add (i * 4)).add 2) = some y.bv ∧ W.cell? ((x.add (i * 4)).add 3) = some y.kv := by
      intro i hil
      obtain ⟨cs', hc, ht⟩ := hi i (by omega)
      rw [hC] at hc
      obtain ⟨-, hcl, hat⟩ := World.cells?_some hc
      obtain ⟨c0, c1, c2, c3, rfl⟩ : ∃ c0 c1 c2 c3, cs' = [c0, c1, c2, c3] := by
        match cs', hcl with
        | [c0, c1, c2, c3], _ => exact ⟨c0, c1, c2, c3, rfl⟩
      obtain ⟨y, rfl, rfl, rfl, rfl, ok⟩ := op_cells ht
      have hz : (x.add (i * 4)).add 0 = x.add (i * 4) := by generalize x.add (i * 4) = y; unfold Addr.add; simp
      have t0 := hat 0 (by omega)
      rw [hz] at t0
      exact ⟨y, ok, t0, hat 1 (by omega), hat 2 (by omega), hat 3 (by omega)⟩
    obtain ⟨L, hL, hp⟩ := list_of_op len _ key
    subst hL
    refine ⟨L, some x, _, rfl, hl, hm, ?_, ?_⟩
    · intro y hy
      obtain ⟨i, hi', rfl⟩ := List.mem_iff_getElem.1 hy
      exact (hp i hi').1
    · intro hne
      obtain ⟨b, o, spot⟩ := x
      have h0 := (hp 0 (List.length_pos_iff.2 hne)).2.1
      have hspot : spot = none := by simpa [Addr.add] using World.cell?_spot h0
      subst hspot
      have hadd (j k : Nat) : (⟨b, j, none⟩ : Addr).add k = ⟨b, j + k, none⟩ := by unfold Addr.add; split <;> simp_all
      refine ⟨b, o, rfl, fun i hi' => ?_⟩
      have := (hp i hi').2
      rw [hadd, hadd, hadd, hadd] at this
      exact this

theorem ROps.below {w w' : World} {v : Value} {l : List OpT} (h : ROps w v l) (hb : Below w.heap.size w w') : ROps w' v l := by
  obtain ⟨a, cap, hv, h1, h2, h3, h4⟩ := h
  refine ⟨a, cap, hv, h1, h2, fun x hx => (h3 x hx).below hb, fun hl => ?_⟩
  obtain ⟨b, o, ha, hc⟩ := h4 hl
  have hlt := World.block_lt_of_cell? w _ (hc 0 (List.length_pos_iff.2 hl)).1
  refine ⟨b, o, ha, fun i hi => ?_⟩
  obtain ⟨c0, c1, c2, c3⟩ := hc i hi
  exact ⟨(hb.cell (by exact hlt)).trans c0, (hb.cell (by exact hlt)).trans c1, (hb.cell (by exact hlt)).trans c2, (hb.cell (by exact hlt)).trans c3⟩
/-- An Op of it. -/
theorem ROps.get {w : World} {a : Option Addr} {len cap : Nat} {l : List OpT} (h : ROps w (.slice a len cap) l) (i : Nat) (hi : i < len) : ∃ b o x, a = some ⟨b, o, none⟩ ∧ OpOk w x ∧ l[i]? = some x ∧
    w.cell? ⟨b, o + i * 4, none⟩ = some (.int .i64 x.kind) ∧ w.cell? ⟨b, o + i * 4 + 1, none⟩ = some (.int .i64 x.at_) ∧ w.cell? ⟨b, o + i * 4 + 2, none⟩ = some x.bv ∧ w.cell? ⟨b, o + i * 4 + 3, none⟩ = some x.kv := by
  obtain ⟨a', cap', hv, h1, h2, h3, h4⟩ := h
  simp only [Value.slice.injEq] at hv
  obtain ⟨rfl, rfl, rfl⟩ := hv
  obtain ⟨b, o, rfl, hc⟩ := h4 (by intro e; subst e; simp at hi)
  obtain ⟨c0, c1, c2, c3⟩ := hc i hi
  exact ⟨b, o, l[i], rfl, h3 _ (List.getElem_mem hi), List.getElem?_eq_getElem hi, c0, c1, c2, c3⟩
theorem ROps.len {w : World} {a : Option Addr} {len cap : Nat} {l : List OpT} (h : ROps w (.slice a len cap) l) : len = l.length ∧ len ≤ 9223372036854775807 := by
  obtain ⟨a', cap', hv, h1, h2, -⟩ := h
  simp only [Value.slice.injEq] at hv
  obtain ⟨rfl, rfl, rfl⟩ := hv
  exact ⟨rfl, by unfold maxLen at h2; omega⟩

end Go.Proofs.Ytdobkocckdpghaa
