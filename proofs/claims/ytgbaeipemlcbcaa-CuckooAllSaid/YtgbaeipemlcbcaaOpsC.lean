/-
  Stage 17: a slice of the law's Ops as an argument.
-/
import Derived.Test.YtgbaeipemlcbcaaGenO
namespace Go.Proofs.Ytgbaeipemlcbcaa
open Go.RowKit Go.Joins Go.ChangeShapes Go.WideShapes Go.Deep

/-- Kind, Id, Old, H. -/
structure OpC where
  kind : Int
  id : Int
  old : Int
  h : Nat
structure OpCOk (x : OpC) : Prop where
  wk : (Lit.int .i64 x.kind).wf = true
  wi : (Lit.int .i64 x.id).wf = true
  wo : (Lit.int .i64 x.old).wf = true
  wh : x.h < 18446744073709551616
def KO : Lay OpC := ⟨fun x => [.int .i64 x.kind, .int .i64 x.id, .int .i64 x.old, .int .u64 (x.h : Int)], 4, 30, 22, .agg #[.int .i64 0, .int .i64 0, .int .i64 0, .int .u64 0], 32⟩
theorem KO_ok : KO.Ok Try.prog := ⟨by decide, fun _ => rfl, fun x u hu => by
  simp only [KO, List.mem_cons, List.not_mem_nil, or_false] at hu
  rcases hu with rfl | rfl | rfl | rfl <;> rfl, Try.underlying22, by kernel_rfl, rfl, by decide⟩

set_option maxRecDepth 100000 in
theorem opc_cells {H : Type} {enc : TypeId × Value → H} {W : World} (fuel : Nat) (cs : List Value) (x : DataW H × List MemPlace) (h : DataW.trod enc Try.prog W 0 (fun _ => true) true fuel 30 cs = some x) (hl : cs.length = 4) :
    ∃ y : OpC, cs = KO.enc y ∧ OpCOk y := by
  obtain ⟨c0, c1, c2, c3, rfl⟩ : ∃ c0 c1 c2 c3, cs = [c0, c1, c2, c3] := by
    match cs, hl with
    | [c0, c1, c2, c3], _ => exact ⟨c0, c1, c2, c3, rfl⟩
  have g0 : Try.prog.cellsOf 3 = 1 := by kernel_rfl
  have g1 : Try.prog.cellsOf 28 = 1 := by kernel_rfl
  obtain ⟨y0, y1, y2, y3, m, -, -, h0, h1, h2, h3⟩ := trod_struct4 Try.underlying30 h
  simp only [g0, g1, List.drop_zero, List.drop_succ_cons, List.take_succ_cons, List.take_zero] at h0 h1 h2 h3
  obtain ⟨a, e0, -, w0⟩ := DataW.trod_int Try.underlying3 h0
  obtain ⟨b, e1, -, w1⟩ := DataW.trod_int Try.underlying3 h1
  obtain ⟨c, e2, -, w2⟩ := DataW.trod_int Try.underlying3 h2
  obtain ⟨d, e3, -, w3⟩ := DataW.trod_int Try.underlying28 h3
  simp only [List.cons.injEq, and_true] at e0 e1 e2 e3
  have hd : 0 ≤ d ∧ d < 18446744073709551616 := by
    simp [Lit.wf, IntKind.min, IntKind.max, IntKind.signed, IntKind.bits] at w3
    omega
  subst e0 e1 e2 e3
  obtain ⟨n, rfl⟩ : ∃ n : Nat, d = (n : Int) := ⟨d.toNat, by omega⟩
  exact ⟨⟨a, b, c, n⟩, rfl, w0, w1, w2, by show n < _; omega⟩

/-- An argument. -/
def ROpC (w : World) (v : Value) (l : List OpC) : Prop := KO.R w v l ∧ ∀ x ∈ l, OpCOk x
theorem open_opcs {H : Type} {enc : TypeId × Value → H} {W : World} {a : Option Addr} {len cap : Nat} {d : DataW H} {p : List MemPlace} (h : DataW.Trod enc Try.prog W 0 (fun _ => true) true 22 (.slice a len cap) d p) : ∃ l, ROpC W (.slice a len cap) l :=
  Lay.open_row KO_ok (by kernel_rfl) OpCOk (fun fuel cs x h hl => opc_cells fuel cs x h hl) h

end Go.Proofs.Ytgbaeipemlcbcaa
