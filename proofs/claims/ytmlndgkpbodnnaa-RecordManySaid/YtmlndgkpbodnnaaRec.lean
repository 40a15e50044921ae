/-
  Records as arguments: one by value, and a slice of them (a record's cells lie flat: Key, Gone, Kind, N, S).
-/
import Derived.Test.YtmlndgkpbodnnaaBase
import Derived.Lib.SmallJoins
import Derived.Deep.Slices
import Derived.Deep.Fields
import Derived.ChangeSame
namespace Go.Proofs.Ytmlndgkpbodnnaa
open Go.RowKit Go.Joins Go.ChangeShapes Go.WideShapes Go.Deep

/-- A record as the program holds it. -/
def recV (key : ByteArray) (gone : Bool) (k n : Int) (s : ByteArray) : Value := .agg #[.string key, .bool gone, .int .i64 k, .int .i64 n, .string s]
/-- Key, Gone, Kind, N, S. -/
abbrev RecT := ByteArray × Bool × Int × Int × ByteArray
def RecOk (x : RecT) : Prop := x.1.size ≤ maxLen ∧ (Lit.int .i64 x.2.2.1).wf = true ∧ (Lit.int .i64 x.2.2.2.1).wf = true ∧ x.2.2.2.2.size ≤ maxLen

theorem array5 {α : Type} {cs : Array α} (h : cs.size = 5) : ∃ a b c d e, cs = #[a, b, c, d, e] := by
  obtain ⟨l⟩ := cs
  match l, h with
  | [a, b, c, d, e], _ => exact ⟨a, b, c, d, e, rfl⟩

set_option maxRecDepth 100000 in
/-- What five cells hold. -/
theorem rec_cells {H : Type} {enc : TypeId × Value → H} {W : World} {fuel : Nat} {c0 c1 c2 c3 c4 : Value} {x : DataW H × List MemPlace} (h : DataW.trod enc Try.prog W 0 (fun _ => true) true fuel 25 [c0, c1, c2, c3, c4] = some x) :
    ∃ key gone k n s, c0 = .string key ∧ c1 = .bool gone ∧ c2 = .int .i64 k ∧ c3 = .int .i64 n ∧ c4 = .string s ∧ RecOk (key, gone, k, n, s) := by
  have g0 : Try.prog.cellsOf 3 = 1 := by kernel_rfl
  have g1 : Try.prog.cellsOf 2 = 1 := by kernel_rfl
  have g2 : Try.prog.cellsOf 9 = 1 := by kernel_rfl
  have g3 : Try.prog.cellsOf 4 = 1 := by kernel_rfl
  have g4 : Try.prog.cellsOf 23 = 3 := by kernel_rfl
  obtain ⟨y0, y1, y2, m, -, -, h0, h1, h2⟩ := trod_struct3 Try.underlying25 h
  simp only [g2, g3, g4, List.drop_zero, List.drop_succ_cons, List.take_succ_cons, List.take_zero] at h0 h1 h2
  obtain ⟨z0, z1, z2, m', -, -, k0, k1, k2⟩ := trod_struct3 Try.underlying23 h2
  simp only [g0, g1, g2, List.drop_zero, List.drop_succ_cons, List.take_succ_cons, List.take_zero] at k0 k1 k2
  obtain ⟨key, e0, -, w0⟩ := DataW.trod_string Try.underlying9 h0
  obtain ⟨gone, e1, -⟩ := DataW.trod_bool Try.underlying4 h1
  obtain ⟨a, e2, -, w2⟩ := DataW.trod_int Try.underlying3 k0
  obtain ⟨b, e3, -, w3⟩ := DataW.trod_int Try.underlying2 k1
  obtain ⟨s, e4, -, w4⟩ := DataW.trod_string Try.underlying9 k2
  simp only [List.cons.injEq, and_true] at e0 e1 e2 e3 e4
  exact ⟨key, gone, a, b, s, e0, e1, e2, e3, e4, w0, w2, w3, w4⟩

set_option maxRecDepth 100000 in
theorem open_rec {H : Type} {enc : TypeId × Value → H} {W : World} {base : Nat} {v : Value} {d : DataW H} {p : List MemPlace} (hok : Value.okWide Try.prog W .any base 25 v) (h : DataW.Trod enc Try.prog W 0 (fun _ => true) true 25 v d p) :
    ∃ key gone k n s, v = recV key gone k n s ∧ RecOk (key, gone, k, n, s) := by
  obtain ⟨cs, rfl, hsz⟩ := okWide_struct Try.underlying25 hok
  have hC : Try.prog.cellsOf 25 = 5 := by kernel_rfl
  obtain ⟨c0, c1, c2, c3, c4, rfl⟩ := array5 (hsz.trans hC)
  obtain ⟨fuel, hf⟩ := h
  obtain ⟨key, gone, k, n, s, rfl, rfl, rfl, rfl, rfl, ok⟩ := rec_cells (by simpa [Value.cells] using hf)
  exact ⟨key, gone, k, n, s, rfl, ok⟩

/-- v, a slice of records, reads as l. -/
def RRec (w : World) (v : Value) (l : List RecT) : Prop :=
  ∃ a cap, v = .slice a l.length cap ∧ l.length ≤ cap ∧ cap ≤ maxLen ∧ (a = none → cap = 0) ∧ (∀ x ∈ l, RecOk x) ∧
    (l ≠ [] → ∃ b o, a = some ⟨b, o, none⟩ ∧ ∀ i (h : i < l.length), w.cell? ⟨b, o + i * 5, none⟩ = some (.string l[i].1) ∧ w.cell? ⟨b, o + i * 5 + 1, none⟩ = some (.bool l[i].2.1) ∧ w.cell? ⟨b, o + i * 5 + 2, none⟩ = some (.int .i64 l[i].2.2.1) ∧ w.cell? ⟨b, o + i * 5 + 3, none⟩ = some (.int .i64 l[i].2.2.2.1) ∧ w.cell? ⟨b, o + i * 5 + 4, none⟩ = some (.string l[i].2.2.2.2))

theorem list_of_rec {α : Type} (n : Nat) (p : Nat → α → Prop) (h : ∀ i, i < n → ∃ x, p i x) : ∃ l : List α, l.length = n ∧ ∀ i (hi : i < l.length), p i l[i] := by
  induction n with
  | zero => exact ⟨[], rfl, fun i hi => absurd hi (by simp)⟩
  | succ n ih =>
    obtain ⟨l, hl, hp⟩ := ih fun i hi => h i (by omega)
    obtain ⟨x, hx⟩ := h n (by omega)
    refine ⟨l ++ [x], by simp [hl], fun i hi => ?_⟩
    by_cases hin : i < l.length
    · rw [List.getElem_append_left hin]; exact hp i hin
    · obtain rfl : i = n := by simp at hi; omega
      simpa [hl] using hx

set_option maxRecDepth 100000 in
theorem open_recs {H : Type} {enc : TypeId × Value → H} {W : World} {a : Option Addr} {len cap : Nat} {d : DataW H} {p : List MemPlace} (h : DataW.Trod enc Try.prog W 0 (fun _ => true) true 40 (.slice a len cap) d p) :
    ∃ l, RRec W (.slice a len cap) l := by
  obtain ⟨fuel, hf⟩ := h
  rcases open_slice Try.underlying40 hf with ⟨hcs, -⟩ | ⟨x, l, c, m, n, D, Pl, hcs, hb, hl, hm, hmm, -, hi⟩
  · simp [Value.cells] at hcs
    obtain ⟨rfl, rfl, rfl⟩ := hcs
    exact ⟨[], none, 0, rfl, Nat.le_refl _, by simp [maxLen], fun _ => rfl, (fun x hx => by cases hx), fun h => absurd rfl h⟩
  · simp [Value.cells] at hcs
    obtain ⟨rfl, rfl, rfl⟩ := hcs
    have hC : Try.prog.cellsOf 25 = 5 := by kernel_rfl
    simp only [if_true] at hmm
    subst hmm
    have key : ∀ i, i < len → ∃ y : RecT, RecOk y ∧ W.cell? (x.add (i * 5)) = some (.string y.1) ∧ W.cell? ((x.add (i * 5)).add 1) = some (.bool y.2.1) ∧ W.cell? ((x.add (i * 5)).add 2) = some (.int .i64 y.2.2.1) ∧ W.cell? ((x.add (i * 5)).add 3) = some (.int .i64 y.2.2.2.1) ∧ W.cell? ((x.add (i * 5)).add 4) = some (.string y.2.2.2.2) := by
      intro i hil
      obtain ⟨cs', hc, ht⟩ := hi i (by omega)
      rw [hC] at hc
      obtain ⟨-, hcl, hat⟩ := World.cells?_some hc
      obtain ⟨c0, c1, c2, c3, c4, rfl⟩ : ∃ c0 c1 c2 c3 c4, cs' = [c0, c1, c2, c3, c4] := by
        match cs', hcl with
        | [c0, c1, c2, c3, c4], _ => exact ⟨c0, c1, c2, c3, c4, rfl⟩
      obtain ⟨key, gone, k, n, s, rfl, rfl, rfl, rfl, rfl, ok⟩ := rec_cells ht
      have hz : (x.add (i * 5)).add 0 = x.add (i * 5) := by generalize x.add (i * 5) = y; unfold Addr.add; simp
      have t0 := hat 0 (by omega)
      rw [hz] at t0
      exact ⟨(key, gone, k, n, s), ok, t0, hat 1 (by omega), hat 2 (by omega), hat 3 (by omega), hat 4 (by omega)⟩
    obtain ⟨L, hL, hp⟩ := list_of_rec len _ key
    subst hL
    refine ⟨L, some x, _, rfl, hl, hm, (fun h => by cases h), ?_, ?_⟩
    · intro y hy
      obtain ⟨i, hi', rfl⟩ := List.mem_iff_getElem.1 hy
      exact (hp i hi').1
    · intro hne
      obtain ⟨b, o, spot⟩ := x
      have h0 := (hp 0 (List.length_pos_iff.2 hne)).2.1
      have hspot : spot = none := by simpa [Addr.add] using World.cell?_spot h0
      subst hspot
      have hadd (j k : Nat) : (⟨b, j, none⟩ : Addr).add k = ⟨b, j + k, none⟩ := by unfold Addr.add; split <;> simp_all
      refine ⟨b, o, rfl, fun i hi' => ?_⟩
      have := (hp i hi').2
      rw [hadd, hadd, hadd, hadd, hadd] at this
      exact this

end Go.Proofs.Ytmlndgkpbodnnaa
