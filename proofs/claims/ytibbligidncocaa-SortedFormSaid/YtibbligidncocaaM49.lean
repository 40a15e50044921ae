/-
  The contract of the laws' 'Short(b, n)', the value said.
  A slice of bools that came in.
  Bytes with which no rune begins and none goes on are one rune, whichever they are: mathematics alone.
-/
import Derived.Test.YtibbligidncocaaM48
import Derived.Test.YtibbligidncocaaM17
import Derived.Test.YtibbligidncocaaM29
import Derived.Deep.Grids
import Derived.Test.YtibbligidncocaaM02
namespace Go.Proofs.Ytibbligidncocaa
open Go.RowKit

set_option maxRecDepth 100000 in
/-- 'Short(b, n)', the value said. -/
theorem short_v (a : Option Addr) (len cap : Nat) (l : List UInt8) (n : Nat) (w : World) (hv : RB w (.slice a len cap) l) (hn : n ≤ 1000) :
    Calls Try.prog 21 #[.slice a len cap, .int .i64 n] w fun e w' => e = .returned (.slice a (min n len) cap) ∧ w = w' := by
  obtain ⟨h1, h2, h3⟩ := hv.len
  subst h1
  have hs := h3
  unfold maxLen at hs
  obtain ⟨a', cap', hv', -, -, hn0, -⟩ := hv
  simp only [Value.slice.injEq] at hv'
  obtain ⟨rfl, -, rfl⟩ := hv'
  by_cases h : n < l.length
  · cases a with
    | none => have := hn0 rfl; omega
    | some a =>
      have hr := Go.Lib.hid (Nat.min_eq_left (Nat.le_of_lt h))
      clear hn0 h3
      go_enter Try.func21, Try.ntmps21
      go_wp2
      go_ret
      exact ⟨ret_of (by rw [hr.out]; rfl), rfl⟩
  · have hr := Go.Lib.hid (Nat.min_eq_right (Nat.le_of_not_lt h))
    clear hn0 h3
    go_enter Try.func21, Try.ntmps21
    go_wp2
    go_ret
    exact ⟨ret_of (by rw [hr.out]; rfl), rfl⟩

end Go.Proofs.Ytibbligidncocaa

namespace Go.Proofs.Ytibbligidncocaa
open Go.RowKit

theorem open_zb {H : Type} {enc : TypeId × Value → H} {W : World} {t e : TypeId} {a : Option Addr} {len cap : Nat} {d : DataW H} {p : List MemPlace} (ht : Try.prog.underlying t = some (.slice e)) (he : Try.prog.underlying e = some .bool) (hc : Try.prog.cellsOf e = 1)
    (h : DataW.Trod enc Try.prog W 0 (fun _ => true) true t (.slice a len cap) d p) : ∃ l : List Bool, RV W (.slice a len cap) (zb l) := by
  obtain ⟨fuel, hf⟩ := h
  rcases Go.Deep.open_bools ht he hc hf with ⟨hcs, -⟩ | ⟨x, l, c, B, hcs, -, hl, hm, -, hcell⟩
  · simp [Value.cells] at hcs
    obtain ⟨rfl, rfl, rfl⟩ := hcs
    exact ⟨[], none, 0, rfl, Nat.le_refl _, by simp [maxLen], fun _ => rfl, fun h => absurd rfl h⟩
  · simp [Value.cells] at hcs
    obtain ⟨rfl, rfl, rfl⟩ := hcs
    refine ⟨(List.range len).map B, some x, cap, by simp [zb], by simpa [zb] using hl, hm, (fun h => by cases h), fun hne => ?_⟩
    have hpos : 0 < len := by
      rcases Nat.eq_zero_or_pos len with h0 | h0
      · subst h0; simp [zb] at hne
      · exact h0
    obtain ⟨b, o, spot⟩ := x
    have hspot : spot = none := by simpa [Addr.add] using World.cell?_spot (hcell 0 (by omega))
    subst hspot
    refine ⟨b, o, rfl, fun i hi => ?_⟩
    have hi' : i < len := by simpa [zb] using hi
    have h1 := hcell i (by omega)
    have hadd : (⟨b, o, none⟩ : Addr).add i = ⟨b, o + i, none⟩ := by unfold Addr.add; split <;> simp_all
    rw [hadd] at h1
    rw [h1]
    simp [zb]

end Go.Proofs.Ytibbligidncocaa

namespace Go.Proofs.Ytibbligidncocaa

/-- No rune begins with it, none goes on by it. -/
def never (x : UInt8) : Prop := 248 ≤ x.toNat ∨ x.toNat = 192 ∨ x.toNat = 193

theorem dec_at (l : List UInt8) : (dr l, dw l) =
    (if (l.getD 0 0).toNat < 128 then ((l.getD 0 0).toNat, 1)
     else if ((l.getD 0 0).toNat / 32 == 6 && (decide (1 < l.length) && (l.getD 1 0).toNat / 64 == 2)) = true then
       if (l.getD 0 0).toNat % 32 * 64 + (l.getD 1 0).toNat % 64 ≥ 128 then ((l.getD 0 0).toNat % 32 * 64 + (l.getD 1 0).toNat % 64, 2) else (65533, 1)
     else if ((l.getD 0 0).toNat / 16 == 14 && (decide (1 < l.length) && (l.getD 1 0).toNat / 64 == 2) && (decide (2 < l.length) && (l.getD 2 0).toNat / 64 == 2)) = true then
       if ((l.getD 0 0).toNat % 16 * 4096 + (l.getD 1 0).toNat % 64 * 64 + (l.getD 2 0).toNat % 64 ≥ 2048 && Utf8.valid (((l.getD 0 0).toNat % 16 * 4096 + (l.getD 1 0).toNat % 64 * 64 + (l.getD 2 0).toNat % 64 : Nat) : Int)) = true then ((l.getD 0 0).toNat % 16 * 4096 + (l.getD 1 0).toNat % 64 * 64 + (l.getD 2 0).toNat % 64, 3) else (65533, 1)
     else if ((l.getD 0 0).toNat / 8 == 30 && (decide (1 < l.length) && (l.getD 1 0).toNat / 64 == 2) && (decide (2 < l.length) && (l.getD 2 0).toNat / 64 == 2) && (decide (3 < l.length) && (l.getD 3 0).toNat / 64 == 2)) = true then
       if ((l.getD 0 0).toNat % 8 * 262144 + (l.getD 1 0).toNat % 64 * 4096 + (l.getD 2 0).toNat % 64 * 64 + (l.getD 3 0).toNat % 64 ≥ 65536 && Utf8.valid (((l.getD 0 0).toNat % 8 * 262144 + (l.getD 1 0).toNat % 64 * 4096 + (l.getD 2 0).toNat % 64 * 64 + (l.getD 3 0).toNat % 64 : Nat) : Int)) = true then ((l.getD 0 0).toNat % 8 * 262144 + (l.getD 1 0).toNat % 64 * 4096 + (l.getD 2 0).toNat % 64 * 64 + (l.getD 3 0).toNat % 64, 4) else (65533, 1)
     else (65533, 1)) := by
  have hg : ∀ k, (str l).get! (0 + k) = l.getD k 0 := fun k => get_str l k
  have hs : ∀ k, (0 + k < (str l).size) = (k < l.length) := by intro k; rw [str_size, Nat.zero_add]
  unfold dr dw Utf8.decode
  simp only [hg, hs, Utf8.runeError]

theorem never_not {x : UInt8} (h : never x) : (x.toNat / 64 == 2) = false ∧ ¬ x.toNat < 128 ∧ (x.toNat / 16 == 14) = false ∧ (x.toNat / 8 == 30) = false := by
  rcases h with h | h | h
  · have hx := x.toNat_lt
    simp only [beq_eq_false_iff_ne]
    omega
  · rw [h]; decide
  · rw [h]; decide

theorem dec_never {x : UInt8} (h : never x) (v : List UInt8) : (dr (x :: v), dw (x :: v)) = (65533, 1) := by
  obtain ⟨h1, h2, h3, h4⟩ := never_not h
  rw [dec_at]
  simp only [List.getD_cons_zero, h2, h3, h4, Bool.false_and, if_false, Bool.false_eq_true]
  split
  · rename_i h5
    rcases h with h | h | h
    · exfalso
      have hx := x.toNat_lt
      simp only [Bool.and_eq_true, beq_iff_eq] at h5
      omega
    · rw [if_neg (by rw [h]; omega)]
    · rw [if_neg (by rw [h]; have : ((x :: v).getD 1 0).toNat % 64 < 64 := Nat.mod_lt _ (by omega); omega)]
  · rfl

/-- What is decoded ahead of such a byte does not hang on which it is, and does not take it. -/
theorem dec_ahead {x y : UInt8} (hx : never x) (hy : never y) : ∀ (u v : List UInt8), u ≠ [] → dr (u ++ x :: v) = dr (u ++ y :: v) ∧ dw (u ++ x :: v) = dw (u ++ y :: v) ∧ dw (u ++ x :: v) ≤ u.length := by
  intro u v hu
  obtain ⟨x1, x2, x3, x4⟩ := never_not hx
  obtain ⟨y1, y2, y3, y4⟩ := never_not hy
  have ex := dec_at (u ++ x :: v)
  have ey := dec_at (u ++ y :: v)
  match u, hu with
  | [a], _ =>
    simp only [List.cons_append, List.nil_append, List.getD_cons_zero, List.getD_cons_succ, x1, Bool.and_false, Bool.false_and, if_false, Bool.false_eq_true] at ex
    simp only [List.cons_append, List.nil_append, List.getD_cons_zero, List.getD_cons_succ, y1, Bool.and_false, Bool.false_and, if_false, Bool.false_eq_true] at ey
    simp only [List.cons_append, List.nil_append]
    split at ex <;> split at ey <;> simp_all
  | [a, b], _ =>
    simp only [List.cons_append, List.nil_append, List.getD_cons_zero, List.getD_cons_succ, x1, Bool.and_false, Bool.false_and, if_false, Bool.false_eq_true, List.length_cons] at ex
    simp only [List.cons_append, List.nil_append, List.getD_cons_zero, List.getD_cons_succ, y1, Bool.and_false, Bool.false_and, if_false, Bool.false_eq_true, List.length_cons] at ey
    simp only [List.cons_append, List.nil_append]
    have h := ex.trans ey.symm
    simp only [Prod.mk.injEq] at h
    refine ⟨h.1, h.2, ?_⟩
    split at ex
    · (simp only [Prod.mk.injEq] at ex; simp only [List.length_cons, List.length_nil]; omega)
    · split at ex
      · split at ex <;> (simp only [Prod.mk.injEq] at ex; simp only [List.length_cons, List.length_nil]; omega)
      · (simp only [Prod.mk.injEq] at ex; simp only [List.length_cons, List.length_nil]; omega)
  | [a, b, c], _ =>
    simp only [List.cons_append, List.nil_append, List.getD_cons_zero, List.getD_cons_succ, x1, Bool.and_false, if_false, Bool.false_eq_true, List.length_cons] at ex
    simp only [List.cons_append, List.nil_append, List.getD_cons_zero, List.getD_cons_succ, y1, Bool.and_false, if_false, Bool.false_eq_true, List.length_cons] at ey
    simp only [List.cons_append, List.nil_append]
    have h := ex.trans ey.symm
    simp only [Prod.mk.injEq] at h
    refine ⟨h.1, h.2, ?_⟩
    split at ex
    · (simp only [Prod.mk.injEq] at ex; simp only [List.length_cons, List.length_nil]; omega)
    · split at ex
      · split at ex <;> (simp only [Prod.mk.injEq] at ex; simp only [List.length_cons, List.length_nil]; omega)
      · split at ex
        · split at ex <;> (simp only [Prod.mk.injEq] at ex; simp only [List.length_cons, List.length_nil]; omega)
        · (simp only [Prod.mk.injEq] at ex; simp only [List.length_cons, List.length_nil]; omega)
  | a :: b :: c :: d :: u', _ =>
    simp only [List.cons_append, List.getD_cons_zero, List.getD_cons_succ, List.length_cons, List.length_append] at ex ey
    simp only [List.cons_append]
    have h := ex.trans ey.symm
    simp only [Prod.mk.injEq] at h
    refine ⟨h.1, h.2, ?_⟩
    have := (dw_le (a :: b :: c :: d :: (u' ++ x :: v)) (by simp)).2.1
    simp only [List.length_cons]
    omega

theorem runes_never {x y : UInt8} (hx : never x) (hy : never y) (v : List UInt8) : ∀ (n : Nat) (u : List UInt8), u.length ≤ n → runesOf (toks (u ++ x :: v)) = runesOf (toks (u ++ y :: v)) := by
  have base : runesOf (toks (x :: v)) = runesOf (toks (y :: v)) := by
    have e1 := dec_never hx v
    have e2 := dec_never hy v
    simp only [Prod.mk.injEq] at e1 e2
    rw [toks_cons (l := x :: v) (by simp), toks_cons (l := y :: v) (by simp), e1.1, e1.2, e2.1, e2.2]
    rfl
  intro n
  induction n with
  | zero =>
    intro u hu
    obtain rfl : u = [] := List.eq_nil_of_length_eq_zero (by omega)
    exact base
  | succ n ih =>
    intro u hu
    by_cases h0 : u = []
    · subst h0; exact base
    · obtain ⟨e1, e2, e3⟩ := dec_ahead hx hy u v h0
      have hne (z : UInt8) : u ++ z :: v ≠ [] := by simp
      have hw := (dw_le (u ++ x :: v) (hne x)).1
      rw [toks_cons (hne x), toks_cons (hne y), ← e1, ← e2, List.drop_append_of_le_length e3, List.drop_append_of_le_length e3]
      unfold runesOf at *
      rw [List.map_cons, List.map_cons, ih (u.drop (dw (u ++ x :: v))) (by rw [List.length_drop]; omega)]

end Go.Proofs.Ytibbligidncocaa
