/-
  The contract of math/bits.Len64: it answers how many binary digits a number has; the world stays.
  Numbers one behind the other as bits: mathematics alone.
  Slices of bools.
-/
import Derived.Test.YtibbligidncocaaM28
import Derived.Test.YtibbligidncocaaM01
import Derived.Test.YtibbligidncocaaM07
import Derived.Test.YtibbligidncocaaM26
import Derived.Test.YtibbligidncocaaM03
import Derived.Laws.BitsAllLaws
import Derived.LoopTactic
namespace Go.Proofs.Ytibbligidncocaa
open Go.RowKit

theorem aux_digits : ∀ (f x : Nat), x < 2 ^ f → Lib.bitLenAux f x = digits x
  | 0, x, h => by
    have : x = 0 := by rw [Nat.pow_zero] at h; omega
    subst this
    rfl
  | f + 1, x, h => by
    rw [Lib.bitLenAux]
    by_cases hx : x = 0
    · rw [if_pos hx, hx, digits_zero]
    · rw [if_neg hx, digits_half x hx, aux_digits f (x / 2) (by rw [Nat.pow_succ] at h; omega)]
      omega
theorem digits_shift (x s : Nat) (h : x / 2 ^ s ≠ 0) : digits x = s + digits (x / 2 ^ s) := by
  induction s with
  | zero => simp
  | succ s ih =>
    have e : x / 2 ^ (s + 1) = x / 2 ^ s / 2 := by rw [Nat.pow_succ, Nat.div_div_eq_div_mul]
    rw [e] at h ⊢
    have h1 : x / 2 ^ s ≠ 0 := by intro h0; rw [h0] at h; exact h rfl
    rw [ih h1, digits_half _ h1]
    omega
theorem digits_8 (y : Nat) (h : y < 256) : digits y ≤ 8 := by
  by_cases h0 : y = 0
  · subst h0; decide
  · obtain ⟨a, b, c⟩ := digits_bounds y h0
    have := (Nat.pow_lt_pow_iff_right (by omega : 1 < 2)).1 (Nat.lt_of_le_of_lt a (show y < 2 ^ 8 from h))
    omega
theorem len64_c (x : Nat) (w : World) (hx : x < 18446744073709551616) :
    Calls Try.prog 94 #[.int .u64 (x : Int)] w fun e w' => e = .returned (.int .i64 (digits x : Int)) ∧ w = w' := by
  have h := len64_i x w (by omega) (by omega)
  rw [Int.toNat_natCast, Lib.bitLen, aux_digits 64 x (Nat.lt_of_lt_of_eq hx (by decide))] at h
  exact h

end Go.Proofs.Ytibbligidncocaa

namespace Go.Proofs.Ytibbligidncocaa

def stepG (l : List Bool) (i : Int) : Option (Nat × Nat) := if 0 ≤ i then getG l i.toNat else none
/-- k numbers from a place on, where the last one ends. -/
def allG (l : List Bool) : Nat → Int → Option (List Nat × Int)
  | 0, i => some ([], i)
  | k + 1, i => match stepG l i with
    | none => none
    | some (x, e) => match allG l k (e : Int) with
      | none => none
      | some (xs, e') => some (x :: xs, e')
theorem allG_snoc (l : List Bool) : ∀ (k : Nat) (i : Int), allG l (k + 1) i = match allG l k i with
    | none => none
    | some (xs, e) => match stepG l e with
      | none => none
      | some (x, e') => some (xs ++ [x], (e' : Int))
  | 0, i => by
    rw [allG, allG]
    simp only []
    cases stepG l i with
    | none => rfl
    | some p =>
      obtain ⟨x, e⟩ := p
      simp only [allG]
      rfl
  | k + 1, i => by
    rw [allG]
    cases hs : stepG l i with
    | none => simp [allG, hs]
    | some p =>
      obtain ⟨x, e⟩ := p
      simp only [allG_snoc l k (e : Int)]
      rw [allG, hs]
      simp only []
      cases allG l k (e : Int) with
      | none => rfl
      | some q =>
        obtain ⟨xs, e2⟩ := q
        simp only []
        cases stepG l e2 with
        | none => rfl
        | some p => rfl
theorem allG_none (l : List Bool) {k : Nat} {i : Int} (h : allG l k i = none) : ∀ n, k ≤ n → allG l n i = none := by
  intro n hn
  induction hn with
  | refl => exact h
  | step _ ih => rw [allG_snoc, ih]
theorem allG_length (l : List Bool) : ∀ (k : Nat) (i : Int) (xs : List Nat) (e : Int), allG l k i = some (xs, e) → xs.length = k
  | 0, i, xs, e, h => by
    rw [allG] at h
    cases h
    rfl
  | k + 1, i, xs, e, h => by
    rw [allG] at h
    cases hs : stepG l i with
    | none => rw [hs] at h; cases h
    | some p =>
      obtain ⟨x, e1⟩ := p
      rw [hs] at h
      simp only [] at h
      cases ha : allG l k (e1 : Int) with
      | none => rw [ha] at h; cases h
      | some q =>
        obtain ⟨ys, e2⟩ := q
        rw [ha] at h
        cases h
        rw [List.length_cons, allG_length l k _ _ _ ha]
/-- What was put one behind the other is told again. -/
def gams (xs : List Nat) : List Bool := xs.flatMap gam
theorem gams_snoc (xs : List Nat) (x : Nat) : gams (xs ++ [x]) = gams xs ++ gam x := by simp [gams]
theorem allG_gams : ∀ (xs : List Nat) (a r : List Bool), (∀ x ∈ xs, x ≠ 0 ∧ x < 18446744073709551616) → allG (a ++ gams xs ++ r) xs.length (a.length : Int) = some (xs, ((a ++ gams xs).length : Int))
  | [], a, r, _ => by simp [allG, gams]
  | x :: xs, a, r, h => by
    obtain ⟨h1, h2⟩ := h x (by simp)
    have hg := getG_gam a (gams xs ++ r) x h1 h2
    have e1 : a ++ gams (x :: xs) ++ r = a ++ gam x ++ (gams xs ++ r) := by simp [gams]
    have ih := allG_gams xs (a ++ gam x) r (fun y hy => h y (by simp [hy]))
    rw [List.length_cons, allG, stepG, if_pos (by omega), Int.toNat_natCast, e1, hg]
    simp only []
    have e2 : a ++ gam x ++ gams xs ++ r = a ++ gam x ++ (gams xs ++ r) := by simp
    rw [e2, List.length_append] at ih
    rw [ih]
    simp [gams]
theorem getG_end (l : List Bool) : getG l l.length = none := by
  have h : noughts (l.drop l.length) = 0 := by rw [List.drop_length]; rfl
  unfold getG
  rw [h, if_neg (by omega), if_neg (by omega)]
/-- There is not one more. -/
theorem allG_more (xs : List Nat) (h : ∀ x ∈ xs, x ≠ 0 ∧ x < 18446744073709551616) : allG (gams xs) (xs.length + 1) 0 = none := by
  have h1 := allG_gams xs [] [] h
  rw [List.append_nil, List.nil_append] at h1
  rw [allG_snoc, show (0 : Int) = (([] : List Bool).length : Int) from rfl, h1]
  simp only [stepG]
  rw [if_pos (by omega), Int.toNat_natCast, getG_end]

end Go.Proofs.Ytibbligidncocaa

namespace Go.Proofs.Ytibbligidncocaa
open Go.RowKit

def zb (l : List Bool) : List Value := l.map Value.bool
theorem zb_length (l : List Bool) : (zb l).length = l.length := by simp [zb]
theorem zb_append (l m : List Bool) : zb (l ++ m) = zb l ++ zb m := by simp [zb]
theorem zb_at (l : List Bool) (i : Nat) (h : i < l.length) : (zb l)[i]'(by rw [zb_length]; exact h) = .bool l[i] := by simp [zb]
theorem zb_one (l : List Bool) : ∀ u ∈ zb l, u.oneCell' = true := by
  intro u hu
  obtain ⟨n, -, rfl⟩ := List.mem_map.1 hu
  rfl
/-- A bool of it. -/
theorem RV.zbAt {w : World} {a : Option Addr} {len cap : Nat} {l : List Bool} (h : RV w (.slice a len cap) (zb l)) (k : Nat) (hk : k < l.length) : ∃ b o, a = some ⟨b, o, none⟩ ∧ w.cell? ⟨b, o + k, none⟩ = some (.bool l[k]) ∧ b < w.heap.size := by
  obtain ⟨b, o, h1, h2, h3⟩ := h.at k (by rw [zb_length]; exact hk)
  rw [zb_at l k hk] at h2
  exact ⟨b, o, h1, h2, h3⟩
theorem RV.zbForm {w : World} {v : Value} {l : List Bool} (h : RV w v (zb l)) : ∃ a cap, v = .slice a l.length cap ∧ l.length ≤ 9223372036854775807 ∧ (a = none → l.length = 0) := by
  obtain ⟨a, cap, hv, h1, h2, h3, -⟩ := h
  rw [zb_length] at hv h1
  refine ⟨a, cap, hv, by unfold maxLen at h2; omega, fun ha => by have := h3 ha; omega⟩

theorem RV.zbCap {w : World} {a : Option Addr} {len cap : Nat} {l : List Bool} (h : RV w (.slice a len cap) (zb l)) : l.length ≤ cap := by
  obtain ⟨a', cap', hv, h1, -⟩ := h
  simp only [Value.slice.injEq] at hv
  obtain ⟨rfl, rfl, rfl⟩ := hv
  rw [zb_length] at h1
  exact h1
theorem RV.zbTake {w : World} {a : Option Addr} {len cap : Nat} {l : List Bool} (h : RV w (.slice a len cap) (zb l)) (n : Nat) (hn : n ≤ l.length) : RV w (.slice a n cap) (zb (l.take n)) := by
  obtain ⟨a', cap', hv, h1, h2, h3, h4⟩ := h
  simp only [Value.slice.injEq] at hv
  obtain ⟨rfl, rfl, rfl⟩ := hv
  rw [zb_length] at h1
  have hlen : (zb (l.take n)).length = n := by rw [zb_length, List.length_take]; omega
  refine ⟨a, cap, by rw [hlen], by rw [hlen]; omega, h2, h3, fun hne => ?_⟩
  obtain ⟨b, o, ha, hc⟩ := h4 (by intro e; rw [← List.length_eq_zero_iff, zb_length] at e; apply hne; rw [← List.length_eq_zero_iff, hlen]; omega)
  refine ⟨b, o, ha, fun i hi => ?_⟩
  rw [hlen] at hi
  have := hc i (by rw [zb_length]; omega)
  rw [zb_at l i (by omega)] at this
  rw [this, zb_at _ i (by rw [List.length_take]; omega)]
  simp
/-- 'append(s, x...)', s the call's own, x whatever reads as m: bools. -/
theorem wpList_append_zb {P : Program} {ops : Array Oper} {rest : List Oper} {o : Oper} {a : Act} {w : World} {Q : Exit → Act → World → Prop} (hgd : o.guard = none) (s x : Operand) (t : TypeId)
    (ho : o.op = .call { callee := .builtin .append, args := #[s, x], argTypes := #[t, t] })
    (B : Nat) (e : TypeId) (ht : P.underlying t = some (.slice e)) (hinfo : (P.info? e).map (fun i => (i.zero, i.size, i.bytes)) = some (some (.bool false), 1, 1))
    (v xv : Value) (l m : List Bool) (hs : a.eval s = v) (hx : a.eval x = xv) (hown : OwnV e w B v (zb l)) (hrb : RV w xv (zb m))
    (hlen : l.length + m.length ≤ 140737488355328) (hbase : B ≤ w.heap.size)
    (h : ∀ v' w', OwnV e w' B v' (zb (l ++ m)) → w.grownBy w' v.ownBlock → wpList P ops Q rest (a.put o.dst v') w') : wpList P ops Q (o :: rest) a w := by
  refine wpList_append_RV hgd s x t ho B e ht (.bool false) 1 rfl hinfo v xv (zb l) (zb m) hs hx hown hrb (zb_one m) (by rw [zb_length, zb_length]; omega) (by rw [zb_length, zb_length]; omega) hbase fun v' w' h1 h2 => h v' w' ?_ h2
  rw [zb_append]
  exact h1
/-- 'make([]bool, n)'. -/
theorem wpList_make_zb {P : Program} {ops : Array Oper} {rest : List Oper} {o : Oper} {a : Act} {w : World} {Q : Exit → Act → World → Prop} (hgd : o.guard = none) (lo co : Operand) (t : TypeId)
    (hop : o.op = Op.makeSlice t lo co) (e : TypeId) (ht : P.underlying t = some (.slice e)) (hinfo : (P.info? e).map (fun i => (i.zero, i.size, i.bytes)) = some (some (.bool false), 1, 1))
    (kl kc : IntKind) (L : Int) (n : Nat) (hl : a.eval lo = .int kl L) (hc : a.eval co = .int kc L) (hL : L = (n : Int)) (hcm : n ≤ 140737488355328)
    (h : ∀ v w', OwnV e w' w.heap.size v (zb (List.replicate n false)) → Below w.heap.size w w' → wpList P ops Q rest (a.put o.dst v) w') : wpList P ops Q (o :: rest) a w := by
  obtain ⟨i, hi, hz, hsize, hby⟩ := info_parts hinfo
  subst hL
  have hr := run_make (P := P) w t e i (.bool false) ht hi hz kl kc n n (by omega) (by omega) (by rw [hby]; omega) (by omega)
  simp only [Int.toNat_natCast, hsize, Nat.mul_one] at hr
  refine wpList_gives hgd (.slice (some ⟨w.heap.size, 0, none⟩) n n) (w.alloc (.cells (madeCells (Value.bool false).cells n) e)) (by simp [execOp, hop, hl, hc, hr, Result.andThen]) (h _ _ ?_ (grown_below (World.grownBy_alloc w _ none) (Nat.le_refl _) (by simp)))
  refine ⟨by simp, .inr ⟨w.heap.size, n, madeCells #[Value.bool false] n, (by simp [zb]), Nat.le_refl _, ?_, by simp [zb], by unfold maxLen; omega, by simp [size_madeCells], ?_⟩⟩
  · exact heap_alloc_new w _
  · rw [toList_madeCells_one, List.take_replicate]
    simp [zb]
theorem grown_new {w w' : World} (hg : w.grownBy w' (Value.slice none 0 0).ownBlock) : Below w.heap.size w w' := grown_below hg (Nat.le_refl _) (by simp [Value.ownBlock])
/-- Bools that are written out, in a new block of their own. -/
theorem RV.zbLits (w : World) (e : TypeId) (l : List Bool) (arr : Array Value) (n : Nat) (h : arr = (zb l).toArray) (hn : n = l.length) (hm : l.length ≤ 1000) : RV (w.alloc (.cells arr e)) (.slice (some ⟨w.heap.size, 0, none⟩) n n) (zb l) := by
  subst h hn
  refine ⟨some ⟨w.heap.size, 0, none⟩, l.length, by rw [zb_length], by rw [zb_length]; exact Nat.le_refl _, by unfold maxLen; omega, (fun h => by cases h), fun _ => ⟨w.heap.size, 0, rfl, fun i hi => ?_⟩⟩
  rw [cell_of_row _ w.heap.size (0 + i) (zb l).toArray e (0, 0) (heap_alloc_new w _)]
  simp [hi]
theorem RV.zbOne (w : World) (e : TypeId) (t : Bool) : RV (w.alloc (.cells #[.bool t] e)) (.slice (some ⟨w.heap.size, 0, none⟩) 1 1) (zb [t]) := RV.one w e (.bool t)
theorem infoB : (Try.prog.info? 4).map (fun i => (i.zero, i.size, i.bytes)) = some (some (.bool false), 1, 1) := by kernel_rfl

end Go.Proofs.Ytibbligidncocaa
