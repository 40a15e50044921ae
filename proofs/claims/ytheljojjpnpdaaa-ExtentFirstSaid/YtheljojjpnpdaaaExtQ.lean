/-
  The contracts of extent in the spelling that laws meet.
-/
import Derived.Test.YtheljojjpnpdaaaExtK
import Derived.Test.YtheljojjpnpdaaaExtN
namespace Go.Proofs.Ytheljojjpnpdaaa
open Go.RowKit

theorem new_q (w : World) (a n : Nat) (A N : Int) (G : Nat → Bool) (hA : A = (a : Int)) (hN : N = (n : Int)) (hn : n ≤ 2048) (ha : a + n ≤ 100000) (hG : iv a (a + n) = G) : Calls Try.prog 10 #[.int .i64 A, .int .i64 N] w fun e w' => ∃ r v, e = .returned (.pointer (some ⟨r, 0, none⟩)) ∧ RM w' w.heap.size r a n v G ∧ Below w.heap.size w w' := by
  subst hA hN hG
  exact new_c w a n hn ha
section
variable {w : World} {B r at_ n : Nat} {v : Value} {G : Nat → Bool}
theorem take_q (h : RM w B r at_ n v G) (m : Nat) (M A : Int) (x : Nat × Nat) (G' : Nat → Bool) (hM : M = (m : Int)) (hA : A = (x.1 : Int)) (hm : 0 < m) (hf : fitF G (at_ + n) m = some x) (hG : setF G x.1 m false = G') : Calls Try.prog 11 #[.pointer (some ⟨r, 0, none⟩), .int .i64 M] w fun e w' => e = .returned (.tuple #[.agg #[.int .i64 A, .int .i64 M], .bool true]) ∧ RM w' B r at_ n v G' ∧ w.grownBy w' v.ownBlock := by
  subst hM hA hG
  exact take_yes h m hm x hf
theorem takeno_q (h : RM w B r at_ n v G) (m : Nat) (M : Int) (hM : M = (m : Int)) (hm : 0 < m) (hf : fitF G (at_ + n) m = none) : Calls Try.prog 11 #[.pointer (some ⟨r, 0, none⟩), .int .i64 M] w fun e w' => e = .returned (.tuple #[.agg #[.int .i64 0, .int .i64 0], .bool false]) ∧ Below w.heap.size w w' := by
  subst hM
  exact take_no h m hm hf
theorem use_q (h : RM w B r at_ n v G) (p m : Nat) (A M : Int) (G' : Nat → Bool) (hA : A = (p : Int)) (hM : M = (m : Int)) (hm : 0 < m) (hall : allF G p m) (hG : setF G p m false = G') : Calls Try.prog 12 #[.pointer (some ⟨r, 0, none⟩), .agg #[.int .i64 A, .int .i64 M]] w fun e w' => e = .returned (.bool true) ∧ RM w' B r at_ n v G' ∧ w.grownBy w' v.ownBlock := by
  subst hG
  exact use_yes h p m hm hall A M hA hM
theorem give_q (h : RM w B r at_ n v G) (p m : Nat) (A M : Int) (G' : Nat → Bool) (hA : A = (p : Int)) (hM : M = (m : Int)) (hm : 0 < m) (hp : at_ ≤ p) (hp2 : p + m ≤ at_ + n) (hall : ∀ k, p ≤ k → k < p + m → G k = false) (hG : setF G p m true = G') : Calls Try.prog 13 #[.pointer (some ⟨r, 0, none⟩), .agg #[.int .i64 A, .int .i64 M]] w fun e w' => e = .returned (.bool true) ∧ RM w' B r at_ n v G' ∧ w.grownBy w' v.ownBlock := by
  subst hG
  exact give_yes h p m hm hp hp2 hall A M hA hM
theorem useno_q (h : RM w B r at_ n v G) (a b : Int) (ha : -9223372036854775808 ≤ a ∧ a ≤ 9223372036854775807) (hb : -9223372036854775808 ≤ b ∧ b ≤ 9223372036854775807) (hno : ¬ mayTurn G at_ n a b false) : Calls Try.prog 12 #[.pointer (some ⟨r, 0, none⟩), .agg #[.int .i64 a, .int .i64 b]] w fun e w' => e = .returned (.bool false) ∧ Below w.heap.size w w' := use_no h a b ha hb hno
theorem giveno_q (h : RM w B r at_ n v G) (a b : Int) (ha : -9223372036854775808 ≤ a ∧ a ≤ 9223372036854775807) (hb : -9223372036854775808 ≤ b ∧ b ≤ 9223372036854775807) (hno : ¬ mayTurn G at_ n a b true) : Calls Try.prog 13 #[.pointer (some ⟨r, 0, none⟩), .agg #[.int .i64 a, .int .i64 b]] w fun e w' => e = .returned (.bool false) ∧ Below w.heap.size w w' := give_no h a b ha hb hno
theorem free_q (h : RM w B r at_ n v G) (K : Int) (hK : (cntF G (at_ + n) : Int) = K) : Calls Try.prog 16 #[.pointer (some ⟨r, 0, none⟩)] w fun e w' => e = .returned (.int .i64 K) ∧ w = w' := by
  subst hK
  exact free_c h
theorem spans_q (h : RM w B r at_ n v G) (l : List (Nat × Nat)) (hl : spS G (at_ + n) = l) : Calls Try.prog 15 #[.pointer (some ⟨r, 0, none⟩)] w fun e w' => ∃ a c, e = .returned (.slice a l.length c) ∧ OwnS w' w.heap.size (.slice a l.length c) l ∧ Below w.heap.size w w' := by
  subst hl
  refine (spans_c h).mono ?_
  rintro e w1 ⟨v1, rfl, ho, hb⟩
  obtain ⟨a, c, rfl, -⟩ := ho.form
  exact ⟨a, c, rfl, ho, hb⟩
/-- A block of another type stays while the room is turned. -/
theorem RM.blkKept {w' : World} {k : Nat} {cs : Array Value} {t : TypeId} {fr : Nat × Nat} (h : RM w B r at_ n v G) (hg : w.grownBy w' v.ownBlock) (hk : w.heap[k]? = some (.cells cs t fr)) (he : t ≠ 4) : w'.heap[k]? = some (.cells cs t fr) :=
  (hg.block k (Array.getElem?_eq_some_iff.1 hk).1 (h.notBlk hk he)).trans hk
end
theorem nil_q (w : World) (A M : Int) : Calls Try.prog 12 #[.pointer none, .agg #[.int .i64 A, .int .i64 M]] w fun e w' => e = .returned (.bool false) ∧ Below w.heap.size w w' := use_nil w A M
theorem nilg_q (w : World) (A M : Int) : Calls Try.prog 13 #[.pointer none, .agg #[.int .i64 A, .int .i64 M]] w fun e w' => e = .returned (.bool false) ∧ Below w.heap.size w w' := give_nil w A M
theorem nilt_q (w : World) (M : Int) : Calls Try.prog 11 #[.pointer none, .int .i64 M] w fun e w' => e = .returned (.tuple #[.agg #[.int .i64 0, .int .i64 0], .bool false]) ∧ Below w.heap.size w w' := take_nil w M
theorem small_q (w : World) (p : Option Addr) (M : Int) (h : M < 1) : Calls Try.prog 11 #[.pointer p, .int .i64 M] w fun e w' => e = .returned (.tuple #[.agg #[.int .i64 0, .int .i64 0], .bool false]) ∧ Below w.heap.size w w' := take_small w p M h
/-- Below, on and on. -/
theorem below_on {w0 w w' : World} (h : Below w0.heap.size w0 w) (hb : Below w.heap.size w w') : Below w0.heap.size w0 w' := h.trans (hb.mono h.size)
theorem below_gr {w0 w w' : World} {r at_ n : Nat} {v : Value} {G : Nat → Bool} (h : Below w0.heap.size w0 w) (hr : RM w w0.heap.size r at_ n v G) (hg : w.grownBy w' v.ownBlock) : Below w0.heap.size w0 w' := h.trans (hr.belowOf hg h.size)

end Go.Proofs.Ytheljojjpnpdaaa
