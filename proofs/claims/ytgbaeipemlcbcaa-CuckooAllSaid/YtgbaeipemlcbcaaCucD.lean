/-
  Stage 17: a *cuckoo.Dir in memory: eight buckets of four slots, three cells each. Plain facts; the small contracts (may, pair, New).
-/
import Derived.Test.YtgbaeipemlcbcaaCucL
import Derived.Test.YtgbaeipemlcbcaaOff
import Derived.Deep.MidRow
namespace Go.Proofs.Ytgbaeipemlcbcaa
open Go.RowKit

def hasO (x : Option (Nat × Int)) : Bool := x.isSome
def tagO : Option (Nat × Int) → Nat
  | some x => x.1
  | none => 0
def idO : Option (Nat × Int) → Int
  | some x => x.2
  | none => 0
/-- A slot's cells. -/
def encO (x : Option (Nat × Int)) : List Value := [.bool (hasO x), .int .i64 (tagO x : Int), .int .i64 (idO x)]
/-- A bucket's cells. -/
def rowO (T : SlT) (b : Nat) : List Value := encO (T (4 * b)) ++ (encO (T (4 * b + 1)) ++ (encO (T (4 * b + 2)) ++ encO (T (4 * b + 3))))
theorem rowO_len (T : SlT) (b : Nat) : (rowO T b).length = 12 := rfl
theorem rowO_at (T : SlT) (b s j : Nat) (hs : s < 4) (hj : j < 3) : (rowO T b)[3 * s + j]? = (encO (T (4 * b + s)))[j]? := by
  rcases (by omega : s = 0 ∨ s = 1 ∨ s = 2 ∨ s = 3) with rfl | rfl | rfl | rfl <;> rcases (by omega : j = 0 ∨ j = 1 ∨ j = 2) with rfl | rfl | rfl <;> rfl

/-- Block d is a directory whose slots hold T. -/
structure CK (w : World) (d : Nat) (T : SlT) : Prop where
  row : ∃ cs fr, w.heap[d]? = some (.cells cs 53 fr)
  tok : TOk T
  fr : ∀ o, w.frozen? ⟨d, o, none⟩ = false
  has : ∀ q, q < 32 → w.cell? ⟨d, 3 * q, none⟩ = some (.bool (hasO (T q)))
  tag : ∀ q, q < 32 → w.cell? ⟨d, 3 * q + 1, none⟩ = some (.int .i64 (tagO (T q) : Int))
  id : ∀ q, q < 32 → w.cell? ⟨d, 3 * q + 2, none⟩ = some (.int .i64 (idO (T q)))

section
variable {w w' : World} {d : Nat} {T : SlT}
theorem CK.same (h : CK w d T) (hb : w'.heap[d]? = w.heap[d]?) : CK w' d T := by
  have hc : ∀ o, w'.cell? ⟨d, o, none⟩ = w.cell? ⟨d, o, none⟩ := fun o => World.cell?_of_block (w := w) (a := ⟨d, o, none⟩) hb
  obtain ⟨cs, fr, hr⟩ := h.row
  have hf := h.fr 0
  refine ⟨⟨cs, fr, hb.trans hr⟩, h.tok, fun o => ?_, fun q hq => (hc _).trans (h.has q hq), fun q hq => (hc _).trans (h.tag q hq), fun q hq => (hc _).trans (h.id q hq)⟩
  have e := h.fr o
  unfold World.frozen? at e ⊢
  simp only [] at e ⊢
  rw [hb]
  exact e
theorem CK.lt (h : CK w d T) : d < w.heap.size := World.block_lt_of_cell? w _ (h.has 0 (by omega))
theorem CK.below (h : CK w d T) (hb : Below w.heap.size w w') : CK w' d T := h.same (hb.block d h.lt)
theorem CK.cell (h : CK w d T) (q j : Nat) (hq : q < 32) (hj : j < 3) : w.cell? ⟨d, 3 * q + j, none⟩ = (encO (T q))[j]? := by
  rcases (by omega : j = 0 ∨ j = 1 ∨ j = 2) with rfl | rfl | rfl
  · exact h.has q hq
  · exact h.tag q hq
  · exact h.id q hq
theorem CK.range (h : CK w d T) (b : Nat) (hb : b < 8) : w.rangeAt d (12 * b) (rowO T b) := by
  intro k v hv
  have hk : k < 12 := (List.getElem?_eq_some_iff.1 hv).1
  have e := rowO_at T b (k / 3) (k % 3) (by omega) (by omega)
  rw [show 3 * (k / 3) + k % 3 = k by omega, hv] at e
  have c := h.cell (4 * b + k / 3) (k % 3) (by omega) (by omega)
  rw [show 12 * b + k = 3 * (4 * b + k / 3) + k % 3 by omega, c]
  exact e.symm
theorem CK.rangeS (h : CK w d T) (q : Nat) (hq : q < 32) : w.rangeAt d (3 * q) (encO (T q)) := by
  intro k v hv
  have hk : k < 3 := (List.getElem?_eq_some_iff.1 hv).1
  rw [h.cell q k hq hk]
  exact hv
end

theorem keepC {w w' : World} {p : Addr} {u : Value} (h : w.cell? p = some u) (hb : Below w.heap.size w w') : w'.cell? p = some u := (hb.cell (World.block_lt_of_cell? w _ h)).trans h
def idOk (i : Int) : Bool := decide (0 ≤ i ∧ i ≤ 1099511627776)
theorem idOk_of {i : Int} (h : idOk i = true) : 0 ≤ i ∧ i ≤ 1099511627776 := of_decide_eq_true h

set_option maxRecDepth 100000 in
theorem cmay_c (i : Int) (w : World) : Calls Try.prog 22 #[.int .i64 i] w fun e w' => e = .returned (.bool (idOk i)) ∧ w = w' := by
  by_cases h1 : 0 ≤ i
  · have E := Go.Lib.hid (show idOk i = decide (i ≤ 1099511627776) by unfold idOk; simp [h1])
    go_enter Try.func22, Try.ntmps22
    go_wp2_with fail
    go_ret
    exact ⟨by rw [E.out]; rfl, rfl⟩
  · have E := Go.Lib.hid (show idOk i = false by unfold idOk; simp [h1])
    go_enter Try.func22, Try.ntmps22
    go_wp2_with fail
    go_ret
    exact ⟨by rw [E.out]; rfl, rfl⟩

set_option maxRecDepth 100000 in
theorem cpair_c (x : Nat) (w : World) (hx : x < 18446744073709551616) : Calls Try.prog 24 #[.int .u64 (x : Int)] w fun e w' => e = .returned (.tuple #[.int .i64 (firstN x : Int), .int .i64 (othN (firstN x) (tagN x) : Int)]) ∧ w = w' := by
  have FA := Go.Lib.hid fun W => hfirst_c x W hx
  have TA := Go.Lib.hid fun W => htag_c x W hx
  have OA := Go.Lib.hid fun W => hother_c (firstN x : Int) (tagN x : Int) W (by have := first_lt x; omega) (by have := first_lt x; omega) (by have := tag_lt x; omega) (by have := tag_lt x; omega)
  rw [otherI_nat (first_lt _) (tag_lt _)] at OA
  generalize othN (firstN x) (tagN x) = o at *
  generalize firstN x = f at *
  generalize tagN x = t at *
  clear hx
  go_enter Try.func24, Try.ntmps24
  go_wp2_with fail
  refine (FA.out _).mono ?_
  rintro e w1 ⟨rfl, rfl⟩
  go_wp2_with fail
  refine (TA.out _).mono ?_
  rintro e w1 ⟨rfl, rfl⟩
  go_wp2_with fail
  refine (OA.out _).mono ?_
  rintro e w1 ⟨rfl, rfl⟩
  go_wp2_with fail
  go_ret2
  exact ⟨rfl, rfl⟩

def zeroC : Array Value := ((List.replicate 32 [Value.bool false, .int .i64 0, .int .i64 0]).flatten).toArray
theorem infoC : (Try.prog.info? 53).map (fun i => (i.zero, i.size)) = some (some (.agg zeroC), 96) := by kernel_rfl
theorem zero_run (W : World) : (zeroValue 53).run Try.prog W = .ok (.agg zeroC) W := by
  have h := infoC
  cases hi : Try.prog.info? 53 with
  | none => rw [hi] at h; cases h
  | some i =>
    rw [hi] at h
    simp only [Option.map_some, Option.some.injEq, Prod.mk.injEq] at h
    simp [zeroValue, typeInfo, hi, h.1]
set_option maxRecDepth 100000 in
theorem cnew_w (w : World) : Calls Try.prog 8 #[] w fun e w' => e = .returned (.pointer (some ⟨w.heap.size, 0, none⟩)) ∧ w' = w.alloc (.cells zeroC 53) := by
  have hz := zero_run
  generalize zeroC = Z at *
  go_enter Try.func8, Try.ntmps8
  go_wp2_with fail
  go_ret
  exact ⟨rfl, rfl⟩
theorem rep3_at {α : Type} (l : List α) (hl : l.length = 3) (j : Nat) (hj : j < 3) : ∀ n q : Nat, q < n → ((List.replicate n l).flatten)[3 * q + j]? = l[j]?
  | 0, q, h => absurd h (by omega)
  | n + 1, 0, _ => by rw [List.replicate_succ, List.flatten_cons, List.getElem?_append_left (by omega)]; congr 1; omega
  | n + 1, q + 1, h => by
    rw [List.replicate_succ, List.flatten_cons, List.getElem?_append_right (by omega), show 3 * (q + 1) + j - l.length = 3 * q + j by omega]
    exact rep3_at l hl j hj n q (by omega)
theorem zeroC_at (q j : Nat) (hq : q < 32) (hj : j < 3) : zeroC[3 * q + j]? = (encO none)[j]? := by
  unfold zeroC
  rw [List.getElem?_toArray]
  exact rep3_at _ rfl j hj 32 q hq
theorem cnew_c (w : World) : Calls Try.prog 8 #[] w fun e w' => ∃ d, e = .returned (.pointer (some ⟨d, 0, none⟩)) ∧ w.heap.size ≤ d ∧ CK w' d (fun _ => none) ∧ Below w.heap.size w w' := by
  refine (cnew_w w).mono ?_
  rintro e w' ⟨rfl, rfl⟩
  have hh := heap_alloc_new w (.cells zeroC 53)
  have hc : ∀ o, (w.alloc (.cells zeroC 53)).cell? ⟨w.heap.size, o, none⟩ = zeroC[o]? := fun o => cell_of_row _ _ _ _ _ _ hh
  refine ⟨w.heap.size, rfl, Nat.le_refl _, ⟨⟨_, _, hh⟩, (fun q x h => by cases h), (fun o => frozen_of_row _ _ _ _ _ hh), fun q hq => ?_, fun q hq => ?_, fun q hq => ?_⟩, (Below.refl _ _).alloc (Nat.le_refl _) _⟩
  · rw [hc]; exact zeroC_at q 0 hq (by omega)
  · rw [hc]; exact zeroC_at q 1 hq (by omega)
  · rw [hc]; exact zeroC_at q 2 hq (by omega)

end Go.Proofs.Ytgbaeipemlcbcaa
