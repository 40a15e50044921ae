/-
  Of the blocks that there were all but one are as they were.
  Stage 17: a *cuckoo.Dir in memory: eight buckets of four slots, three cells each. Plain facts; the small contracts (may, pair, New).
  Stage 17: At, Len.
-/
import Derived.Test.YtkddleonmkhaiaaM01
import Derived.Test.YtkddleonmkhaiaaM13
import Derived.Deep.MidRow
import Derived.BigQuiet
namespace Go.Proofs.Ytkddleonmkhaiaa
open Go.RowKit

/-- Of the blocks that there were all but g are as they were. -/
structure Off1 (g : Nat) (w w' : World) : Prop where
  os : w'.os = w.os
  tape : w'.tape = w.tape
  output : w'.output = w.output
  size : w.heap.size ≤ w'.heap.size
  block : ∀ k, k < w.heap.size → k ≠ g → w'.heap[k]? = w.heap[k]?
section
variable {g : Nat} {w w1 w2 w' : World}
theorem Off1.refl (g : Nat) (w : World) : Off1 g w w := ⟨rfl, rfl, rfl, Nat.le_refl _, fun _ _ _ => rfl⟩
theorem Off1.trans (h : Off1 g w w1) (k : Off1 g w1 w2) : Off1 g w w2 :=
  ⟨k.os.trans h.os, k.tape.trans h.tape, k.output.trans h.output, Nat.le_trans h.size k.size, fun i hi hn => (k.block i (Nat.lt_of_lt_of_le hi h.size) hn).trans (h.block i hi hn)⟩
theorem Off1.of_below (h : Below w.heap.size w w') : Off1 g w w' := ⟨h.os, h.tape, h.output, h.size, fun k hk _ => h.block k hk⟩
theorem Off1.set (h : Off1 g w w') (o : Nat) (u : Value) : Off1 g w (w'.setCell ⟨g, o, none⟩ u) :=
  ⟨h.os, h.tape, h.output, by simpa [World.setCell] using h.size, fun k hk hn => (Below.heap_setCell _ _ _ _ hn).trans (h.block k hk hn)⟩
theorem Off1.below {B : Nat} (h : Off1 g w w') (hg : B ≤ g) (hB : B ≤ w.heap.size) : Below B w w' :=
  ⟨h.os, h.tape, h.output, h.size, fun k hk => h.block k (by omega) (by omega)⟩
/-- What lies elsewhere stays. -/
theorem Off1.cell (h : Off1 g w w') {p : Addr} {u : Value} (hc : w.cell? p = some u) (hp : p.block ≠ g) : w'.cell? p = some u :=
  (World.cell?_of_block (w := w) (h.block p.block (World.block_lt_of_cell? w _ hc) hp)).trans hc
theorem Off1.setRow' (g : Nat) (w : World) (cs : Array Value) : Off1 g w (w.setRow g cs) := ⟨rfl, rfl, rfl, by simp, fun k _ hn => setRow_other w g k cs hn⟩
theorem Off1.above (h : Off1 g w w1) (k : Below w1.heap.size w1 w2) : Off1 g w w2 := h.trans (Off1.of_below k)
end

end Go.Proofs.Ytkddleonmkhaiaa

namespace Go.Proofs.Ytkddleonmkhaiaa
open Go.RowKit

def hasO (x : Option (Nat × Int)) : Bool := x.isSome
def tagO : Option (Nat × Int) → Nat
  | some x => x.1
  | none => 0
def idO : Option (Nat × Int) → Int
  | some x => x.2
  | none => 0
/-- A slot's cells. -/
def encO (x : Option (Nat × Int)) : List Value := [.bool (hasO x), .int .i64 (tagO x : Int), .int .i64 (idO x)]
/-- A bucket's cells. -/
def rowO (T : SlT) (b : Nat) : List Value := encO (T (4 * b)) ++ (encO (T (4 * b + 1)) ++ (encO (T (4 * b + 2)) ++ encO (T (4 * b + 3))))
theorem rowO_len (T : SlT) (b : Nat) : (rowO T b).length = 12 := rfl
theorem rowO_at (T : SlT) (b s j : Nat) (hs : s < 4) (hj : j < 3) : (rowO T b)[3 * s + j]? = (encO (T (4 * b + s)))[j]? := by
  rcases (by omega : s = 0 ∨ s = 1 ∨ s = 2 ∨ s = 3) with rfl | rfl | rfl | rfl <;> rcases (by omega : j = 0 ∨ j = 1 ∨ j = 2) with rfl | rfl | rfl <;> rfl

/-- Block d is a directory whose slots hold T. -/
structure CK (w : World) (d : Nat) (T : SlT) : Prop where
  row : ∃ cs fr, w.heap[d]? = some (.cells cs 73 fr)
  tok : TOk T
  fr : ∀ o, w.frozen? ⟨d, o, none⟩ = false
  has : ∀ q, q < 32 → w.cell? ⟨d, 3 * q, none⟩ = some (.bool (hasO (T q)))
  tag : ∀ q, q < 32 → w.cell? ⟨d, 3 * q + 1, none⟩ = some (.int .i64 (tagO (T q) : Int))
  id : ∀ q, q < 32 → w.cell? ⟨d, 3 * q + 2, none⟩ = some (.int .i64 (idO (T q)))

section
variable {w w' : World} {d : Nat} {T : SlT}
theorem CK.same (h : CK w d T) (hb : w'.heap[d]? = w.heap[d]?) : CK w' d T := by
  have hc : ∀ o, w'.cell? ⟨d, o, none⟩ = w.cell? ⟨d, o, none⟩ := fun o => World.cell?_of_block (w := w) (a := ⟨d, o, none⟩) hb
  obtain ⟨cs, fr, hr⟩ := h.row
  have hf := h.fr 0
  refine ⟨⟨cs, fr, hb.trans hr⟩, h.tok, fun o => ?_, fun q hq => (hc _).trans (h.has q hq), fun q hq => (hc _).trans (h.tag q hq), fun q hq => (hc _).trans (h.id q hq)⟩
  have e := h.fr o
  unfold World.frozen? at e ⊢
  simp only [] at e ⊢
  rw [hb]
  exact e
theorem CK.lt (h : CK w d T) : d < w.heap.size := World.block_lt_of_cell? w _ (h.has 0 (by omega))
theorem CK.below (h : CK w d T) (hb : Below w.heap.size w w') : CK w' d T := h.same (hb.block d h.lt)
theorem CK.cell (h : CK w d T) (q j : Nat) (hq : q < 32) (hj : j < 3) : w.cell? ⟨d, 3 * q + j, none⟩ = (encO (T q))[j]? := by
  rcases (by omega : j = 0 ∨ j = 1 ∨ j = 2) with rfl | rfl | rfl
  · exact h.has q hq
  · exact h.tag q hq
  · exact h.id q hq
theorem CK.range (h : CK w d T) (b : Nat) (hb : b < 8) : w.rangeAt d (12 * b) (rowO T b) := by
  intro k v hv
  have hk : k < 12 := (List.getElem?_eq_some_iff.1 hv).1
  have e := rowO_at T b (k / 3) (k % 3) (by omega) (by omega)
  rw [show 3 * (k / 3) + k % 3 = k by omega, hv] at e
  have c := h.cell (4 * b + k / 3) (k % 3) (by omega) (by omega)
  rw [show 12 * b + k = 3 * (4 * b + k / 3) + k % 3 by omega, c]
  exact e.symm
theorem CK.rangeS (h : CK w d T) (q : Nat) (hq : q < 32) : w.rangeAt d (3 * q) (encO (T q)) := by
  intro k v hv
  have hk : k < 3 := (List.getElem?_eq_some_iff.1 hv).1
  rw [h.cell q k hq hk]
  exact hv
end

theorem keepC {w w' : World} {p : Addr} {u : Value} (h : w.cell? p = some u) (hb : Below w.heap.size w w') : w'.cell? p = some u := (hb.cell (World.block_lt_of_cell? w _ h)).trans h
def idOk (i : Int) : Bool := decide (0 ≤ i ∧ i ≤ 1099511627776)
theorem idOk_of {i : Int} (h : idOk i = true) : 0 ≤ i ∧ i ≤ 1099511627776 := of_decide_eq_true h

set_option maxRecDepth 100000 in
theorem cmay_c (i : Int) (w : World) : Calls Try.prog 35 #[.int .i64 i] w fun e w' => e = .returned (.bool (idOk i)) ∧ w = w' := by
  by_cases h1 : 0 ≤ i
  · have E := Go.Lib.hid (show idOk i = decide (i ≤ 1099511627776) by unfold idOk; simp [h1])
    go_enter Try.func35, Try.ntmps35
    go_wp2_with fail
    go_ret
    exact ⟨by rw [E.out]; rfl, rfl⟩
  · have E := Go.Lib.hid (show idOk i = false by unfold idOk; simp [h1])
    go_enter Try.func35, Try.ntmps35
    go_wp2_with fail
    go_ret
    exact ⟨by rw [E.out]; rfl, rfl⟩

set_option maxRecDepth 100000 in
theorem cpair_c (x : Nat) (w : World) (hx : x < 18446744073709551616) : Calls Try.prog 37 #[.int .u64 (x : Int)] w fun e w' => e = .returned (.tuple #[.int .i64 (firstN x : Int), .int .i64 (othN (firstN x) (tagN x) : Int)]) ∧ w = w' := by
  have FA := Go.Lib.hid fun W => hfirst_c x W hx
  have TA := Go.Lib.hid fun W => htag_c x W hx
  have OA := Go.Lib.hid fun W => hother_c (firstN x : Int) (tagN x : Int) W (by have := first_lt x; omega) (by have := first_lt x; omega) (by have := tag_lt x; omega) (by have := tag_lt x; omega)
  rw [otherI_nat (first_lt _) (tag_lt _)] at OA
  generalize othN (firstN x) (tagN x) = o at *
  generalize firstN x = f at *
  generalize tagN x = t at *
  clear hx
  go_enter Try.func37, Try.ntmps37
  go_wp2_with fail
  refine (FA.out _).mono ?_
  rintro e w1 ⟨rfl, rfl⟩
  go_wp2_with fail
  refine (TA.out _).mono ?_
  rintro e w1 ⟨rfl, rfl⟩
  go_wp2_with fail
  refine (OA.out _).mono ?_
  rintro e w1 ⟨rfl, rfl⟩
  go_wp2_with fail
  go_ret2
  exact ⟨rfl, rfl⟩

def zeroC : Array Value := ((List.replicate 32 [Value.bool false, .int .i64 0, .int .i64 0]).flatten).toArray
theorem infoC : (Try.prog.info? 73).map (fun i => (i.zero, i.size)) = some (some (.agg zeroC), 96) := by kernel_rfl
theorem zero_run (W : World) : (zeroValue 73).run Try.prog W = .ok (.agg zeroC) W := by
  have h := infoC
  cases hi : Try.prog.info? 73 with
  | none => rw [hi] at h; cases h
  | some i =>
    rw [hi] at h
    simp only [Option.map_some, Option.some.injEq, Prod.mk.injEq] at h
    simp [zeroValue, typeInfo, hi, h.1]
set_option maxRecDepth 100000 in
theorem cnew_w (w : World) : Calls Try.prog 27 #[] w fun e w' => e = .returned (.pointer (some ⟨w.heap.size, 0, none⟩)) ∧ w' = w.alloc (.cells zeroC 73) := by
  have hz := zero_run
  generalize zeroC = Z at *
  go_enter Try.func27, Try.ntmps27
  go_wp2_with fail
  go_ret
  exact ⟨rfl, rfl⟩
theorem rep3_at {α : Type} (l : List α) (hl : l.length = 3) (j : Nat) (hj : j < 3) : ∀ n q : Nat, q < n → ((List.replicate n l).flatten)[3 * q + j]? = l[j]?
  | 0, q, h => absurd h (by omega)
  | n + 1, 0, _ => by rw [List.replicate_succ, List.flatten_cons, List.getElem?_append_left (by omega)]; congr 1; omega
  | n + 1, q + 1, h => by
    rw [List.replicate_succ, List.flatten_cons, List.getElem?_append_right (by omega), show 3 * (q + 1) + j - l.length = 3 * q + j by omega]
    exact rep3_at l hl j hj n q (by omega)
theorem zeroC_at (q j : Nat) (hq : q < 32) (hj : j < 3) : zeroC[3 * q + j]? = (encO none)[j]? := by
  unfold zeroC
  rw [List.getElem?_toArray]
  exact rep3_at _ rfl j hj 32 q hq
theorem cnew_c (w : World) : Calls Try.prog 27 #[] w fun e w' => ∃ d, e = .returned (.pointer (some ⟨d, 0, none⟩)) ∧ w.heap.size ≤ d ∧ CK w' d (fun _ => none) ∧ Below w.heap.size w w' := by
  refine (cnew_w w).mono ?_
  rintro e w' ⟨rfl, rfl⟩
  have hh := heap_alloc_new w (.cells zeroC 73)
  have hc : ∀ o, (w.alloc (.cells zeroC 73)).cell? ⟨w.heap.size, o, none⟩ = zeroC[o]? := fun o => cell_of_row _ _ _ _ _ _ hh
  refine ⟨w.heap.size, rfl, Nat.le_refl _, ⟨⟨_, _, hh⟩, (fun q x h => by cases h), (fun o => frozen_of_row _ _ _ _ _ hh), fun q hq => ?_, fun q hq => ?_, fun q hq => ?_⟩, (Below.refl _ _).alloc (Nat.le_refl _) _⟩
  · rw [hc]; exact zeroC_at q 0 hq (by omega)
  · rw [hc]; exact zeroC_at q 1 hq (by omega)
  · rw [hc]; exact zeroC_at q 2 hq (by omega)

end Go.Proofs.Ytkddleonmkhaiaa

namespace Go.Proofs.Ytkddleonmkhaiaa
open Go.RowKit

theorem addr_mid (d o j : Nat) : (⟨d, o, none⟩ : Addr).add j = ⟨d, o + j, none⟩ := Addr.add_mid d o j
theorem idxB (d b : Nat) (hb : b < 8) (W : World) : (Instr.indexAt 71 (.pointer (some ⟨d, 0, none⟩)) (.int .i64 (b : Int))).run Try.prog W = .ok (.pointer (some ⟨d, 12 * b, none⟩)) W := by
  have hu : Try.prog.underlying 71 = some (.array 8 70) := by kernel_rfl
  have hs : (Try.prog.info? 70).map (fun i => i.size) = some 12 := by kernel_rfl
  have h8 : ¬ 8 ≤ b := by omega
  have h8' : (b : Int) < 8 := by omega
  cases hi : Try.prog.info? 70 with
  | none => rw [hi] at hs; cases hs
  | some i =>
    rw [hi] at hs
    have hs' : i.size = 12 := by simpa using hs
    simp [Instr.indexAt, run_underlying hu, Instr.sureAddr, asIntOf, h8, sizeOf, typeInfo, hi, hs', Result.andThen, Addr.add_mid, Nat.mul_comm]
theorem idxS (d o s : Nat) (hs4 : s < 4) (W : World) : (Instr.indexAt 70 (.pointer (some ⟨d, o, none⟩)) (.int .i64 (s : Int))).run Try.prog W = .ok (.pointer (some ⟨d, o + 3 * s, none⟩)) W := by
  have hu : Try.prog.underlying 70 = some (.array 4 69) := by kernel_rfl
  have hs : (Try.prog.info? 69).map (fun i => i.size) = some 3 := by kernel_rfl
  have h8 : ¬ 4 ≤ s := by omega
  have h8' : (s : Int) < 4 := by omega
  cases hi : Try.prog.info? 69 with
  | none => rw [hi] at hs; cases hs
  | some i =>
    rw [hi] at hs
    have hs' : i.size = 3 := by simpa using hs
    simp [Instr.indexAt, run_underlying hu, Instr.sureAddr, asIntOf, h8, sizeOf, typeInfo, hi, hs', Result.andThen, Addr.add_mid, Nat.mul_comm]
/-- What lies in slot s of bucket b. -/
theorem CK.at {w : World} {d : Nat} {T : SlT} (h : CK w d T) {b s : Nat} (hb : b < 8) (hs : s < 4) : w.cell? ⟨d, 12 * b + 3 * s, none⟩ = some (.bool (hasO (T (4 * b + s)))) ∧ w.cell? ⟨d, 12 * b + 3 * s + 1, none⟩ = some (.int .i64 (tagO (T (4 * b + s)) : Int)) ∧ w.cell? ⟨d, 12 * b + 3 * s + 2, none⟩ = some (.int .i64 (idO (T (4 * b + s)))) := by
  rw [show 12 * b + 3 * s = 3 * (4 * b + s) by omega]
  exact ⟨h.has _ (by omega), h.tag _ (by omega), h.id _ (by omega)⟩

set_option maxRecDepth 100000 in
theorem cat_w {w : World} {d : Nat} {T : SlT} (h : CK w d T) {b s : Nat} (hb : b < 8) (hs : s < 4) :
    Calls Try.prog 20 #[.pointer (some ⟨d, 0, none⟩), .int .i64 (b : Int), .int .i64 (s : Int)] w fun e w' => e = .returned (.tuple #[.int .i64 (idO (T (4 * b + s))), .int .i64 (tagO (T (4 * b + s)) : Int), .bool (hasO (T (4 * b + s)))]) ∧ Below w.heap.size w w' := by
  obtain ⟨c0, c1, c2⟩ := h.at hb hs
  have hlt := h.lt
  have h1 := idxB d b hb w
  have h2 := idxS d (12 * b) s hs w
  have hbI : (b : Int) < 8 := by omega
  have hsI : (s : Int) < 4 := by omega
  generalize hasO (T (4 * b + s)) = H at *
  generalize tagO (T (4 * b + s)) = t at *
  generalize idO (T (4 * b + s)) = i at *
  go_enter Try.func20, Try.ntmps20
  go_wp2_with fail
  go_quiet (fail)
  go_wp2_with fail
  go_ret3
  exact ⟨rfl, below_drewN ((Below.refl _ _).alloc (Nat.le_refl _) _) _⟩
theorem cat_some {w : World} {d : Nat} {T : SlT} (h : CK w d T) {b s t : Nat} {i : Int} (hb : b < 8) (hs : s < 4) (ht : T (4 * b + s) = some (t, i)) :
    Calls Try.prog 20 #[.pointer (some ⟨d, 0, none⟩), .int .i64 (b : Int), .int .i64 (s : Int)] w fun e w' => e = .returned (.tuple #[.int .i64 i, .int .i64 (t : Int), .bool true]) ∧ Below w.heap.size w w' := by
  have e := cat_w h hb hs
  rw [ht] at e
  exact e
theorem cat_none {w : World} {d : Nat} {T : SlT} (h : CK w d T) {b s : Nat} (hb : b < 8) (hs : s < 4) (ht : T (4 * b + s) = none) :
    Calls Try.prog 20 #[.pointer (some ⟨d, 0, none⟩), .int .i64 (b : Int), .int .i64 (s : Int)] w fun e w' => e = .returned (.tuple #[.int .i64 0, .int .i64 0, .bool false]) ∧ Below w.heap.size w w' := by
  have e := cat_w h hb hs
  rw [ht] at e
  exact e
set_option maxRecDepth 100000 in
theorem cat_bad (v : Option Addr) (b s : Int) (w : World) (hb : v = none ∨ b < 0 ∨ 8 ≤ b ∨ s < 0 ∨ 4 ≤ s) :
    Calls Try.prog 20 #[.pointer v, .int .i64 b, .int .i64 s] w fun e w' => e = .returned (.tuple #[.int .i64 0, .int .i64 0, .bool false]) ∧ Below w.heap.size w w' := by
  have hbb := Below.refl w.heap.size w
  cases v with
  | none =>
    clear hb
    go_enter Try.func20, Try.ntmps20
    go_wp2_with fail
    go_ret3
    exact ⟨rfl, hbb⟩
  | some a =>
    by_cases h1 : b < 0
    · clear hb
      go_enter Try.func20, Try.ntmps20
      go_wp2_with fail
      go_ret3
      exact ⟨rfl, hbb⟩
    by_cases h2 : 8 ≤ b
    · clear hb
      go_enter Try.func20, Try.ntmps20
      go_wp2_with fail
      go_ret3
      exact ⟨rfl, hbb⟩
    by_cases h3 : s < 0
    · clear hb
      go_enter Try.func20, Try.ntmps20
      go_wp2_with fail
      go_ret3
      exact ⟨rfl, hbb⟩
    have h4 : 4 ≤ s := by
      rcases hb with h | h | h | h | h
      · cases h
      all_goals omega
    clear hb
    go_enter Try.func20, Try.ntmps20
    go_wp2_with fail
    go_ret3
    exact ⟨rfl, hbb⟩
theorem cat_out {w : World} {d : Nat} {T : SlT} (_h : CK w d T) {b s : Int} (hb : b < 0 ∨ 8 ≤ b ∨ s < 0 ∨ 4 ≤ s) (_h0 : -100 ≤ b ∧ b ≤ 100 ∧ -100 ≤ s ∧ s ≤ 100) :
    Calls Try.prog 20 #[.pointer (some ⟨d, 0, none⟩), .int .i64 b, .int .i64 s] w fun e w' => e = .returned (.tuple #[.int .i64 0, .int .i64 0, .bool false]) ∧ Below w.heap.size w w' := cat_bad _ b s w (.inr hb)
theorem cnil_at (b s : Int) (w : World) : Calls Try.prog 20 #[.pointer none, .int .i64 b, .int .i64 s] w fun e w' => e = .returned (.tuple #[.int .i64 0, .int .i64 0, .bool false]) ∧ Below w.heap.size w w' := cat_bad _ b s w (.inl rfl)

/-! ### Len. -/
def allO (T : SlT) : List Value := rowO T 0 ++ (rowO T 1 ++ (rowO T 2 ++ (rowO T 3 ++ (rowO T 4 ++ (rowO T 5 ++ (rowO T 6 ++ rowO T 7))))))
theorem allO_at (T : SlT) (b k : Nat) (hb : b < 8) (hk : k < 12) : (allO T)[12 * b + k]? = (rowO T b)[k]? := by
  rcases (by omega : b = 0 ∨ b = 1 ∨ b = 2 ∨ b = 3 ∨ b = 4 ∨ b = 5 ∨ b = 6 ∨ b = 7) with rfl | rfl | rfl | rfl | rfl | rfl | rfl | rfl <;>
    rcases (by omega : k = 0 ∨ k = 1 ∨ k = 2 ∨ k = 3 ∨ k = 4 ∨ k = 5 ∨ k = 6 ∨ k = 7 ∨ k = 8 ∨ k = 9 ∨ k = 10 ∨ k = 11) with rfl | rfl | rfl | rfl | rfl | rfl | rfl | rfl | rfl | rfl | rfl | rfl <;> rfl
theorem CK.all {w : World} {d : Nat} {T : SlT} (h : CK w d T) : w.rangeAt d 0 (allO T) := by
  intro k v hv
  have hk : k < 96 := (List.getElem?_eq_some_iff.1 hv).1
  have e := allO_at T (k / 12) (k % 12) (by omega) (by omega)
  rw [show 12 * (k / 12) + k % 12 = k by omega, hv] at e
  have := h.range (k / 12) (by omega) (k % 12) v e.symm
  rwa [show 12 * (k / 12) + k % 12 = 0 + k by omega] at this
theorem idxAll (T : SlT) (b : Nat) (hb : b < 8) (W : World) : (Instr.index 71 (.agg (allO T).toArray) (.int .i64 (b : Int))).run Try.prog W = .ok (.agg (rowO T b).toArray) W := by
  rcases (by omega : b = 0 ∨ b = 1 ∨ b = 2 ∨ b = 3 ∨ b = 4 ∨ b = 5 ∨ b = 6 ∨ b = 7) with rfl | rfl | rfl | rfl | rfl | rfl | rfl | rfl <;> kernel_rfl
theorem idxRow (T : SlT) (b s : Nat) (hs : s < 4) (W : World) : (Instr.index 70 (.agg (rowO T b).toArray) (.int .i64 (s : Int))).run Try.prog W = .ok (.agg #[.bool (hasO (T (4 * b + s))), .int .i64 (tagO (T (4 * b + s)) : Int), .int .i64 (idO (T (4 * b + s)))]) W := by
  rcases (by omega : s = 0 ∨ s = 1 ∨ s = 2 ∨ s = 3) with rfl | rfl | rfl | rfl <;> kernel_rfl
def cntT (T : SlT) (k : Nat) : Nat := (List.range k).countP fun q => hasO (T q)
theorem cntT_succ (T : SlT) (k : Nat) : cntT T (k + 1) = cntT T k + (if hasO (T k) = true then 1 else 0) := by
  unfold cntT
  rw [List.range_succ, List.countP_append, List.countP_singleton]
theorem cntT_le (T : SlT) (k : Nat) : cntT T k ≤ k := by
  have := List.countP_le_length (p := fun q => hasO (T q)) (l := List.range k)
  rw [List.length_range] at this
  exact this
theorem cntT_all (T : SlT) : cntT T 32 = (slL T).length := by
  unfold cntT slL
  induction List.range 32 with
  | nil => rfl
  | cons q l ih =>
    rw [List.countP_cons, List.filterMap_cons, ih]
    cases hT : T q <;> simp [hasO]

end Go.Proofs.Ytkddleonmkhaiaa
