/-
  Stage 17: the buckets that are reached, in memory; slices.Clone of places.
-/
import Derived.Test.YtgbaeipemlcbcaaCucP
import Derived.Test.YtgbaeipemlcbcaaCucG
import Derived.Test.YtgbaeipemlcbcaaGrow
import Derived.Lib.SliceRun
namespace Go.Proofs.Ytgbaeipemlcbcaa
open Go.RowKit

/-- 'append(s, x...)', s the call's own, x not empty: the row is the one it was, or a new one. -/
theorem Lay.Ok.appendW {α : Type} {K : Lay α} {P : Program} (hK : K.Ok P) {ops : Array Oper} {rest : List Oper} {o : Oper} {a : Act} {w : World} {Q : Exit → Act → World → Prop} (hgd : o.guard = none) (s x : Operand) (ho : o.op = .call { callee := .builtin .append, args := #[s, x], argTypes := #[K.row, K.row] })
    (B : Nat) (v xv : Value) (l m : List α) (hs : a.eval s = v) (hx : a.eval x = xv) (hown : K.O w B v l) (hrb : K.R w xv m) (hne : m ≠ []) (hl : l.length + m.length ≤ 1000000) (hbase : B ≤ w.heap.size)
    (h : ∀ v' w', K.O w' B v' (l ++ m) → w.grownBy w' v.ownBlock → (v'.ownBlock = v.ownBlock ∨ ∀ k, v'.ownBlock = some k → w.heap.size ≤ k) → wpList P ops Q rest (a.put o.dst v') w') : wpList P ops Q (o :: rest) a w := by
  obtain ⟨ad, cap, rfl, h1, h2, h3, h4⟩ := hrb
  obtain ⟨b2, o2, rfl, hc⟩ := h4 hne
  have hb : (l.length + m.length) * K.bytes ≤ 140737488355328 := by
    have := Nat.mul_le_mul hl hK.fit
    omega
  refine wpList_append_where w hgd s x K.row ho B K.elem hK.under K.zero K.size K.bytes hK.info hK.zsize hK.pos v l.length (K.flat l) hs hown ⟨b2, o2, none⟩ m.length cap (K.flat m) hx (hK.flat_len m) (fun j u hj => ?_) (hK.flat_one m) (by unfold maxLen; omega) hb hbase (fun v' w' hown' hg hw => h v' w' ?_ hg hw)
  · rw [Addr.add_mid]
    exact hc j u hj
  · unfold Lay.O
    rw [List.length_append, Lay.flat_append]
    exact hown'

abbrev SvT := Option Addr × Nat × Nat
def svE (y : SvT) : Value := .slice y.1 y.2.1 y.2.2
def KR : Lay (Nat × SvT) := ⟨fun e => [.int .i64 (e.1 : Int), .slice e.2.1 e.2.2.1 e.2.2.2], 2, 69, 70, .agg #[.int .i64 0, .slice none 0 0], 32⟩
theorem KR_ok : KR.Ok Try.prog := ⟨by decide, fun _ => rfl, fun x u hu => by
  rcases List.mem_cons.1 hu with rfl | hu
  · rfl
  · rw [List.mem_singleton.1 hu]; rfl, Try.underlying70, by kernel_rfl, rfl, by decide⟩
theorem KR.one' (w : World) (c : Nat) (a : Option Addr) (n k : Nat) : KR.R (w.alloc (.cells #[.int .i64 (c : Int), .slice a n k] 69)) (.slice (some ⟨w.heap.size, 0, none⟩) 1 1) [(c, a, n, k)] := Lay.R.one w KR_ok (c, a, n, k) 69 (0, 0)
theorem KR.at' {w : World} {a : Option Addr} {n cap : Nat} {l : List (Nat × SvT)} (h : KR.R w (.slice a n cap) l) (i : Nat) (hi : i < l.length) : ∃ b o, a = some ⟨b, o, none⟩ ∧ n = l.length ∧ b < w.heap.size ∧ w.cell? ⟨b, o + i * 2, none⟩ = some (.int .i64 (l[i].1 : Int)) ∧ w.cell? ⟨b, o + i * 2 + 1, none⟩ = some (svE l[i].2) := by
  obtain ⟨b, o, h1, h2, h3, h4⟩ := h.at KR_ok i hi
  exact ⟨b, o, h1, h2, h3, h4 0 _ rfl, h4 1 _ rfl⟩
theorem idxR (b o n cap j : Nat) (h : j < n) (W : World) : (Instr.indexAt 70 (.slice (some ⟨b, o, none⟩) n cap) (.int .i64 (j : Int))).run Try.prog W = .ok (.pointer (some ⟨b, o + j * 2, none⟩)) W := KR_ok.run_idx b o n cap j h W
theorem idx8 (g b : Nat) (hb : b < 8) (W : World) : (Instr.indexAt 67 (.pointer (some ⟨g, 0, none⟩)) (.int .i64 (b : Int))).run Try.prog W = .ok (.pointer (some ⟨g, b, none⟩)) W := by
  have hu : Try.prog.underlying 67 = some (.array 8 4) := by kernel_rfl
  have hs : (Try.prog.info? 4).map (fun i => i.size) = some 1 := by kernel_rfl
  have h8 : ¬ 8 ≤ b := by omega
  have h8' : (b : Int) < 8 := by omega
  cases hi : Try.prog.info? 4 with
  | none => rw [hi] at hs; cases hs
  | some i =>
    rw [hi] at hs
    have hs' : i.size = 1 := by simpa using hs
    simp [Instr.indexAt, run_underlying hu, Instr.sureAddr, asIntOf, h8, sizeOf, typeInfo, hi, hs', Result.andThen, Addr.add_mid]

/-- Whose rows are of other types is another block. -/
theorem Lay.O.neOf {α : Type} {K : Lay α} {w : World} {B : Nat} {v : Value} {l : List α} (h : K.O w B v l) {g : Nat} {cs : Array Value} {t : TypeId} {fr : Nat × Nat} (hg : w.heap[g]? = some (.cells cs t fr)) (ht : t ≠ K.elem) : v.ownBlock ≠ some g := by
  rcases h.2 with ⟨rfl, -⟩ | ⟨q, cap, cur, rfl, -, h2, -⟩
  · intro e; cases e
  · intro e
    simp only [Value.ownBlock, Option.some.injEq] at e
    subst e
    rw [h2] at hg
    cases hg
    exact ht rfl

/-- A bucket, the value that holds the way to it, that way. -/
abbrev LnT := Nat × SvT × List (Nat × Nat)
def bkL (L : List LnT) : List Nat := L.map Prod.fst
def reL (L : List LnT) : List ReT := L.map fun x => (x.1, x.2.2)
theorem bks_re (L : List LnT) : bks (reL L) = bkL L := by unfold bks reL bkL; rw [List.map_map]; rfl
/-- The buckets that are reached, in memory: u their slice, at block g which of the eight they are (M). -/
structure BG (w : World) (B g : Nat) (u : Value) (L : List LnT) (M : List Nat) : Prop where
  row : KR.O w B u (L.map fun x => (x.1, x.2.1))
  ways : ∀ x ∈ L, KP.O w B (svE x.2.1) x.2.2
  seen : ∀ b, b < 8 → w.cell? ⟨g, b, none⟩ = some (.bool (decide (b ∈ M)))
  blk : ∃ cs, w.heap[g]? = some (.cells cs 67 (0, 0))
section
variable {w w' : World} {B g : Nat} {u : Value} {L : List LnT} {M : List Nat}
theorem BG.below (h : BG w B g u L M) (hb : Below w.heap.size w w') : BG w' B g u L M := by
  obtain ⟨cs, hc⟩ := h.blk
  exact ⟨h.row.below hb, fun x hx => (h.ways x hx).below hb, fun b h8 => (hb.cell (World.block_lt_of_cell? w _ (h.seen b h8))).trans (h.seen b h8), ⟨cs, (hb.block g (Array.getElem?_eq_some_iff.1 hc).1).trans hc⟩⟩
theorem BG.frozen (h : BG w B g u L M) (o : Nat) : w.frozen? ⟨g, o, none⟩ = false := by
  obtain ⟨cs, hc⟩ := h.blk
  exact frozen_of_row _ _ _ _ _ hc
theorem BG.mark (h : BG w B g u L M) {t : Nat} (ht : t < 8) : BG (w.setCell ⟨g, t, none⟩ (.bool true)) B g u L (M ++ [t]) := by
  obtain ⟨cs, hc⟩ := h.blk
  have hb : ∀ k, k ≠ g → (w.setCell ⟨g, t, none⟩ (.bool true)).heap[k]? = w.heap[k]? := fun k hk => Below.heap_setCell _ _ _ _ hk
  refine ⟨h.row.same fun q qs hq _ _ => hb q ?_, fun x hx => (h.ways x hx).same fun q qs hq _ _ => hb q ?_, fun b h8 => ?_, ⟨cs.setIfInBounds t (.bool true), by simp [World.setCell, Array.getElem?_modify, hc]⟩⟩
  · rintro rfl; rw [hc] at hq; cases hq
  · rintro rfl; rw [hc] at hq; cases hq
  · by_cases e : b = t
    · subst e
      rw [World.cell?_setCell_same _ _ _ (h.seen b h8)]
      simp
    · rw [World.cell?_setCell_other _ _ _ _ (fun e2 => by simp only [Addr.mk.injEq] at e2; omega), h.seen b h8]
      simp [e]
theorem BG.more (h : BG w B g u L M) {v' : Value} {t : Nat} {y : SvT} {P : List (Nat × Nat)} (hown : KR.O w' B v' ((L.map fun x => (x.1, x.2.1)) ++ [(t, y)])) (hgr : w.grownBy w' u.ownBlock) (hy : KP.O w B (svE y) P) : BG w' B g v' (L ++ [(t, y, P)]) M := by
  obtain ⟨cs, hc⟩ := h.blk
  have hgl : g < w.heap.size := (Array.getElem?_eq_some_iff.1 hc).1
  have hgb : w'.heap[g]? = w.heap[g]? := hgr.block g hgl (fun e => h.row.neOf hc (by decide) e.symm)
  have hw : ∀ (v : Value) (l : List (Nat × Nat)), KP.O w B v l → KP.O w' B v l := fun v l hv => hv.same fun q qs hq _ _ => hgr.block q (Array.getElem?_eq_some_iff.1 hq).1 (fun e => h.row.neOf hq (by decide) e.symm)
  refine ⟨by rw [List.map_append]; exact hown, fun x hx => ?_, fun b h8 => (World.cell?_of_block (w := w) (a := ⟨g, b, none⟩) hgb).trans (h.seen b h8), ⟨cs, hgb.trans hc⟩⟩
  rcases List.mem_append.1 hx with hx | hx
  · exact hw _ _ (h.ways x hx)
  · rw [List.mem_singleton.1 hx]; exact hw _ _ hy
end

def z8 (a b : Nat) : Array Value := (([Value.bool false, .bool false, .bool false, .bool false, .bool false, .bool false, .bool false, .bool false].set a (.bool true)).set b (.bool true)).toArray
theorem z8_at (a b c : Nat) (ha : a < 8) (hb : b < 8) (hc : c < 8) : (z8 a b)[c]? = some (.bool (decide (c ∈ [a, b]))) := by
  unfold z8
  rw [List.getElem?_toArray]
  have h0 : [Value.bool false, .bool false, .bool false, .bool false, .bool false, .bool false, .bool false, .bool false] = List.replicate 8 (Value.bool false) := rfl
  rw [h0]
  by_cases e1 : b = c
  · subst e1
    rw [List.getElem?_set_self (by simpa using hb)]
    simp
  · rw [List.getElem?_set_ne e1]
    by_cases e2 : a = c
    · subst e2
      rw [List.getElem?_set_self (by simpa using ha)]
      simp
    · rw [List.getElem?_set_ne e2, List.getElem?_replicate, if_pos hc]
      have e3 : c ∉ [a, b] := by simp only [List.mem_cons, List.not_mem_nil, or_false]; omega
      rw [decide_eq_false e3]
def line0 (a b : Nat) : List LnT := [(a, (none, 0, 0), []), (b, (none, 0, 0), [])]
theorem BG.start (w : World) {a b : Nat} (ha : a < 8) (hb : b < 8) : BG ((w.alloc (.cells (z8 a b) 67)).alloc (.cells #[.int .i64 (a : Int), .slice none 0 0, .int .i64 (b : Int), .slice none 0 0] 69)) w.heap.size w.heap.size (.slice (some ⟨w.heap.size + 1, 0, none⟩) 2 2) (line0 a b) [a, b] := by
  have h1 := heap_alloc_new w (.cells (z8 a b) 67)
  have hs : (w.alloc (.cells (z8 a b) 67)).heap.size = w.heap.size + 1 := Array.size_push ..
  have h2 := heap_alloc_new (w.alloc (.cells (z8 a b) 67)) (.cells #[.int .i64 (a : Int), .slice none 0 0, .int .i64 (b : Int), .slice none 0 0] 69)
  have h3 : ((w.alloc (.cells (z8 a b) 67)).alloc (.cells #[.int .i64 (a : Int), .slice none 0 0, .int .i64 (b : Int), .slice none 0 0] 69)).heap[w.heap.size]? = some (.cells (z8 a b) 67) := (Below.heap_alloc _ _ _ (by omega)).trans h1
  rw [hs] at h2
  refine ⟨⟨rfl, .inr ⟨_, 2, _, rfl, Nat.le_succ _, h2, Nat.le_refl _, by simp [maxLen], rfl, rfl⟩⟩, fun x hx => ?_, fun c hc => ?_, ⟨_, h3⟩⟩
  · simp only [line0, List.mem_cons, List.not_mem_nil, or_false] at hx
    rcases hx with rfl | rfl
    · exact Lay.O.nil _ _
    · exact Lay.O.nil _ _
  · rw [cell_of_row _ _ _ _ _ _ h3]
    exact z8_at a b c ha hb hc

set_option maxHeartbeats 1000000 in
set_option maxRecDepth 100000 in
theorem cclone_c (w : World) (B : Nat) (v : Value) (P : List (Nat × Nat)) (h : KP.O w B v P) (hn : P.length ≤ 1000) : Calls Try.prog 28 #[v] w fun e w' => ∃ v', e = .returned v' ∧ KP.O w' w.heap.size v' P ∧ Below w.heap.size w w' := by
  rcases h.2 with ⟨rfl, h0⟩ | ⟨g, cap, cur, rfl, -, -⟩
  · obtain rfl : P = [] := List.eq_nil_of_length_eq_zero h0
    have hq := fun w => Go.Lib.run_eql_slice_nil (P := Try.prog) w 58 63 none 0 0 0 0 Try.underlying58
    have HB := Go.Lib.hid (Below.refl w.heap.size w)
    clear h hn h0
    go_enter Try.func28, Try.ntmps28
    go_wp2_with fail
    go_ret
    exact ⟨_, rfl, Lay.O.nil _ _, HB.out⟩
  · have hq := fun w => Go.Lib.run_eql_slice_nil (P := Try.prog) w 58 63 (some ⟨g, 0, none⟩) P.length cap 0 0 Try.underlying58
    have hb1 := (Below.refl w.heap.size w).alloc (Nat.le_refl _) (.cells #[] 63)
    have HO := Go.Lib.hid (show KP.O (w.alloc (.cells #[] 63)) w.heap.size (.slice (some ⟨w.heap.size, 0, none⟩) 0 0) [] from ⟨rfl, .inr ⟨w.heap.size, 0, #[], rfl, Nat.le_refl _, heap_alloc_new w _, Nat.le_refl _, by simp [maxLen], rfl, rfl⟩⟩)
    have HR := Go.Lib.hid (h.r.below hb1)
    have HN := Go.Lib.hid hn
    have HB := Go.Lib.hid hb1
    clear h hn hb1
    go_enter Try.func28, Try.ntmps28
    go_wp2_with (first
      | ((with_reducible show wpList _ _ _ (⟨some 7, _, _, _, _, _⟩ :: _) _ _); go_loud (refine KP_ok.append rfl (.tmp 5) (.tmp 6) rfl w.heap.size (.slice (some ⟨w.heap.size, 0, none⟩) 0 0) (.slice (some ⟨g, 0, none⟩) P.length cap) [] P rfl rfl HO.out HR.out (by have := HN.out; simp; omega) HB.out.size ?_); intro v2 w2 hown2 hg2; have HB2 := Go.Lib.hid (HB.out.grown hg2 HB.out.size HO.out.row); have HO2 := Go.Lib.hid hown2; clear hown2 hg2)
      | fail)
    go_ret
    exact ⟨_, rfl, HO2.out, HB2.out⟩

end Go.Proofs.Ytgbaeipemlcbcaa
