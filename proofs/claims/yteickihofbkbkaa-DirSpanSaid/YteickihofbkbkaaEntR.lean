/-
  Package dir: the reader: contracts of pass, num, text.
-/
import Derived.Test.YteickihofbkbkaaEntC
import Derived.Test.YteickihofbkbkaaNumL
import Derived.Test.YteickihofbkbkaaEntM
namespace Go.Proofs.Yteickihofbkbkaa
open Go.RowKit

/-- Of the blocks that there were all but g are as they were. -/
structure Off1 (g : Nat) (w w' : World) : Prop where
  os : w'.os = w.os
  tape : w'.tape = w.tape
  output : w'.output = w.output
  size : w.heap.size ≤ w'.heap.size
  block : ∀ k, k < w.heap.size → k ≠ g → w'.heap[k]? = w.heap[k]?
section
variable {g : Nat} {w w1 w2 w' : World}
theorem Off1.refl (g : Nat) (w : World) : Off1 g w w := ⟨rfl, rfl, rfl, Nat.le_refl _, fun _ _ _ => rfl⟩
theorem Off1.trans (h : Off1 g w w1) (k : Off1 g w1 w2) : Off1 g w w2 :=
  ⟨k.os.trans h.os, k.tape.trans h.tape, k.output.trans h.output, Nat.le_trans h.size k.size, fun i hi hn => (k.block i (Nat.lt_of_lt_of_le hi h.size) hn).trans (h.block i hi hn)⟩
theorem Off1.of_below (h : Below w.heap.size w w') : Off1 g w w' := ⟨h.os, h.tape, h.output, h.size, fun k hk _ => h.block k hk⟩
theorem Off1.set (h : Off1 g w w') (o : Nat) (u : Value) : Off1 g w (w'.setCell ⟨g, o, none⟩ u) :=
  ⟨h.os, h.tape, h.output, by simpa [World.setCell] using h.size, fun k hk hn => (Below.heap_setCell _ _ _ _ hn).trans (h.block k hk hn)⟩
theorem Off1.below {B : Nat} (h : Off1 g w w') (hg : B ≤ g) (hB : B ≤ w.heap.size) : Below B w w' :=
  ⟨h.os, h.tape, h.output, h.size, fun k hk => h.block k (by omega) (by omega)⟩
theorem heapSet {w : World} {b : Nat} {cs : Array Value} {t : TypeId} {fr : Nat × Nat} (h : w.heap[b]? = some (.cells cs t fr)) (o : Nat) (u : Value) : (w.setCell ⟨b, o, none⟩ u).heap[b]? = some (.cells (cs.setIfInBounds o u) t fr) := by
  simp [World.setCell, Array.getElem?_modify, h]
/-- Bytes do not lie where a slice and a bool lie. -/
theorem RB.off1 {v : Value} {l : List UInt8} {a : Option Addr} {n c : Nat} {b : Bool} {t : TypeId} {fr : Nat × Nat} (h : RB w v l) (hg : w.heap[g]? = some (.cells #[.slice a n c, .bool b] t fr)) (k : Off1 g w w') : RB w' v l := by
  obtain ⟨a', cap, hv, h1, h2, h3, h4⟩ := h
  refine ⟨a', cap, hv, h1, h2, h3, fun hl => ?_⟩
  obtain ⟨p, o, ha, hc⟩ := h4 hl
  refine ⟨p, o, ha, fun i hi => ?_⟩
  have h5 := hc i hi
  have hne : p ≠ g := by
    rintro rfl
    rw [cell_of_row w p _ _ t fr hg] at h5
    generalize o + i = j at h5
    match j, h5 with
    | 0, h5 => cases h5
    | 1, h5 => cases h5
    | j + 2, h5 => cases h5
  exact (World.cell?_of_block (w := w) (k.block p (World.block_lt_of_cell? w _ h5) hne)).trans h5
end

theorem RB.sl {w : World} {v : Value} {l : List UInt8} (h : RB w v l) : ∃ a n c, v = .slice a n c := by
  obtain ⟨a, c, rfl, -⟩ := h
  exact ⟨a, _, c, rfl⟩

/-- 'b[i:]', where it lies. -/
theorem wpList_slice_lo {P : Program} {ops : Array Oper} {rest : List Oper} {o : Oper} {a : Act} {w : World} {Q : Exit → Act → World → Prop} (hgd : o.guard = none) (x lo : Operand) (t : TypeId)
    (ho : o.op = .slice t x (some lo) none none) (e : TypeId) (ht : P.underlying t = some (.slice e)) (hinfo : (P.info? e).map (fun i => (i.zero, i.size, i.bytes)) = some (some (.int .u8 0), 1, 1))
    (v : Value) (l : List UInt8) (kl : IntKind) (L : Int) (i : Nat) (hx : a.eval x = v) (hlo : a.eval lo = .int kl L) (hL : L = (i : Int)) (hrb : RB w v l) (hi : i ≤ l.length)
    (hK : ∀ v', RB w v' (l.drop i) → (∀ k, v'.ownBlock = some k → v.ownBlock = some k) → wpList P ops Q rest (a.put o.dst v') w) : wpList P ops Q (o :: rest) a w := by
  have hrb0 := hrb
  obtain ⟨ad, cap, rfl, h1, h2, h3, h4⟩ := hrb
  obtain ⟨ht', hs⟩ := run_sizeOf (P := P) (w := w) ht hinfo
  subst hL
  have hr := run_slice_l (P := P) w t ad l.length cap ht' kl (i : Int) (by omega) (by omega)
  rw [hs] at hr
  simp only [Int.toNat_natCast, Result.andThen] at hr
  have hc := hrb0.cut i l.length hi (Nat.le_refl _)
  rw [List.take_length] at hc
  refine wpList_gives hgd _ _ (by simp [execOp, ho, hx, hlo, hr, run_sliceAt_slice w t _ _ _ _ ht', Result.andThen]) (hK _ hc ?_)
  intro k hk
  cases ad with
  | none => unfold sliced at hk; split at hk <;> simp [Value.ownBlock] at hk
  | some p =>
    unfold sliced at hk
    split at hk
    · exact hk
    · have e : (p.add (i * 1)).block = p.block := by unfold Addr.add; split <;> rfl
      simp only [Option.map_some, Value.ownBlock, e] at hk
      exact hk

/-- The reader at g: what is left (it lies below), whether it is bad. -/
def RD (w : World) (g : Nat) (l : List UInt8) (bad : Bool) : Prop := ∃ a n c, w.heap[g]? = some (.cells #[.slice a n c, .bool bad] 48 (0, 0)) ∧ RB w (.slice a n c) l ∧ (l ≠ [] → ∀ k, (Value.slice a n c).ownBlock = some k → k < g)
theorem RD.lt {w : World} {g : Nat} {l : List UInt8} {bad : Bool} (h : RD w g l bad) : g < w.heap.size := by
  obtain ⟨a, n, c, h, -⟩ := h
  exact (Array.getElem?_eq_some_iff.1 h).1
theorem RD.below {w w' : World} {g : Nat} {l : List UInt8} {bad : Bool} (h : RD w g l bad) (hb : Below w.heap.size w w') : RD w' g l bad := by
  obtain ⟨a, n, c, h1, h2, h3⟩ := h
  exact ⟨a, n, c, keptR h1 hb, h2.below hb, h3⟩
theorem RD.above {w w' : World} {g : Nat} {l : List UInt8} {bad : Bool} (h : RD w g l bad) (hb : Below (g + 1) w w') : RD w' g l bad := by
  obtain ⟨a, n, c, h1, h2, h3⟩ := h
  refine ⟨a, n, c, (hb.block g (by omega)).trans h1, ?_, h3⟩
  obtain ⟨a', cap, hv, g1, g2, g3, g4⟩ := h2
  cases hv
  refine ⟨a, c, rfl, g1, g2, g3, fun hl => ?_⟩
  obtain ⟨q, o, ha, hc⟩ := g4 hl
  have hq : q < g := h3 hl q (by rw [ha]; rfl)
  exact ⟨q, o, ha, fun i hi => (World.cell?_of_block (w := w) (hb.block q (by omega))).trans (hc i hi)⟩

set_option maxRecDepth 100000 in
theorem pass_c {w : World} {g : Nat} {l : List UInt8} {bad : Bool} (h : RD w g l bad) (k : Nat) (hk : k ≤ l.length) (er : Int) :
    Calls Try.prog 32 #[.pointer (some ⟨g, 0, none⟩), .int .i64 (k : Int), .int .i64 er] w fun e w' => e = .returned (.tuple #[]) ∧ RD w' g (l.drop k) (bad || decide (er ≠ 0)) ∧ Off1 g w w' := by
  obtain ⟨a, n, c, hA, hrb, hlo⟩ := h
  have HLO := Go.Lib.hid (fun (hl : l.drop k ≠ []) => hlo (fun e => hl (by rw [e, List.drop_nil])))
  clear hlo
  have HRB := Go.Lib.hid hrb
  have x0 := cell_of_row w g 0 _ _ _ hA
  have x1 := cell_of_row w g 1 _ _ _ hA
  simp only [List.getElem?_toArray, List.getElem?_cons_zero, List.getElem?_cons_succ] at x0 x1
  have f0 : w.frozen? ⟨g, 0, none⟩ = false := frozen_of_row w g 0 _ _ hA
  have HS := Go.Lib.hid (fun u => heapSet hA 0 u)
  have f1 : w.frozen? ⟨g, 1, none⟩ = false := frozen_of_row w g 1 _ _ hA
  have HA := Go.Lib.hid hA
  clear hA hrb
  have hfin : ∀ (a3 : Option Addr) (n3 c3 : Nat) (q : Bool), RB w (.slice a3 n3 c3) (l.drop k) → (∀ k', (Value.slice a3 n3 c3).ownBlock = some k' → (Value.slice a n c).ownBlock = some k') → q = (bad || decide (er ≠ 0)) →
      RD ((w.setCell ⟨g, 0, none⟩ (.slice a3 n3 c3)).setCell ⟨g, 1, none⟩ (.bool q)) g (l.drop k) (bad || decide (er ≠ 0)) ∧ Off1 g w ((w.setCell ⟨g, 0, none⟩ (.slice a3 n3 c3)).setCell ⟨g, 1, none⟩ (.bool q)) := by
    intro a3 n3 c3 q h1 h2 rfl
    have ho : Off1 g w ((w.setCell ⟨g, 0, none⟩ (.slice a3 n3 c3)).setCell ⟨g, 1, none⟩ (.bool (bad || decide (er ≠ 0)))) := ((Off1.refl g w).set 0 _).set 1 _
    exact ⟨⟨a3, n3, c3, heapSet (heapSet HA.out 0 _) 1 _, h1.off1 HA.out ho, fun hl k' hk' => HLO.out hl k' (h2 k' hk')⟩, ho⟩
  have HF := Go.Lib.hid hfin
  clear hfin HA
  cases bad with
  | true =>
    go_enter Try.func32, Try.ntmps32
    go_wp2_with (first
      | (with_reducible show wpList _ _ _ (⟨some 12, _, _, _, _, _⟩ :: _) _ _; go_loud (refine wpList_slice_lo rfl (.tmp 10) (.tmp 11) 26 rfl 5 Try.underlying26 info8 (.slice a n c) l .i64 _ k rfl rfl rfl HRB.out hk ?_); intro v3 hv3 hv4; obtain ⟨a3, n3, c3, rfl⟩ := hv3.sl; have HV3 := Go.Lib.hid hv3; have HV4 := Go.Lib.hid hv4; clear hv3 hv4)
      | fail)
    go_end0
    exact ⟨rfl, HF.out a3 n3 c3 true HV3.out HV4.out rfl⟩
  | false =>
    go_enter Try.func32, Try.ntmps32
    go_wp2_with (first
      | (with_reducible show wpList _ _ _ (⟨some 12, _, _, _, _, _⟩ :: _) _ _; go_loud (refine wpList_slice_lo rfl (.tmp 10) (.tmp 11) 26 rfl 5 Try.underlying26 info8 (.slice a n c) l .i64 _ k rfl rfl rfl HRB.out hk ?_); intro v3 hv3 hv4; obtain ⟨a3, n3, c3, rfl⟩ := hv3.sl; have HV3 := Go.Lib.hid hv3; have HV4 := Go.Lib.hid hv4; clear hv3 hv4)
      | fail)
    go_end0
    exact ⟨rfl, HF.out a3 n3 c3 (er != 0) HV3.out HV4.out (by by_cases h : er = 0 <;> simp [h])⟩

theorem textB_le (l : List UInt8) : (textB l).2.1 ≤ l.length := by
  unfold textB
  split
  · exact Nat.zero_le _
  · split
    · exact Nat.zero_le _
    · split
      · exact Nat.zero_le _
      · show (getB l).2.1 + (getB l).1.toNat ≤ l.length
        omega
theorem rdnum_c {w : World} {g : Nat} {l : List UInt8} {bad : Bool} (h : RD w g l bad) :
    Calls Try.prog 22 #[.pointer (some ⟨g, 0, none⟩)] w fun e w' => e = .returned (.int .i64 (numR (l, bad)).1) ∧ RD w' g (numR (l, bad)).2.1 (numR (l, bad)).2.2 ∧ Off1 g w w' := by
  obtain ⟨a, n, c, hA, hrb, -⟩ := id h
  have hf := getB_fits l
  have c1 := get_c _ l w hrb
  have e0 : numR (l, bad) = ((getB l).1, l.drop (getB l).2.1, bad || decide ((getB l).2.2 ≠ 0)) := rfl
  rw [e0]
  rcases hr : getB l with ⟨x, k, er⟩
  rw [hr] at hf c1
  have hk : k ≤ l.length := hf.2.2.1
  have C2 := Go.Lib.hid (pass_c h k hk er)
  unfold gv at c1
  simp only [] at c1
  have C1 := Go.Lib.hid c1
  have x0 := cell_of_row w g 0 _ _ _ hA
  simp only [List.getElem?_toArray, List.getElem?_cons_zero] at x0
  clear hA hrb hf c1 e0 hr hk h
  go_enter Try.func22, Try.ntmps22
  go_wp2_with fail
  refine C1.out.mono ?_
  rintro e w1 ⟨rfl, rfl⟩
  go_wp2_with fail
  refine C2.out.mono ?_
  rintro e w1 ⟨rfl, h1, h2⟩
  have H1 := Go.Lib.hid h1
  have H2 := Go.Lib.hid h2
  clear h1 h2 C1 C2 x0
  go_wp2_with fail
  go_ret
  exact ⟨rfl, H1.out, H2.out⟩

theorem rdtext_c {w : World} {g : Nat} {l : List UInt8} {bad : Bool} (h : RD w g l bad) :
    Calls Try.prog 33 #[.pointer (some ⟨g, 0, none⟩)] w fun e w' => e = .returned (.string (str (textR (l, bad)).1)) ∧ RD w' g (textR (l, bad)).2.1 (textR (l, bad)).2.2 ∧ Off1 g w w' := by
  obtain ⟨a, n, c, hA, hrb, -⟩ := id h
  have hf := textB_le l
  have c1 := getText_c _ l w hrb
  have e0 : textR (l, bad) = ((textB l).1, l.drop (textB l).2.1, bad || decide ((textB l).2.2 ≠ 0)) := rfl
  rw [e0]
  rcases hr : textB l with ⟨x, k, er⟩
  rw [hr] at hf c1
  have hk : k ≤ l.length := hf
  have C2 := Go.Lib.hid (pass_c h k hk er)
  unfold tv at c1
  simp only [] at c1
  have C1 := Go.Lib.hid c1
  have x0 := cell_of_row w g 0 _ _ _ hA
  simp only [List.getElem?_toArray, List.getElem?_cons_zero] at x0
  clear hA hrb hf c1 e0 hr hk h
  go_enter Try.func33, Try.ntmps33
  go_wp2_with fail
  refine C1.out.mono ?_
  rintro e w1 ⟨rfl, rfl⟩
  go_wp2_with fail
  refine C2.out.mono ?_
  rintro e w1 ⟨rfl, h1, h2⟩
  have H1 := Go.Lib.hid h1
  have H2 := Go.Lib.hid h2
  clear h1 h2 C1 C2 x0
  go_wp2_with fail
  go_ret
  exact ⟨rfl, H1.out, H2.out⟩

end Go.Proofs.Yteickihofbkbkaa
