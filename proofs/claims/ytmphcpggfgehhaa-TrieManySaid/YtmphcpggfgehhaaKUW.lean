/-
  Slices of hashes of the call's own: a place stored, a piece moved by one.
-/
import Derived.Test.YtmphcpggfgehhaaKU
namespace Go.Proofs.Ytmphcpggfgehhaa
open Go.RowKit

theorem KU.one1 (w : World) (z : Nat) : KU.R (w.alloc (.cells #[.int .u64 (z : Int)] 23)) (.slice (some ⟨w.heap.size, 0, none⟩) 1 1) [z] := Lay.R.one w KU_ok z 23 (0, 0)
theorem KU.set {w : World} {B g n cap : Nat} {l : List Nat} (h : KU.O w B (.slice (some ⟨g, 0, none⟩) n cap) l) (i : Nat) (hi : i < l.length) (x : Nat) :
    KU.O (w.setCell ⟨g, i, none⟩ (.int .u64 (x : Int))) B (.slice (some ⟨g, 0, none⟩) n cap) (l.set i x) ∧ w.grownBy (w.setCell ⟨g, i, none⟩ (.int .u64 (x : Int))) (some g) := by
  have := h.storeCell KU_ok i hi 0 (by decide) (.int .u64 (x : Int)) x (by simp [KU])
  rwa [show i * KU.size + 0 = i from Nat.mul_one i] at this
theorem KU.there {w : World} {B g n cap : Nat} {l : List Nat} (h : KU.O w B (.slice (some ⟨g, 0, none⟩) n cap) l) (i : Nat) (hi : i < l.length) : ∃ y : Nat, w.cell? ⟨g, i, none⟩ = some (.int .u64 (y : Int)) := by
  obtain ⟨b, o, e, -, -, hc⟩ := KU.at' h.r i hi
  cases e
  rw [Nat.zero_add] at hc
  exact ⟨_, hc⟩
theorem KU.flat_length (l : List Nat) : (KU.flat l).length = l.length := by rw [KU_ok.flat_len]; exact Nat.mul_one _

/-- 'l[:j]', 'l[i:]', said. -/
theorem wpList_cut_h {P : Program} {ops : Array Oper} {rest : List Oper} {o : Oper} {a : Act} {w : World} {Q : Exit → Act → World → Prop} (hgd : o.guard = none) (x hi : Operand) (t : TypeId) (ho : o.op = .slice t x none (some hi) none)
    (ht : P.underlying t = some (.slice (P.elem t))) (p : Option Addr) (n c : Nat) (u S : Value) (hx : a.eval x = .slice p n c) (hh : a.eval hi = u) (hrun : ∀ W, (Instr.slice t (.slice p n c) none (some u) none).run P W = .ok S W) (h : wpList P ops Q rest (a.put o.dst S) w) : wpList P ops Q (o :: rest) a w :=
  wpList_gives hgd S w (by simp [execOp, ho, hx, hh, hrun, run_sliceAt_slice w t _ _ _ _ ht, Result.andThen]) h
theorem wpList_cut_l {P : Program} {ops : Array Oper} {rest : List Oper} {o : Oper} {a : Act} {w : World} {Q : Exit → Act → World → Prop} (hgd : o.guard = none) (x lo : Operand) (t : TypeId) (ho : o.op = .slice t x (some lo) none none)
    (ht : P.underlying t = some (.slice (P.elem t))) (p : Option Addr) (n c : Nat) (u S : Value) (hx : a.eval x = .slice p n c) (hh : a.eval lo = u) (hrun : ∀ W, (Instr.slice t (.slice p n c) (some u) none none).run P W = .ok S W) (h : wpList P ops Q rest (a.put o.dst S) w) : wpList P ops Q (o :: rest) a w :=
  wpList_gives hgd S w (by simp [execOp, ho, hx, hh, hrun, run_sliceAt_slice w t _ _ _ _ ht, Result.andThen]) h

/-- 'copy(s[i+1:], s[i:])', s the call's own. -/
theorem wpList_copy_KU {ops : Array Oper} {rest : List Oper} {o : Oper} {a : Act} {w : World} {Q : Exit → Act → World → Prop} (hgd : o.guard = none) (d s : Operand)
    (ho : o.op = .call { callee := .builtin .copy, args := #[d, s], argTypes := #[22, 22] })
    (B g n cap i : Nat) (l : List Nat) (hown : KU.O w B (.slice (some ⟨g, 0, none⟩) n cap) l) (hi : i + 1 ≤ l.length)
    (S1 S2 : Value) (hd : a.eval d = S1) (hs : a.eval s = S2) (hS1 : S1 = sliced (some ⟨g, 0, none⟩) (i + 1) n cap KU.size) (hS2 : S2 = sliced (some ⟨g, 0, none⟩) i n cap KU.size) (w0 : World) (hb : Below B w0 w)
    (h : ∀ w', KU.O w' B (.slice (some ⟨g, 0, none⟩) n cap) (l.take (i + 1) ++ (l.drop i).take (l.length - (i + 1))) → Below B w0 w' → wpList Try.prog ops Q rest (a.put o.dst (goInt ((l.length - (i + 1) : Nat) : Int))) w') : wpList Try.prog ops Q (o :: rest) a w := by
  subst hS1 hS2
  obtain rfl := hown.num
  have hz := KU.flat_length l
  have hsz : (Try.prog.info? 23).map (·.size) = some 1 := by kernel_rfl
  rcases hown.2 with ⟨h', -⟩ | ⟨g', cap', cur, hv, hB, hg, d1, d2, d3, d4⟩
  · cases h'
  simp only [Value.slice.injEq, Option.some.injEq, Addr.mk.injEq] at hv
  obtain ⟨⟨rfl, -, -⟩, -, rfl⟩ := hv
  have hadd : ∀ k : Nat, (⟨g, 0, none⟩ : Addr).add k = ⟨g, k, none⟩ := fun k => by unfold Addr.add; split <;> simp_all
  obtain ⟨cs, hcs⟩ : ∃ cs, cs = ((KU.flat l).drop i).take (l.length - (i + 1)) := ⟨_, rfl⟩
  have hcl : cs.length = l.length - (i + 1) := by rw [hcs, List.length_take, List.length_drop, hz]; omega
  have hsize : KU.size = 1 := rfl
  rw [hsize] at hd hs d3 d4
  rw [Nat.mul_one] at d3 d4
  have hcur : l.length ≤ cur.size := by omega
  unfold sliced at hd hs
  refine wpList_copy_splice hgd d s _ _ ho 23 Try.underlying22 hsz _ _ _ _ _ _ hd hs g (i + 1) cur.toList KU.elem (by simpa using hg) cs ?_ ?_ ?_ ?_ B w0 hb hB ?_
  · rw [hcl]
    exact (Nat.min_eq_right (by omega)).symm
  · intro hp
    rw [hcl] at hp
    refine ⟨?_, ⟨g, i, none⟩, ?_, fun j v hj => ?_⟩
    · rw [if_neg (by omega), Option.map_some, Nat.mul_one, hadd]
    · rw [if_neg (by omega), Option.map_some, Nat.mul_one, hadd]
    · rw [hcs] at hj
      have hjl : j < l.length - (i + 1) := by
        have := (List.getElem?_eq_some_iff.1 hj).1
        rw [← hcs, hcl] at this
        exact this
      rw [List.getElem?_take_of_lt hjl, List.getElem?_drop] at hj
      have := World.ownsRow.cells hown (g := g) rfl (i + j) v hj
      rw [hadd] at this
      rw [show (⟨g, i, none⟩ : Addr).add j = ⟨g, i + j, none⟩ by unfold Addr.add; split <;> simp_all]
      exact this
  · have e : cur.toList.length = cur.size := Array.length_toList
    omega
  · intro v hv
    rw [hcs] at hv
    exact KU_ok.flat_one l v (List.mem_of_mem_drop (List.mem_of_mem_take hv))
  · intro w' hw' hb'
    have hh := hw'.out
    rw [hcl]
    have hl' : (l.take (i + 1) ++ (l.drop i).take (l.length - (i + 1))).length = l.length := by simp only [List.length_append, List.length_take, List.length_drop]; omega
    refine h w' ⟨by rw [KU.flat_length, hl']; exact (Nat.mul_one _).symm, .inr ⟨g, cap, _, by rw [hl'], hB, hh, by rw [hl']; exact d1, d2, ?_, ?_⟩⟩ hb'
    · rw [List.size_toArray, length_splice _ _ _ (by rw [hcl, Array.length_toList (xs := cur)]; omega), Array.length_toList (xs := cur), hsize, Nat.mul_one]
      exact d3
    · rw [hl', hsize, Nat.mul_one, KU.flat_append, KU_ok.flat_take, KU_ok.flat_take, KU_ok.flat_drop, hsize, Nat.mul_one, Nat.mul_one, Nat.mul_one, ← hcs]
      unfold splice
      rw [← List.append_assoc]
      have e1 : (KU.flat l).take (i + 1) = cur.toList.take (i + 1) := by rw [← d4, List.take_take, Nat.min_eq_left (by omega)]
      have e3 : (cur.toList.take (i + 1) ++ cs).length = l.length := by rw [List.length_append, List.length_take, hcl, Array.length_toList (xs := cur)]; omega
      rw [e1, List.take_append, e3, Nat.sub_self, List.take_zero, List.append_nil, List.take_of_length_le (by rw [e3]; exact Nat.le_refl _)]

end Go.Proofs.Ytmphcpggfgehhaa
