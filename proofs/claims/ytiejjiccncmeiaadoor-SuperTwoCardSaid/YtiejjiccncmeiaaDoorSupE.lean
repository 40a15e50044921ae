/-
  The contract of super's encode, ahead of its sum: what is written into memory of the call's own.
-/
import Derived.Test.YtiejjiccncmeiaaDoorSupN
import Derived.Test.YtiejjiccncmeiaaDoorCrcS
import Derived.Test.YtiejjiccncmeiaaDoorDrawI
import Derived.Deep.DeepCutAuto
namespace Go.Proofs.YtiejjiccncmeiaaDoor
open Go.RowKit

section
variable {P : Program}
/-- 'make([]byte, n)', its place told. -/
theorem wpList_make_own {ops : Array Oper} {rest : List Oper} {o : Oper} {a : Act} {w : World} {Q : Exit → Act → World → Prop} (hgd : o.guard = none) (lo co : Operand) (t : TypeId)
    (hop : o.op = Op.makeSlice t lo co) (e : TypeId) (ht : P.underlying t = some (.slice e)) (hinfo : (P.info? e).map (fun i => (i.zero, i.size, i.bytes)) = some (some (.int .u8 0), 1, 1))
    (kl kc : IntKind) (L C : Int) (n : Nat) (hl : a.eval lo = .int kl L) (hc : a.eval co = .int kc C) (hL : L = (n : Int)) (hC : C = (n : Int)) (hcm : n ≤ 140737488355328)
    (g : Nat) (hg : g = w.heap.size)
    (h : ∀ w', Own e w' g (.slice (some ⟨g, 0, none⟩) n n) (List.replicate n 0) → Below g w w' → g < w'.heap.size → wpList P ops Q rest (a.put o.dst (.slice (some ⟨g, 0, none⟩) n n)) w') : wpList P ops Q (o :: rest) a w := by
  subst hg
  obtain ⟨i, hi, hz, hsize, hby⟩ := info_parts hinfo
  subst hL hC
  have hr := run_make (P := P) w t e i (.int .u8 0) ht hi hz kl kc n n (by omega) (by omega) (by rw [hby]; omega) (by omega)
  simp only [Int.toNat_natCast, hsize, Nat.mul_one] at hr
  refine wpList_gives hgd (.slice (some ⟨w.heap.size, 0, none⟩) n n) (w.alloc (.cells (madeCells (Value.int IntKind.u8 0).cells n) e)) (by simp [execOp, hop, hl, hc, hr, Result.andThen]) (h _ ?_ ((Below.refl _ _).alloc (Nat.le_refl _) _) (by rw [World.alloc, Array.size_push]; omega))
  refine ⟨by simp [cells_length], .inr ⟨w.heap.size, n, madeCells #[Value.int .u8 0] n, (by simp), Nat.le_refl _, ?_, by rw [List.length_replicate]; exact Nat.le_refl _, by unfold maxLen; omega, by simp [size_madeCells], ?_⟩⟩
  · exact heap_alloc_new w _
  · rw [toList_madeCells_one, List.take_replicate]
    simp [cells]

/-- 'copy(d[o:], s)', d a row of the call's own. -/
theorem wpList_copy_at {ops : Array Oper} {rest : List Oper} {o : Oper} {a : Act} {w : World} {Q : Exit → Act → World → Prop} (hgd : o.guard = none) (d s : Operand) (t : TypeId)
    (ho : o.op = .call { callee := .builtin .copy, args := #[d, s], argTypes := #[t, t] })
    (B : Nat) (e : TypeId) (ht : P.underlying t = some (.slice e)) (hinfo : (P.info? e).map (fun i => (i.zero, i.size, i.bytes)) = some (some (.int .u8 0), 1, 1))
    (g off m dcap N cap0 : Nat) (sv : Value) (l0 l : List UInt8) (hd : a.eval d = .slice (some ⟨g, off, none⟩) m dcap) (hs : a.eval s = sv) (hown : Own e w B (.slice (some ⟨g, 0, none⟩) N cap0) l0) (hrb : RB w sv l) (hm : l.length ≤ m) (hlen : off + l.length ≤ l0.length) (w0 : World) (hb : Below B w0 w)
    (h : ∀ w', Own e w' B (.slice (some ⟨g, 0, none⟩) N cap0) (putAt l0 off l) → Below B w0 w' → wpList P ops Q rest (a.put o.dst (goInt l.length)) w') : wpList P ops Q (o :: rest) a w := by
  obtain ⟨i, hi, hz, hsize, hby⟩ := info_parts hinfo
  obtain ⟨ad, cap, rfl, h1, h2, h3, h4⟩ := hrb
  have hsz : (P.info? e).map (·.size) = some 1 := by rw [hi]; simp [hsize]
  rcases hown.2 with ⟨hn0, hn⟩ | ⟨g', dcap', cur, hv, hB, hg, d1, d2, d3, d4⟩
  · cases hn0
  · simp only [Value.slice.injEq, Option.some.injEq, Addr.mk.injEq] at hv
    obtain ⟨⟨rfl, -, -⟩, hN, rfl⟩ := hv
    have hcl : (cells l0).length = l0.length := cells_length l0
    have hcur : l0.length ≤ cur.size := by omega
    refine wpList_copy_splice hgd d s t t ho e ht hsz (some ⟨g, off, none⟩) ad m dcap l.length cap hd hs g off cur.toList e (by simpa using hg) (cells l) (by rw [cells_length]; exact (Nat.min_eq_left hm).symm) ?_ ?_ (cells_one l) B w0 hb hB ?_
    · intro hp
      rw [cells_length] at hp
      obtain ⟨b, o', hao, hc⟩ := h4 (List.length_pos_iff.1 hp)
      refine ⟨rfl, _, hao, fun j u hj => ?_⟩
      have hjm : j < l.length := by
        rcases Nat.lt_or_ge j l.length with hlt | hge
        · exact hlt
        · rw [List.getElem?_eq_none (by simpa [cells_length] using hge)] at hj; cases hj
      rw [cells_at l j hjm] at hj
      cases hj
      have hadd : (⟨b, o', none⟩ : Addr).add j = ⟨b, o' + j, none⟩ := by unfold Addr.add; split <;> simp_all
      rw [hadd]
      exact hc j hjm
    · simp only [cells_length, Array.length_toList]; omega
    · intro w' hw' hb'
      have hh := hw'.out
      rw [cells_length]
      have hpl : (putAt l0 off l).length = l0.length := putAt_length hlen
      refine h w' ⟨by rw [cells_length, Nat.mul_one], .inr ⟨g, cap0, _, by rw [hN, hpl], hB, hh, by rw [hpl]; exact d1, d2, ?_, ?_⟩⟩ hb'
      · rw [List.size_toArray, length_splice _ _ _ (by simp only [cells_length, Array.length_toList]; omega), Array.length_toList, d3]
      · rw [Nat.mul_one] at d4
        simp only [splice, cells_length, hpl, Nat.mul_one]
        unfold putAt
        rw [cells_append, cells_append, ← List.append_assoc]
        have e1 : cells (l0.take off) = cur.toList.take off := by
          have : cells (l0.take off) = (cells l0).take off := by simp [cells]
          rw [this, ← d4, List.take_take, Nat.min_eq_left (by omega)]
        have e2 : cells (l0.drop (off + l.length)) = (cur.toList.drop (off + l.length)).take (l0.length - (off + l.length)) := by
          have : cells (l0.drop (off + l.length)) = (cells l0).drop (off + l.length) := by simp [cells]
          rw [this, ← d4, List.drop_take]
        rw [e1, e2]
        have e3 : (cur.toList.take off ++ cells l).length = off + l.length := by rw [List.length_append, List.length_take, cells_length, Array.length_toList]; omega
        rw [List.take_append, e3, List.take_of_length_le (by rw [e3]; omega)]
end

end Go.Proofs.YtiejjiccncmeiaaDoor
