/-
  The contract of dev's Write.
-/
import Derived.Test.YtiejjiccncmeiaaDoorDevN
namespace Go.Proofs.YtiejjiccncmeiaaDoor
open Go.RowKit

set_option maxRecDepth 100000 in
theorem dwrite_nil (i : Int) (v : Value) (w : World) : Calls Tryd.prog 18 #[.pointer none, .int .i64 i, v] w fun e w' => e = .returned (.int .i64 7) ∧ w = w' := by
  have C := Go.Lib.hid (ddead_nil w)
  go_enter Tryd.func18, Tryd.ntmps18
  go_wp2_with fail
  refine C.out.mono ?_
  rintro e w1 ⟨rfl, rfl⟩
  go_wp2_with fail
  go_ret
  exact ⟨rfl, rfl⟩

theorem rb_range {w : World} {a : Option Addr} {len cap : Nat} {l : List UInt8} (h : RB w (.slice a len cap) l) (hl : 0 < l.length) : ∃ b o, a = some ⟨b, o, none⟩ ∧ w.rangeAt b o (cells l) := by
  obtain ⟨a', cap', hv, h1, h2, h3, h4⟩ := h
  cases hv
  obtain ⟨b, o, ha, hc⟩ := h4 (List.length_pos_iff.1 hl)
  refine ⟨b, o, ha, fun j v hj => ?_⟩
  have hjm : j < l.length := by
    rcases Nat.lt_or_ge j l.length with hlt | hge
    · exact hlt
    · rw [List.getElem?_eq_none (by simpa [cells_length] using hge)] at hj; cases hj
  rw [cells_at l j hjm] at hj
  cases hj
  exact hc j hjm

/-- 'copy(s, b)', s a window of 64 bytes in the midst of a row, b whatever reads as l. -/
theorem wpList_copy_mid {ops : Array Oper} {rest : List Oper} {o : Oper} {a : Act} {w : World} {Q : Exit → Act → World → Prop} (hgd : o.guard = none) (d s : Operand)
    (ho : o.op = .call { callee := .builtin .copy, args := #[d, s], argTypes := #[30, 30] })
    (g off : Nat) (v : Value) (l : List UInt8) (hd : a.eval d = .slice (some ⟨g, off, none⟩) 64 64) (hs : a.eval s = v) (hrb : RB w v l) (hl : l.length ≤ 64) (ht : w.there g off 64)
    (h : ∀ k, wpList Tryd.prog ops Q rest (a.put o.dst (goInt k)) (w.setCells g off (cells l))) : wpList Tryd.prog ops Q (o :: rest) a w := by
  obtain ⟨i, hi, hz, hsize, hby⟩ := info_parts info8
  have hsz : (Tryd.prog.info? 5).map (·.size) = some 1 := by rw [hi]; simp [hsize]
  have hz1 : ∀ w, (sizeOf 5).run Tryd.prog w = .ok 1 w := fun w => by simp [sizeOf, typeInfo, hi, hsize]
  have hrb0 := hrb
  obtain ⟨ad, cap, rfl, h1, h2, h3, h4⟩ := hrb
  by_cases h0 : l.length = 0
  · obtain rfl : l = [] := List.eq_nil_of_length_eq_zero h0
    refine wpList_copy_nothing hgd d s _ _ ho 5 Tryd.underlying30 hsz (some ⟨g, off, none⟩) ad 64 64 0 cap hd hs (by simp) ?_
    exact h 0
  · obtain ⟨b, o', rfl, hr⟩ := rb_range hrb0 (by omega)
    refine wpList_plain hgd fun K hK => ?_
    have hst := run_storeCells_cells (P := Tryd.prog) g off (cells l) 0 w (fun j hj => by simpa using (ht j (by rw [cells_length] at hj; omega)).1) (fun j hj => by simpa using (ht j (by rw [cells_length] at hj; omega)).2) (cells_one l)
    have hld : (loadCells ⟨b, o', none⟩ l.length).run Tryd.prog w = .ok (cells l).toArray w := by
      have := run_loadCells_list (P := Tryd.prog) w ⟨b, o', none⟩ (cells l) (fun j v hv => by rw [Addr.add_mid]; exact hr j v hv)
      rwa [cells_length] at this
    have hmin : Nat.min l.length 64 = l.length := Nat.min_eq_left hl
    unfold Oper.wp
    have hrun : (Builtin.copy_ #[30, 30] o.type #[.slice (some ⟨g, off, none⟩) 64 64, .slice (some ⟨b, o', none⟩) l.length cap]).run Tryd.prog w = .ok (goInt l.length) (w.setCells g off (cells l)) := by
      simp only [Nat.add_zero] at hst
      simp [Builtin.copy_, run_underlying Tryd.underlying30, Builtin.lenOf, Builtin.firstCells, hz1, hmin, hld]
      rw [hst]
      rfl
    simp [execOp, ho, resolve, invoke, builtin, hd, hs, hrun, Result.andThen]
    exact hK _ _ (h _)

section
variable {w : World} {B d g n : Nat} {S : Nat → Sec} {L : Life}
set_option maxRecDepth 100000
theorem dwrite_dead (h : DV w B d g n S L) (hd : L.dead = true) (i : Int) (v : Value) : Calls Tryd.prog 18 #[.pointer (some ⟨d, 0, none⟩), .int .i64 i, v] w fun e w' => e = .returned (.int .i64 7) ∧ w = w' := by
  have C := Go.Lib.hid (ddead_c h)
  rw [hd] at C
  clear h hd
  go_enter Tryd.func18, Tryd.ntmps18
  go_wp2_with fail
  refine C.out.mono ?_
  rintro e w1 ⟨rfl, rfl⟩
  go_wp2_with fail
  go_ret
  exact ⟨rfl, rfl⟩
theorem dwrite_out (h : DV w B d g n S L) (hd : L.dead = false) (i : Int) (hi : i < 0 ∨ (n : Int) ≤ i) (v : Value) : Calls Tryd.prog 18 #[.pointer (some ⟨d, 0, none⟩), .int .i64 i, v] w fun e w' => e = .returned (.int .i64 3) ∧ w = w' := by
  have C := Go.Lib.hid (ddead_c h)
  rw [hd] at C
  have C2 := Go.Lib.hid (dhas_c h i)
  rw [show (decide (0 ≤ i) && decide (i < (n : Int))) = false from by rcases hi with hi | hi <;> simp <;> omega] at C2
  clear h hd hi
  go_enter Tryd.func18, Tryd.ntmps18
  go_wp2_with fail
  refine C.out.mono ?_
  rintro e w1 ⟨rfl, rfl⟩
  go_wp2_with fail
  refine C2.out.mono ?_
  rintro e w1 ⟨rfl, rfl⟩
  go_wp2_with fail
  go_ret
  exact ⟨rfl, rfl⟩
theorem dwrite_long (h : DV w B d g n S L) (hd : L.dead = false) (i : Int) (h0 : 0 ≤ i) (h1 : i < (n : Int)) (v : Value) (l : List UInt8) (hv : RB w v l) (hl : 64 < l.length) : Calls Tryd.prog 18 #[.pointer (some ⟨d, 0, none⟩), .int .i64 i, v] w fun e w' => e = .returned (.int .i64 1) ∧ w = w' := by
  have C := Go.Lib.hid (ddead_c h)
  rw [hd] at C
  have C2 := Go.Lib.hid (dhas_c h i)
  rw [show (decide (0 ≤ i) && decide (i < (n : Int))) = true from by simp; omega] at C2
  obtain ⟨a, cap, rfl, p1, p2, -⟩ := hv
  unfold maxLen at p2
  have hlI : (64 : Int) < (l.length : Int) := by omega
  generalize l.length = m at *
  clear h hd h0 h1
  go_enter Tryd.func18, Tryd.ntmps18
  go_wp2_with fail
  refine C.out.mono ?_
  rintro e w1 ⟨rfl, rfl⟩
  go_wp2_with fail
  refine C2.out.mono ?_
  rintro e w1 ⟨rfl, rfl⟩
  go_wp2_with fail
  go_ret
  exact ⟨rfl, rfl⟩
theorem dwrite_c (h : DV w B d g n S L) (hd : L.dead = false) (hc : L.calls < 1000000) (i : Nat) (hi : i < n) (v : Value) (l : List UInt8) (hv : RB w v l) (hl : l.length ≤ 64) : Calls Tryd.prog 18 #[.pointer (some ⟨d, 0, none⟩), .int .i64 (i : Int), v] w fun e w' => e = .returned (.int .i64 0) ∧ DV w' B d g n (wrS S i l) L.tick ∧ Two d (some g) w w' := by
  have C := Go.Lib.hid (ddead_c h)
  rw [hd] at C
  have C2 := Go.Lib.hid (dhas_c h i)
  rw [show (decide (0 ≤ (i : Int)) && decide ((i : Int) < (n : Int))) = true from by simp; omega] at C2
  have c0 := h.c0
  have hiI : (i : Int) < (n : Int) := by omega
  have hne := Go.Lib.hid h.ne
  have ht := h.row.there (i * 129) 64 (by omega)
  have hr1 := h.row.putNow i hi l hl
  have hr2 := hr1.putLoose i hi true
  have f2 := h.row.frozen (i * 129 + 128)
  have c2 := (h.row.sec i hi).loose
  have hdv : DV ((w.setCells g (i * 129) (cells l)).setCell ⟨g, i * 129 + 128, none⟩ (.bool true)) B d g n (wrS S i l) L := by
    refine (h.rowTo ?_ hr2).congr (fun j _ => ?_)
    · rw [Below.heap_setCell _ _ _ _ (fun e => hne.out e), setCells_heap_other hne.out]
    · unfold wrS upS
      by_cases e : j = i <;> simp [e]
  have CN := Go.Lib.hid (dcount_c hdv hd hc)
  have H := Go.Lib.hid h
  have hb := hv
  obtain ⟨a, cap, rfl, p1, p2, -⟩ := hv
  have hlI : (l.length : Int) ≤ 64 := by omega
  have HT := Go.Lib.hid ht
  have HB := Go.Lib.hid hb
  have HL := Go.Lib.hid hl
  generalize hm : l.length = m at *
  have HM := Go.Lib.hid hm
  have c2' : (w.setCells g (i * 129) (cells l)).cell? ⟨g, i * 129 + 128, none⟩ = some (.bool (S i).loose) := cell_apart c2 rfl _ _ _ (.inr (.inr (by rw [cells_length]; show i * 129 + l.length ≤ i * 129 + 128; omega)))
  have f2' : (w.setCells g (i * 129) (cells l)).frozen? ⟨g, i * 129 + 128, none⟩ = false := by rw [World.frozen?_setCells]; exact f2
  clear h hd ht hr1 hr2 hdv hb p1 p2 hl hm c2 f2
  go_enter Tryd.func18, Tryd.ntmps18
  go_wp2_with fail
  refine C.out.mono ?_
  rintro e w1 ⟨rfl, rfl⟩
  go_wp2_with fail
  refine C2.out.mono ?_
  rintro e w1 ⟨rfl, rfl⟩
  go_wp2_with (first
    | (with_reducible show wpList _ _ _ (⟨some 31, _, _, _, _, _⟩ :: _) _ _; go_must (refine wpList_copy_mid rfl (.tmp 29) (.tmp 30) rfl g (i * 129) (.slice a m cap) l rfl rfl HB.out (by rw [HM.out]; exact HL.out) HT.out ?_); intro k)
    | fail)
  refine CN.out.mono ?_
  rintro e w1 ⟨rfl, hdv, htwo⟩
  go_wp2_with fail
  go_ret
  exact ⟨rfl, hdv, Two.trans ((Two.refl _ _ _).cellsR.setR _) htwo⟩
end

end Go.Proofs.YtiejjiccncmeiaaDoor
