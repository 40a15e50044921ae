/-
  Slices of spans that the call makes; the contracts of extent's Free and Spans.
-/
import Derived.Test.YtheljojjpnpdaaaExtP
namespace Go.Proofs.Ytheljojjpnpdaaa
open Go.RowKit

def sc (x : Nat × Nat) : List Value := [.int .i64 (x.1 : Int), .int .i64 (x.2 : Int)]
def flatS (l : List (Nat × Nat)) : List Value := l.flatMap sc
def OwnS (w : World) (B : Nat) (v : Value) (l : List (Nat × Nat)) : Prop := w.ownsRow B 30 2 v l.length (flatS l)

theorem flatS_at : ∀ (l : List (Nat × Nat)) (i j : Nat) (hi : i < l.length), j < 2 → (flatS l)[i * 2 + j]? = (sc l[i])[j]?
  | [], i, j, hi, _ => absurd hi (by simp)
  | x :: l, 0, j, hi, hj => by
    show (sc x ++ flatS l)[0 * 2 + j]? = (sc x)[j]?
    rw [Nat.zero_mul, Nat.zero_add, List.getElem?_append_left (by simpa [sc] using hj)]
  | x :: l, i + 1, j, hi, hj => by
    show (sc x ++ flatS l)[(i + 1) * 2 + j]? = _
    rw [List.getElem?_append_right (by simp [sc]; omega), show (i + 1) * 2 + j - (sc x).length = i * 2 + j from by simp [sc]; omega]
    exact flatS_at l i j (by simpa using hi) hj
theorem flatS_append (l m : List (Nat × Nat)) : flatS (l ++ m) = flatS l ++ flatS m := by unfold flatS; rw [List.flatMap_append]
theorem flatS_length (l : List (Nat × Nat)) : (flatS l).length = l.length * 2 := by
  induction l with
  | nil => rfl
  | cons x l ih => show (sc x ++ flatS l).length = _; rw [List.length_append, ih, List.length_cons]; simp [sc]; omega
theorem flatS_one (l : List (Nat × Nat)) : ∀ u ∈ flatS l, u.oneCell' = true := by
  intro u hu
  obtain ⟨x, -, hx⟩ := List.mem_flatMap.1 hu
  simp only [sc, List.mem_cons, List.not_mem_nil, or_false] at hx
  rcases hx with rfl | rfl <;> rfl

section
variable {w w' : World} {B : Nat} {v : Value} {l : List (Nat × Nat)}
theorem OwnS.nil (w : World) (B : Nat) : OwnS w B (.slice none 0 0) [] := World.ownsRow_nil w B _ 2
theorem OwnS.below (h : OwnS w B v l) (hb : Below w.heap.size w w') : OwnS w' B v l := by
  refine ⟨h.1, ?_⟩
  rcases h.2 with h' | ⟨g, cap, cur, h1, hB, h2, h3⟩
  · exact .inl h'
  · exact .inr ⟨g, cap, cur, h1, hB, (hb.block g (Array.getElem?_eq_some_iff.1 h2).1).trans h2, h3⟩
theorem OwnS.mono {B' : Nat} (h : OwnS w B v l) (hB : B' ≤ B) : OwnS w B' v l := by
  refine ⟨h.1, ?_⟩
  rcases h.2 with h' | ⟨g, cap, cur, h1, hb, h2⟩
  · exact .inl h'
  · exact .inr ⟨g, cap, cur, h1, Nat.le_trans hB hb, h2⟩
theorem OwnS.row (h : OwnS w B v l) : ∀ k, v.ownBlock = some k → B ≤ k := fun k hk => (World.ownsRow.lt h k hk).1
theorem OwnS.form (h : OwnS w B v l) : ∃ a cap, v = .slice a l.length cap ∧ l.length ≤ cap ∧ cap ≤ maxLen := by
  rcases h.2 with ⟨h', hn⟩ | ⟨g, cap, cur, h1, hB, h2, h3, h4, -⟩
  · exact ⟨none, 0, by rw [h', hn], by omega, by simp [maxLen]⟩
  · exact ⟨_, cap, h1, h3, h4⟩
theorem OwnS.at {a : Option Addr} {n cap : Nat} (h : OwnS w B (.slice a n cap) l) (i : Nat) (hi : i < l.length) :
    ∃ g, a = some ⟨g, 0, none⟩ ∧ n = l.length ∧ w.cell? ⟨g, i * 2, none⟩ = some (.int .i64 (l[i].1 : Int)) ∧ w.cell? ⟨g, i * 2 + 1, none⟩ = some (.int .i64 (l[i].2 : Int)) ∧ B ≤ g ∧ g < w.heap.size := by
  obtain ⟨g, rfl, rfl⟩ : ∃ g, a = some ⟨g, 0, none⟩ ∧ n = l.length := by
    rcases h.2 with ⟨_, h0⟩ | ⟨g, cap', cur, hv, -⟩
    · omega
    · simp only [Value.slice.injEq] at hv
      exact ⟨g, hv.1, hv.2.1⟩
  have c := fun j (hj : j < 2) => (World.ownsRow.cellAt h (i * 2 + j) (by omega)).trans (flatS_at l i j hi hj)
  have hlt := World.ownsRow.lt h g rfl
  exact ⟨g, rfl, rfl, c 0 (by omega), c 1 (by omega), hlt.1, hlt.2⟩
/-- A row of another type stays. -/
theorem OwnS.kept {row : Option Nat} (h : OwnS w B v l) (hg : w.grownBy w' row) (hne : v.ownBlock = none ∨ v.ownBlock ≠ row) : OwnS w' B v l := World.ownsRow.kept h hg hne
end

theorem infoS : (Try.prog.info? 30).map (fun i => (i.zero, i.size, i.bytes)) = some (some (.agg #[.int .i64 0, .int .i64 0]), 2, 16) := by kernel_rfl

/-- 'append(s, x)', s the call's own, x one span, in a new block. -/
theorem wpList_append_span {ops : Array Oper} {rest : List Oper} {o : Oper} {a : Act} {w : World} {Q : Exit → Act → World → Prop} (hgd : o.guard = none) (s x : Operand)
    (ho : o.op = .call { callee := .builtin .append, args := #[s, x], argTypes := #[37, 37] })
    (B : Nat) (v : Value) (l : List (Nat × Nat)) (g : Nat) (y : Nat × Nat) (hs : a.eval s = v) (hx : a.eval x = .slice (some ⟨g, 0, none⟩) 1 1) (hown : OwnS w B v l)
    (h0 : w.cell? ⟨g, 0, none⟩ = some (.int .i64 (y.1 : Int))) (h1 : w.cell? ⟨g, 1, none⟩ = some (.int .i64 (y.2 : Int))) (hl : l.length ≤ 100000) (hbase : B ≤ w.heap.size)
    (h : ∀ v' w', OwnS w' B v' (l ++ [y]) → w.grownBy w' v.ownBlock → wpList Try.prog ops Q rest (a.put o.dst v') w') : wpList Try.prog ops Q (o :: rest) a w := by
  obtain ⟨i, hi, hz, hsize, hby⟩ := info_parts infoS
  refine wpList_append_own w hgd s x _ ho B 30 i (.agg #[.int .i64 0, .int .i64 0]) 2 16 Try.underlying37 hi hz hsize hby rfl (by decide) v l.length (flatS l) hs hown ⟨g, 0, none⟩ 1 1 (sc y) hx (by simp [sc]) ?_ ?_ (by unfold maxLen; omega) (by omega) hbase ?_
  · intro j u hj
    have hadd : (⟨g, 0, none⟩ : Addr).add j = ⟨g, j, none⟩ := by unfold Addr.add; simp; omega
    rw [hadd]
    match j, hj with
    | 0, hj => rw [h0]; exact hj
    | 1, hj => rw [h1]; exact hj
    | j + 2, hj => simp [sc] at hj
  · intro u hu
    simp only [sc, List.mem_cons, List.not_mem_nil, or_false] at hu
    rcases hu with rfl | rfl <;> rfl
  · intro v' w' hown' hg _
    refine h v' w' ?_ hg
    unfold OwnS
    rw [List.length_append]
    unfold flatS at *
    rw [List.flatMap_append]
    simpa using hown'

set_option maxRecDepth 100000
theorem free_nil (w : World) : Calls Try.prog 16 #[.pointer none] w fun e w' => e = .returned (.int .i64 0) ∧ w = w' := by
  go_enter Try.func16, Try.ntmps16
  go_wp2_with fail
  go_ret
  exact ⟨rfl, rfl⟩
theorem spans_nil (w : World) : Calls Try.prog 15 #[.pointer none] w fun e w' => e = .returned (.slice none 0 0) ∧ w = w' := by
  go_enter Try.func15, Try.ntmps15
  go_wp2_with fail
  go_ret
  exact ⟨rfl, rfl⟩

section
variable {w : World} {B r at_ n : Nat} {v : Value} {G : Nat → Bool}
theorem RM.cnt (h : RM w B r at_ n v G) : cntF G (at_ + n) = cntF (fun i => G (at_ + i)) n := by
  have h1 := cntF_none G 0 at_ (fun k _ h2 => h.out k (by omega))
  rw [Nat.zero_add] at h1
  rw [cntF_shift, h1]
  show 0 + _ = _
  omega
theorem free_c (h : RM w B r at_ n v G) : Calls Try.prog 16 #[.pointer (some ⟨r, 0, none⟩)] w fun e w' => e = .returned (.int .i64 (cntF G (at_ + n) : Int)) ∧ w = w' := by
  obtain ⟨fa, fc, rfl⟩ := h.form
  have c1 := h.c1
  have hs := h.small
  have hn : n ≤ 100000 := by omega
  rw [h.cnt]
  obtain ⟨f, hf⟩ : ∃ f, (fun i => G (at_ + i)) = f := ⟨_, rfl⟩
  have hr := h.row
  rw [hf] at hr ⊢
  have H := Go.Lib.hid hr
  clear hr hs h hf
  go_enter Try.func16, Try.ntmps16
  go_wp2_with fail
  go_loopw [3, 13] (fun u c wr => ∃ k : Nat, k ≤ n ∧ c = .int .i64 (k : Int) ∧ u = .int .i64 (cntF f k : Int) ∧ Hid (w = wr)) (fun _ c _ => n - (intOf c).toNat)
  case atStart => exact ⟨0, by omega, rfl, rfl, Go.Lib.hid rfl⟩
  case round =>
    obtain ⟨k, hk, rfl, rfl, he⟩ := hrel
    have hle := cntF_le f k
    by_cases hkn : k < n
    · obtain ⟨b, o, rfl, hc, -⟩ := H.out.rv.at k (by rw [zf_length]; exact hkn)
      rw [show (zf n f)[k]'(by rw [zf_length]; exact hkn) = .bool (f k) from (List.getElem?_eq_some_iff.1 (zf_at n f k hkn)).2, he.out] at hc
      have hkI : (k : Int) < (n : Int) := by omega
      obtain ⟨q, hq⟩ : ∃ q, q = cntF f k := ⟨_, rfl⟩
      have hstep : cntF f (k + 1) = q + (if f k = true then 1 else 0) := by rw [hq]; rfl
      rw [← hq] at hle ⊢
      cases ht : f k with
      | true =>
        rw [ht] at hc hstep
        have HS := Go.Lib.hid hstep
        clear hstep hq ht
        go_wp2_with fail
        go_roundw
        case rel => exact ⟨k + 1, by omega, by go_num, by rw [HS.out]; go_num, he⟩
        case measure => simp only [intOf]; omega
      | false =>
        rw [ht] at hc hstep
        have HS := Go.Lib.hid hstep
        clear hstep hq ht
        go_wp2_with fail
        go_roundw
        case rel => exact ⟨k + 1, by omega, by go_num, by rw [HS.out]; rfl, he⟩
        case measure => simp only [intOf]; omega
    · obtain rfl : k = n := by omega
      go_wp2_with fail
      go_ret
      exact ⟨rfl, he.out⟩

/-- How far the rows are told at place i: nothing stands open. -/
def AtI (G : Nat → Bool) (at_ i : Nat) (l : List (Nat × Nat)) : Prop := l = spS G (at_ + i) ∧ (at_ + i = 0 ∨ G (at_ + i - 1) = false)
theorem spS_len (G : Nat → Bool) (m : Nat) : (spS G m).length ≤ m := by
  induction m with
  | zero => exact Nat.le_refl _
  | succ m ih =>
    unfold spS
    split
    · split
      · rename_i h
        obtain ⟨i, a, n, e, -⟩ := (spS_rows G m).last h.1 h.2
        rw [e, bump_snoc]
        rw [e] at ih
        simp at ih ⊢
        omega
      · simp; omega
    · omega
theorem AtI.zero (h : RM w B r at_ n v G) : AtI G at_ 0 [] := by
  refine ⟨?_, ?_⟩
  · have := spS_none G 0 at_ (fun k _ h2 => h.out k (by omega))
    rw [Nat.zero_add] at this
    exact this.symm
  · rcases Nat.eq_zero_or_pos at_ with h0 | h0
    · exact .inl h0
    · exact .inr (h.out _ (by omega))
theorem AtI.run {i m : Nat} {l : List (Nat × Nat)} (h : AtI G at_ i l) (hm : 0 < m) (h1 : ∀ j, j < m → G (at_ + i + j) = true) (h2 : G (at_ + i + m) = false) : AtI G at_ (i + m + 1) (l ++ [(at_ + i, m)]) := by
  obtain ⟨rfl, h0⟩ := h
  refine ⟨?_, .inr ?_⟩
  · rw [show at_ + (i + m + 1) = at_ + i + m + 1 from by omega, spS_off h2, spS_run G (at_ + i) m hm (fun k k1 k2 => by have := h1 (k - (at_ + i)) (by omega); rwa [show at_ + i + (k - (at_ + i)) = k from by omega] at this) h0]
  · rw [show at_ + (i + m + 1) - 1 = at_ + i + m from by omega]
    exact h2
theorem AtI.skip {i : Nat} {l : List (Nat × Nat)} (h : AtI G at_ i l) (h1 : G (at_ + i) = false) : AtI G at_ (i + 1) l := by
  obtain ⟨rfl, h0⟩ := h
  refine ⟨?_, .inr ?_⟩
  · rw [show at_ + (i + 1) = at_ + i + 1 from by omega, spS_off h1]
  · rw [show at_ + (i + 1) - 1 = at_ + i from by omega]
    exact h1
theorem AtI.done {i : Nat} {l : List (Nat × Nat)} (h : RM w B r at_ n v G) (hl : AtI G at_ i l) (hi : n ≤ i) : l = spS G (at_ + n) := by
  have := spS_none G (at_ + n) (i - n) (fun k k1 _ => h.out k (by omega))
  rw [show at_ + n + (i - n) = at_ + i from by omega] at this
  rw [← this]
  exact hl.1

theorem spans_c (h : RM w B r at_ n v G) : Calls Try.prog 15 #[.pointer (some ⟨r, 0, none⟩)] w fun e w' => ∃ v', e = .returned v' ∧ OwnS w' w.heap.size v' (spS G (at_ + n)) ∧ Below w.heap.size w w' := by
  have hs := h.small
  have hn : n ≤ 100000 := by omega
  have hat : at_ ≤ 100000 := by omega
  obtain ⟨X, hX⟩ : ∃ X : Int, X = 9223372036854775807 - (at_ : Int) := ⟨_, rfl⟩
  have kX : IntKind.i64.wrap (9223372036854775807 - (at_ : Int)) = X := by rw [hX, IntKind.wrap_i64]; omega
  have hX2 : (1000000 : Int) ≤ X := by omega
  have HX := Go.Lib.hid hX2
  obtain ⟨fa, fc, rfl⟩ := h.form
  have H := Go.Lib.hid h
  clear hs h hX hX2
  go_enter Try.func15, Try.ntmps15
  have c1 := H.out.c1
  go_wp2_with fail
  go_loopw [3, 4] (fun u c wr => ∃ (i : Nat) (v : Value) (l : List (Nat × Nat)), v = u ∧ i ≤ n + 1 ∧ c = .int .i64 (i : Int) ∧ OwnS wr w.heap.size v l ∧ Hid (AtI G at_ i l) ∧ Below w.heap.size w wr) (fun _ c _ => n + 1 - (intOf c).toNat)
  case atStart => exact ⟨0, _, [], rfl, by omega, rfl, OwnS.nil _ _, Go.Lib.hid (AtI.zero H.out), Below.refl _ _⟩
  case round =>
    obtain ⟨i, v, l, rfl, hi, rfl, hown, hat2, hbw⟩ := hrel
    clear c1
    have c0 := (H.out.below hbw).c0
    have c1 := (H.out.below hbw).c1
    by_cases hin : i < n
    · have hiI : (i : Int) < (n : Int) := by omega
      have hXi : ¬ X < (i : Int) := by have := HX.out; omega
      obtain ⟨g, c, hfc⟩ := H.out.row.fform (by omega)
      simp only [Value.slice.injEq, true_and] at hfc
      obtain ⟨rfl, rfl⟩ := hfc
      have hr := (H.out.below hbw).row
      have hcap := hr.capOk
      have q1 := cut_l g n fc i (by omega) (by omega)
      have C := Go.Lib.hid (run_c (w := wr) (g := g) (o := i) (m := n - i) (cap := fc - i) (f := fun j => G (at_ + (i + j))) (fun j hj => hr.fcell (i + j) (by omega)) (by omega))
      have hle := firstF_le (n - i) (fun j => G (at_ + (i + j))) false
      have hsp := firstF_spec (n - i) (fun j => G (at_ + (i + j))) false
      have hbf := fun j hj => firstF_before (m := n - i) (f := fun j => G (at_ + (i + j))) (x := false) (j := j) hj
      obtain ⟨m, hm⟩ : ∃ m, m = firstF (n - i) (fun j => G (at_ + (i + j))) false := ⟨_, rfl⟩
      rw [← hm] at C hle hsp hbf
      have hend : G (at_ + (i + m)) = false := by
        rcases Nat.lt_or_ge m (n - i) with h1 | h1
        · exact hsp.2 h1
        · exact H.out.out _ (by omega)
      have hm2 : m ≤ 100000 := by omega
      have HE := Go.Lib.hid (show m + i ≤ n from by omega)
      have hl : l.length ≤ 100000 := by
        rw [hat2.out.1]
        have := spS_len G (at_ + i)
        have := H.out.small
        omega
      have HL := Go.Lib.hid hl
      have HI := Go.Lib.hid hi
      clear hr hcap hsp hm hle hl hi hin
      rcases Nat.eq_zero_or_pos m with h0 | h0
      · subst h0
        have hat3 := Go.Lib.hid (hat2.out.skip (by simpa using hend))
        clear hbf hend hm2
        go_wp2_with fail
        refine C.out.mono ?_
        rintro e w2 ⟨rfl, rfl⟩
        go_wp2_with fail
        go_roundw
        case rel => exact ⟨i + 1, _, _, rfl, by have := HI.out; have := HE.out; omega, by go_num, hown, hat3, hbw⟩
        case measure => simp only [intOf]; have := HE.out; omega
      · have hat3 := Go.Lib.hid (hat2.out.run h0 (fun j hj => by have := hbf j hj; rw [show at_ + i + j = at_ + (i + j) from by omega]; simpa using this) (by rw [show at_ + i + m = at_ + (i + m) from by omega]; exact hend))
        have h0I : (0 : Int) < (m : Int) := by omega
        obtain ⟨x, hx⟩ : ∃ x : Int, x = (at_ : Int) + (i : Int) := ⟨_, rfl⟩
        have kx : IntKind.i64.wrap ((at_ : Int) + (i : Int)) = x := by rw [hx, IntKind.wrap_i64]; have := HE.out; omega
        have Hx := Go.Lib.hid (show ((at_ + i : Nat) : Int) = x from by rw [hx]; omega)
        have hown3 := hown.below (below_alloc wr (.cells #[.int .i64 x, .int .i64 (m : Int)] 30))
        have hbw3 := hbw.alloc hbw.size (.cells #[.int .i64 x, .int .i64 (m : Int)] 30)
        have hnew := heap_alloc_new wr (.cells #[.int .i64 x, .int .i64 (m : Int)] 30)
        have n0 : (wr.alloc (.cells #[.int .i64 x, .int .i64 (m : Int)] 30)).cell? ⟨wr.heap.size, 0, none⟩ = some (.int .i64 ((at_ + i : Nat) : Int)) := by rw [cell_of_row _ _ 0 _ _ _ hnew, Hx.out]; rfl
        have n1 : (wr.alloc (.cells #[.int .i64 x, .int .i64 (m : Int)] 30)).cell? ⟨wr.heap.size, 1, none⟩ = some (.int .i64 (m : Int)) := by rw [cell_of_row _ _ 1 _ _ _ hnew]; rfl
        have N0 := Go.Lib.hid n0
        have N1 := Go.Lib.hid n1
        have HO := Go.Lib.hid hown3
        have HB3 := Go.Lib.hid hbw3
        obtain ⟨k, hk⟩ : ∃ k : Int, k = (i : Int) + (m : Int) := ⟨_, rfl⟩
        have kk : IntKind.i64.wrap ((i : Int) + (m : Int)) = k := by rw [hk, IntKind.wrap_i64]; have := HE.out; omega
        have Hk := Go.Lib.hid hk
        have kk1 : IntKind.i64.wrap (k + 1) = k + 1 := by rw [hk, IntKind.wrap_i64]; have := HE.out; omega
        clear hbf hend h0 hx hown hbw hown3 hbw3 hnew n0 n1 hk hat2
        go_wp2_with fail
        refine C.out.mono ?_
        rintro e w2 ⟨rfl, rfl⟩
        go_wp2_with (first
          | (with_reducible show wpList _ _ _ (⟨some 43, _, _, _, _, _⟩ :: _) _ _; go_loud (refine wpList_append_span rfl (.tmp 33) (.tmp 42) rfl w.heap.size v l wr.heap.size (at_ + i, m) rfl rfl HO.out N0.out N1.out HL.out HB3.out.size ?_); intro v4 w4 hown4 hg4; have HB4 := Go.Lib.hid (HB3.out.grown hg4 HB3.out.size HO.out.row); clear hg4)
          | fail)
        go_roundw
        case rel => exact ⟨i + m + 1, _, _, rfl, by have := HE.out; omega, by rw [Hk.out]; go_num, hown4, hat3, HB4.out⟩
        case measure => simp only [intOf]; rw [Hk.out]; have := HE.out; omega
    · have hd := Go.Lib.hid (hat2.out.done H.out (by omega))
      go_wp2_with fail
      go_ret
      exact ⟨_, rfl, by rw [← hd.out]; exact hown, hbw⟩
end

end Go.Proofs.Ytheljojjpnpdaaa
