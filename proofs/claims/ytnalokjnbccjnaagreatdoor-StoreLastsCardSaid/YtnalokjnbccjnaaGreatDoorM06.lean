/-
  Slices of spans that the call makes; the contracts of extent's Free and Spans.
  The contracts of extent's turn, Use and Give.
  A region whose order is open, whose operations read and make memory, and some of which CHANGE what stands (a call of a method that writes): beside the condition for each slot (XDraw) an invariant of the world that knows which operations have been carried out. Each operation is shown once.
  The contract of extent's Take.
  The contracts of extent's New and Copy, of slices.Clone of bools.
  The contracts of extent in the spelling that laws meet.
  The contracts of super's putNum and getNum.
  The contract of super's encode, ahead of its sum: what is written into memory of the call's own.
-/
import Derived.Test.YtnalokjnbccjnaaGreatDoorM05
import Derived.Test.YtnalokjnbccjnaaGreatDoorM03
import Derived.Lib.SliceRun
import Derived.Test.YtnalokjnbccjnaaGreatDoorM02
import Derived.Laws.BitsAllLaws
import Derived.Deep.DeepMust
import Derived.Test.YtnalokjnbccjnaaGreatDoorM04
import Derived.Deep.DeepCutAuto
namespace Go.Proofs.YtnalokjnbccjnaaGreatDoor
open Go.RowKit

def sc (x : Nat × Nat) : List Value := [.int .i64 (x.1 : Int), .int .i64 (x.2 : Int)]
def flatS (l : List (Nat × Nat)) : List Value := l.flatMap sc
def OwnS (w : World) (B : Nat) (v : Value) (l : List (Nat × Nat)) : Prop := w.ownsRow B 96 2 v l.length (flatS l)

theorem flatS_at : ∀ (l : List (Nat × Nat)) (i j : Nat) (hi : i < l.length), j < 2 → (flatS l)[i * 2 + j]? = (sc l[i])[j]?
  | [], i, j, hi, _ => absurd hi (by simp)
  | x :: l, 0, j, hi, hj => by
    show (sc x ++ flatS l)[0 * 2 + j]? = (sc x)[j]?
    rw [Nat.zero_mul, Nat.zero_add, List.getElem?_append_left (by simpa [sc] using hj)]
  | x :: l, i + 1, j, hi, hj => by
    show (sc x ++ flatS l)[(i + 1) * 2 + j]? = _
    rw [List.getElem?_append_right (by simp [sc]; omega), show (i + 1) * 2 + j - (sc x).length = i * 2 + j from by simp [sc]; omega]
    exact flatS_at l i j (by simpa using hi) hj
theorem flatS_append (l m : List (Nat × Nat)) : flatS (l ++ m) = flatS l ++ flatS m := by unfold flatS; rw [List.flatMap_append]
theorem flatS_length (l : List (Nat × Nat)) : (flatS l).length = l.length * 2 := by
  induction l with
  | nil => rfl
  | cons x l ih => show (sc x ++ flatS l).length = _; rw [List.length_append, ih, List.length_cons]; simp [sc]; omega
theorem flatS_one (l : List (Nat × Nat)) : ∀ u ∈ flatS l, u.oneCell' = true := by
  intro u hu
  obtain ⟨x, -, hx⟩ := List.mem_flatMap.1 hu
  simp only [sc, List.mem_cons, List.not_mem_nil, or_false] at hx
  rcases hx with rfl | rfl <;> rfl

section
variable {w w' : World} {B : Nat} {v : Value} {l : List (Nat × Nat)}
theorem OwnS.nil (w : World) (B : Nat) : OwnS w B (.slice none 0 0) [] := World.ownsRow_nil w B _ 2
theorem OwnS.below (h : OwnS w B v l) (hb : Below w.heap.size w w') : OwnS w' B v l := by
  refine ⟨h.1, ?_⟩
  rcases h.2 with h' | ⟨g, cap, cur, h1, hB, h2, h3⟩
  · exact .inl h'
  · exact .inr ⟨g, cap, cur, h1, hB, (hb.block g (Array.getElem?_eq_some_iff.1 h2).1).trans h2, h3⟩
theorem OwnS.mono {B' : Nat} (h : OwnS w B v l) (hB : B' ≤ B) : OwnS w B' v l := by
  refine ⟨h.1, ?_⟩
  rcases h.2 with h' | ⟨g, cap, cur, h1, hb, h2⟩
  · exact .inl h'
  · exact .inr ⟨g, cap, cur, h1, Nat.le_trans hB hb, h2⟩
theorem OwnS.row (h : OwnS w B v l) : ∀ k, v.ownBlock = some k → B ≤ k := fun k hk => (World.ownsRow.lt h k hk).1
theorem OwnS.form (h : OwnS w B v l) : ∃ a cap, v = .slice a l.length cap ∧ l.length ≤ cap ∧ cap ≤ maxLen := by
  rcases h.2 with ⟨h', hn⟩ | ⟨g, cap, cur, h1, hB, h2, h3, h4, -⟩
  · exact ⟨none, 0, by rw [h', hn], by omega, by simp [maxLen]⟩
  · exact ⟨_, cap, h1, h3, h4⟩
theorem OwnS.at {a : Option Addr} {n cap : Nat} (h : OwnS w B (.slice a n cap) l) (i : Nat) (hi : i < l.length) :
    ∃ g, a = some ⟨g, 0, none⟩ ∧ n = l.length ∧ w.cell? ⟨g, i * 2, none⟩ = some (.int .i64 (l[i].1 : Int)) ∧ w.cell? ⟨g, i * 2 + 1, none⟩ = some (.int .i64 (l[i].2 : Int)) ∧ B ≤ g ∧ g < w.heap.size := by
  obtain ⟨g, rfl, rfl⟩ : ∃ g, a = some ⟨g, 0, none⟩ ∧ n = l.length := by
    rcases h.2 with ⟨_, h0⟩ | ⟨g, cap', cur, hv, -⟩
    · omega
    · simp only [Value.slice.injEq] at hv
      exact ⟨g, hv.1, hv.2.1⟩
  have c := fun j (hj : j < 2) => (World.ownsRow.cellAt h (i * 2 + j) (by omega)).trans (flatS_at l i j hi hj)
  have hlt := World.ownsRow.lt h g rfl
  exact ⟨g, rfl, rfl, c 0 (by omega), c 1 (by omega), hlt.1, hlt.2⟩
/-- A row of another type stays. -/
theorem OwnS.kept {row : Option Nat} (h : OwnS w B v l) (hg : w.grownBy w' row) (hne : v.ownBlock = none ∨ v.ownBlock ≠ row) : OwnS w' B v l := World.ownsRow.kept h hg hne
end

theorem infoS : (Tryz.prog.info? 96).map (fun i => (i.zero, i.size, i.bytes)) = some (some (.agg #[.int .i64 0, .int .i64 0]), 2, 16) := by kernel_rfl

/-- 'append(s, x)', s the call's own, x one span, in a new block. -/
theorem wpList_append_span {ops : Array Oper} {rest : List Oper} {o : Oper} {a : Act} {w : World} {Q : Exit → Act → World → Prop} (hgd : o.guard = none) (s x : Operand)
    (ho : o.op = .call { callee := .builtin .append, args := #[s, x], argTypes := #[172, 172] })
    (B : Nat) (v : Value) (l : List (Nat × Nat)) (g : Nat) (y : Nat × Nat) (hs : a.eval s = v) (hx : a.eval x = .slice (some ⟨g, 0, none⟩) 1 1) (hown : OwnS w B v l)
    (h0 : w.cell? ⟨g, 0, none⟩ = some (.int .i64 (y.1 : Int))) (h1 : w.cell? ⟨g, 1, none⟩ = some (.int .i64 (y.2 : Int))) (hl : l.length ≤ 100000) (hbase : B ≤ w.heap.size)
    (h : ∀ v' w', OwnS w' B v' (l ++ [y]) → w.grownBy w' v.ownBlock → wpList Tryz.prog ops Q rest (a.put o.dst v') w') : wpList Tryz.prog ops Q (o :: rest) a w := by
  obtain ⟨i, hi, hz, hsize, hby⟩ := info_parts infoS
  refine wpList_append_own w hgd s x _ ho B 96 i (.agg #[.int .i64 0, .int .i64 0]) 2 16 Tryz.underlying172 hi hz hsize hby rfl (by decide) v l.length (flatS l) hs hown ⟨g, 0, none⟩ 1 1 (sc y) hx (by simp [sc]) ?_ ?_ (by unfold maxLen; omega) (by omega) hbase ?_
  · intro j u hj
    have hadd : (⟨g, 0, none⟩ : Addr).add j = ⟨g, j, none⟩ := by unfold Addr.add; simp; omega
    rw [hadd]
    match j, hj with
    | 0, hj => rw [h0]; exact hj
    | 1, hj => rw [h1]; exact hj
    | j + 2, hj => simp [sc] at hj
  · intro u hu
    simp only [sc, List.mem_cons, List.not_mem_nil, or_false] at hu
    rcases hu with rfl | rfl <;> rfl
  · intro v' w' hown' hg _
    refine h v' w' ?_ hg
    unfold OwnS
    rw [List.length_append]
    unfold flatS at *
    rw [List.flatMap_append]
    simpa using hown'

set_option maxRecDepth 100000
theorem free_nil (w : World) : Calls Tryz.prog 44 #[.pointer none] w fun e w' => e = .returned (.int .i64 0) ∧ w = w' := by
  go_enter Tryz.func44, Tryz.ntmps44
  go_wp2_with fail
  go_ret
  exact ⟨rfl, rfl⟩
theorem spans_nil (w : World) : Calls Tryz.prog 103 #[.pointer none] w fun e w' => e = .returned (.slice none 0 0) ∧ w = w' := by
  go_enter Tryz.func103, Tryz.ntmps103
  go_wp2_with fail
  go_ret
  exact ⟨rfl, rfl⟩

section
variable {w : World} {B r at_ n : Nat} {v : Value} {G : Nat → Bool}
theorem RM.cnt (h : RM w B r at_ n v G) : cntF G (at_ + n) = cntF (fun i => G (at_ + i)) n := by
  have h1 := cntF_none G 0 at_ (fun k _ h2 => h.out k (by omega))
  rw [Nat.zero_add] at h1
  rw [cntF_shift, h1]
  show 0 + _ = _
  omega
theorem free_c (h : RM w B r at_ n v G) : Calls Tryz.prog 44 #[.pointer (some ⟨r, 0, none⟩)] w fun e w' => e = .returned (.int .i64 (cntF G (at_ + n) : Int)) ∧ w = w' := by
  obtain ⟨fa, fc, rfl⟩ := h.form
  have c1 := h.c1
  have hs := h.small
  have hn : n ≤ 100000 := by omega
  rw [h.cnt]
  obtain ⟨f, hf⟩ : ∃ f, (fun i => G (at_ + i)) = f := ⟨_, rfl⟩
  have hr := h.row
  rw [hf] at hr ⊢
  have H := Go.Lib.hid hr
  clear hr hs h hf
  go_enter Tryz.func44, Tryz.ntmps44
  go_wp2_with fail
  go_loopw [3, 13] (fun u c wr => ∃ k : Nat, k ≤ n ∧ c = .int .i64 (k : Int) ∧ u = .int .i64 (cntF f k : Int) ∧ Hid (w = wr)) (fun _ c _ => n - (intOf c).toNat)
  case atStart => exact ⟨0, by omega, rfl, rfl, Go.Lib.hid rfl⟩
  case round =>
    obtain ⟨k, hk, rfl, rfl, he⟩ := hrel
    have hle := cntF_le f k
    by_cases hkn : k < n
    · obtain ⟨b, o, rfl, hc, -⟩ := H.out.rv.at k (by rw [zf_length]; exact hkn)
      rw [show (zf n f)[k]'(by rw [zf_length]; exact hkn) = .bool (f k) from (List.getElem?_eq_some_iff.1 (zf_at n f k hkn)).2, he.out] at hc
      have hkI : (k : Int) < (n : Int) := by omega
      obtain ⟨q, hq⟩ : ∃ q, q = cntF f k := ⟨_, rfl⟩
      have hstep : cntF f (k + 1) = q + (if f k = true then 1 else 0) := by rw [hq]; rfl
      rw [← hq] at hle ⊢
      cases ht : f k with
      | true =>
        rw [ht] at hc hstep
        have HS := Go.Lib.hid hstep
        clear hstep hq ht
        go_wp2_with fail
        go_roundw
        case rel => exact ⟨k + 1, by omega, by go_num, by rw [HS.out]; go_num, he⟩
        case measure => simp only [intOf]; omega
      | false =>
        rw [ht] at hc hstep
        have HS := Go.Lib.hid hstep
        clear hstep hq ht
        go_wp2_with fail
        go_roundw
        case rel => exact ⟨k + 1, by omega, by go_num, by rw [HS.out]; rfl, he⟩
        case measure => simp only [intOf]; omega
    · obtain rfl : k = n := by omega
      go_wp2_with fail
      go_ret
      exact ⟨rfl, he.out⟩

/-- How far the rows are told at place i: nothing stands open. -/
def AtI (G : Nat → Bool) (at_ i : Nat) (l : List (Nat × Nat)) : Prop := l = spS G (at_ + i) ∧ (at_ + i = 0 ∨ G (at_ + i - 1) = false)
theorem spS_len (G : Nat → Bool) (m : Nat) : (spS G m).length ≤ m := by
  induction m with
  | zero => exact Nat.le_refl _
  | succ m ih =>
    unfold spS
    split
    · split
      · rename_i h
        obtain ⟨i, a, n, e, -⟩ := (spS_rows G m).last h.1 h.2
        rw [e, bump_snoc]
        rw [e] at ih
        simp at ih ⊢
        omega
      · simp; omega
    · omega
theorem AtI.zero (h : RM w B r at_ n v G) : AtI G at_ 0 [] := by
  refine ⟨?_, ?_⟩
  · have := spS_none G 0 at_ (fun k _ h2 => h.out k (by omega))
    rw [Nat.zero_add] at this
    exact this.symm
  · rcases Nat.eq_zero_or_pos at_ with h0 | h0
    · exact .inl h0
    · exact .inr (h.out _ (by omega))
theorem AtI.run {i m : Nat} {l : List (Nat × Nat)} (h : AtI G at_ i l) (hm : 0 < m) (h1 : ∀ j, j < m → G (at_ + i + j) = true) (h2 : G (at_ + i + m) = false) : AtI G at_ (i + m + 1) (l ++ [(at_ + i, m)]) := by
  obtain ⟨rfl, h0⟩ := h
  refine ⟨?_, .inr ?_⟩
  · rw [show at_ + (i + m + 1) = at_ + i + m + 1 from by omega, spS_off h2, spS_run G (at_ + i) m hm (fun k k1 k2 => by have := h1 (k - (at_ + i)) (by omega); rwa [show at_ + i + (k - (at_ + i)) = k from by omega] at this) h0]
  · rw [show at_ + (i + m + 1) - 1 = at_ + i + m from by omega]
    exact h2
theorem AtI.skip {i : Nat} {l : List (Nat × Nat)} (h : AtI G at_ i l) (h1 : G (at_ + i) = false) : AtI G at_ (i + 1) l := by
  obtain ⟨rfl, h0⟩ := h
  refine ⟨?_, .inr ?_⟩
  · rw [show at_ + (i + 1) = at_ + i + 1 from by omega, spS_off h1]
  · rw [show at_ + (i + 1) - 1 = at_ + i from by omega]
    exact h1
theorem AtI.done {i : Nat} {l : List (Nat × Nat)} (h : RM w B r at_ n v G) (hl : AtI G at_ i l) (hi : n ≤ i) : l = spS G (at_ + n) := by
  have := spS_none G (at_ + n) (i - n) (fun k k1 _ => h.out k (by omega))
  rw [show at_ + n + (i - n) = at_ + i from by omega] at this
  rw [← this]
  exact hl.1

theorem spans_c (h : RM w B r at_ n v G) : Calls Tryz.prog 103 #[.pointer (some ⟨r, 0, none⟩)] w fun e w' => ∃ v', e = .returned v' ∧ OwnS w' w.heap.size v' (spS G (at_ + n)) ∧ Below w.heap.size w w' := by
  have hs := h.small
  have hn : n ≤ 100000 := by omega
  have hat : at_ ≤ 100000 := by omega
  obtain ⟨X, hX⟩ : ∃ X : Int, X = 9223372036854775807 - (at_ : Int) := ⟨_, rfl⟩
  have kX : IntKind.i64.wrap (9223372036854775807 - (at_ : Int)) = X := by rw [hX, IntKind.wrap_i64]; omega
  have hX2 : (1000000 : Int) ≤ X := by omega
  have HX := Go.Lib.hid hX2
  obtain ⟨fa, fc, rfl⟩ := h.form
  have H := Go.Lib.hid h
  clear hs h hX hX2
  go_enter Tryz.func103, Tryz.ntmps103
  have c1 := H.out.c1
  go_wp2_with fail
  go_loopw [3, 4] (fun u c wr => ∃ (i : Nat) (v : Value) (l : List (Nat × Nat)), v = u ∧ i ≤ n + 1 ∧ c = .int .i64 (i : Int) ∧ OwnS wr w.heap.size v l ∧ Hid (AtI G at_ i l) ∧ Below w.heap.size w wr) (fun _ c _ => n + 1 - (intOf c).toNat)
  case atStart => exact ⟨0, _, [], rfl, by omega, rfl, OwnS.nil _ _, Go.Lib.hid (AtI.zero H.out), Below.refl _ _⟩
  case round =>
    obtain ⟨i, v, l, rfl, hi, rfl, hown, hat2, hbw⟩ := hrel
    clear c1
    have c0 := (H.out.below hbw).c0
    have c1 := (H.out.below hbw).c1
    by_cases hin : i < n
    · have hiI : (i : Int) < (n : Int) := by omega
      have hXi : ¬ X < (i : Int) := by have := HX.out; omega
      obtain ⟨g, c, hfc⟩ := H.out.row.fform (by omega)
      simp only [Value.slice.injEq, true_and] at hfc
      obtain ⟨rfl, rfl⟩ := hfc
      have hr := (H.out.below hbw).row
      have hcap := hr.capOk
      have q1 := cut_l g n fc i (by omega) (by omega)
      have C := Go.Lib.hid (run_c (w := wr) (g := g) (o := i) (m := n - i) (cap := fc - i) (f := fun j => G (at_ + (i + j))) (fun j hj => hr.fcell (i + j) (by omega)) (by omega))
      have hle := firstF_le (n - i) (fun j => G (at_ + (i + j))) false
      have hsp := firstF_spec (n - i) (fun j => G (at_ + (i + j))) false
      have hbf := fun j hj => firstF_before (m := n - i) (f := fun j => G (at_ + (i + j))) (x := false) (j := j) hj
      obtain ⟨m, hm⟩ : ∃ m, m = firstF (n - i) (fun j => G (at_ + (i + j))) false := ⟨_, rfl⟩
      rw [← hm] at C hle hsp hbf
      have hend : G (at_ + (i + m)) = false := by
        rcases Nat.lt_or_ge m (n - i) with h1 | h1
        · exact hsp.2 h1
        · exact H.out.out _ (by omega)
      have hm2 : m ≤ 100000 := by omega
      have HE := Go.Lib.hid (show m + i ≤ n from by omega)
      have hl : l.length ≤ 100000 := by
        rw [hat2.out.1]
        have := spS_len G (at_ + i)
        have := H.out.small
        omega
      have HL := Go.Lib.hid hl
      have HI := Go.Lib.hid hi
      clear hr hcap hsp hm hle hl hi hin
      rcases Nat.eq_zero_or_pos m with h0 | h0
      · subst h0
        have hat3 := Go.Lib.hid (hat2.out.skip (by simpa using hend))
        clear hbf hend hm2
        go_wp2_with fail
        refine C.out.mono ?_
        rintro e w2 ⟨rfl, rfl⟩
        go_wp2_with fail
        go_roundw
        case rel => exact ⟨i + 1, _, _, rfl, by have := HI.out; have := HE.out; omega, by go_num, hown, hat3, hbw⟩
        case measure => simp only [intOf]; have := HE.out; omega
      · have hat3 := Go.Lib.hid (hat2.out.run h0 (fun j hj => by have := hbf j hj; rw [show at_ + i + j = at_ + (i + j) from by omega]; simpa using this) (by rw [show at_ + i + m = at_ + (i + m) from by omega]; exact hend))
        have h0I : (0 : Int) < (m : Int) := by omega
        obtain ⟨x, hx⟩ : ∃ x : Int, x = (at_ : Int) + (i : Int) := ⟨_, rfl⟩
        have kx : IntKind.i64.wrap ((at_ : Int) + (i : Int)) = x := by rw [hx, IntKind.wrap_i64]; have := HE.out; omega
        have Hx := Go.Lib.hid (show ((at_ + i : Nat) : Int) = x from by rw [hx]; omega)
        have hown3 := hown.below (below_alloc wr (.cells #[.int .i64 x, .int .i64 (m : Int)] 96))
        have hbw3 := hbw.alloc hbw.size (.cells #[.int .i64 x, .int .i64 (m : Int)] 96)
        have hnew := heap_alloc_new wr (.cells #[.int .i64 x, .int .i64 (m : Int)] 96)
        have n0 : (wr.alloc (.cells #[.int .i64 x, .int .i64 (m : Int)] 96)).cell? ⟨wr.heap.size, 0, none⟩ = some (.int .i64 ((at_ + i : Nat) : Int)) := by rw [cell_of_row _ _ 0 _ _ _ hnew, Hx.out]; rfl
        have n1 : (wr.alloc (.cells #[.int .i64 x, .int .i64 (m : Int)] 96)).cell? ⟨wr.heap.size, 1, none⟩ = some (.int .i64 (m : Int)) := by rw [cell_of_row _ _ 1 _ _ _ hnew]; rfl
        have N0 := Go.Lib.hid n0
        have N1 := Go.Lib.hid n1
        have HO := Go.Lib.hid hown3
        have HB3 := Go.Lib.hid hbw3
        obtain ⟨k, hk⟩ : ∃ k : Int, k = (i : Int) + (m : Int) := ⟨_, rfl⟩
        have kk : IntKind.i64.wrap ((i : Int) + (m : Int)) = k := by rw [hk, IntKind.wrap_i64]; have := HE.out; omega
        have Hk := Go.Lib.hid hk
        have kk1 : IntKind.i64.wrap (k + 1) = k + 1 := by rw [hk, IntKind.wrap_i64]; have := HE.out; omega
        clear hbf hend h0 hx hown hbw hown3 hbw3 hnew n0 n1 hk hat2
        go_wp2_with fail
        refine C.out.mono ?_
        rintro e w2 ⟨rfl, rfl⟩
        go_wp2_with (first
          | (with_reducible show wpList _ _ _ (⟨some 43, _, _, _, _, _⟩ :: _) _ _; go_loud (refine wpList_append_span rfl (.tmp 33) (.tmp 42) rfl w.heap.size v l wr.heap.size (at_ + i, m) rfl rfl HO.out N0.out N1.out HL.out HB3.out.size ?_); intro v4 w4 hown4 hg4; have HB4 := Go.Lib.hid (HB3.out.grown hg4 HB3.out.size HO.out.row); clear hg4)
          | fail)
        go_roundw
        case rel => exact ⟨i + m + 1, _, _, rfl, by have := HE.out; omega, by rw [Hk.out]; go_num, hown4, hat3, HB4.out⟩
        case measure => simp only [intOf]; rw [Hk.out]; have := HE.out; omega
    · have hd := Go.Lib.hid (hat2.out.done H.out (by omega))
      go_wp2_with fail
      go_ret
      exact ⟨_, rfl, by rw [← hd.out]; exact hown, hbw⟩
end

end Go.Proofs.YtnalokjnbccjnaaGreatDoor

namespace Go.Proofs.YtnalokjnbccjnaaGreatDoor
open Go.RowKit

set_option maxRecDepth 100000
theorem turn_nil (w : World) (a b : Int) (x : Bool) : Calls Tryz.prog 95 #[.pointer none, spanV a b, .bool x] w fun e w' => e = .returned (.bool false) ∧ Below w.heap.size w w' := by
  have C := Go.Lib.hid (part_nil (w.alloc (.cells #[.int .i64 a, .int .i64 b] 96)) a b)
  unfold spanV at C ⊢
  go_enter Tryz.func95, Tryz.ntmps95
  go_wp2_with fail
  refine C.out.mono ?_
  rintro e w1 ⟨rfl, hb⟩
  go_wp2_with fail
  go_ret
  exact ⟨rfl, (below_alloc w _).trans (hb.mono (below_alloc w _).size)⟩

/-- May these sectors all be turned to x? -/
def mayTurn (G : Nat → Bool) (at_ n : Nat) (a b : Int) (x : Bool) : Prop := 1 ≤ b ∧ (at_ : Int) ≤ a ∧ a + b ≤ (at_ : Int) + (n : Int) ∧ ∀ k : Nat, a ≤ (k : Int) → (k : Int) < a + b → G k = !x

section
variable {w : World} {B r at_ n : Nat} {v : Value} {G : Nat → Bool}
theorem turn_no (h : RM w B r at_ n v G) (a b : Int) (ha : -9223372036854775808 ≤ a ∧ a ≤ 9223372036854775807) (hb : -9223372036854775808 ≤ b ∧ b ≤ 9223372036854775807) (x : Bool) (hno : ¬ mayTurn G at_ n a b x) : Calls Tryz.prog 95 #[.pointer (some ⟨r, 0, none⟩), spanV a b, .bool x] w fun e w' => e = .returned (.bool false) ∧ Below w.heap.size w w' := by
  have hb1 := below_alloc w (.cells #[.int .i64 a, .int .i64 b] 96)
  by_cases hin : b < 1 ∨ a < at_ ∨ (n : Int) - b < a - at_
  · have C := Go.Lib.hid (part_no (h.below hb1) a b ha hb hin)
    have HB := Go.Lib.hid hb1
    unfold spanV at C ⊢
    clear h ha hb hin hno hb1
    go_enter Tryz.func95, Tryz.ntmps95
    go_wp2_with fail
    refine C.out.mono ?_
    rintro e w1 ⟨rfl, hb⟩
    go_wp2_with fail
    go_ret
    exact ⟨rfl, HB.out.trans (hb.mono HB.out.size)⟩
  · obtain ⟨o, ho⟩ : ∃ o : Nat, (o : Int) = a - at_ := ⟨(a - at_).toNat, by omega⟩
    obtain ⟨m, hm⟩ : ∃ m : Nat, (m : Int) = b := ⟨b.toNat, by omega⟩
    have hs := h.small
    have hm0 : 0 < m := by omega
    have hom : o + m ≤ n := by omega
    obtain ⟨g, c, rfl⟩ := h.row.fform (by omega)
    have C := Go.Lib.hid (part_in (h.below hb1) o m hm0 hom a b (by omega) hm.symm)
    have hk : firstF m (fun i => G (at_ + (o + i))) x < m := by
      have hle := firstF_le m (fun i => G (at_ + (o + i))) x
      rcases Nat.lt_or_ge (firstF m (fun i => G (at_ + (o + i))) x) m with h1 | h1
      · exact h1
      · exfalso
        refine hno ⟨by omega, by omega, by omega, fun k k1 k2 => ?_⟩
        have := firstF_full.1 (show firstF m (fun i => G (at_ + (o + i))) x = m by omega) (k - (at_ + o)) (by omega)
        simpa [show at_ + (o + (k - (at_ + o))) = k from by omega] using this
    have K := fun w2 (hb2 : Below w.heap.size w w2) => contains_c (w := w2) (g := g) (o := o) (m := m) (cap := c - o) (f := fun i => G (at_ + (o + i))) (fun i hi => (h.below hb2).row.fcell (o + i) (by omega)) (by omega) x
    simp only [hk, decide_true] at K
    have K := Go.Lib.hid K
    have HB := Go.Lib.hid hb1
    have hmz : ((m : Int) == 0) = false := by simp; omega
    unfold spanV at C ⊢
    clear h ha hb hin hno hb1 ho hm hs hk hm0 hom
    go_enter Tryz.func95, Tryz.ntmps95
    go_wp2_with fail
    refine C.out.mono ?_
    rintro e w1 ⟨rfl, hb⟩
    have hbb := HB.out.trans (hb.mono HB.out.size)
    have K1 := Go.Lib.hid (K.out w1 hbb)
    have HBB := Go.Lib.hid hbb
    clear K hb hbb
    go_wp2_with fail
    refine K1.out.mono ?_
    rintro e w2 ⟨rfl, rfl⟩
    go_wp2_with fail
    go_ret
    exact ⟨rfl, HBB.out⟩
theorem turn_yes (h : RM w B r at_ n v G) (o m : Nat) (hm : 0 < m) (ho : o + m ≤ n) (a b : Int) (ha : a = (at_ : Int) + (o : Int)) (hb : b = (m : Int)) (x : Bool) (hall : ∀ k, at_ + o ≤ k → k < at_ + o + m → G k = !x) : Calls Tryz.prog 95 #[.pointer (some ⟨r, 0, none⟩), spanV a b, .bool x] w fun e w' => e = .returned (.bool true) ∧ RM w' B r at_ n v (setF G (at_ + o) m x) ∧ w.grownBy w' v.ownBlock := by
  have hb1 := below_alloc w (.cells #[.int .i64 a, .int .i64 b] 96)
  have hs := h.small
  obtain ⟨g, c, rfl⟩ := h.row.fform (by omega)
  have C := Go.Lib.hid (part_in (h.below hb1) o m hm ho a b ha hb)
  have hk : firstF m (fun i => G (at_ + (o + i))) x = m := firstF_full.2 fun j hj => hall _ (by omega) (by omega)
  have K := fun w2 (hb2 : Below w.heap.size w w2) => contains_c (w := w2) (g := g) (o := o) (m := m) (cap := c - o) (f := fun i => G (at_ + (o + i))) (fun i hi => (h.below hb2).row.fcell (o + i) (by omega)) (by omega) x
  simp only [hk, Nat.lt_irrefl, decide_false] at K
  have S := Go.Lib.hid fun w2 (hb2 : Below w.heap.size w w2) => set_c (w := w2) (cap := c - o) (m := m) (o := o) (h.below hb2).row ho (by omega) x
  have K := Go.Lib.hid K
  have HB := Go.Lib.hid hb1
  have hmz : ((m : Int) == 0) = false := by simp; omega
  have H := Go.Lib.hid h
  have HO := Go.Lib.hid ho
  have hsf : (fun i => setF G (at_ + o) m x (at_ + i)) = setF (fun i => G (at_ + i)) o m x := by
    funext i
    unfold setF
    by_cases h1 : o ≤ i ∧ i < o + m
    · rw [if_pos h1, if_pos (by omega)]
    · rw [if_neg h1, if_neg (by omega)]
  have HSF := Go.Lib.hid hsf
  unfold spanV at C ⊢
  clear h ha hb hall hb1 hs hk hm ho hsf
  go_enter Tryz.func95, Tryz.ntmps95
  go_wp2_with fail
  refine C.out.mono ?_
  rintro e w1 ⟨rfl, hb⟩
  have hbb := HB.out.trans (hb.mono HB.out.size)
  have K1 := Go.Lib.hid (K.out w1 hbb)
  have S1 := Go.Lib.hid (S.out w1 hbb)
  have HBB := Go.Lib.hid hbb
  clear K hb hbb S
  go_wp2_with fail
  refine K1.out.mono ?_
  rintro e w2 ⟨rfl, rfl⟩
  go_wp2_with fail
  refine S1.out.mono ?_
  rintro e w3 ⟨rfl, ho3, hg3⟩
  have HG := Go.Lib.hid (grow_trans (grow_below HBB.out) hg3)
  have HO3 := Go.Lib.hid ho3
  clear ho3 hg3
  go_wp2_with fail
  go_ret
  refine ⟨rfl, H.out.rowTo HG.out (by rw [HSF.out]; exact HO3.out) (fun k hk => ?_), HG.out⟩
  rw [setF_out (by have := HO.out; omega)]
  exact H.out.out k hk

theorem use_nil (w : World) (a b : Int) : Calls Tryz.prog 69 #[.pointer none, spanV a b] w fun e w' => e = .returned (.bool false) ∧ Below w.heap.size w w' := by
  have C := Go.Lib.hid (turn_nil (w.alloc (.cells #[.int .i64 a, .int .i64 b] 96)) a b false)
  have hb1 := Go.Lib.hid (below_alloc w (.cells #[.int .i64 a, .int .i64 b] 96))
  unfold spanV at C ⊢
  go_enter Tryz.func69, Tryz.ntmps69
  go_wp2_with fail
  refine C.out.mono ?_
  rintro e w1 ⟨rfl, hb⟩
  go_wp2_with fail
  go_ret
  exact ⟨rfl, hb1.out.trans (hb.mono hb1.out.size)⟩
theorem use_no (h : RM w B r at_ n v G) (a b : Int) (ha : -9223372036854775808 ≤ a ∧ a ≤ 9223372036854775807) (hb : -9223372036854775808 ≤ b ∧ b ≤ 9223372036854775807) (hno : ¬ mayTurn G at_ n a b false) : Calls Tryz.prog 69 #[.pointer (some ⟨r, 0, none⟩), spanV a b] w fun e w' => e = .returned (.bool false) ∧ Below w.heap.size w w' := by
  have hb1 := Go.Lib.hid (below_alloc w (.cells #[.int .i64 a, .int .i64 b] 96))
  have C := Go.Lib.hid (turn_no (h.below hb1.out) a b ha hb false hno)
  unfold spanV at C ⊢
  clear h ha hb hno
  go_enter Tryz.func69, Tryz.ntmps69
  go_wp2_with fail
  refine C.out.mono ?_
  rintro e w1 ⟨rfl, hb⟩
  go_wp2_with fail
  go_ret
  exact ⟨rfl, hb1.out.trans (hb.mono hb1.out.size)⟩
/-- All are free: they are given out. -/
theorem use_yes (h : RM w B r at_ n v G) (p m : Nat) (hm : 0 < m) (hall : allF G p m) (a b : Int) (ha : a = (p : Int)) (hb : b = (m : Int)) : Calls Tryz.prog 69 #[.pointer (some ⟨r, 0, none⟩), spanV a b] w fun e w' => e = .returned (.bool true) ∧ RM w' B r at_ n v (setF G p m false) ∧ w.grownBy w' v.ownBlock := by
  have hp : at_ ≤ p := by
    rcases Nat.lt_or_ge p at_ with h1 | h1
    · have := hall p (Nat.le_refl _) (by omega)
      rw [h.out p (.inl h1)] at this; cases this
    · exact h1
  have hp2 : p + m ≤ at_ + n := by
    rcases Nat.lt_or_ge (at_ + n) (p + m) with h1 | h1
    · have := hall (p + m - 1) (by omega) (by omega)
      rw [h.out (p + m - 1) (.inr (by omega))] at this; cases this
    · exact h1
  have hb1 := Go.Lib.hid (below_alloc w (.cells #[.int .i64 a, .int .i64 b] 96))
  have C := turn_yes (h.below hb1.out) (p - at_) m hm (by omega) a b (by omega) hb false (fun k k1 k2 => hall k (by omega) (by omega))
  rw [show at_ + (p - at_) = p from by omega] at C
  have C := Go.Lib.hid C
  unfold spanV at C ⊢
  clear h ha hb hm hp hp2 hall
  go_enter Tryz.func69, Tryz.ntmps69
  go_wp2_with fail
  refine C.out.mono ?_
  rintro e w1 ⟨rfl, hr, hg⟩
  have HR := Go.Lib.hid hr
  have HG := Go.Lib.hid (grow_trans (grow_below hb1.out) hg)
  clear hr hg
  go_wp2_with fail
  go_ret
  exact ⟨rfl, HR.out, HG.out⟩
end

end Go.Proofs.YtnalokjnbccjnaaGreatDoor

namespace Go.Proofs.YtnalokjnbccjnaaGreatDoor
open Go.RowKit

/-- Does operation i wait for operation j, by whatever way? -/
def aheadB (ops : Array Oper) (i j : Nat) : Bool := (reach ops ops.size (edges ops i)).contains j

section
variable {P : Program} {ops : Array Oper} {Q : Exit → Act → World → Prop}

structure HeldI (ops : Array Oper) (V : Nat → World → Value → Prop) (I : (Nat → Bool) → World → Prop) (a0 : Act) (listed : Array Bool) (a : Act) (w : World) : Prop where
  size : listed.size = ops.size
  inv : I (fun j => listed.getD j false) w
  defers : a.defers = a0.defers
  len : a.tmps.size = a0.tmps.size
  old : ∀ t : Nat, (∀ (i : Nat) (o : Oper), ops[i]? = some o → o.dst = some t → listed.getD i false = false) → a.tmps[t]? = a0.tmps[t]?
  new : ∀ (i : Nat) (o : Oper) (t : Nat), ops[i]? = some o → o.dst = some t → listed.getD i false = true → ∃ v, a.tmps[t]? = some v ∧ V t w v
  shut : ∀ (i : Nat) (o : Oper), ops[i]? = some o → listed.getD i false = true → ∀ e ∈ o.after, Region.binds .any e = true → listed.getD e.on false = true

/-- Operation i has been carried out too. -/
def doneToo (done : Nat → Bool) (i : Nat) : Nat → Bool := fun j => if j = i then true else done j
theorem doneToo_other {done : Nat → Bool} {i j : Nat} (h : j ≠ i) : doneToo done i j = done j := by unfold doneToo; rw [if_neg h]
theorem doneToo_self (done : Nat → Bool) (i : Nat) : doneToo done i i = true := by unfold doneToo; rw [if_pos rfl]

/-- Slot t has been written. -/
def Wrote (ops : Array Oper) (done : Nat → Bool) (t : Nat) : Prop := ∃ (j : Nat) (p : Oper), ops[j]? = some p ∧ p.dst = some t ∧ done j = true
/-- Operation i alone writes slot t. -/
def soleB (ops : Array Oper) (i t : Nat) : Bool := (List.range ops.size).all fun j => match ops[j]? with | some p => p.dst != some t || j == i | none => true
theorem not_wrote {ops : Array Oper} {done : Nat → Bool} {i t : Nat} (hs : soleB ops i t = true) (hn : done i = false) : ¬ Wrote ops done t := by
  rintro ⟨j, p, hj, hd, hdone⟩
  unfold soleB at hs
  rw [List.all_eq_true] at hs
  have h1 := hs j (by rw [List.mem_range]; exact (Array.getElem?_eq_some_iff.1 hj).1)
  rw [hj] at h1
  simp only [hd, bne_self_eq_false, Bool.false_or, beq_iff_eq] at h1
  rw [h1, hn] at hdone
  cases hdone

theorem wp_region_inv2 {id : Nat} {a0 : Act} {w0 : World} (hm : P.follows .mixedOrders = true) (V : Nat → World → Value → Prop) (I : (Nat → Bool) → World → Prop)
    (htidy : tidyB ops = true) (hlow : lowB ops = true) (hdst : (ops.toList.all fun o => match o.dst with | some t => decide (t < a0.tmps.size) | none => true) = true)
    (l : List Nat) (hl : dsts ops = l) (h0 : I (fun _ => false) w0.drew)
    (hstep : ∀ (i : Nat) (o : Oper), ops[i]? = some o → ∀ (a : Act) (w : World) (done : Nat → Bool), I done w → done i = false → (∀ j, aheadB ops i j = true → done j = true) → a.tmps.size = a0.tmps.size → Given ops V a0 o a w →
      wpOp P ops Q i (fun a' w' => ∃ v, a' = a.put o.dst v ∧ I (doneToo done i) w' ∧ (∀ t u, Wrote ops done t → V t w u → V t w' u) ∧ ∀ t, o.dst = some t → V t w' v) a w)
    (hend : ∀ (f : Nat → Value) (w : World) (done : Nat → Bool), (∀ i, i < ops.size → done i = true) → I done w → (∀ t, t ∈ l → V t w (f t)) → Q .normal (putAll a0 f l) w) :
    (Code.region id ops true).wp P Q a0 w0 := by
  have hdd : ∀ (i : Nat) (o : Oper) (t : Nat), ops[i]? = some o → o.dst = some t → t < a0.tmps.size := by
    intro i o t ho hod
    rw [List.all_eq_true] at hdst
    have h1 := hdst o (by obtain ⟨h, rfl⟩ := Array.getElem?_eq_some_iff.1 ho; simp)
    rw [hod] at h1
    exact of_decide_eq_true h1
  have hmem : ∀ t, t ∈ l ↔ ∃ (i : Nat) (o : Oper), ops[i]? = some o ∧ o.dst = some t := by
    intro t
    rw [← hl, dsts, List.mem_filterMap]
    constructor
    · rintro ⟨o, ho, hot⟩
      obtain ⟨i, hi, rfl⟩ := List.mem_iff_getElem.1 ho
      have hi' : i < ops.size := by simpa using hi
      exact ⟨i, ops[i], by simp [hi'], by simpa using hot⟩
    · rintro ⟨i, o, ho, hot⟩
      obtain ⟨h, rfl⟩ := Array.getElem?_eq_some_iff.1 ho
      exact ⟨ops[i], by simp, hot⟩
  refine wp_region_any hm ?_
  have hfin : ∀ (listed : Array Bool) (a : Act) (w : World), HeldI ops V I a0 listed a w → Region.ready .any ops listed = [] → Q .normal a w := by
    intro listed a w h hr
    have hall := listed_all hlow h.size hr
    have hf : ∀ t, t ∈ l → ∃ v, a.tmps[t]? = some v ∧ V t w v := fun t ht => by
      obtain ⟨i, o, ho, hot⟩ := (hmem t).1 ht
      exact h.new i o t ho hot (hall i o ho)
    have ha : a = putAll a0 (fun t => a.tmps.getD t undef) l := by
      have hdef := h.defers
      have hlen := h.len
      have hold := h.old
      obtain ⟨tm, df⟩ := a
      obtain ⟨h1, h2⟩ := putAll_size (fun t => tm.getD t undef) l a0
      have h3 : tm = (putAll a0 (fun t => tm.getD t undef) l).tmps := by
        apply Array.ext_getElem?
        intro t
        rw [putAll_tmps]
        by_cases ht : t ∈ l
        · obtain ⟨v, hv, -⟩ := hf t ht
          simp only [] at hv
          have hts : t < a0.tmps.size := by rw [← hlen]; exact (Array.getElem?_eq_some_iff.1 hv).1
          rw [if_pos ⟨ht, hts⟩, Array.getD_eq_getD_getElem?, hv]
          rfl
        · rw [if_neg (fun h => ht h.1)]
          exact hold t fun i o ho hot => absurd ((hmem t).2 ⟨i, o, ho, hot⟩) ht
      have h4 : df = (putAll a0 (fun t => tm.getD t undef) l).defers := by rw [h2]; exact hdef
      calc (⟨tm, df⟩ : Act) = ⟨(putAll a0 (fun t => tm.getD t undef) l).tmps, (putAll a0 (fun t => tm.getD t undef) l).defers⟩ := by rw [← h3, ← h4]
        _ = _ := rfl
    rw [ha]
    refine hend _ w _ (fun i hi => hall i ops[i] (by simp [hi])) h.inv fun t ht => ?_
    obtain ⟨v, hv, hVv⟩ := hf t ht
    rw [Array.getD_eq_getD_getElem?, hv]
    exact hVv
  have key : ∀ (fuel : Nat) (listed : Array Bool) (a : Act) (w : World), HeldI ops V I a0 listed a w →
      (List.range ops.size).countP (fun j => !listed.getD j true) ≤ fuel → wpAny P .any ops Q fuel listed a w := by
    intro fuel
    induction fuel with
    | zero =>
      intro listed a w h hcount
      have hr : Region.ready .any ops listed = [] := by
        cases hrr : Region.ready .any ops listed with
        | nil => rfl
        | cons x xs =>
          have hx : x ∈ Region.ready .any ops listed := by rw [hrr]; simp
          obtain ⟨hun, o, ho, -⟩ := mem_ready.1 hx
          have : 0 < (List.range ops.size).countP (fun j => !listed.getD j true) := List.countP_pos_iff.2 ⟨x, by rw [List.mem_range]; exact (Array.getElem?_eq_some_iff.1 ho).1, by rw [hun]; rfl⟩
          omega
      exact ⟨hr, hfin _ _ _ h hr⟩
    | succ fuel ih =>
      intro listed a w h hcount
      refine ⟨fun hr => hfin _ _ _ h hr, fun i hi => ?_⟩
      obtain ⟨hun, o, ho, hall⟩ := mem_ready.1 hi
      have hil : i < listed.size := by
        rw [h.size]
        exact (Array.getElem?_eq_some_iff.1 ho).1
      have hunf := getD_false_of hil hun
      have hgiven : Given ops V a0 o a w := by
        intro t ht
        refine ⟨fun hf => ?_, fun hf => ?_⟩
        · unfold fedB at hf
          rw [Array.any_eq_true] at hf
          obtain ⟨k, hk, hke⟩ := hf
          simp only [Bool.and_eq_true] at hke
          obtain ⟨hb, hw⟩ := hke
          have hl := hall o.after[k] (Array.getElem_mem hk) hb
          cases hp : ops[(o.after[k]).on]? with
          | none => rw [hp] at hw; cases hw
          | some p =>
            rw [hp] at hw
            exact h.new _ p t hp (by simpa using hw) hl
        · refine h.old t fun j p hj hd => ?_
          have hti := htidy
          unfold tidyB at hti
          rw [List.all_eq_true] at hti
          have h1 := hti i (by rw [List.mem_range]; exact (Array.getElem?_eq_some_iff.1 ho).1)
          rw [ho] at h1
          simp only [List.all_eq_true] at h1
          have h2 := h1 t ht
          rw [hf, Bool.false_or] at h2
          unfold lateB at h2
          rw [List.all_eq_true] at h2
          have h3 := h2 j (by rw [List.mem_range]; exact (Array.getElem?_eq_some_iff.1 hj).1)
          rw [hj] at h3
          simp only [hd, bne_self_eq_false, Bool.false_or, Array.any_eq_true, Bool.and_eq_true] at h3
          obtain ⟨k, hk, hb, hon⟩ := h3
          cases hlj : listed.getD j false with
          | false => rfl
          | true =>
            have := h.shut j p hj hlj p.after[k] (Array.getElem_mem hk) hb
            rw [show (p.after[k]).on = i from by simpa using hon, hunf] at this
            cases this
      have hreach : ∀ j, aheadB ops i j = true → listed.getD j false = true := fun j hj => by
        unfold aheadB at hj
        rw [List.contains_iff_mem] at hj
        refine reach_listed h.shut ops.size (edges ops i) (fun x hx => ?_) j hj
        obtain ⟨e, he, hb, rfl⟩ := edges_mem ho hx
        exact hall e he hb
      refine wpOp_mono ?_ (hstep i o ho a w _ h.inv hunf hreach h.len hgiven)
      rintro a' w' ⟨v, rfl, hI, hst, hv⟩
      have hpd : (a.put o.dst v).defers = a.defers := by unfold Act.put; split <;> rfl
      have hps : (a.put o.dst v).tmps.size = a.tmps.size := by unfold Act.put; split <;> simp
      have hpo : ∀ t : Nat, o.dst ≠ some t → (a.put o.dst v).tmps[t]? = a.tmps[t]? := by
        intro t ht
        unfold Act.put
        split
        · rename_i d hd
          exact Array.getElem?_setIfInBounds_ne (fun e => ht (by rw [hd, e]))
        · rfl
      have hpn : ∀ t : Nat, o.dst = some t → (a.put o.dst v).tmps[t]? = some v := by
        intro t ht
        have hts : t < a.tmps.size := by rw [h.len]; exact hdd i o t ho ht
        unfold Act.put
        rw [ht]
        simp [hts]
      have hset : ∀ j, (listed.setIfInBounds i true).getD j false = if j = i then true else listed.getD j false := by
        intro j
        by_cases hji : j = i
        · subst hji; simp [hil]
        · simp [hji, Array.getElem?_setIfInBounds_ne (Ne.symm hji), Array.getD_eq_getD_getElem?]
      have hdone : (fun j => (listed.setIfInBounds i true).getD j false) = doneToo (fun j => listed.getD j false) i := by
        funext j
        rw [hset]
        rfl
      refine ih _ _ _ ⟨by simpa using h.size, by rw [hdone]; exact hI, ?_, ?_, ?_, ?_, ?_⟩ ?_
      · rw [hpd]; exact h.defers
      · rw [hps]; exact h.len
      · intro t ht
        have hdt : o.dst ≠ some t := by
          intro e
          have := ht i o ho e
          rw [hset, if_pos rfl] at this
          cases this
        rw [hpo t hdt]
        refine h.old t fun j p hj hdj => ?_
        have := ht j p hj hdj
        rw [hset] at this
        split at this
        · cases this
        · exact this
      · intro j p t hj hdj hlj
        by_cases hdt : o.dst = some t
        · exact ⟨v, hpn t hdt, hv t hdt⟩
        · rw [hpo t hdt]
          rw [hset] at hlj
          split at hlj
          · rename_i hji
            subst hji
            rw [ho] at hj
            cases hj
            exact absurd hdj hdt
          · obtain ⟨u, hu, hVu⟩ := h.new j p t hj hdj hlj
            exact ⟨u, hu, hst _ _ ⟨j, p, hj, hdj, hlj⟩ hVu⟩
      · intro j p hj hlj e he hbe
        rw [hset] at hlj ⊢
        split
        · rfl
        · split at hlj
          · rename_i hji
            subst hji
            rw [ho] at hj
            cases hj
            exact hall e he hbe
          · exact h.shut j p hj hlj e he hbe
      · have : (List.range ops.size).countP (fun j => !(listed.setIfInBounds i true).getD j true) < (List.range ops.size).countP (fun j => !listed.getD j true) := by
          refine countP_lt (i := i) (fun j hj hq => ?_) (by rw [List.mem_range, ← h.size]; exact hil) (by rw [hun]; rfl) (by simp [hil])
          by_cases hji : j = i
          · subst hji; rw [hun]; rfl
          · simp only [Array.getD_eq_getD_getElem?] at hq ⊢
            rwa [Array.getElem?_setIfInBounds_ne (Ne.symm hji)] at hq
        omega
  refine key ops.size _ _ _ ⟨by simp, ?_, rfl, rfl, fun _ _ => rfl, fun i o t hi _ hl => ?_, fun i o hi hl => ?_⟩ ?_
  · have : (fun j => (Array.replicate ops.size false).getD j false) = fun _ => false := by
      funext j
      rw [Array.getD_eq_getD_getElem?, Array.getElem?_replicate]
      split <;> rfl
    rw [this]
    exact h0
  · rw [Array.getD_eq_getD_getElem?, Array.getElem?_replicate] at hl
    split at hl <;> cases hl
  · rw [Array.getD_eq_getD_getElem?, Array.getElem?_replicate] at hl
    split at hl <;> cases hl
  · exact Nat.le_trans List.countP_le_length (by simp)

theorem wp_region_inv {id : Nat} {a0 : Act} {w0 : World} (hm : P.follows .mixedOrders = true) (V : Nat → World → Value → Prop) (I : (Nat → Bool) → World → Prop)
    (htidy : tidyB ops = true) (hlow : lowB ops = true) (hdst : (ops.toList.all fun o => match o.dst with | some t => decide (t < a0.tmps.size) | none => true) = true)
    (l : List Nat) (hl : dsts ops = l) (h0 : I (fun _ => false) w0.drew)
    (hstep : ∀ (i : Nat) (o : Oper), ops[i]? = some o → ∀ (a : Act) (w : World) (done : Nat → Bool), I done w → done i = false → (∀ j, aheadB ops i j = true → done j = true) → a.tmps.size = a0.tmps.size → Given ops V a0 o a w →
      wpOp P ops Q i (fun a' w' => ∃ v, a' = a.put o.dst v ∧ I (doneToo done i) w' ∧ (∀ t u, V t w u → V t w' u) ∧ ∀ t, o.dst = some t → V t w' v) a w)
    (hend : ∀ (f : Nat → Value) (w : World) (done : Nat → Bool), (∀ i, i < ops.size → done i = true) → I done w → (∀ t, t ∈ l → V t w (f t)) → Q .normal (putAll a0 f l) w) :
    (Code.region id ops true).wp P Q a0 w0 :=
  wp_region_inv2 hm V I htidy hlow hdst l hl h0 (fun i o ho a w done hI hn hr hlen hg => wpOp_mono (by rintro a' w' ⟨v, h1, h2, h3, h4⟩; exact ⟨v, h1, h2, fun t u _ => h3 t u, h4⟩) (hstep i o ho a w done hI hn hr hlen hg)) hend

/-- A store, or whatever else yields nothing. -/
theorem st_done {K : Act → World → Prop} {i : Nat} {o : Oper} {a : Act} {w : World} (ho : ops[i]? = some o) (hw : Region.wanted o (yielded ops a.tmps) = true) (w' : World)
    (hrun : (execOp a.eval o).run P w = .ok .skip w') (h : K (a.put o.dst undef) w') : wpOp P ops Q i K a w := by
  unfold wpOp
  rw [ho]
  simp only [hw, if_true]
  refine .inl ?_
  unfold Oper.wp
  rw [hrun]
  exact h

end

attribute [irreducible] aheadB

end Go.Proofs.YtnalokjnbccjnaaGreatDoor

namespace Go.Proofs.YtnalokjnbccjnaaGreatDoor
open Go.RowKit

set_option maxRecDepth 100000
theorem find_at (l : List (Nat × Nat)) (x : Nat × Nat) (n : Nat) (j : Nat) (hj : l[j]? = some x) (h1 : n ≤ x.2) (h2 : ∀ i y, i < j → l[i]? = some y → y.2 < n) : l.find? (fun x => decide (n ≤ x.2)) = some x := by
  induction l generalizing j with
  | nil => cases hj
  | cons a l ih =>
    cases j with
    | zero =>
      simp only [List.getElem?_cons_zero, Option.some.injEq] at hj
      subst hj
      rw [List.find?_cons_of_pos (by simpa using h1)]
    | succ j =>
      have h0 := h2 0 a (by omega) rfl
      rw [List.find?_cons_of_neg (by simp; omega)]
      exact ih j (by simpa using hj) (fun i y hi hy => h2 (i + 1) y (by omega) (by simpa using hy))
theorem find_not (l : List (Nat × Nat)) (n : Nat) (h2 : ∀ (i : Nat) y, l[i]? = some y → y.2 < n) : l.find? (fun x => decide (n ≤ x.2)) = none := by
  rw [List.find?_eq_none]
  intro x hx
  obtain ⟨i, hi⟩ := List.getElem?_of_mem hx
  have := h2 i x hi
  simp; omega
/-- A row and one more are what is answered. -/
theorem results_row_one {P : Program} {fn : Func} {p u : Tmp} {ty : TypeId} (h : fn.results = #[.cell p ty, .tmp u]) (tmps : Array Value) (w : World) (g : Nat) (t : TypeId) (cs : Array Value) (fr : Nat × Nat) (d : TypeDesc)
    (hp : tmps.getD p undef = .pointer (some ⟨g, 0, none⟩)) (hg : w.heap[g]? = some (.cells cs t fr))
    (hu : P.underlying ty = some d) (hd : (match d with | .struct _ | .array _ _ => true | _ => false) = true) (hi : (P.info? ty).map (·.size) = some cs.size) :
    (results fn tmps).run P w = .ok (.tuple #[.agg cs, tmps.getD u undef]) w := by
  have hp' : tmps[p]?.getD undef = .pointer (some ⟨g, 0, none⟩) := by simpa using hp
  simp only [results, h]
  simp [Result.andThen, hp', asAddr, run_loadVar_row w g t ty cs fr d hg hu hd hi]
theorem ret_take {w : World} {tmps : Array Value} {a m : Int} {t : Bool} {g : Nat} {fr : Nat × Nat} {R : Ending → World → Prop}
    (hp : tmps.getD 4 undef = .pointer (some ⟨g, 0, none⟩)) (hg : w.heap[g]? = some (.cells #[.int .i64 a, .int .i64 m] 96 fr)) (h5 : tmps.getD 5 undef = .bool t) (hr : R (.returned (.tuple #[spanV a m, .bool t])) w) :
    bodyPost Tryz.prog Tryz.f115 R Exit.ret { tmps := tmps, defers := [] } w := by
  have h := results_row_one (P := Tryz.prog) (fn := Tryz.f115) (p := 4) (u := 5) (ty := 96) rfl tmps w g 96 #[.int .i64 a, .int .i64 m] fr _ hp hg Tryz.underlying96 rfl (by kernel_rfl)
  rw [h5] at h
  exact bodyPost_ret h rfl hr

theorem all2 (a b : Int) : (#[Value.int .i64 a, Value.int .i64 b] : Array Value).all (·.oneCell') = true := by simp [Value.oneCell']
theorem below_setRow {w0 w : World} {B : Nat} (h : Below B w0 w) (g : Nat) (cs : Array Value) (hg : B ≤ g) : Below B w0 (w.setRow g cs) :=
  ⟨h.os, h.tape, h.output, by simpa using h.size, fun k hk => (setRow_other _ _ _ _ (by omega)).trans (h.block k hk)⟩
theorem take_small (w : World) (p : Option Addr) (k : Int) (hk : k < 1) : Calls Tryz.prog 115 #[.pointer p, .int .i64 k] w fun e w' => e = .returned (.tuple #[spanV 0 0, .bool false]) ∧ Below w.heap.size w w' := by
  have HA := Go.Lib.hid (heap_alloc_new w (.cells #[.int .i64 0, .int .i64 0] 96))
  have hb1 := Go.Lib.hid (below_alloc w (.cells #[.int .i64 0, .int .i64 0] 96))
  go_enter Tryz.func115, Tryz.ntmps115
  go_wp2_with fail
  exact ret_take rfl HA.out rfl ⟨rfl, hb1.out⟩

theorem take_nil (w : World) (k : Int) : Calls Tryz.prog 115 #[.pointer none, .int .i64 k] w fun e w' => e = .returned (.tuple #[spanV 0 0, .bool false]) ∧ Below w.heap.size w w' := by
  by_cases hk : k < 1
  · exact take_small w none k hk
  have HA := Go.Lib.hid (heap_alloc_new w (.cells #[.int .i64 0, .int .i64 0] 96))
  have hb1 := Go.Lib.hid (below_alloc w (.cells #[.int .i64 0, .int .i64 0] 96))
  have C := Go.Lib.hid (spans_nil (w.alloc (.cells #[.int .i64 0, .int .i64 0] 96)))
  go_enter Tryz.func115, Tryz.ntmps115
  go_wp2_with fail
  refine C.out.mono ?_
  rintro e w1 ⟨rfl, rfl⟩
  go_wp2_with fail
  go_loopw [15] (fun c wr => c = .int .i64 0 ∧ Hid (wr = w.alloc (.cells #[.int .i64 0, .int .i64 0] 96))) (fun _ _ => 0)
  case atStart => exact ⟨rfl, Go.Lib.hid rfl⟩
  case round =>
    obtain ⟨rfl, he⟩ := hrel
    have he := he.out
    subst he
    go_wp2_with fail
    exact ret_take rfl HA.out rfl ⟨rfl, hb1.out⟩

section
variable {w : World} {B r at_ n : Nat} {v : Value} {G : Nat → Bool}
/-- No row has as many. -/
theorem take_no (h : RM w B r at_ n v G) (m : Nat) (hm : 0 < m) (hf : fitF G (at_ + n) m = none) : Calls Tryz.prog 115 #[.pointer (some ⟨r, 0, none⟩), .int .i64 (m : Int)] w fun e w' => e = .returned (.tuple #[spanV 0 0, .bool false]) ∧ Below w.heap.size w w' := by
  have hm1 : ¬ (m : Int) < 1 := by omega
  have hb1 := below_alloc w (.cells #[.int .i64 0, .int .i64 0] 96)
  have C := Go.Lib.hid (spans_c (h.below hb1))
  have ha := heap_alloc_new w (.cells #[.int .i64 0, .int .i64 0] 96)
  obtain ⟨l, hl⟩ : ∃ l, spS G (at_ + n) = l := ⟨_, rfl⟩
  have hlm : ∀ i (hi : i < l.length), l[i].2 < m := by
    intro i hi
    unfold fitF at hf
    rw [hl, List.find?_eq_none] at hf
    have := hf l[i] (List.getElem_mem hi)
    simp at this
    omega
  have hle : l.length ≤ 100000 := by
    rw [← hl]
    have := spS_len G (at_ + n)
    have := h.small
    omega
  rw [hl] at C
  have HLM := Go.Lib.hid hlm
  have HA := Go.Lib.hid ha
  have HB := Go.Lib.hid hb1
  obtain ⟨N, hN⟩ : ∃ N, N = l.length := ⟨_, rfl⟩
  have HN := Go.Lib.hid hN
  rw [← hN] at hle
  clear h hf hl hlm ha hb1 hN hm
  go_enter Tryz.func115, Tryz.ntmps115
  go_wp2_with fail
  refine C.out.mono ?_
  rintro e w1 ⟨v1, rfl, hown, hb⟩
  obtain ⟨a1, c1, rfl, -⟩ := hown.form
  rw [← HN.out] at hown ⊢
  have HO := Go.Lib.hid hown
  have HB1 := Go.Lib.hid (HB.out.trans (hb.mono HB.out.size))
  have hw1 := (hb.block w.heap.size (Array.getElem?_eq_some_iff.1 HA.out).1).trans HA.out
  have HW1 := Go.Lib.hid hw1
  clear hown hb hw1 C
  go_wp2_with fail
  go_loopw [15] (fun c wr => ∃ j : Nat, j ≤ N ∧ c = .int .i64 (j : Int) ∧ Hid (Below w1.heap.size w1 wr)) (fun c _ => N - (intOf c).toNat)
  case atStart => exact ⟨0, by omega, rfl, Go.Lib.hid (Below.refl _ _)⟩
  case round =>
    obtain ⟨j, hj, rfl, hbw⟩ := hrel
    have hwr := (hbw.out.block w.heap.size (Array.getElem?_eq_some_iff.1 HW1.out).1).trans HW1.out
    have HWR := Go.Lib.hid hwr
    clear hwr
    by_cases hjn : j < N
    · obtain ⟨g, rfl, -, e0, e1, -, -⟩ := (HO.out.below hbw.out).at j (by rw [← HN.out]; exact hjn)
      have hlt := HLM.out j (by rw [← HN.out]; exact hjn)
      obtain ⟨x, hx⟩ : ∃ x, x = l[j]'(by rw [← HN.out]; exact hjn) := ⟨_, rfl⟩
      rw [← hx] at e0 e1 hlt
      have hjI : (j : Int) < (N : Int) := by omega
      have hge : ¬ (m : Int) ≤ (x.2 : Int) := by omega
      have HB2 := fun cs => Go.Lib.hid (hbw.out.alloc hbw.out.size (.cells cs 96))
      clear hx hlt
      go_wp2_with fail
      go_roundw
      case rel => exact ⟨j + 1, by omega, by go_num, HB2 _⟩
      case measure => simp only [intOf]; omega
    · obtain rfl : j = N := by omega
      go_wp2_with (first
        | (with_reducible show wpList _ _ _ (⟨none, Op.store 96 (.tmp 4) (.tmp 32), _, _, _, _⟩ :: _) _ _; go_loud (refine wpList_store_row rfl 96 (.tmp 4) (.tmp 32) rfl w.heap.size #[.int .i64 0, .int .i64 0] rfl rfl 96 _ HWR.out (by kernel_rfl) rfl (all2 ..) ?_))
        | fail)
      exact ret_take rfl (setRow_heap _ _ _ _ _ (0, 0) HWR.out) rfl ⟨rfl, below_setRow (HB1.out.trans (hbw.out.mono HB1.out.size)) _ _ (Nat.le_refl _)⟩

/-- What stands between Use and the store. -/
structure TI (w0 : World) (B r at_ n : Nat) (v : Value) (G : Nat → Bool) (p m b4 b8 : Nat) (d3 d4 : Bool) (w : World) : Prop where
  rm : RM w B r at_ n v (if d3 = true then setF G p m false else G)
  gr : w0.grownBy w v.ownBlock
  k4 : w.heap[b4]? = some (.cells (if d4 = true then #[.int .i64 (p : Int), .int .i64 (m : Int)] else #[.int .i64 0, .int .i64 0]) 96)
  k8 : w.heap[b8]? = some (.cells #[.int .i64 (p : Int), .int .i64 (m : Int)] 96)
section
variable {w0 W W' : World} {B r at_ n : Nat} {v : Value} {G : Nat → Bool} {p m b4 b8 : Nat} {d3 d4 : Bool} {done : Nat → Bool}
theorem TI.drew (h : TI w0 B r at_ n v G p m b4 b8 d3 d4 W) : TI w0 B r at_ n v G p m b4 b8 d3 d4 W.drew := ⟨h.rm.below ⟨rfl, rfl, rfl, Nat.le_refl _, fun _ _ => rfl⟩, ⟨h.gr.os, h.gr.tape, h.gr.output, h.gr.size, h.gr.block⟩, h.k4, h.k8⟩
theorem TI.keep (h : TI w0 B r at_ n v G p m b4 b8 (done 3) (done 4) W) (i : Nat) (h3 : 3 ≠ i) (h4 : 4 ≠ i) : TI w0 B r at_ n v G p m b4 b8 (doneToo done i 3) (doneToo done i 4) W := by
  rw [doneToo_other h3, doneToo_other h4]
  exact h
theorem TI.used (h : TI w0 B r at_ n v G p m b4 b8 (done 3) (done 4) W) (hr : RM W' B r at_ n v (setF G p m false)) (hg : W.grownBy W' v.ownBlock) (_hn : done 3 = false) : TI w0 B r at_ n v G p m b4 b8 (doneToo done 3 3) (doneToo done 3 4) W' := by
  rw [doneToo_self, doneToo_other (by decide)]
  refine ⟨hr, grow_trans h.gr hg, (hg.block _ (Array.getElem?_eq_some_iff.1 h.k4).1 (h.rm.notBlk h.k4 (by decide))).trans h.k4, (hg.block _ (Array.getElem?_eq_some_iff.1 h.k8).1 (h.rm.notBlk h.k8 (by decide))).trans h.k8⟩
theorem TI.stored {cs : Array Value} (h : TI w0 B r at_ n v G p m b4 b8 (done 3) (done 4) W) (hk : W.heap[b4]? = some (.cells cs 96)) (hne : b8 ≠ b4) (hb : w0.heap.size ≤ b4) : TI w0 B r at_ n v G p m b4 b8 (doneToo done 4 3) (doneToo done 4 4) (W.setRow b4 #[.int .i64 (p : Int), .int .i64 (m : Int)]) := by
  rw [doneToo_self, doneToo_other (by decide)]
  exact ⟨h.rm.keptBlk hk (by decide) (by decide) (grow_row _ _ _), grow_setRow h.gr _ _ hb, setRow_heap _ _ _ _ _ (0, 0) hk, (setRow_other _ _ _ _ hne).trans h.k8⟩
end
def VT (r p m : Nat) : Nat → World → Value → Prop
  | 27, _, v => v = spanV (p : Int) (m : Int)
  | 28, _, v => v = .pointer (some ⟨r, 0, none⟩)
  | 29, _, v => v = spanV (p : Int) (m : Int)
  | 30, _, v => v = .bool true
  | 5, _, v => v = .bool true
  | _, _, _ => True
theorem VT_any (r p m : Nat) : ∀ (i : Nat) (w w' : World) (v : Value), VT r p m i w v → VT r p m i w' v := by
  intro i w w' v h
  unfold VT at h ⊢
  split at h <;> first | exact h | trivial
/-- The first row that has as many gives its first ones. -/
theorem take_yes (h : RM w B r at_ n v G) (m : Nat) (hm : 0 < m) (x : Nat × Nat) (hf : fitF G (at_ + n) m = some x) : Calls Tryz.prog 115 #[.pointer (some ⟨r, 0, none⟩), .int .i64 (m : Int)] w fun e w' => e = .returned (.tuple #[spanV (x.1 : Int) (m : Int), .bool true]) ∧ RM w' B r at_ n v (setF G x.1 m false) ∧ w.grownBy w' v.ownBlock := by
  have hm1 : ¬ (m : Int) < 1 := by omega
  have hb1 := below_alloc w (.cells #[.int .i64 0, .int .i64 0] 96)
  have C := Go.Lib.hid (spans_c (h.below hb1))
  have ha := heap_alloc_new w (.cells #[.int .i64 0, .int .i64 0] 96)
  obtain ⟨l, hl⟩ : ∃ l, spS G (at_ + n) = l := ⟨_, rfl⟩
  obtain ⟨hall, -, -, -⟩ := fit_some hm (fun k hk => h.out k (.inr hk)) hf
  unfold fitF at hf
  rw [hl, List.find?_eq_some_iff_getElem] at hf
  obtain ⟨hx0, q, hq, hx1, hx2⟩ := hf
  have hx0' : m ≤ x.2 := by simpa using hx0
  have hlm : ∀ i (hi : i < q), (l[i]'(by omega)).2 < m := by
    intro i hi
    have := hx2 i hi
    simp at this
    omega
  have hle : l.length ≤ 100000 := by
    rw [← hl]
    have := spS_len G (at_ + n)
    have := h.small
    omega
  rw [hl] at C
  have HX := Go.Lib.hid hx1
  have HLM := Go.Lib.hid hlm
  have HA := Go.Lib.hid ha
  have HB := Go.Lib.hid hb1
  have H := Go.Lib.hid h
  have HM := Go.Lib.hid hm
  have HALL := Go.Lib.hid hall
  obtain ⟨N, hN⟩ : ∃ N, N = l.length := ⟨_, rfl⟩
  have HN := Go.Lib.hid hN
  rw [← hN] at hle
  have hqN : q < N := by rw [hN]; exact hq
  clear h hl hlm ha hb1 hN hm hx0 hx1 hx2 hall
  go_enter Tryz.func115, Tryz.ntmps115
  go_wp2_with fail
  refine C.out.mono ?_
  rintro e w1 ⟨v1, rfl, hown, hb⟩
  obtain ⟨a1, c1, rfl, -⟩ := hown.form
  rw [← HN.out] at hown ⊢
  have HO := Go.Lib.hid hown
  have HB1 := Go.Lib.hid (HB.out.trans (hb.mono HB.out.size))
  have hw1 := (hb.block w.heap.size (Array.getElem?_eq_some_iff.1 HA.out).1).trans HA.out
  have HW1 := Go.Lib.hid hw1
  clear hown hb hw1 C
  go_wp2_with fail
  go_loopw [15] (fun c wr => ∃ j : Nat, j ≤ q ∧ c = .int .i64 (j : Int) ∧ Hid (Below w1.heap.size w1 wr)) (fun c _ => N - (intOf c).toNat)
  case atStart => exact ⟨0, by omega, rfl, Go.Lib.hid (Below.refl _ _)⟩
  case round =>
    obtain ⟨j, hj, rfl, hbw⟩ := hrel
    have hwr := (hbw.out.block w.heap.size (Array.getElem?_eq_some_iff.1 HW1.out).1).trans HW1.out
    have HWR := Go.Lib.hid hwr
    clear hwr
    have hjI : (j : Int) < (N : Int) := by omega
    obtain ⟨g, rfl, -, e0, e1, -, -⟩ := (HO.out.below hbw.out).at j (by rw [← HN.out]; omega)
    by_cases hjn : j < q
    · have hlt := HLM.out j hjn
      obtain ⟨y, hy⟩ : ∃ y, y = l[j]'(by rw [← HN.out]; omega) := ⟨_, rfl⟩
      rw [← hy] at e0 e1 hlt
      have hge : ¬ (m : Int) ≤ (y.2 : Int) := by omega
      have HB2 := fun cs => Go.Lib.hid (hbw.out.alloc hbw.out.size (.cells cs 96))
      clear hy hlt
      go_wp2_with fail
      go_roundw
      case rel => exact ⟨j + 1, by omega, by go_num, HB2 _⟩
      case measure => simp only [intOf]; omega
    · obtain rfl : j = q := by omega
      rw [HX.out] at e0 e1
      have hge : (m : Int) ≤ (x.2 : Int) := by omega
      have HU := Go.Lib.hid fun w6 (hr : RM w6 B r at_ n v G) => use_yes hr x.1 m HM.out HALL.out (x.1 : Int) (m : Int) rfl rfl
      have hbb := (hbw.out.alloc hbw.out.size (.cells #[.int .i64 (x.1 : Int), .int .i64 (x.2 : Int)] 96)).alloc (by have := hbw.out.size; simp; omega) (.cells #[.int .i64 (x.1 : Int), .int .i64 (m : Int)] 96)
      have hb0 := HB1.out.trans (hbb.mono HB1.out.size)
      have hsz := Go.Lib.hid (show w.heap.size ≤ wr.heap.size from Nat.le_trans HB1.out.size hbw.out.size)
      have HT0 := Go.Lib.hid (show TI w B r at_ n v G x.1 m w.heap.size (wr.heap.size + 1) false false ((wr.alloc (.cells #[.int .i64 (x.1 : Int), .int .i64 (x.2 : Int)] 96)).alloc (.cells #[.int .i64 (x.1 : Int), .int .i64 (m : Int)] 96)) from by
        refine ⟨H.out.below hb0, grow_below hb0, (hbb.block w.heap.size (Array.getElem?_eq_some_iff.1 HW1.out).1).trans HW1.out, ?_⟩
        have := heap_alloc_new (wr.alloc (.cells #[.int .i64 (x.1 : Int), .int .i64 (x.2 : Int)] 96)) (.cells #[.int .i64 (x.1 : Int), .int .i64 (m : Int)] 96)
        rw [show (wr.alloc (.cells #[.int .i64 (x.1 : Int), .int .i64 (x.2 : Int)] 96)).heap.size = wr.heap.size + 1 from by simp] at this
        exact this)
      clear hbb hb0
      go_upto_region 8 with (fail)
      clear e0 e1 hx0' hle hqN hj hjn hjI hge hm1
      refine wp_region_inv (by kernel_rfl) (VT r x.1 m) (fun done W => TI w B r at_ n v G x.1 m w.heap.size (wr.heap.size + 1) (done 3) (done 4) W) (by decide +kernel) (by decide +kernel) (by rfl) [27, 28, 29, 30, 5] (by rfl) HT0.out.drew ?_ ?_
      · intro i o ho a w6 done hI hnot hr hlen hg
        match i, ho with
        | 0, ho =>
          obtain rfl := Option.some.inj ho
          have h8 := given_old hg 8 (by decide +kernel)
          clear hg
          exact st_list ho (wanted_none rfl) fun Q' hQ => wpList_load_row rfl 96 (.tmp 8) rfl (wr.heap.size + 1) (by simp [Act.eval, h8]) 96 _ (0, 0) _ hI.k8 Tryz.underlying96 rfl (by kernel_rfl) (wpList_nil (hQ _ _ ⟨_, rfl, hI.keep 0 (by decide) (by decide), fun t u h => VT_any _ _ _ t _ _ u h, by rintro t' ⟨⟩; rfl⟩))
        | 1, ho =>
          obtain rfl := Option.some.inj ho
          have h0 := given_old hg 0 (by decide +kernel)
          clear hg
          exact st_yield ho (wanted_none rfl) (.pointer (some ⟨r, 0, none⟩)) w6 (by simp [execOp, Act.eval, h0, go_sem]) ⟨_, rfl, hI.keep 1 (by decide) (by decide), fun t u h => VT_any _ _ _ t _ _ u h, by rintro t' ⟨⟩; rfl⟩
        | 2, ho =>
          obtain rfl := Option.some.inj ho
          have h8 := given_old hg 8 (by decide +kernel)
          clear hg
          exact st_list ho (wanted_none rfl) fun Q' hQ => wpList_load_row rfl 96 (.tmp 8) rfl (wr.heap.size + 1) (by simp [Act.eval, h8]) 96 _ (0, 0) _ hI.k8 Tryz.underlying96 rfl (by kernel_rfl) (wpList_nil (hQ _ _ ⟨_, rfl, hI.keep 2 (by decide) (by decide), fun t u h => VT_any _ _ _ t _ _ u h, by rintro t' ⟨⟩; rfl⟩))
        | 3, ho =>
          obtain rfl := Option.some.inj ho
          obtain ⟨_, h28, rfl⟩ := given_fed hg 28 (by decide +kernel)
          obtain ⟨_, h29, rfl⟩ := given_fed hg 29 (by decide +kernel)
          clear hg
          have hrm := hI.rm
          rw [hnot] at hrm
          exact st_enter (w1 := w6) ho (wanted_none rfl) 69 #[.pointer (some ⟨r, 0, none⟩), spanV (x.1 : Int) (m : Int)] (by simp [execOp, Act.eval, h28, h29, resolve, go_sem]) ((HU.out w6 hrm).mono (by rintro e w7 ⟨rfl, hr7, hg7⟩; exact ⟨_, rfl, _, rfl, hI.used hr7 hg7 hnot, fun t u h => VT_any _ _ _ t _ _ u h, by rintro t' ⟨⟩; rfl⟩))
        | 4, ho =>
          obtain rfl := Option.some.inj ho
          have h4 := given_old hg 4 (by decide +kernel)
          obtain ⟨_, h27, rfl⟩ := given_fed hg 27 (by decide +kernel)
          clear hg
          have hk4 := hI.k4
          rw [hnot, if_neg (by decide)] at hk4
          exact st_list ho (wanted_none rfl) fun Q' hQ => wpList_store_row rfl 96 (.tmp 4) (.tmp 27) rfl w.heap.size #[.int .i64 (x.1 : Int), .int .i64 (m : Int)] (by simp [Act.eval, h4]) (by simp [Act.eval, h27, spanV]) 96 _ hk4 (by kernel_rfl) rfl (all2 ..) (wpList_nil (hQ _ _ ⟨_, rfl, hI.stored hk4 (by have := hsz.out; omega) (Nat.le_refl _), fun t u h => VT_any _ _ _ t _ _ u h, by rintro t' ⟨⟩⟩))
        | 5, ho =>
          obtain rfl := Option.some.inj ho
          obtain ⟨_, h30, rfl⟩ := given_fed hg 30 (by decide +kernel)
          clear hg
          exact st_yield ho (wanted_none rfl) (.bool true) w6 (by simp [execOp, Act.eval, h30, go_sem]) ⟨_, rfl, hI.keep 5 (by decide) (by decide), fun t u h => VT_any _ _ _ t _ _ u h, by rintro t' ⟨⟩; rfl⟩
        | n + 6, ho => simp at ho
      · intro f w6 done hall hI hv
        have h3 := hall 3 (by decide)
        have h4 := hall 4 (by decide)
        have h5 := hv 5 (by decide)
        simp only [VT] at h5
        simp only [h3, h4] at hI
        have HI := Go.Lib.hid hI
        clear hI hv hall h3 h4 HU
        unfold putAll
        simp only [List.foldl]
        simp only [h5]
        go_simp
        go_wp2_with fail
        exact ret_take rfl HI.out.k4 rfl ⟨rfl, HI.out.rm, HI.out.gr⟩
end

end Go.Proofs.YtnalokjnbccjnaaGreatDoor

namespace Go.Proofs.YtnalokjnbccjnaaGreatDoor
open Go.RowKit

set_option maxRecDepth 100000
theorem new_bad (w : World) (a b : Int) (h : a < 0 ∨ b < 0 ∨ 2048 < b) : Calls Tryz.prog 68 #[.int .i64 a, .int .i64 b] w fun e w' => ∃ r, e = .returned (.pointer (some ⟨r, 0, none⟩)) ∧ RM w' w.heap.size r 0 0 (.slice none 0 0) (fun _ => false) ∧ Below w.heap.size w w' := by
  have hend : RM (w.alloc (.cells #[.int .i64 0, .slice none 0 0] 133)) w.heap.size w.heap.size 0 0 (.slice none 0 0) (fun _ => false) :=
    ⟨heap_alloc_new w _, OwnV.nil _ _ _, Nat.le_refl _, fun _ _ => rfl, by omega⟩
  have HE := Go.Lib.hid hend
  clear hend
  by_cases h1 : a < 0
  · clear h
    go_enter Tryz.func68, Tryz.ntmps68
    go_wp2_with fail
    go_ret
    exact ⟨_, rfl, HE.out, below_alloc w _⟩
  by_cases h2 : b < 0
  · clear h
    go_enter Tryz.func68, Tryz.ntmps68
    go_wp2_with fail
    go_ret
    exact ⟨_, rfl, HE.out, below_alloc w _⟩
  have h3 : 2048 < b := by omega
  clear h
  go_enter Tryz.func68, Tryz.ntmps68
  go_wp2_with fail
  go_ret
  exact ⟨_, rfl, HE.out, below_alloc w _⟩

theorem new_c (w : World) (a n : Nat) (hn : n ≤ 2048) (ha : a + n ≤ 100000) : Calls Tryz.prog 68 #[.int .i64 (a : Int), .int .i64 (n : Int)] w fun e w' => ∃ r v, e = .returned (.pointer (some ⟨r, 0, none⟩)) ∧ RM w' w.heap.size r a n v (iv a (a + n)) ∧ Below w.heap.size w w' := by
  have hnI : (n : Int) ≤ 2048 := by omega
  have HN := Go.Lib.hid hn
  have HA := Go.Lib.hid ha
  clear ha hn
  go_enter Tryz.func68, Tryz.ntmps68
  go_wp2_with (first
    | (with_reducible show wpList _ _ _ (⟨some 20, _, _, _, _, _⟩ :: _) _ _; go_loud (refine wpList_make_zb rfl (.tmp 19) (.tmp 19) 32 rfl 4 Tryz.underlying32 infoBl .i64 .i64 (n : Int) n rfl rfl rfl (by have := HN.out; omega) ?_); intro v2 w2 ho2 hb2; rw [← zf_rep] at ho2; obtain ⟨va, vc, rfl⟩ := ho2.anyform; have HO := Go.Lib.hid ho2; have HB := Go.Lib.hid hb2; clear ho2 hb2)
    | fail)
  have hrow := HO.out
  have hr2 := hrow.below (below_alloc w2 (.cells #[.int .i64 (a : Int), .slice va n vc] 133))
  have hbb := HB.out.trans ((below_alloc w2 (.cells #[.int .i64 (a : Int), .slice va n vc] 133)).mono HB.out.size)
  have hblk := heap_alloc_new w2 (.cells #[.int .i64 (a : Int), .slice va n vc] 133)
  have HR := Go.Lib.hid hr2
  have HBB := Go.Lib.hid hbb
  have HK := Go.Lib.hid hblk
  rcases Nat.eq_zero_or_pos n with h0 | h0
  · subst h0
    refine (set_none _ true).mono ?_
    rintro e w3 ⟨rfl, rfl⟩
    clear hrow hr2 hbb hblk
    go_wp2_with fail
    go_ret
    refine ⟨_, _, rfl, ⟨HK.out, ?_, HB.out.size, fun k hk => iv_out (by omega), HA.out⟩, HBB.out⟩
    have e : zf 0 (fun i => iv a (a + 0) (a + i)) = zf 0 (fun _ => false) := rfl
    rw [e]
    exact HR.out
  · obtain ⟨g, c, hv⟩ := hr2.fform h0
    simp only [Value.slice.injEq, true_and] at hv
    obtain ⟨rfl, rfl⟩ := hv
    have hsm := HN.out
    refine (set_c (o := 0) (m := n) (cap := vc) HR.out (by omega) (by omega) true).mono ?_
    rintro e w3 ⟨rfl, ho3, hg3⟩
    have hne : some w2.heap.size ≠ some g := by
      intro e
      simp only [Option.some.injEq] at e
      have := hrow.lt.1
      omega
    have hlt : w2.heap.size < (w2.alloc (.cells #[.int .i64 (a : Int), .slice (some ⟨g, 0, none⟩) n vc] 133)).heap.size := (Array.getElem?_eq_some_iff.1 hblk).1
    have HE := Go.Lib.hid (show RM w3 w.heap.size w2.heap.size a n (.slice (some ⟨g, 0, none⟩) n vc) (iv a (a + n)) from by
      refine ⟨(hg3.block _ hlt hne).trans hblk, ?_, HB.out.size, fun k hk => iv_out (by omega), HA.out⟩
      rw [show zf n (fun i => iv a (a + n) (a + i)) = zf n (setF (fun _ => false) 0 n true) from zf_congr fun i hi => by rw [iv_in (by omega) (by omega), setF_in (by omega) (by omega)]]
      exact ho3)
    have HB3 := Go.Lib.hid (HBB.out.grown hg3 HBB.out.size (fun k hk => by cases hk; exact hrow.lt.2))
    clear hrow hr2 hbb hblk hne hlt ho3 hg3 hsm
    go_wp2_with fail
    go_ret
    exact ⟨_, _, rfl, HE.out, HB3.out⟩

def VC (B r at_ n : Nat) (x : Value) (G : Nat → Bool) : Nat → World → Value → Prop
  | 5, _, v => v = .pointer (some ⟨r, 0, none⟩)
  | 6, _, v => v = .pointer (some ⟨r, 0, none⟩)
  | 7, _, v => v = .pointer (some ⟨r, 0, none⟩)
  | 8, _, v => v = .int .i64 (at_ : Int)
  | 9, _, v => v = .pointer (some ⟨r, 0, none⟩)
  | 10, _, v => v = .pointer (some ⟨r, 0, none⟩)
  | 11, _, v => v = .pointer (some ⟨r, 1, none⟩)
  | 12, _w, v => v = x
  | 13, w, v => OwnV 4 w B v (zf n (fun i => G (at_ + i)))
  | 14, w, v => ∃ u, v = .agg #[.int .i64 (at_ : Int), u] ∧ OwnV 4 w B u (zf n (fun i => G (at_ + i)))
  | 15, w, v => ∃ d u, v = .pointer (some ⟨d, 0, none⟩) ∧ RM w B d at_ n u G
  | 2, w, v => ∃ d u, v = .pointer (some ⟨d, 0, none⟩) ∧ RM w B d at_ n u G
  | _, _, _ => True

theorem VC_below (B r at_ n : Nat) (x : Value) (G : Nat → Bool) : ∀ (i : Nat) (w w' : World) (v : Value), VC B r at_ n x G i w v → Below w.heap.size w w' → VC B r at_ n x G i w' v := by
  intro i w w' v h hb
  unfold VC at h ⊢
  split at h <;> first | exact h | trivial | exact OwnV.below h hb | (obtain ⟨u, e, k⟩ := h; exact ⟨u, e, k.below hb⟩) | (obtain ⟨d, u, e, k⟩ := h; exact ⟨d, u, e, k.below hb⟩)

end Go.Proofs.YtnalokjnbccjnaaGreatDoor

namespace Go.Proofs.YtnalokjnbccjnaaGreatDoor
open Go.RowKit

theorem new_q (w : World) (a n : Nat) (A N : Int) (G : Nat → Bool) (hA : A = (a : Int)) (hN : N = (n : Int)) (hn : n ≤ 2048) (ha : a + n ≤ 100000) (hG : iv a (a + n) = G) : Calls Tryz.prog 68 #[.int .i64 A, .int .i64 N] w fun e w' => ∃ r v, e = .returned (.pointer (some ⟨r, 0, none⟩)) ∧ RM w' w.heap.size r a n v G ∧ Below w.heap.size w w' := by
  subst hA hN hG
  exact new_c w a n hn ha
section
variable {w : World} {B r at_ n : Nat} {v : Value} {G : Nat → Bool}
theorem take_q (h : RM w B r at_ n v G) (m : Nat) (M A : Int) (x : Nat × Nat) (G' : Nat → Bool) (hM : M = (m : Int)) (hA : A = (x.1 : Int)) (hm : 0 < m) (hf : fitF G (at_ + n) m = some x) (hG : setF G x.1 m false = G') : Calls Tryz.prog 115 #[.pointer (some ⟨r, 0, none⟩), .int .i64 M] w fun e w' => e = .returned (.tuple #[.agg #[.int .i64 A, .int .i64 M], .bool true]) ∧ RM w' B r at_ n v G' ∧ w.grownBy w' v.ownBlock := by
  subst hM hA hG
  exact take_yes h m hm x hf
theorem takeno_q (h : RM w B r at_ n v G) (m : Nat) (M : Int) (hM : M = (m : Int)) (hm : 0 < m) (hf : fitF G (at_ + n) m = none) : Calls Tryz.prog 115 #[.pointer (some ⟨r, 0, none⟩), .int .i64 M] w fun e w' => e = .returned (.tuple #[.agg #[.int .i64 0, .int .i64 0], .bool false]) ∧ Below w.heap.size w w' := by
  subst hM
  exact take_no h m hm hf
theorem use_q (h : RM w B r at_ n v G) (p m : Nat) (A M : Int) (G' : Nat → Bool) (hA : A = (p : Int)) (hM : M = (m : Int)) (hm : 0 < m) (hall : allF G p m) (hG : setF G p m false = G') : Calls Tryz.prog 69 #[.pointer (some ⟨r, 0, none⟩), .agg #[.int .i64 A, .int .i64 M]] w fun e w' => e = .returned (.bool true) ∧ RM w' B r at_ n v G' ∧ w.grownBy w' v.ownBlock := by
  subst hG
  exact use_yes h p m hm hall A M hA hM
theorem useno_q (h : RM w B r at_ n v G) (a b : Int) (ha : -9223372036854775808 ≤ a ∧ a ≤ 9223372036854775807) (hb : -9223372036854775808 ≤ b ∧ b ≤ 9223372036854775807) (hno : ¬ mayTurn G at_ n a b false) : Calls Tryz.prog 69 #[.pointer (some ⟨r, 0, none⟩), .agg #[.int .i64 a, .int .i64 b]] w fun e w' => e = .returned (.bool false) ∧ Below w.heap.size w w' := use_no h a b ha hb hno
theorem free_q (h : RM w B r at_ n v G) (K : Int) (hK : (cntF G (at_ + n) : Int) = K) : Calls Tryz.prog 44 #[.pointer (some ⟨r, 0, none⟩)] w fun e w' => e = .returned (.int .i64 K) ∧ w = w' := by
  subst hK
  exact free_c h
theorem spans_q (h : RM w B r at_ n v G) (l : List (Nat × Nat)) (hl : spS G (at_ + n) = l) : Calls Tryz.prog 103 #[.pointer (some ⟨r, 0, none⟩)] w fun e w' => ∃ a c, e = .returned (.slice a l.length c) ∧ OwnS w' w.heap.size (.slice a l.length c) l ∧ Below w.heap.size w w' := by
  subst hl
  refine (spans_c h).mono ?_
  rintro e w1 ⟨v1, rfl, ho, hb⟩
  obtain ⟨a, c, rfl, -⟩ := ho.form
  exact ⟨a, c, rfl, ho, hb⟩
/-- A block of another type stays while the room is turned. -/
theorem RM.blkKept {w' : World} {k : Nat} {cs : Array Value} {t : TypeId} {fr : Nat × Nat} (h : RM w B r at_ n v G) (hg : w.grownBy w' v.ownBlock) (hk : w.heap[k]? = some (.cells cs t fr)) (he : t ≠ 4) : w'.heap[k]? = some (.cells cs t fr) :=
  (hg.block k (Array.getElem?_eq_some_iff.1 hk).1 (h.notBlk hk he)).trans hk
end
theorem nil_q (w : World) (A M : Int) : Calls Tryz.prog 69 #[.pointer none, .agg #[.int .i64 A, .int .i64 M]] w fun e w' => e = .returned (.bool false) ∧ Below w.heap.size w w' := use_nil w A M
theorem nilt_q (w : World) (M : Int) : Calls Tryz.prog 115 #[.pointer none, .int .i64 M] w fun e w' => e = .returned (.tuple #[.agg #[.int .i64 0, .int .i64 0], .bool false]) ∧ Below w.heap.size w w' := take_nil w M
theorem small_q (w : World) (p : Option Addr) (M : Int) (h : M < 1) : Calls Tryz.prog 115 #[.pointer p, .int .i64 M] w fun e w' => e = .returned (.tuple #[.agg #[.int .i64 0, .int .i64 0], .bool false]) ∧ Below w.heap.size w w' := take_small w p M h
/-- Below, on and on. -/
theorem below_on {w0 w w' : World} (h : Below w0.heap.size w0 w) (hb : Below w.heap.size w w') : Below w0.heap.size w0 w' := h.trans (hb.mono h.size)
theorem below_gr {w0 w w' : World} {r at_ n : Nat} {v : Value} {G : Nat → Bool} (h : Below w0.heap.size w0 w) (hr : RM w w0.heap.size r at_ n v G) (hg : w.grownBy w' v.ownBlock) : Below w0.heap.size w0 w' := h.trans (hr.belowOf hg h.size)

end Go.Proofs.YtnalokjnbccjnaaGreatDoor

namespace Go.Proofs.YtnalokjnbccjnaaGreatDoor
open Go.RowKit

theorem shrS (x y : Nat) (h : y ≤ 64) : Op.shift .shr .u64 (x : Int) .i64 (y : Int) = pure (.int .u64 ((x / 2 ^ y : Nat) : Int)) := by
  rw [shift_shr _ _ _ _ (by omega) (by show (y : Int) ≤ 64; omega), Int.toNat_natCast]
  simp
theorem shlS (x y : Nat) (h : y ≤ 64) : Op.shift .shl .u64 (x : Int) .i64 (y : Int) = pure (.int .u64 (IntKind.u64.wrap ((x * 2 ^ y : Nat) : Int))) := by
  rw [shift_shl _ _ _ _ (by omega) (by show (y : Int) ≤ 64; omega), Int.toNat_natCast]
  simp

theorem below_put {B g : Nat} {a w : World} (h : Below B a w) (hb : B ≤ g) (o : Nat) (v : Value) : Below B a (w.setCell ⟨g, o, none⟩ v) :=
  ⟨h.os, h.tape, h.output, by simpa [World.setCell] using h.size, fun k hk => (Below.heap_setCell _ _ _ _ (by show k ≠ g; omega)).trans (h.block k hk)⟩

set_option maxRecDepth 100000 in
theorem sput_c (n : Nat) (w : World) (B g o k cap N cap0 : Nat) (l : List UInt8) (h : Own 5 w B (.slice (some ⟨g, 0, none⟩) N cap0) l) (hk : o + k ≤ l.length) (hk8 : k ≤ 8) (hB : B ≤ g) :
    Calls Tryz.prog 99 #[.slice (some ⟨g, o, none⟩) k cap, .int .u64 (n : Int)] w fun e w' => e = .returned (.tuple #[]) ∧ Own 5 w' B (.slice (some ⟨g, 0, none⟩) N cap0) (putAt l o (leN k n)) ∧ Below B w w' := by
  have H := Go.Lib.hid h; clear h
  have Hk := Go.Lib.hid hk; clear hk
  go_enter Tryz.func99, Tryz.ntmps99
  go_wp2_with fail
  go_loopw [4, 7] (fun uv iv wr => ∃ i : Nat, i ≤ k ∧ iv = .int .i64 (i : Int) ∧ Own 5 wr B (.slice (some ⟨g, 0, none⟩) N cap0) (putAt l o (leN i n)) ∧ Below B w wr) (fun _ iv _ => k - (intOf iv).toNat)
  case atStart => exact ⟨0, by omega, rfl, by rw [show leN 0 n = [] from by unfold leN; rfl, putAt_nil]; exact H.out, Below.refl _ _⟩
  case round =>
    obtain ⟨i, hik, rfl, hown, hb⟩ := hrel
    have HO := Go.Lib.hid hown
    have HB := Go.Lib.hid hb
    clear hown hb
    by_cases hlt : i < k
    · have hlen : (putAt l o (leN i n)).length = l.length := putAt_length (by rw [leN_length]; have := Hk.out; omega)
      obtain ⟨c0, hc⟩ : ∃ c0 : Int, wr.cell? ⟨g, o + i, none⟩ = some (.int .u8 c0) := ⟨_, HO.out.cell (o + i) (by rw [hlen]; have := Hk.out; omega)⟩
      have hf := HO.out.frozenAt (o + i)
      have hst := HO.out.store (o + i) (UInt8.ofNat (n / 256 ^ i)) ((n : Int) / 2 ^ (8 * i) % 256) (by rw [UInt8.toNat_ofNat', show (256 : Nat) ^ i = 2 ^ (8 * i) from by rw [Nat.pow_mul]]; simp)
      have e1 : (putAt l o (leN i n)).set (o + i) (UInt8.ofNat (n / 256 ^ i)) = putAt l o (leN (i + 1) n) := by
        have := putAt_set l (leN i n) o (UInt8.ofNat (n / 256 ^ i)) (by rw [leN_length]; have := Hk.out; omega)
        rw [leN_length] at this
        rw [this, leN_snoc]
      rw [e1] at hst
      have HS := Go.Lib.hid hst
      have hbs := below_put HB.out hB (o + i) (.int .u8 ((n : Int) / 2 ^ (8 * i) % 256))
      have HBS := Go.Lib.hid hbs
      clear hst e1 hlen hbs
      go_wp2_with fail
      go_roundw
      case rel => exact ⟨i + 1, by omega, by go_num, HS.out, HBS.out⟩
      case measure => simp [intOf]; omega
    · obtain rfl : i = k := by omega
      go_wp2_with fail
      go_end0
      exact ⟨rfl, HO.out, HB.out⟩

/-- A number told: the lowest byte first. -/
theorem sget_c (v : Value) (l : List UInt8) (w : World) (hv : RB w v l) (hl : l.length ≤ 8) : Calls Tryz.prog 97 #[v] w fun e w' => e = .returned (.int .u64 (getN l : Int)) ∧ w = w' := by
  obtain ⟨a, cap, rfl, h1, h2, h3, h4⟩ := hv
  have H4 := Go.Lib.hid h4; clear h4 h3 h2 h1
  go_enter Tryz.func97, Tryz.ntmps97
  go_wp2_with fail
  go_loop [3, 4, 5, 8] (fun rv uv cv iv => ∃ k : Nat, k ≤ l.length ∧ iv = .int .i64 (k : Int) ∧ rv = .int .u64 (getN (l.take k) : Int)) (fun _ _ _ iv => l.length - (intOf iv).toNat)
  case atStart => exact ⟨0, by omega, rfl, by simp [getN]⟩
  case round =>
    obtain ⟨k, hk, rfl, rfl⟩ := hrel
    by_cases hlt : k < l.length
    · obtain ⟨b, o, rfl, hc⟩ := H4.out (by intro e; subst e; simp at hlt)
      have hck := hc k hlt
      clear hc
      have hor := getN_or (l.take k) l[k]
      rw [List.length_take, Nat.min_eq_left (by omega), ← List.take_succ_eq_append_getElem hlt] at hor
      have hlt1 := getN_lt (l.take (k + 1))
      have hp : 256 ^ (l.take (k + 1)).length ≤ 256 ^ 8 := Nat.pow_le_pow_right (by omega) (by rw [List.length_take]; omega)
      have hA : getN (l.take (k + 1)) < 18446744073709551616 := Nat.lt_of_lt_of_le hlt1 hp
      have hcle : l[k].toNat * 2 ^ (8 * k) ≤ getN (l.take (k + 1)) := by rw [← hor]; exact Nat.right_le_or
      have h0le : getN (l.take k) ≤ getN (l.take (k + 1)) := by rw [← hor]; exact Nat.left_le_or
      have hw : IntKind.u64.wrap ((l[k].toNat : Int) * 2 ^ (8 * k)) = ((l[k].toNat * 2 ^ (8 * k) : Nat) : Int) := by
        have e : (l[k].toNat : Int) * 2 ^ (8 * k) = ((l[k].toNat * 2 ^ (8 * k) : Nat) : Int) := by simp
        rw [e, IntKind.wrap_u64]
        omega
      have ho : bits .or .u64 (getN (l.take k) : Int) (IntKind.u64.wrap ((l[k].toNat : Int) * 2 ^ (8 * k))) = (getN (l.take (k + 1)) : Int) := by
        rw [hw, u64_or_nat _ _ (by omega) (by omega), hor]
      clear hw hor hcle h0le hA hp hlt1
      have hc8 : (l[k].toNat : Int) < 256 := by have := UInt8.toNat_lt l[k]; omega
      generalize l[k].toNat = c at *
      generalize getN (l.take k) = A at *
      generalize hA1 : getN (l.take (k + 1)) = A1 at *
      have HA1 := Go.Lib.hid hA1
      clear hA1
      go_wp2_with fail
      go_round
      case rel => exact ⟨k + 1, by omega, by go_num, by rw [HA1.out]⟩
      case measure => simp [intOf]; omega
    · obtain rfl : k = l.length := by omega
      go_wp2_with fail
      go_ret
      exact ⟨rfl, rfl⟩

end Go.Proofs.YtnalokjnbccjnaaGreatDoor

namespace Go.Proofs.YtnalokjnbccjnaaGreatDoor
open Go.RowKit

section
variable {P : Program}
/-- 'make([]byte, n)', its place told. -/
theorem wpList_make_own {ops : Array Oper} {rest : List Oper} {o : Oper} {a : Act} {w : World} {Q : Exit → Act → World → Prop} (hgd : o.guard = none) (lo co : Operand) (t : TypeId)
    (hop : o.op = Op.makeSlice t lo co) (e : TypeId) (ht : P.underlying t = some (.slice e)) (hinfo : (P.info? e).map (fun i => (i.zero, i.size, i.bytes)) = some (some (.int .u8 0), 1, 1))
    (kl kc : IntKind) (L C : Int) (n : Nat) (hl : a.eval lo = .int kl L) (hc : a.eval co = .int kc C) (hL : L = (n : Int)) (hC : C = (n : Int)) (hcm : n ≤ 140737488355328)
    (g : Nat) (hg : g = w.heap.size)
    (h : ∀ w', Own e w' g (.slice (some ⟨g, 0, none⟩) n n) (List.replicate n 0) → Below g w w' → g < w'.heap.size → wpList P ops Q rest (a.put o.dst (.slice (some ⟨g, 0, none⟩) n n)) w') : wpList P ops Q (o :: rest) a w := by
  subst hg
  obtain ⟨i, hi, hz, hsize, hby⟩ := info_parts hinfo
  subst hL hC
  have hr := run_make (P := P) w t e i (.int .u8 0) ht hi hz kl kc n n (by omega) (by omega) (by rw [hby]; omega) (by omega)
  simp only [Int.toNat_natCast, hsize, Nat.mul_one] at hr
  refine wpList_gives hgd (.slice (some ⟨w.heap.size, 0, none⟩) n n) (w.alloc (.cells (madeCells (Value.int IntKind.u8 0).cells n) e)) (by simp [execOp, hop, hl, hc, hr, Result.andThen]) (h _ ?_ ((Below.refl _ _).alloc (Nat.le_refl _) _) (by rw [World.alloc, Array.size_push]; omega))
  refine ⟨by simp [cells_length], .inr ⟨w.heap.size, n, madeCells #[Value.int .u8 0] n, (by simp), Nat.le_refl _, ?_, by rw [List.length_replicate]; exact Nat.le_refl _, by unfold maxLen; omega, by simp [size_madeCells], ?_⟩⟩
  · exact heap_alloc_new w _
  · rw [toList_madeCells_one, List.take_replicate]
    simp [cells]

/-- 'copy(d[o:], s)', d a row of the call's own. -/
theorem wpList_copy_at {ops : Array Oper} {rest : List Oper} {o : Oper} {a : Act} {w : World} {Q : Exit → Act → World → Prop} (hgd : o.guard = none) (d s : Operand) (t : TypeId)
    (ho : o.op = .call { callee := .builtin .copy, args := #[d, s], argTypes := #[t, t] })
    (B : Nat) (e : TypeId) (ht : P.underlying t = some (.slice e)) (hinfo : (P.info? e).map (fun i => (i.zero, i.size, i.bytes)) = some (some (.int .u8 0), 1, 1))
    (g off m dcap N cap0 : Nat) (sv : Value) (l0 l : List UInt8) (hd : a.eval d = .slice (some ⟨g, off, none⟩) m dcap) (hs : a.eval s = sv) (hown : Own e w B (.slice (some ⟨g, 0, none⟩) N cap0) l0) (hrb : RB w sv l) (hm : l.length ≤ m) (hlen : off + l.length ≤ l0.length) (w0 : World) (hb : Below B w0 w)
    (h : ∀ w', Own e w' B (.slice (some ⟨g, 0, none⟩) N cap0) (putAt l0 off l) → Below B w0 w' → wpList P ops Q rest (a.put o.dst (goInt l.length)) w') : wpList P ops Q (o :: rest) a w := by
  obtain ⟨i, hi, hz, hsize, hby⟩ := info_parts hinfo
  obtain ⟨ad, cap, rfl, h1, h2, h3, h4⟩ := hrb
  have hsz : (P.info? e).map (·.size) = some 1 := by rw [hi]; simp [hsize]
  rcases hown.2 with ⟨hn0, hn⟩ | ⟨g', dcap', cur, hv, hB, hg, d1, d2, d3, d4⟩
  · cases hn0
  · simp only [Value.slice.injEq, Option.some.injEq, Addr.mk.injEq] at hv
    obtain ⟨⟨rfl, -, -⟩, hN, rfl⟩ := hv
    have hcl : (cells l0).length = l0.length := cells_length l0
    have hcur : l0.length ≤ cur.size := by omega
    refine wpList_copy_splice hgd d s t t ho e ht hsz (some ⟨g, off, none⟩) ad m dcap l.length cap hd hs g off cur.toList e (by simpa using hg) (cells l) (by rw [cells_length]; exact (Nat.min_eq_left hm).symm) ?_ ?_ (cells_one l) B w0 hb hB ?_
    · intro hp
      rw [cells_length] at hp
      obtain ⟨b, o', hao, hc⟩ := h4 (List.length_pos_iff.1 hp)
      refine ⟨rfl, _, hao, fun j u hj => ?_⟩
      have hjm : j < l.length := by
        rcases Nat.lt_or_ge j l.length with hlt | hge
        · exact hlt
        · rw [List.getElem?_eq_none (by simpa [cells_length] using hge)] at hj; cases hj
      rw [cells_at l j hjm] at hj
      cases hj
      have hadd : (⟨b, o', none⟩ : Addr).add j = ⟨b, o' + j, none⟩ := by unfold Addr.add; split <;> simp_all
      rw [hadd]
      exact hc j hjm
    · simp only [cells_length, Array.length_toList]; omega
    · intro w' hw' hb'
      have hh := hw'.out
      rw [cells_length]
      have hpl : (putAt l0 off l).length = l0.length := putAt_length hlen
      refine h w' ⟨by rw [cells_length, Nat.mul_one], .inr ⟨g, cap0, _, by rw [hN, hpl], hB, hh, by rw [hpl]; exact d1, d2, ?_, ?_⟩⟩ hb'
      · rw [List.size_toArray, length_splice _ _ _ (by simp only [cells_length, Array.length_toList]; omega), Array.length_toList, d3]
      · rw [Nat.mul_one] at d4
        simp only [splice, cells_length, hpl, Nat.mul_one]
        unfold putAt
        rw [cells_append, cells_append, ← List.append_assoc]
        have e1 : cells (l0.take off) = cur.toList.take off := by
          have : cells (l0.take off) = (cells l0).take off := by simp [cells]
          rw [this, ← d4, List.take_take, Nat.min_eq_left (by omega)]
        have e2 : cells (l0.drop (off + l.length)) = (cur.toList.drop (off + l.length)).take (l0.length - (off + l.length)) := by
          have : cells (l0.drop (off + l.length)) = (cells l0).drop (off + l.length) := by simp [cells]
          rw [this, ← d4, List.drop_take]
        rw [e1, e2]
        have e3 : (cur.toList.take off ++ cells l).length = off + l.length := by rw [List.length_append, List.length_take, cells_length, Array.length_toList]; omega
        rw [List.take_append, e3, List.take_of_length_le (by rw [e3]; omega)]
end

end Go.Proofs.YtnalokjnbccjnaaGreatDoor
