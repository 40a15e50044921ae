/-
  The contract of extent's Take.
-/
import Derived.Test.YtheljojjpnpdaaaExtT
import Derived.Test.YtheljojjpnpdaaaDrawI
namespace Go.Proofs.Ytheljojjpnpdaaa
open Go.RowKit

set_option maxRecDepth 100000
theorem find_at (l : List (Nat × Nat)) (x : Nat × Nat) (n : Nat) (j : Nat) (hj : l[j]? = some x) (h1 : n ≤ x.2) (h2 : ∀ i y, i < j → l[i]? = some y → y.2 < n) : l.find? (fun x => decide (n ≤ x.2)) = some x := by
  induction l generalizing j with
  | nil => cases hj
  | cons a l ih =>
    cases j with
    | zero =>
      simp only [List.getElem?_cons_zero, Option.some.injEq] at hj
      subst hj
      rw [List.find?_cons_of_pos (by simpa using h1)]
    | succ j =>
      have h0 := h2 0 a (by omega) rfl
      rw [List.find?_cons_of_neg (by simp; omega)]
      exact ih j (by simpa using hj) (fun i y hi hy => h2 (i + 1) y (by omega) (by simpa using hy))
theorem find_not (l : List (Nat × Nat)) (n : Nat) (h2 : ∀ (i : Nat) y, l[i]? = some y → y.2 < n) : l.find? (fun x => decide (n ≤ x.2)) = none := by
  rw [List.find?_eq_none]
  intro x hx
  obtain ⟨i, hi⟩ := List.getElem?_of_mem hx
  have := h2 i x hi
  simp; omega
/-- A row and one more are what is answered. -/
theorem results_row_one {P : Program} {fn : Func} {p u : Tmp} {ty : TypeId} (h : fn.results = #[.cell p ty, .tmp u]) (tmps : Array Value) (w : World) (g : Nat) (t : TypeId) (cs : Array Value) (fr : Nat × Nat) (d : TypeDesc)
    (hp : tmps.getD p undef = .pointer (some ⟨g, 0, none⟩)) (hg : w.heap[g]? = some (.cells cs t fr))
    (hu : P.underlying ty = some d) (hd : (match d with | .struct _ | .array _ _ => true | _ => false) = true) (hi : (P.info? ty).map (·.size) = some cs.size) :
    (results fn tmps).run P w = .ok (.tuple #[.agg cs, tmps.getD u undef]) w := by
  have hp' : tmps[p]?.getD undef = .pointer (some ⟨g, 0, none⟩) := by simpa using hp
  simp only [results, h]
  simp [Result.andThen, hp', asAddr, run_loadVar_row w g t ty cs fr d hg hu hd hi]
theorem ret_take {w : World} {tmps : Array Value} {a m : Int} {t : Bool} {g : Nat} {fr : Nat × Nat} {R : Ending → World → Prop}
    (hp : tmps.getD 4 undef = .pointer (some ⟨g, 0, none⟩)) (hg : w.heap[g]? = some (.cells #[.int .i64 a, .int .i64 m] 30 fr)) (h5 : tmps.getD 5 undef = .bool t) (hr : R (.returned (.tuple #[spanV a m, .bool t])) w) :
    bodyPost Try.prog Try.f11 R Exit.ret { tmps := tmps, defers := [] } w := by
  have h := results_row_one (P := Try.prog) (fn := Try.f11) (p := 4) (u := 5) (ty := 30) rfl tmps w g 30 #[.int .i64 a, .int .i64 m] fr _ hp hg Try.underlying30 rfl (by kernel_rfl)
  rw [h5] at h
  exact bodyPost_ret h rfl hr

theorem all2 (a b : Int) : (#[Value.int .i64 a, Value.int .i64 b] : Array Value).all (·.oneCell') = true := by simp [Value.oneCell']
theorem below_setRow {w0 w : World} {B : Nat} (h : Below B w0 w) (g : Nat) (cs : Array Value) (hg : B ≤ g) : Below B w0 (w.setRow g cs) :=
  ⟨h.os, h.tape, h.output, by simpa using h.size, fun k hk => (setRow_other _ _ _ _ (by omega)).trans (h.block k hk)⟩
theorem take_small (w : World) (p : Option Addr) (k : Int) (hk : k < 1) : Calls Try.prog 11 #[.pointer p, .int .i64 k] w fun e w' => e = .returned (.tuple #[spanV 0 0, .bool false]) ∧ Below w.heap.size w w' := by
  have HA := Go.Lib.hid (heap_alloc_new w (.cells #[.int .i64 0, .int .i64 0] 30))
  have hb1 := Go.Lib.hid (below_alloc w (.cells #[.int .i64 0, .int .i64 0] 30))
  go_enter Try.func11, Try.ntmps11
  go_wp2_with fail
  exact ret_take rfl HA.out rfl ⟨rfl, hb1.out⟩

theorem take_nil (w : World) (k : Int) : Calls Try.prog 11 #[.pointer none, .int .i64 k] w fun e w' => e = .returned (.tuple #[spanV 0 0, .bool false]) ∧ Below w.heap.size w w' := by
  by_cases hk : k < 1
  · exact take_small w none k hk
  have HA := Go.Lib.hid (heap_alloc_new w (.cells #[.int .i64 0, .int .i64 0] 30))
  have hb1 := Go.Lib.hid (below_alloc w (.cells #[.int .i64 0, .int .i64 0] 30))
  have C := Go.Lib.hid (spans_nil (w.alloc (.cells #[.int .i64 0, .int .i64 0] 30)))
  go_enter Try.func11, Try.ntmps11
  go_wp2_with fail
  refine C.out.mono ?_
  rintro e w1 ⟨rfl, rfl⟩
  go_wp2_with fail
  go_loopw [15] (fun c wr => c = .int .i64 0 ∧ Hid (wr = w.alloc (.cells #[.int .i64 0, .int .i64 0] 30))) (fun _ _ => 0)
  case atStart => exact ⟨rfl, Go.Lib.hid rfl⟩
  case round =>
    obtain ⟨rfl, he⟩ := hrel
    have he := he.out
    subst he
    go_wp2_with fail
    exact ret_take rfl HA.out rfl ⟨rfl, hb1.out⟩

section
variable {w : World} {B r at_ n : Nat} {v : Value} {G : Nat → Bool}
/-- No row has as many. -/
theorem take_no (h : RM w B r at_ n v G) (m : Nat) (hm : 0 < m) (hf : fitF G (at_ + n) m = none) : Calls Try.prog 11 #[.pointer (some ⟨r, 0, none⟩), .int .i64 (m : Int)] w fun e w' => e = .returned (.tuple #[spanV 0 0, .bool false]) ∧ Below w.heap.size w w' := by
  have hm1 : ¬ (m : Int) < 1 := by omega
  have hb1 := below_alloc w (.cells #[.int .i64 0, .int .i64 0] 30)
  have C := Go.Lib.hid (spans_c (h.below hb1))
  have ha := heap_alloc_new w (.cells #[.int .i64 0, .int .i64 0] 30)
  obtain ⟨l, hl⟩ : ∃ l, spS G (at_ + n) = l := ⟨_, rfl⟩
  have hlm : ∀ i (hi : i < l.length), l[i].2 < m := by
    intro i hi
    unfold fitF at hf
    rw [hl, List.find?_eq_none] at hf
    have := hf l[i] (List.getElem_mem hi)
    simp at this
    omega
  have hle : l.length ≤ 100000 := by
    rw [← hl]
    have := spS_len G (at_ + n)
    have := h.small
    omega
  rw [hl] at C
  have HLM := Go.Lib.hid hlm
  have HA := Go.Lib.hid ha
  have HB := Go.Lib.hid hb1
  obtain ⟨N, hN⟩ : ∃ N, N = l.length := ⟨_, rfl⟩
  have HN := Go.Lib.hid hN
  rw [← hN] at hle
  clear h hf hl hlm ha hb1 hN hm
  go_enter Try.func11, Try.ntmps11
  go_wp2_with fail
  refine C.out.mono ?_
  rintro e w1 ⟨v1, rfl, hown, hb⟩
  obtain ⟨a1, c1, rfl, -⟩ := hown.form
  rw [← HN.out] at hown ⊢
  have HO := Go.Lib.hid hown
  have HB1 := Go.Lib.hid (HB.out.trans (hb.mono HB.out.size))
  have hw1 := (hb.block w.heap.size (Array.getElem?_eq_some_iff.1 HA.out).1).trans HA.out
  have HW1 := Go.Lib.hid hw1
  clear hown hb hw1 C
  go_wp2_with fail
  go_loopw [15] (fun c wr => ∃ j : Nat, j ≤ N ∧ c = .int .i64 (j : Int) ∧ Hid (Below w1.heap.size w1 wr)) (fun c _ => N - (intOf c).toNat)
  case atStart => exact ⟨0, by omega, rfl, Go.Lib.hid (Below.refl _ _)⟩
  case round =>
    obtain ⟨j, hj, rfl, hbw⟩ := hrel
    have hwr := (hbw.out.block w.heap.size (Array.getElem?_eq_some_iff.1 HW1.out).1).trans HW1.out
    have HWR := Go.Lib.hid hwr
    clear hwr
    by_cases hjn : j < N
    · obtain ⟨g, rfl, -, e0, e1, -, -⟩ := (HO.out.below hbw.out).at j (by rw [← HN.out]; exact hjn)
      have hlt := HLM.out j (by rw [← HN.out]; exact hjn)
      obtain ⟨x, hx⟩ : ∃ x, x = l[j]'(by rw [← HN.out]; exact hjn) := ⟨_, rfl⟩
      rw [← hx] at e0 e1 hlt
      have hjI : (j : Int) < (N : Int) := by omega
      have hge : ¬ (m : Int) ≤ (x.2 : Int) := by omega
      have HB2 := fun cs => Go.Lib.hid (hbw.out.alloc hbw.out.size (.cells cs 30))
      clear hx hlt
      go_wp2_with fail
      go_roundw
      case rel => exact ⟨j + 1, by omega, by go_num, HB2 _⟩
      case measure => simp only [intOf]; omega
    · obtain rfl : j = N := by omega
      go_wp2_with (first
        | (with_reducible show wpList _ _ _ (⟨none, Op.store 30 (.tmp 4) (.tmp 32), _, _, _, _⟩ :: _) _ _; go_loud (refine wpList_store_row rfl 30 (.tmp 4) (.tmp 32) rfl w.heap.size #[.int .i64 0, .int .i64 0] rfl rfl 30 _ HWR.out (by kernel_rfl) rfl (all2 ..) ?_))
        | fail)
      exact ret_take rfl (setRow_heap _ _ _ _ _ (0, 0) HWR.out) rfl ⟨rfl, below_setRow (HB1.out.trans (hbw.out.mono HB1.out.size)) _ _ (Nat.le_refl _)⟩

/-- What stands between Use and the store. -/
structure TI (w0 : World) (B r at_ n : Nat) (v : Value) (G : Nat → Bool) (p m b4 b8 : Nat) (d3 d4 : Bool) (w : World) : Prop where
  rm : RM w B r at_ n v (if d3 = true then setF G p m false else G)
  gr : w0.grownBy w v.ownBlock
  k4 : w.heap[b4]? = some (.cells (if d4 = true then #[.int .i64 (p : Int), .int .i64 (m : Int)] else #[.int .i64 0, .int .i64 0]) 30)
  k8 : w.heap[b8]? = some (.cells #[.int .i64 (p : Int), .int .i64 (m : Int)] 30)
section
variable {w0 W W' : World} {B r at_ n : Nat} {v : Value} {G : Nat → Bool} {p m b4 b8 : Nat} {d3 d4 : Bool} {done : Nat → Bool}
theorem TI.drew (h : TI w0 B r at_ n v G p m b4 b8 d3 d4 W) : TI w0 B r at_ n v G p m b4 b8 d3 d4 W.drew := ⟨h.rm.below ⟨rfl, rfl, rfl, Nat.le_refl _, fun _ _ => rfl⟩, ⟨h.gr.os, h.gr.tape, h.gr.output, h.gr.size, h.gr.block⟩, h.k4, h.k8⟩
theorem TI.keep (h : TI w0 B r at_ n v G p m b4 b8 (done 3) (done 4) W) (i : Nat) (h3 : 3 ≠ i) (h4 : 4 ≠ i) : TI w0 B r at_ n v G p m b4 b8 (doneToo done i 3) (doneToo done i 4) W := by
  rw [doneToo_other h3, doneToo_other h4]
  exact h
theorem TI.used (h : TI w0 B r at_ n v G p m b4 b8 (done 3) (done 4) W) (hr : RM W' B r at_ n v (setF G p m false)) (hg : W.grownBy W' v.ownBlock) (hn : done 3 = false) : TI w0 B r at_ n v G p m b4 b8 (doneToo done 3 3) (doneToo done 3 4) W' := by
  rw [doneToo_self, doneToo_other (by decide)]
  refine ⟨hr, grow_trans h.gr hg, (hg.block _ (Array.getElem?_eq_some_iff.1 h.k4).1 (h.rm.notBlk h.k4 (by decide))).trans h.k4, (hg.block _ (Array.getElem?_eq_some_iff.1 h.k8).1 (h.rm.notBlk h.k8 (by decide))).trans h.k8⟩
theorem TI.stored {cs : Array Value} (h : TI w0 B r at_ n v G p m b4 b8 (done 3) (done 4) W) (hk : W.heap[b4]? = some (.cells cs 30)) (hne : b8 ≠ b4) (hb : w0.heap.size ≤ b4) : TI w0 B r at_ n v G p m b4 b8 (doneToo done 4 3) (doneToo done 4 4) (W.setRow b4 #[.int .i64 (p : Int), .int .i64 (m : Int)]) := by
  rw [doneToo_self, doneToo_other (by decide)]
  exact ⟨h.rm.keptBlk hk (by decide) (by decide) (grow_row _ _ _), grow_setRow h.gr _ _ hb, setRow_heap _ _ _ _ _ (0, 0) hk, (setRow_other _ _ _ _ hne).trans h.k8⟩
end
def VT (r p m : Nat) : Nat → World → Value → Prop
  | 27, _, v => v = spanV (p : Int) (m : Int)
  | 28, _, v => v = .pointer (some ⟨r, 0, none⟩)
  | 29, _, v => v = spanV (p : Int) (m : Int)
  | 30, _, v => v = .bool true
  | 5, _, v => v = .bool true
  | _, _, _ => True
theorem VT_any (r p m : Nat) : ∀ (i : Nat) (w w' : World) (v : Value), VT r p m i w v → VT r p m i w' v := by
  intro i w w' v h
  unfold VT at h ⊢
  split at h <;> first | exact h | trivial
/-- The first row that has as many gives its first ones. -/
theorem take_yes (h : RM w B r at_ n v G) (m : Nat) (hm : 0 < m) (x : Nat × Nat) (hf : fitF G (at_ + n) m = some x) : Calls Try.prog 11 #[.pointer (some ⟨r, 0, none⟩), .int .i64 (m : Int)] w fun e w' => e = .returned (.tuple #[spanV (x.1 : Int) (m : Int), .bool true]) ∧ RM w' B r at_ n v (setF G x.1 m false) ∧ w.grownBy w' v.ownBlock := by
  have hm1 : ¬ (m : Int) < 1 := by omega
  have hb1 := below_alloc w (.cells #[.int .i64 0, .int .i64 0] 30)
  have C := Go.Lib.hid (spans_c (h.below hb1))
  have ha := heap_alloc_new w (.cells #[.int .i64 0, .int .i64 0] 30)
  obtain ⟨l, hl⟩ : ∃ l, spS G (at_ + n) = l := ⟨_, rfl⟩
  obtain ⟨hall, -, -, -⟩ := fit_some hm (fun k hk => h.out k (.inr hk)) hf
  unfold fitF at hf
  rw [hl, List.find?_eq_some_iff_getElem] at hf
  obtain ⟨hx0, q, hq, hx1, hx2⟩ := hf
  have hx0' : m ≤ x.2 := by simpa using hx0
  have hlm : ∀ i (hi : i < q), (l[i]'(by omega)).2 < m := by
    intro i hi
    have := hx2 i hi
    simp at this
    omega
  have hle : l.length ≤ 100000 := by
    rw [← hl]
    have := spS_len G (at_ + n)
    have := h.small
    omega
  rw [hl] at C
  have HX := Go.Lib.hid hx1
  have HLM := Go.Lib.hid hlm
  have HA := Go.Lib.hid ha
  have HB := Go.Lib.hid hb1
  have H := Go.Lib.hid h
  have HM := Go.Lib.hid hm
  have HALL := Go.Lib.hid hall
  obtain ⟨N, hN⟩ : ∃ N, N = l.length := ⟨_, rfl⟩
  have HN := Go.Lib.hid hN
  rw [← hN] at hle
  have hqN : q < N := by rw [hN]; exact hq
  clear h hl hlm ha hb1 hN hm hx0 hx1 hx2 hall
  go_enter Try.func11, Try.ntmps11
  go_wp2_with fail
  refine C.out.mono ?_
  rintro e w1 ⟨v1, rfl, hown, hb⟩
  obtain ⟨a1, c1, rfl, -⟩ := hown.form
  rw [← HN.out] at hown ⊢
  have HO := Go.Lib.hid hown
  have HB1 := Go.Lib.hid (HB.out.trans (hb.mono HB.out.size))
  have hw1 := (hb.block w.heap.size (Array.getElem?_eq_some_iff.1 HA.out).1).trans HA.out
  have HW1 := Go.Lib.hid hw1
  clear hown hb hw1 C
  go_wp2_with fail
  go_loopw [15] (fun c wr => ∃ j : Nat, j ≤ q ∧ c = .int .i64 (j : Int) ∧ Hid (Below w1.heap.size w1 wr)) (fun c _ => N - (intOf c).toNat)
  case atStart => exact ⟨0, by omega, rfl, Go.Lib.hid (Below.refl _ _)⟩
  case round =>
    obtain ⟨j, hj, rfl, hbw⟩ := hrel
    have hwr := (hbw.out.block w.heap.size (Array.getElem?_eq_some_iff.1 HW1.out).1).trans HW1.out
    have HWR := Go.Lib.hid hwr
    clear hwr
    have hjI : (j : Int) < (N : Int) := by omega
    obtain ⟨g, rfl, -, e0, e1, -, -⟩ := (HO.out.below hbw.out).at j (by rw [← HN.out]; omega)
    by_cases hjn : j < q
    · have hlt := HLM.out j hjn
      obtain ⟨y, hy⟩ : ∃ y, y = l[j]'(by rw [← HN.out]; omega) := ⟨_, rfl⟩
      rw [← hy] at e0 e1 hlt
      have hge : ¬ (m : Int) ≤ (y.2 : Int) := by omega
      have HB2 := fun cs => Go.Lib.hid (hbw.out.alloc hbw.out.size (.cells cs 30))
      clear hy hlt
      go_wp2_with fail
      go_roundw
      case rel => exact ⟨j + 1, by omega, by go_num, HB2 _⟩
      case measure => simp only [intOf]; omega
    · obtain rfl : j = q := by omega
      rw [HX.out] at e0 e1
      have hge : (m : Int) ≤ (x.2 : Int) := by omega
      have HU := Go.Lib.hid fun w6 (hr : RM w6 B r at_ n v G) => use_yes hr x.1 m HM.out HALL.out (x.1 : Int) (m : Int) rfl rfl
      have hbb := (hbw.out.alloc hbw.out.size (.cells #[.int .i64 (x.1 : Int), .int .i64 (x.2 : Int)] 30)).alloc (by have := hbw.out.size; simp; omega) (.cells #[.int .i64 (x.1 : Int), .int .i64 (m : Int)] 30)
      have hb0 := HB1.out.trans (hbb.mono HB1.out.size)
      have hsz := Go.Lib.hid (show w.heap.size ≤ wr.heap.size from Nat.le_trans HB1.out.size hbw.out.size)
      have HT0 := Go.Lib.hid (show TI w B r at_ n v G x.1 m w.heap.size (wr.heap.size + 1) false false ((wr.alloc (.cells #[.int .i64 (x.1 : Int), .int .i64 (x.2 : Int)] 30)).alloc (.cells #[.int .i64 (x.1 : Int), .int .i64 (m : Int)] 30)) from by
        refine ⟨H.out.below hb0, grow_below hb0, (hbb.block w.heap.size (Array.getElem?_eq_some_iff.1 HW1.out).1).trans HW1.out, ?_⟩
        have := heap_alloc_new (wr.alloc (.cells #[.int .i64 (x.1 : Int), .int .i64 (x.2 : Int)] 30)) (.cells #[.int .i64 (x.1 : Int), .int .i64 (m : Int)] 30)
        rw [show (wr.alloc (.cells #[.int .i64 (x.1 : Int), .int .i64 (x.2 : Int)] 30)).heap.size = wr.heap.size + 1 from by simp] at this
        exact this)
      clear hbb hb0
      go_upto_region 8 with (fail)
      clear e0 e1 hx0' hle hqN hj hjn hjI hge hm1
      refine wp_region_inv (by kernel_rfl) (VT r x.1 m) (fun done W => TI w B r at_ n v G x.1 m w.heap.size (wr.heap.size + 1) (done 3) (done 4) W) (by decide +kernel) (by decide +kernel) (by rfl) [27, 28, 29, 30, 5] (by rfl) HT0.out.drew ?_ ?_
      · intro i o ho a w6 done hI hnot hr hlen hg
        match i, ho with
        | 0, ho =>
          obtain rfl := Option.some.inj ho
          have h8 := given_old hg 8 (by decide +kernel)
          clear hg
          exact st_list ho (wanted_none rfl) fun Q' hQ => wpList_load_row rfl 30 (.tmp 8) rfl (wr.heap.size + 1) (by simp [Act.eval, h8]) 30 _ (0, 0) _ hI.k8 Try.underlying30 rfl (by kernel_rfl) (wpList_nil (hQ _ _ ⟨_, rfl, hI.keep 0 (by decide) (by decide), fun t u h => VT_any _ _ _ t _ _ u h, by rintro t' ⟨⟩; rfl⟩))
        | 1, ho =>
          obtain rfl := Option.some.inj ho
          have h0 := given_old hg 0 (by decide +kernel)
          clear hg
          exact st_yield ho (wanted_none rfl) (.pointer (some ⟨r, 0, none⟩)) w6 (by simp [execOp, Act.eval, h0, go_sem]) ⟨_, rfl, hI.keep 1 (by decide) (by decide), fun t u h => VT_any _ _ _ t _ _ u h, by rintro t' ⟨⟩; rfl⟩
        | 2, ho =>
          obtain rfl := Option.some.inj ho
          have h8 := given_old hg 8 (by decide +kernel)
          clear hg
          exact st_list ho (wanted_none rfl) fun Q' hQ => wpList_load_row rfl 30 (.tmp 8) rfl (wr.heap.size + 1) (by simp [Act.eval, h8]) 30 _ (0, 0) _ hI.k8 Try.underlying30 rfl (by kernel_rfl) (wpList_nil (hQ _ _ ⟨_, rfl, hI.keep 2 (by decide) (by decide), fun t u h => VT_any _ _ _ t _ _ u h, by rintro t' ⟨⟩; rfl⟩))
        | 3, ho =>
          obtain rfl := Option.some.inj ho
          obtain ⟨_, h28, rfl⟩ := given_fed hg 28 (by decide +kernel)
          obtain ⟨_, h29, rfl⟩ := given_fed hg 29 (by decide +kernel)
          clear hg
          have hrm := hI.rm
          rw [hnot] at hrm
          exact st_enter (w1 := w6) ho (wanted_none rfl) 12 #[.pointer (some ⟨r, 0, none⟩), spanV (x.1 : Int) (m : Int)] (by simp [execOp, Act.eval, h28, h29, resolve, go_sem]) ((HU.out w6 hrm).mono (by rintro e w7 ⟨rfl, hr7, hg7⟩; exact ⟨_, rfl, _, rfl, hI.used hr7 hg7 hnot, fun t u h => VT_any _ _ _ t _ _ u h, by rintro t' ⟨⟩; rfl⟩))
        | 4, ho =>
          obtain rfl := Option.some.inj ho
          have h4 := given_old hg 4 (by decide +kernel)
          obtain ⟨_, h27, rfl⟩ := given_fed hg 27 (by decide +kernel)
          clear hg
          have hk4 := hI.k4
          rw [hnot, if_neg (by decide)] at hk4
          exact st_list ho (wanted_none rfl) fun Q' hQ => wpList_store_row rfl 30 (.tmp 4) (.tmp 27) rfl w.heap.size #[.int .i64 (x.1 : Int), .int .i64 (m : Int)] (by simp [Act.eval, h4]) (by simp [Act.eval, h27, spanV]) 30 _ hk4 (by kernel_rfl) rfl (all2 ..) (wpList_nil (hQ _ _ ⟨_, rfl, hI.stored hk4 (by have := hsz.out; omega) (Nat.le_refl _), fun t u h => VT_any _ _ _ t _ _ u h, by rintro t' ⟨⟩⟩))
        | 5, ho =>
          obtain rfl := Option.some.inj ho
          obtain ⟨_, h30, rfl⟩ := given_fed hg 30 (by decide +kernel)
          clear hg
          exact st_yield ho (wanted_none rfl) (.bool true) w6 (by simp [execOp, Act.eval, h30, go_sem]) ⟨_, rfl, hI.keep 5 (by decide) (by decide), fun t u h => VT_any _ _ _ t _ _ u h, by rintro t' ⟨⟩; rfl⟩
        | n + 6, ho => simp at ho
      · intro f w6 done hall hI hv
        have h3 := hall 3 (by decide)
        have h4 := hall 4 (by decide)
        have h5 := hv 5 (by decide)
        simp only [VT] at h5
        simp only [h3, h4] at hI
        have HI := Go.Lib.hid hI
        clear hI hv hall h3 h4 HU
        unfold putAll
        simp only [List.foldl]
        simp only [h5]
        go_simp
        go_wp2_with fail
        exact ret_take rfl HI.out.k4 rfl ⟨rfl, HI.out.rm, HI.out.gr⟩
end

end Go.Proofs.Ytheljojjpnpdaaa
