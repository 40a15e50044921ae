/-
  Rows of records as bytes (of no code): which rows may be, their bytes, how those are read; what is read is written so.
  The reference's PairBytes.
  Package key: contract of Less.
-/
import Derived.Test.YtibbligidncocaaM19
import Derived.Test.YtibbligidncocaaM13
import Derived.Test.YtibbligidncocaaM14
import Derived.Test.YtibbligidncocaaM18
import Derived.Laws.Tables
import Derived.Test.YtibbligidncocaaM01
namespace Go.Proofs.Ytibbligidncocaa
open Go.RowKit
open Go.Lib (uvarint zigzag)

theorem str_blB (s : ByteArray) : str (bl s) = s := str_bl s

/-! ### A value, a record: what is read is written so. -/
theorem valB_canon {l s : List UInt8} {k n : Int} {m : Nat} (h : valB l = ((k, n, s), m, 0)) :
    mayR k n (str s) = true ∧ (-9223372036854775808 ≤ n ∧ n ≤ 9223372036854775807) ∧ l = putV k n s ++ l.drop m := by
  rcases hr : getB l with ⟨x, p, e⟩
  by_cases he : e = 0
  · subst he
    have c1 := (getB_canon hr).2
    by_cases h1 : x = 1
    · subst h1
      rcases hg : getB (l.drop p) with ⟨y, q, e2⟩
      rw [valB_num l p q y e2 hr hg] at h
      by_cases h2 : e2 = 0
      · subst h2
        rw [if_pos rfl] at h
        simp only [Prod.mk.injEq, and_true] at h
        obtain ⟨⟨rfl, rfl, rfl⟩, rfl⟩ := h
        have c2 := (getB_canon hg).2
        have f2 := getB_fits (l.drop p)
        rw [hg] at f2
        simp only [] at f2
        refine ⟨by simp [mayR, str, ByteArray.toList_eq], by omega, ?_⟩
        have e1 : putV 1 y [] = uvarint (zigzag 1) ++ uvarint (zigzag y) := by simp [putV]
        rw [e1, List.append_assoc, ← List.drop_drop, ← c2]
        exact c1
      · rw [if_neg h2] at h
        simp only [Prod.mk.injEq] at h
        exact absurd h.2.2 h2
    · by_cases h2 : x = 2
      · subst h2
        rcases hg : textB (l.drop p) with ⟨y, q, e2⟩
        rw [valB_text l y p q e2 hr hg] at h
        by_cases h3 : e2 = 0
        · subst h3
          rw [if_pos rfl] at h
          by_cases h4 : mayR 2 0 (str y) = true
          · rw [if_pos h4] at h
            simp only [Prod.mk.injEq, and_true] at h
            obtain ⟨⟨rfl, rfl, rfl⟩, rfl⟩ := h
            have c2 := (textB_canon hg).2
            refine ⟨h4, by omega, ?_⟩
            have e1 : putV 2 0 y = uvarint (zigzag 2) ++ putT y := by simp [putV]
            rw [e1, List.append_assoc, ← List.drop_drop, ← c2]
            exact c1
          · rw [if_neg h4] at h
            simp at h
        · rw [if_neg h3] at h
          simp only [Prod.mk.injEq] at h
          exact absurd h.2.2 h3
      · rw [valB_else l x p hr h1 h2] at h
        simp at h
  · rw [valB_err l x e p hr he] at h
    simp only [Prod.mk.injEq] at h
    exact absurd h.2.2 he

/-- Key, Gone, Kind, N, S, as the program holds them. -/
def unR (r : List UInt8 × Bool × Int × Int × List UInt8) : RecT := (str r.1, r.2.1, r.2.2.1, r.2.2.2.1, str r.2.2.2.2)
def recT (x : RecT) : List UInt8 := recB (bl x.1) x.2.1 x.2.2.1 x.2.2.2.1 (bl x.2.2.2.2)

theorem readB_canon {l : List UInt8} {r : List UInt8 × Bool × Int × Int × List UInt8} {m : Nat} (h : readB l = (r, m, 0)) :
    mayT (unR r) = true ∧ RecOk (unR r) ∧ l = recT (unR r) ++ l.drop m ∧ m ≤ l.length := by
  rcases hr : textB l with ⟨key, p, e⟩
  by_cases he : e = 0
  · subst he
    have c1 := (textB_canon hr).2
    have f1 := textB_fits l
    rw [hr] at f1
    simp only [] at f1
    cases hk : mayK (str key) with
    | false =>
      rw [readB_e2 hr hk] at h
      simp [rdErr] at h
    | true =>
      have hk16 : (str key).size ≤ 16 := by
        have h1 := hk
        unfold mayK at h1
        rw [Bool.and_eq_true, decide_eq_true_eq, decide_eq_true_eq] at h1
        exact h1.2
      rcases hg : getB (l.drop p) with ⟨x, q, e2⟩
      have f2 := getB_fits (l.drop p)
      rw [hg] at f2
      simp only [List.length_drop] at f2
      by_cases h2 : e2 = 0
      · subst h2
        by_cases hx : x = 0
        · subst hx
          rw [readB_gone hr hk hg] at h
          simp only [Prod.mk.injEq, and_true] at h
          obtain ⟨rfl, rfl⟩ := h
          have c2 := (getB_canon hg).2
          refine ⟨?_, ⟨?_, (show (Lit.int .i64 0).wf = true by decide), (show (Lit.int .i64 0).wf = true by decide), ?_⟩, ?_, by omega⟩
          · show mayRec (str key) true 0 0 (str []) = true
            unfold mayRec
            rw [hk]
            simp [str, ByteArray.toList_eq]
          · show (str key).size ≤ maxLen
            unfold maxLen; omega
          · show (str []).size ≤ maxLen
            rw [str_size]; unfold maxLen; simp
          · show l = recB (bl (str key)) true 0 0 (bl (str [])) ++ _
            rw [bl_str, bl_str]
            have e1 : recB key true 0 0 [] = putT key ++ uvarint (zigzag 0) := rfl
            rw [e1, List.append_assoc, ← List.drop_drop, ← c2]
            exact c1
        · rcases hv : valB (l.drop p) with ⟨v, u, e3⟩
          have f3 := valB_fits (l.drop p)
          rw [hv] at f3
          simp only [List.length_drop] at f3
          by_cases h3 : e3 = 0
          · subst h3
            rw [readB_ok hr hk hg hx hv] at h
            simp only [Prod.mk.injEq, and_true] at h
            obtain ⟨rfl, rfl⟩ := h
            obtain ⟨vk, vn, vs⟩ := v
            obtain ⟨c2, c3, c4⟩ := valB_canon hv
            have hkb : -9223372036854775808 ≤ vk ∧ vk ≤ 9223372036854775807 := by
              rcases mayR_cases c2 with ⟨h, -⟩ | ⟨h, -⟩ <;> omega
            refine ⟨?_, ⟨?_, bounds_wf hkb.1 hkb.2, bounds_wf c3.1 c3.2, ?_⟩, ?_, by omega⟩
            · show mayRec (str key) false vk vn (str vs) = true
              unfold mayRec
              rw [hk]
              simpa using c2
            · show (str key).size ≤ maxLen
              unfold maxLen; omega
            · show (str vs).size ≤ maxLen
              rw [str_size]
              rcases mayR_cases c2 with ⟨-, h⟩ | ⟨-, -, h⟩
              · subst h; unfold maxLen; simp
              · unfold maxLen; omega
            · show l = recB (bl (str key)) false vk vn (bl (str vs)) ++ _
              rw [bl_str, bl_str]
              have e1 : recB key false vk vn vs = putT key ++ putV vk vn vs := rfl
              rw [e1, List.append_assoc, ← List.drop_drop, ← c4]
              exact c1
          · rw [readB_e4 hr hk hg hx hv h3] at h
            simp only [rdErr, Prod.mk.injEq] at h
            exact absurd h.2.2 h3
      · rw [readB_e3 hr hk hg h2] at h
        simp only [rdErr, Prod.mk.injEq] at h
        exact absurd h.2.2 h2
  · rw [readB_e1 hr he] at h
    simp only [rdErr, Prod.mk.injEq] at h
    exact absurd h.2.2 he

theorem recOk_n {x : RecT} (h : RecOk x) : -9223372036854775808 ≤ x.2.2.2.1 ∧ x.2.2.2.1 ≤ 9223372036854775807 := by
  have := bounds_i64 h.2.2.1
  omega
theorem recOk_k {x : RecT} (h : RecOk x) : -9223372036854775808 ≤ x.2.2.1 ∧ x.2.2.1 ≤ 9223372036854775807 := by
  have := bounds_i64 h.2.1
  omega
theorem readT_put {x : RecT} (h : mayT x = true) (hok : RecOk x) (r : List UInt8) : ∃ y, readB (recT x ++ r) = (y, (recT x).length, 0) ∧ unR y = x := by
  obtain ⟨key, gone, k, n, s⟩ := x
  obtain ⟨h0, h1⟩ := recOk_n hok
  have := readB_put (bl key) gone k n (bl s) r (by rw [str_bl, str_bl]; exact h) h0 h1
  exact ⟨_, this, by unfold unR; simp only [str_bl]⟩
theorem recT_len {x : RecT} (h : mayT x = true) (hok : RecOk x) : 2 ≤ (recT x).length ∧ (recT x).length ≤ 200 := by
  obtain ⟨key, gone, k, n, s⟩ := x
  obtain ⟨h0, h1⟩ := recOk_n hok
  exact recB_len (key := bl key) (s := bl s) (by rw [str_bl, str_bl]; exact h) h0 h1

/-! ### Rows. -/
def rowC (l : List RecT) : List UInt8 := l.flatMap recT
def rowB (l : List RecT) : List UInt8 := uvarint (zigzag (l.length : Int)) ++ rowC l
def mayRow (l : List RecT) : Bool := decide (l.length ≤ 1000) && l.all mayT
/-- A row's bytes; none of one that may not be. -/
def rowE (l : List RecT) : List UInt8 := if mayRow l then rowB l else []
theorem rowC_snoc (l : List RecT) (x : RecT) : rowC (l ++ [x]) = rowC l ++ recT x := by simp [rowC]
theorem rowC_cons (l : List RecT) (x : RecT) : rowC (x :: l) = recT x ++ rowC l := by simp [rowC]
theorem mayRow_iff {l : List RecT} : mayRow l = true ↔ l.length ≤ 1000 ∧ ∀ x ∈ l, mayT x = true := by
  unfold mayRow
  rw [Bool.and_eq_true, decide_eq_true_eq, List.all_eq_true]
theorem rowC_len (l : List RecT) (h : ∀ x ∈ l, mayT x = true) (hok : ∀ x ∈ l, RecOk x) : (rowC l).length ≤ 200 * l.length := by
  induction l with
  | nil => simp [rowC]
  | cons x t ih =>
    have h1 := (recT_len (h x (List.mem_cons_self ..)) (hok x (List.mem_cons_self ..))).2
    have h2 := ih (fun y hy => h y (List.mem_cons_of_mem _ hy)) (fun y hy => hok y (List.mem_cons_of_mem _ hy))
    rw [rowC_cons, List.length_append, List.length_cons]
    omega
theorem headL (n : Nat) (h : n ≤ 1000000) : (uvarint (zigzag (n : Int))).length ≤ 10 ∧ 1 ≤ (uvarint (zigzag (n : Int))).length :=
  ⟨Go.Lib.uvarint_length64 (Go.Lib.zigzag_lt (by omega) (by omega)), Go.Lib.uvarint_pos _⟩

/-- k records, one behind the other, and what stands behind them. -/
def seqD : Nat → List UInt8 → Option (List RecT × List UInt8)
  | 0, b => some ([], b)
  | k + 1, b => match seqD k b with
    | none => none
    | some (L, r) => if (readB r).2.2 = 0 then some (L ++ [unR (readB r).1], r.drop (readB r).2.1) else none
def rowD (b : List UInt8) : Option (List RecT) :=
  if (getB b).2.2 ≠ 0 ∨ (getB b).1 < 0 ∨ 1000 < (getB b).1 then none
  else match seqD (getB b).1.toNat (b.drop (getB b).2.1) with
    | some (L, []) => some L
    | _ => none

theorem seqD_none {k : Nat} {b : List UInt8} (h : seqD k b = none) : ∀ j, seqD (k + j) b = none
  | 0 => h
  | j + 1 => by
    show seqD (k + j + 1) b = none
    rw [seqD, seqD_none h j]
theorem seqD_ok : ∀ (k : Nat) (b : List UInt8) (L : List RecT) (r : List UInt8), seqD k b = some (L, r) → L.length = k ∧ (∀ x ∈ L, mayT x = true ∧ RecOk x) ∧ b = rowC L ++ r
  | 0, b, L, r, h => by
    simp only [seqD, Option.some.injEq, Prod.mk.injEq] at h
    obtain ⟨rfl, rfl⟩ := h
    exact ⟨rfl, (fun x hx => by cases hx), by simp [rowC]⟩
  | k + 1, b, L, r, h => by
    rw [seqD] at h
    cases hs : seqD k b with
    | none => rw [hs] at h; simp at h
    | some y =>
      obtain ⟨M, q⟩ := y
      rw [hs] at h
      simp only [] at h
      obtain ⟨h1, h2, h3⟩ := seqD_ok k b M q hs
      rcases hr : readB q with ⟨y, m, e⟩
      rw [hr] at h
      simp only [] at h
      by_cases he : e = 0
      · subst he
        rw [if_pos rfl] at h
        simp only [Option.some.injEq, Prod.mk.injEq] at h
        obtain ⟨rfl, rfl⟩ := h
        obtain ⟨c1, c2, c3, -⟩ := readB_canon hr
        refine ⟨by simp [h1], ?_, ?_⟩
        · intro x hx
          rcases List.mem_append.1 hx with hx | hx
          · exact h2 x hx
          · rw [List.mem_singleton.1 hx]; exact ⟨c1, c2⟩
        · rw [rowC_snoc, List.append_assoc, ← c3]
          exact h3
      · rw [if_neg he] at h
        cases h
theorem rowD_ok {b : List UInt8} {l : List RecT} (h : rowD b = some l) : mayRow l = true ∧ (∀ x ∈ l, RecOk x) ∧ rowB l = b := by
  unfold rowD at h
  rcases hr : getB b with ⟨x, p, e⟩
  rw [hr] at h
  simp only [] at h
  split at h
  · cases h
  · rename_i hc
    simp only [not_or, ne_eq, Classical.not_not] at hc
    obtain ⟨rfl, h0, h1⟩ := hc
    cases hs : seqD x.toNat (b.drop p) with
    | none => rw [hs] at h; simp at h
    | some y =>
      obtain ⟨L, r⟩ := y
      rw [hs] at h
      cases r with
      | cons c t => simp at h
      | nil =>
        simp only [Option.some.injEq] at h
        subst h
        obtain ⟨c1, c2, c3⟩ := seqD_ok _ _ _ _ hs
        refine ⟨mayRow_iff.2 ⟨by omega, fun x hx => (c2 x hx).1⟩, fun x hx => (c2 x hx).2, ?_⟩
        have c4 := (getB_canon hr).2
        unfold rowB
        rw [c1, show ((x.toNat : Nat) : Int) = x by omega]
        rw [List.append_nil] at c3
        rw [← c3]
        exact c4.symm
theorem seqD_put (l : List RecT) (r : List UInt8) (h : ∀ x ∈ l, mayT x = true) (hok : ∀ x ∈ l, RecOk x) : ∀ k, k ≤ l.length → seqD k (rowC l ++ r) = some (l.take k, rowC (l.drop k) ++ r)
  | 0, _ => by simp [seqD]
  | k + 1, hk => by
    rw [seqD, seqD_put l r h hok k (by omega)]
    simp only []
    have hm := List.getElem_mem (show k < l.length by omega)
    obtain ⟨y, hy, hu⟩ := readT_put (h _ hm) (hok _ hm) (rowC (l.drop (k + 1)) ++ r)
    have e1 : rowC (l.drop k) ++ r = recT l[k] ++ (rowC (l.drop (k + 1)) ++ r) := by
      rw [List.drop_eq_getElem_cons (show k < l.length by omega), rowC_cons, List.append_assoc]
    rw [e1, hy]
    simp only [if_true, List.drop_left]
    rw [hu, List.take_succ_eq_append_getElem (show k < l.length by omega)]
theorem rowD_put {l : List RecT} (h : mayRow l = true) (hok : ∀ x ∈ l, RecOk x) : rowD (rowB l) = some l := by
  obtain ⟨h1, h2⟩ := mayRow_iff.1 h
  have g := getB_put (l.length : Int) (by omega) (by omega) (rowC l)
  have s := seqD_put l [] h2 hok l.length (Nat.le_refl _)
  rw [List.take_length, List.drop_length, List.append_nil] at s
  unfold rowD rowB
  rw [g]
  simp only [List.drop_left, Int.toNat_natCast]
  rw [if_neg (by omega), s]
  rfl
theorem rowB_inj {l m : List RecT} (h : mayRow l = true) (hok : ∀ x ∈ l, RecOk x) (g : mayRow m = true) (gok : ∀ x ∈ m, RecOk x) (e : rowB l = rowB m) : l = m := by
  have a := rowD_put h hok
  rw [e, rowD_put g gok] at a
  exact (Option.some.inj a).symm
theorem rowB_ne (l : List RecT) : rowB l ≠ [] := by
  intro h
  have := Go.Lib.uvarint_pos (zigzag (l.length : Int))
  have h2 := congrArg List.length h
  unfold rowB at h2
  rw [List.length_append, List.length_nil] at h2
  omega
theorem rowE_len {l : List RecT} (hok : ∀ x ∈ l, RecOk x) : (rowE l).length ≤ 200010 := by
  unfold rowE
  split
  · rename_i h
    obtain ⟨h1, h2⟩ := mayRow_iff.1 h
    have e1 := (headL l.length (by omega)).1
    have e2 := rowC_len l h2 hok
    unfold rowB
    rw [List.length_append]
    omega
  · simp

end Go.Proofs.Ytibbligidncocaa

namespace Go.Proofs.Ytibbligidncocaa
open Go.RowKit
open Go.Lib (uvarint zigzag)

/-- A record that is not gone. -/
def plainR (x : RecT) : RecT := (x.1, false, x.2.2.1, x.2.2.2.1, x.2.2.2.2)
theorem mayX_plain (x : RecT) : mayT (plainR x) = mayX x := rfl
/-- Pairs' bytes; none of those that may not be. -/
def pairE (l : List RecT) : List UInt8 := if mayP l then rowB (l.map plainR) else []
theorem build_rec (kx : ByteArray) (ax nx : Int) (sx : ByteArray) (W : World) : (Instr.build 39 #[(0, .string kx), (2, .agg #[.int .i64 ax, .int .i64 nx, .string sx])]).run Try.prog W = .ok (.agg #[.string kx, .bool false, .int .i64 ax, .int .i64 nx, .string sx]) W :=
  run_build W _ _ _ (by kernel_rfl)

def VPB7 (b os n cap k : Nat) (u : Value) (kx sx : ByteArray) (ax nx : Int) (RT : List UInt8) : Nat → World → Value → Prop
  | 17, _, v => v = u
  | 18, _, v => v = .slice (some ⟨b, os, none⟩) n cap
  | 19, _, v => v = .int .i64 (k : Int)
  | 20, _, v => v = .pointer (some ⟨b, os + k * 4, none⟩)
  | 21, _, v => v = .pointer (some ⟨b, os + k * 4, none⟩)
  | 22, _, v => v = .string kx
  | 23, _, v => v = .slice (some ⟨b, os, none⟩) n cap
  | 24, _, v => v = .int .i64 (k : Int)
  | 25, _, v => v = .pointer (some ⟨b, os + k * 4, none⟩)
  | 26, _, v => v = .pointer (some ⟨b, os + k * 4 + 1, none⟩)
  | 27, _, v => v = .agg #[.int .i64 ax, .int .i64 nx, .string sx]
  | 28, _, v => v = .agg #[.string kx, .bool false, .int .i64 ax, .int .i64 nx, .string sx]
  | 29, w, v => RB w v RT
  | _, _, _ => True

theorem VPB7_below (b os n cap k : Nat) (u : Value) (kx sx : ByteArray) (ax nx : Int) (RT : List UInt8) : ∀ (i : Nat) (w w' : World) (v : Value), VPB7 b os n cap k u kx sx ax nx RT i w v → Below w.heap.size w w' → VPB7 b os n cap k u kx sx ax nx RT i w' v := by
  intro i w w' v h hb
  unfold VPB7 at h ⊢
  split at h <;> first | exact h | trivial | exact RB.below h hb | exact Own.below h hb | exact OwnV.below h hb | exact OwnRec.below h hb | exact Lay.R.below h hb

set_option maxHeartbeats 2000000 in
set_option maxRecDepth 100000 in
theorem rpairbytes_c (v : Value) (l : List RecT) (w : World) (h : K4.R w v l) (hs : SmallV l) (hok : ∀ x ∈ l, RecOk x) (hl : l.length ≤ 100000) :
    Calls Try.prog 23 #[v] w fun e w' => ∃ v', e = .returned v' ∧ Own 5 w' w.heap.size v' (pairE l) ∧ Below w.heap.size w w' := by
  obtain ⟨ad, cap, rfl, hm⟩ := h.form
  cases ht : mayP l with
  | false =>
    have C := Go.Lib.hid (rmayp_c _ l false w h hs hl ht)
    have K := Go.Lib.hid (show pairE l = [] by unfold pairE; rw [ht]; rfl)
    clear h hs hok ht
    go_enter Try.func23, Try.ntmps23
    go_wp2_with fail
    refine C.out.mono ?_
    rintro e w1 ⟨rfl, hb⟩
    go_wp2_with fail
    go_ret
    exact ⟨_, rfl, by rw [K.out]; exact Own.nil _ _ _, hb⟩
  | true =>
    have C := Go.Lib.hid (rmayp_c _ l true w h hs hl ht)
    have K := Go.Lib.hid (show pairE l = uvarint (zigzag (l.length : Int)) ++ rowC (l.map plainR) by unfold pairE rowB; rw [ht, if_pos rfl, List.length_map])
    have HM := Go.Lib.hid (mayP_sort.1 ht).2.1
    have HOK := Go.Lib.hid hok
    have HV := Go.Lib.hid h
    have hl1 := (mayP_sort.1 ht).2.2
    clear h hs hok ht
    go_enter Try.func23, Try.ntmps23
    go_wp2_with fail
    refine C.out.mono ?_
    rintro e w1 ⟨rfl, hb⟩
    have HB := Go.Lib.hid hb; clear hb C
    go_wp2_with fail
    refine (rput_c (l.length : Int) w1 (by omega) (by omega)).mono ?_
    rintro e w2 ⟨v2, rfl, hown2, hb2⟩
    have HB2 := Go.Lib.hid (HB.out.trans (hb2.mono HB.out.size))
    have HO := Go.Lib.hid (hown2.mono HB.out.size)
    clear hown2 hb2 HB
    go_wp2_with fail
    go_loopw [3, 4] (fun bv i wr => ∃ (k : Nat) (u : Value), u = bv ∧ k ≤ l.length ∧ i = .int .i64 (k : Int) ∧ Own 5 wr w.heap.size u (uvarint (zigzag (l.length : Int)) ++ rowC ((l.take k).map plainR)) ∧ Below w.heap.size w wr) (fun _ i _ => l.length - (intOf i).toNat)
    case atStart => exact ⟨0, _, rfl, by omega, rfl, by simpa [rowC] using HO.out, HB2.out⟩
    case round =>
      obtain ⟨k, u, rfl, hk, rfl, hown, hbc⟩ := hrel
      by_cases hlt : k < l.length
      · obtain ⟨b, os, rfl, -, hbl, c0, c1, c2, c3⟩ := K4.at' HV.out k hlt
        have D0 := (hbc.cell (p := ⟨b, os + k * 4, none⟩) hbl).trans c0
        have D1 := (hbc.cell (p := ⟨b, os + k * 4 + 1, none⟩) hbl).trans c1
        have D2 := (hbc.cell (p := ⟨b, os + k * 4 + 2, none⟩) hbl).trans c2
        have D3 := (hbc.cell (p := ⟨b, os + k * 4 + 3, none⟩) hbl).trans c3
        have hbl2 : b < wr.heap.size := Nat.lt_of_lt_of_le hbl hbc.size
        have I1 := Go.Lib.hid (idx4 b os l.length cap k hlt)
        have hun : (uvarint (zigzag (l.length : Int))).length ≤ 10 := Go.Lib.uvarint_length64 (Go.Lib.zigzag_lt (by omega) (by omega))
        have hrl := rowC_len ((l.take k).map plainR) (fun x hx => by
          obtain ⟨y, hy, rfl⟩ := List.mem_map.1 hx
          exact HM.out y (List.mem_of_mem_take hy)) (fun x hx => by
          obtain ⟨y, hy, rfl⟩ := List.mem_map.1 hx
          exact HOK.out y (List.mem_of_mem_take hy))
        rw [List.length_map, List.length_take] at hrl
        have hsn : uvarint (zigzag (l.length : Int)) ++ rowC ((l.take k).map plainR) ++ recT (plainR l[k]) = uvarint (zigzag (l.length : Int)) ++ rowC ((l.take (k + 1)).map plainR) := by rw [List.take_succ_eq_append_getElem hlt, List.map_append, List.map_singleton, rowC_snoc, List.append_assoc]
        have hmt : mayT (plainR l[k]) = true := HM.out l[k] (List.getElem_mem hlt)
        have ok : RecOk (plainR l[k]) := HOK.out l[k] (List.getElem_mem hlt)
        have hln := (recT_len hmt ok).2
        have hsh := mayT_short hmt
        have hPl : (uvarint (zigzag (l.length : Int)) ++ rowC ((l.take k).map plainR)).length ≤ 200010 := by rw [List.length_append]; omega
        generalize uvarint (zigzag (l.length : Int)) ++ rowC ((l.take k).map plainR) = P at *
        generalize l[k] = x at *
        obtain ⟨kx, gx, ax, nx, sx⟩ := x
        obtain ⟨n0, n1⟩ := recOk_n ok
        obtain ⟨k0, k1⟩ := recOk_k ok
        simp only [] at D0 D1 D2 D3 hsh
        unfold plainR at hsn hln n0 n1 k0 k1 hsh
        simp only [] at n0 n1 k0 k1 hsh
        have CB := fun W => rbytes_c (bl kx) false ax nx (bl sx) W (by rw [← bl_size]; omega) k0 k1 n0 n1 (by rw [← bl_size]; omega)
        unfold recV at CB
        simp only [str_bl] at CB
        unfold recT at hln hsn
        simp only [] at hln hsn
        generalize recB (bl kx) false ax nx (bl sx) = R at *
        have CB := Go.Lib.hid CB
        have Hsn := Go.Lib.hid hsn
        have HB1 := Go.Lib.hid hbc
        have HO1 := Go.Lib.hid hown
        have HP := Go.Lib.hid (And.intro hPl hln)
        have hbr := Go.Lib.hid (build_rec kx ax nx sx)
        clear c0 c1 c2 c3 hsn ok hmt hPl hln n0 n1 k0 k1 hsh hbc hown hun
        go_upto_region 7 with (fail)
        refine wp_region_head 13 (by decide) (by kernel_rfl) (VPB7 b os l.length cap k u kx sx ax nx R) (VPB7_below b os l.length cap k u kx sx ax nx R) (by decide +kernel) (by rfl) [17, 18, 19, 20, 21, 22, 23, 24, 25, 26, 27, 28, 29] (by rfl) ?_ ?_
        · intro i o hin ho a w6 hb6 hlen hg
          have d0 := (hb6.cell (p := ⟨b, os + k * 4, none⟩) hbl2).trans D0
          have d1 := (hb6.cell (p := ⟨b, os + k * 4 + 1, none⟩) hbl2).trans D1
          have d2 := (hb6.cell (p := ⟨b, os + k * 4 + 2, none⟩) hbl2).trans D2
          have d3 := (hb6.cell (p := ⟨b, os + k * 4 + 3, none⟩) hbl2).trans D3
          match i, hin, ho with
          | 0, hin, ho =>
            obtain rfl := Option.some.inj ho
            have h3 := given_old hg 3 (by decide +kernel)
            clear hg
            exact st_yield ho (wanted_none rfl) (u) w6 (by simp [execOp, Act.eval, h3, go_sem]) ⟨_, rfl, Below.refl _ _, by rintro t' ⟨⟩; rfl⟩
          | 1, hin, ho =>
            obtain rfl := Option.some.inj ho
            have h0 := given_old hg 0 (by decide +kernel)
            clear hg
            exact st_yield ho (wanted_none rfl) (.slice (some ⟨b, os, none⟩) l.length cap) w6 (by simp [execOp, Act.eval, h0, go_sem]) ⟨_, rfl, Below.refl _ _, by rintro t' ⟨⟩; rfl⟩
          | 2, hin, ho =>
            obtain rfl := Option.some.inj ho
            have h4 := given_old hg 4 (by decide +kernel)
            clear hg
            exact st_yield ho (wanted_none rfl) (.int .i64 (k : Int)) w6 (by simp [execOp, Act.eval, h4, go_sem]) ⟨_, rfl, Below.refl _ _, by rintro t' ⟨⟩; rfl⟩
          | 3, hin, ho =>
            obtain rfl := Option.some.inj ho
            obtain ⟨_, h18, rfl⟩ := given_fed hg 18 (by decide +kernel)
            obtain ⟨_, h19, rfl⟩ := given_fed hg 19 (by decide +kernel)
            clear hg
            exact st_yield ho (wanted_none rfl) (.pointer (some ⟨b, os + k * 4, none⟩)) w6 (by simp [execOp, Act.eval, h18, h19, go_sem, I1.out w6]) ⟨_, rfl, Below.refl _ _, by rintro t' ⟨⟩; rfl⟩
          | 4, hin, ho =>
            obtain rfl := Option.some.inj ho
            obtain ⟨_, h20, rfl⟩ := given_fed hg 20 (by decide +kernel)
            clear hg
            exact st_yield ho (wanted_none rfl) (.pointer (some ⟨b, os + k * 4, none⟩)) w6 (by simp [execOp, Act.eval, h20, go_sem]) ⟨_, rfl, Below.refl _ _, by rintro t' ⟨⟩; rfl⟩
          | 5, hin, ho =>
            obtain rfl := Option.some.inj ho
            obtain ⟨_, h21, rfl⟩ := given_fed hg 21 (by decide +kernel)
            clear hg
            exact st_yield ho (wanted_none rfl) (.string kx) w6 (by simp [execOp, Act.eval, h21, go_sem, d0]) ⟨_, rfl, Below.refl _ _, by rintro t' ⟨⟩; rfl⟩
          | 6, hin, ho =>
            obtain rfl := Option.some.inj ho
            have h0 := given_old hg 0 (by decide +kernel)
            clear hg
            exact st_yield ho (wanted_none rfl) (.slice (some ⟨b, os, none⟩) l.length cap) w6 (by simp [execOp, Act.eval, h0, go_sem]) ⟨_, rfl, Below.refl _ _, by rintro t' ⟨⟩; rfl⟩
          | 7, hin, ho =>
            obtain rfl := Option.some.inj ho
            have h4 := given_old hg 4 (by decide +kernel)
            clear hg
            exact st_yield ho (wanted_none rfl) (.int .i64 (k : Int)) w6 (by simp [execOp, Act.eval, h4, go_sem]) ⟨_, rfl, Below.refl _ _, by rintro t' ⟨⟩; rfl⟩
          | 8, hin, ho =>
            obtain rfl := Option.some.inj ho
            obtain ⟨_, h23, rfl⟩ := given_fed hg 23 (by decide +kernel)
            obtain ⟨_, h24, rfl⟩ := given_fed hg 24 (by decide +kernel)
            clear hg
            exact st_yield ho (wanted_none rfl) (.pointer (some ⟨b, os + k * 4, none⟩)) w6 (by simp [execOp, Act.eval, h23, h24, go_sem, I1.out w6]) ⟨_, rfl, Below.refl _ _, by rintro t' ⟨⟩; rfl⟩
          | 9, hin, ho =>
            obtain rfl := Option.some.inj ho
            obtain ⟨_, h25, rfl⟩ := given_fed hg 25 (by decide +kernel)
            clear hg
            exact st_yield ho (wanted_none rfl) (.pointer (some ⟨b, os + k * 4 + 1, none⟩)) w6 (by simp [execOp, Act.eval, h25, go_sem]) ⟨_, rfl, Below.refl _ _, by rintro t' ⟨⟩; rfl⟩
          | 10, hin, ho =>
            obtain rfl := Option.some.inj ho
            obtain ⟨_, h26, rfl⟩ := given_fed hg 26 (by decide +kernel)
            clear hg
            exact st_yield ho (wanted_none rfl) (.agg #[.int .i64 ax, .int .i64 nx, .string sx]) w6 (by simp [execOp, Act.eval, h26, go_sem, d1, d2, d3]) ⟨_, rfl, Below.refl _ _, by rintro t' ⟨⟩; rfl⟩
          | 11, hin, ho =>
            obtain rfl := Option.some.inj ho
            obtain ⟨_, h22, rfl⟩ := given_fed hg 22 (by decide +kernel)
            obtain ⟨_, h27, rfl⟩ := given_fed hg 27 (by decide +kernel)
            clear hg
            exact st_yield ho (wanted_none rfl) (.agg #[.string kx, .bool false, .int .i64 ax, .int .i64 nx, .string sx]) w6 (by simp [execOp, Act.eval, h22, h27, hbr.out w6]) ⟨_, rfl, Below.refl _ _, by rintro t' ⟨⟩; rfl⟩
          | 12, hin, ho =>
            obtain rfl := Option.some.inj ho
            obtain ⟨_, h28, rfl⟩ := given_fed hg 28 (by decide +kernel)
            clear hg
            exact st_enter (w1 := w6) ho (wanted_none rfl) 48 #[.agg #[.string kx, .bool false, .int .i64 ax, .int .i64 nx, .string sx]] (by simp [execOp, Act.eval, h28, resolve, go_sem]) ((CB.out w6).mono (by rintro e w7 ⟨v, rfl, hown, hb7⟩; exact ⟨v, rfl, _, rfl, hb7, by rintro t' ⟨⟩; exact hown.rb⟩))
          | n + 13, hin, ho => omega
        · intro f w3 hb3 hv'
          have h17 := hv' 17 (by decide)
          have h29 := hv' 29 (by decide)
          simp only [VPB7] at h17 h29
          obtain ⟨v3, e3, hr3⟩ : ∃ v3, f 29 = v3 ∧ RB w3 v3 R := ⟨_, rfl, h29⟩
          have HB3 := Go.Lib.hid (HB1.out.trans (hb3.mono HB1.out.size))
          have HO3 := Go.Lib.hid (HO1.out.below hb3)
          have HR3 := Go.Lib.hid hr3
          clear hv' h29 hr3 hb3 D0 D1 D2 D3 HO1 HB1 CB
          unfold putAll
          simp only [List.foldl, List.drop]
          simp only [h17, e3]
          go_simp
          go_wp2_with (first
            | (with_reducible show wpList _ _ _ (⟨some 30, _, _, _, _, _⟩ :: _) _ _; go_loud (refine wpList_append_RB rfl (.tmp 17) (.tmp 29) 33 rfl w.heap.size 5 Try.underlying33 info8 u v3 P R rfl rfl HO3.out HR3.out (by have := HP.out; omega) HB3.out.size ?_); intro v4 w4 hown4 hg4)
            | fail)
          rw [Hsn.out] at hown4
          have HB4 := Go.Lib.hid (HB3.out.grown hg4 HB3.out.size HO3.out.row)
          have HO4 := Go.Lib.hid hown4
          clear hown4 hg4 HB3 HO3 HR3
          go_roundw
          case rel => exact ⟨k + 1, _, rfl, by omega, by go_num, HO4.out, HB4.out⟩
          case measure => simp only [intOf]; omega
      · obtain rfl : k = l.length := by omega
        rw [List.take_length, ← K.out] at hown
        clear hlt
        go_wp2_with fail
        go_ret
        exact ⟨_, rfl, hown, hbc⟩

end Go.Proofs.Ytibbligidncocaa

namespace Go.Proofs.Ytibbligidncocaa
open Go.RowKit Go.Op

theorem kless_c (a b : ByteArray) (w : World) : Calls Try.prog 45 #[.string a, .string b] w fun e w' => e = .returned (.bool (bytesLess a.toList b.toList)) ∧ Below w.heap.size w w' := by
  have hb := Below.refl w.heap.size w
  go_enter Try.func45, Try.ntmps45
  go_wp2
  go_ret
  exact ⟨rfl, hb⟩

end Go.Proofs.Ytibbligidncocaa
