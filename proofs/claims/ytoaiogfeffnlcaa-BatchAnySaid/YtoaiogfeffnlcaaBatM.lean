/-
  Rows of records as bytes (of no code): which rows may be, their bytes, how those are read; what is read is written so.
-/
import Derived.Test.YtoaiogfeffnlcaaCanon
import Derived.Test.YtoaiogfeffnlcaaRecM2
import Derived.Test.YtoaiogfeffnlcaaRecs
namespace Go.Proofs.Ytoaiogfeffnlcaa
open Go.RowKit
open Go.Lib (uvarint zigzag)

theorem str_blB (s : ByteArray) : str (bl s) = s := str_bl s

/-! ### A value, a record: what is read is written so. -/
theorem valB_canon {l s : List UInt8} {k n : Int} {m : Nat} (h : valB l = ((k, n, s), m, 0)) :
    mayR k n (str s) = true ∧ (-9223372036854775808 ≤ n ∧ n ≤ 9223372036854775807) ∧ l = putV k n s ++ l.drop m := by
  rcases hr : getB l with ⟨x, p, e⟩
  by_cases he : e = 0
  · subst he
    have c1 := (getB_canon hr).2
    by_cases h1 : x = 1
    · subst h1
      rcases hg : getB (l.drop p) with ⟨y, q, e2⟩
      rw [valB_num l p q y e2 hr hg] at h
      by_cases h2 : e2 = 0
      · subst h2
        rw [if_pos rfl] at h
        simp only [Prod.mk.injEq, and_true] at h
        obtain ⟨⟨rfl, rfl, rfl⟩, rfl⟩ := h
        have c2 := (getB_canon hg).2
        have f2 := getB_fits (l.drop p)
        rw [hg] at f2
        simp only [] at f2
        refine ⟨by simp [mayR, str, ByteArray.toList_eq], by omega, ?_⟩
        have e1 : putV 1 y [] = uvarint (zigzag 1) ++ uvarint (zigzag y) := by simp [putV]
        rw [e1, List.append_assoc, ← List.drop_drop, ← c2]
        exact c1
      · rw [if_neg h2] at h
        simp only [Prod.mk.injEq] at h
        exact absurd h.2.2 h2
    · by_cases h2 : x = 2
      · subst h2
        rcases hg : textB (l.drop p) with ⟨y, q, e2⟩
        rw [valB_text l y p q e2 hr hg] at h
        by_cases h3 : e2 = 0
        · subst h3
          rw [if_pos rfl] at h
          by_cases h4 : mayR 2 0 (str y) = true
          · rw [if_pos h4] at h
            simp only [Prod.mk.injEq, and_true] at h
            obtain ⟨⟨rfl, rfl, rfl⟩, rfl⟩ := h
            have c2 := (textB_canon hg).2
            refine ⟨h4, by omega, ?_⟩
            have e1 : putV 2 0 y = uvarint (zigzag 2) ++ putT y := by simp [putV]
            rw [e1, List.append_assoc, ← List.drop_drop, ← c2]
            exact c1
          · rw [if_neg h4] at h
            simp at h
        · rw [if_neg h3] at h
          simp only [Prod.mk.injEq] at h
          exact absurd h.2.2 h3
      · rw [valB_else l x p hr h1 h2] at h
        simp at h
  · rw [valB_err l x e p hr he] at h
    simp only [Prod.mk.injEq] at h
    exact absurd h.2.2 he

/-- Key, Gone, Kind, N, S, as the program holds them. -/
def unR (r : List UInt8 × Bool × Int × Int × List UInt8) : RecT := (str r.1, r.2.1, r.2.2.1, r.2.2.2.1, str r.2.2.2.2)
def mayT (x : RecT) : Bool := mayRec x.1 x.2.1 x.2.2.1 x.2.2.2.1 x.2.2.2.2
def recT (x : RecT) : List UInt8 := recB (bl x.1) x.2.1 x.2.2.1 x.2.2.2.1 (bl x.2.2.2.2)

theorem bounds_wf {n : Int} (h0 : -9223372036854775808 ≤ n) (h1 : n ≤ 9223372036854775807) : (Lit.int .i64 n).wf = true := by
  have : n = wrap64 n := by unfold wrap64; omega
  rw [this]
  exact wrap64_wf _
theorem readB_canon {l : List UInt8} {r : List UInt8 × Bool × Int × Int × List UInt8} {m : Nat} (h : readB l = (r, m, 0)) :
    mayT (unR r) = true ∧ RecOk (unR r) ∧ l = recT (unR r) ++ l.drop m ∧ m ≤ l.length := by
  rcases hr : textB l with ⟨key, p, e⟩
  by_cases he : e = 0
  · subst he
    have c1 := (textB_canon hr).2
    have f1 := textB_fits l
    rw [hr] at f1
    simp only [] at f1
    cases hk : mayK (str key) with
    | false =>
      rw [readB_e2 hr hk] at h
      simp [rdErr] at h
    | true =>
      have hk16 : (str key).size ≤ 16 := by
        have h1 := hk
        unfold mayK at h1
        rw [Bool.and_eq_true, decide_eq_true_eq, decide_eq_true_eq] at h1
        exact h1.2
      rcases hg : getB (l.drop p) with ⟨x, q, e2⟩
      have f2 := getB_fits (l.drop p)
      rw [hg] at f2
      simp only [List.length_drop] at f2
      by_cases h2 : e2 = 0
      · subst h2
        by_cases hx : x = 0
        · subst hx
          rw [readB_gone hr hk hg] at h
          simp only [Prod.mk.injEq, and_true] at h
          obtain ⟨rfl, rfl⟩ := h
          have c2 := (getB_canon hg).2
          refine ⟨?_, ⟨?_, (show (Lit.int .i64 0).wf = true by decide), (show (Lit.int .i64 0).wf = true by decide), ?_⟩, ?_, by omega⟩
          · show mayRec (str key) true 0 0 (str []) = true
            unfold mayRec
            rw [hk]
            simp [str, ByteArray.toList_eq]
          · show (str key).size ≤ maxLen
            unfold maxLen; omega
          · show (str []).size ≤ maxLen
            rw [str_size]; unfold maxLen; simp
          · show l = recB (bl (str key)) true 0 0 (bl (str [])) ++ _
            rw [bl_str, bl_str]
            have e1 : recB key true 0 0 [] = putT key ++ uvarint (zigzag 0) := rfl
            rw [e1, List.append_assoc, ← List.drop_drop, ← c2]
            exact c1
        · rcases hv : valB (l.drop p) with ⟨v, u, e3⟩
          have f3 := valB_fits (l.drop p)
          rw [hv] at f3
          simp only [List.length_drop] at f3
          by_cases h3 : e3 = 0
          · subst h3
            rw [readB_ok hr hk hg hx hv] at h
            simp only [Prod.mk.injEq, and_true] at h
            obtain ⟨rfl, rfl⟩ := h
            obtain ⟨vk, vn, vs⟩ := v
            obtain ⟨c2, c3, c4⟩ := valB_canon hv
            have hkb : -9223372036854775808 ≤ vk ∧ vk ≤ 9223372036854775807 := by
              rcases mayR_cases c2 with ⟨h, -⟩ | ⟨h, -⟩ <;> omega
            refine ⟨?_, ⟨?_, bounds_wf hkb.1 hkb.2, bounds_wf c3.1 c3.2, ?_⟩, ?_, by omega⟩
            · show mayRec (str key) false vk vn (str vs) = true
              unfold mayRec
              rw [hk]
              simpa using c2
            · show (str key).size ≤ maxLen
              unfold maxLen; omega
            · show (str vs).size ≤ maxLen
              rw [str_size]
              rcases mayR_cases c2 with ⟨-, h⟩ | ⟨-, -, h⟩
              · subst h; unfold maxLen; simp
              · unfold maxLen; omega
            · show l = recB (bl (str key)) false vk vn (bl (str vs)) ++ _
              rw [bl_str, bl_str]
              have e1 : recB key false vk vn vs = putT key ++ putV vk vn vs := rfl
              rw [e1, List.append_assoc, ← List.drop_drop, ← c4]
              exact c1
          · rw [readB_e4 hr hk hg hx hv h3] at h
            simp only [rdErr, Prod.mk.injEq] at h
            exact absurd h.2.2 h3
      · rw [readB_e3 hr hk hg h2] at h
        simp only [rdErr, Prod.mk.injEq] at h
        exact absurd h.2.2 h2
  · rw [readB_e1 hr he] at h
    simp only [rdErr, Prod.mk.injEq] at h
    exact absurd h.2.2 he

theorem recOk_n {x : RecT} (h : RecOk x) : -9223372036854775808 ≤ x.2.2.2.1 ∧ x.2.2.2.1 ≤ 9223372036854775807 := by
  have := bounds_i64 h.2.2.1
  omega
theorem recOk_k {x : RecT} (h : RecOk x) : -9223372036854775808 ≤ x.2.2.1 ∧ x.2.2.1 ≤ 9223372036854775807 := by
  have := bounds_i64 h.2.1
  omega
/-- What may be is short. -/
theorem mayT_short {x : RecT} (h : mayT x = true) : x.1.size ≤ 16 ∧ x.2.2.2.2.size ≤ 24 := by
  obtain ⟨key, gone, k, n, s⟩ := x
  refine ⟨(mayRec_key h).2, ?_⟩
  show s.size ≤ 24
  rw [← str_bl s] at h ⊢
  rw [str_size]
  cases gone with
  | true =>
    have h : mayRec key true k n (str (bl s)) = true := h
    have := (mayRec_gone h).2.2
    rw [this]; simp
  | false =>
    have h : mayRec key false k n (str (bl s)) = true := h
    rcases mayR_cases (mayRec_val h) with ⟨-, h⟩ | ⟨-, -, h⟩
    · rw [h]; simp
    · exact h
theorem readT_put {x : RecT} (h : mayT x = true) (hok : RecOk x) (r : List UInt8) : ∃ y, readB (recT x ++ r) = (y, (recT x).length, 0) ∧ unR y = x := by
  obtain ⟨key, gone, k, n, s⟩ := x
  obtain ⟨h0, h1⟩ := recOk_n hok
  have := readB_put (bl key) gone k n (bl s) r (by rw [str_bl, str_bl]; exact h) h0 h1
  exact ⟨_, this, by unfold unR; simp only [str_bl]⟩
theorem recT_len {x : RecT} (h : mayT x = true) (hok : RecOk x) : 2 ≤ (recT x).length ∧ (recT x).length ≤ 200 := by
  obtain ⟨key, gone, k, n, s⟩ := x
  obtain ⟨h0, h1⟩ := recOk_n hok
  exact recB_len (key := bl key) (s := bl s) (by rw [str_bl, str_bl]; exact h) h0 h1

/-! ### Rows. -/
def rowC (l : List RecT) : List UInt8 := l.flatMap recT
def rowB (l : List RecT) : List UInt8 := uvarint (zigzag (l.length : Int)) ++ rowC l
def mayRow (l : List RecT) : Bool := decide (l.length ≤ 1000) && l.all mayT
/-- A row's bytes; none of one that may not be. -/
def rowE (l : List RecT) : List UInt8 := if mayRow l then rowB l else []
theorem rowC_snoc (l : List RecT) (x : RecT) : rowC (l ++ [x]) = rowC l ++ recT x := by simp [rowC]
theorem rowC_cons (l : List RecT) (x : RecT) : rowC (x :: l) = recT x ++ rowC l := by simp [rowC]
theorem mayRow_iff {l : List RecT} : mayRow l = true ↔ l.length ≤ 1000 ∧ ∀ x ∈ l, mayT x = true := by
  unfold mayRow
  rw [Bool.and_eq_true, decide_eq_true_eq, List.all_eq_true]
theorem rowC_len (l : List RecT) (h : ∀ x ∈ l, mayT x = true) (hok : ∀ x ∈ l, RecOk x) : (rowC l).length ≤ 200 * l.length := by
  induction l with
  | nil => simp [rowC]
  | cons x t ih =>
    have h1 := (recT_len (h x (List.mem_cons_self ..)) (hok x (List.mem_cons_self ..))).2
    have h2 := ih (fun y hy => h y (List.mem_cons_of_mem _ hy)) (fun y hy => hok y (List.mem_cons_of_mem _ hy))
    rw [rowC_cons, List.length_append, List.length_cons]
    omega
theorem headL (n : Nat) (h : n ≤ 1000000) : (uvarint (zigzag (n : Int))).length ≤ 10 ∧ 1 ≤ (uvarint (zigzag (n : Int))).length :=
  ⟨Go.Lib.uvarint_length64 (Go.Lib.zigzag_lt (by omega) (by omega)), Go.Lib.uvarint_pos _⟩

/-- k records, one behind the other, and what stands behind them. -/
def seqD : Nat → List UInt8 → Option (List RecT × List UInt8)
  | 0, b => some ([], b)
  | k + 1, b => match seqD k b with
    | none => none
    | some (L, r) => if (readB r).2.2 = 0 then some (L ++ [unR (readB r).1], r.drop (readB r).2.1) else none
def rowD (b : List UInt8) : Option (List RecT) :=
  if (getB b).2.2 ≠ 0 ∨ (getB b).1 < 0 ∨ 1000 < (getB b).1 then none
  else match seqD (getB b).1.toNat (b.drop (getB b).2.1) with
    | some (L, []) => some L
    | _ => none

theorem seqD_none {k : Nat} {b : List UInt8} (h : seqD k b = none) : ∀ j, seqD (k + j) b = none
  | 0 => h
  | j + 1 => by
    show seqD (k + j + 1) b = none
    rw [seqD, seqD_none h j]
theorem seqD_ok : ∀ (k : Nat) (b : List UInt8) (L : List RecT) (r : List UInt8), seqD k b = some (L, r) → L.length = k ∧ (∀ x ∈ L, mayT x = true ∧ RecOk x) ∧ b = rowC L ++ r
  | 0, b, L, r, h => by
    simp only [seqD, Option.some.injEq, Prod.mk.injEq] at h
    obtain ⟨rfl, rfl⟩ := h
    exact ⟨rfl, (fun x hx => by cases hx), by simp [rowC]⟩
  | k + 1, b, L, r, h => by
    rw [seqD] at h
    cases hs : seqD k b with
    | none => rw [hs] at h; simp at h
    | some y =>
      obtain ⟨M, q⟩ := y
      rw [hs] at h
      simp only [] at h
      obtain ⟨h1, h2, h3⟩ := seqD_ok k b M q hs
      rcases hr : readB q with ⟨y, m, e⟩
      rw [hr] at h
      simp only [] at h
      by_cases he : e = 0
      · subst he
        rw [if_pos rfl] at h
        simp only [Option.some.injEq, Prod.mk.injEq] at h
        obtain ⟨rfl, rfl⟩ := h
        obtain ⟨c1, c2, c3, -⟩ := readB_canon hr
        refine ⟨by simp [h1], ?_, ?_⟩
        · intro x hx
          rcases List.mem_append.1 hx with hx | hx
          · exact h2 x hx
          · rw [List.mem_singleton.1 hx]; exact ⟨c1, c2⟩
        · rw [rowC_snoc, List.append_assoc, ← c3]
          exact h3
      · rw [if_neg he] at h
        cases h
theorem rowD_ok {b : List UInt8} {l : List RecT} (h : rowD b = some l) : mayRow l = true ∧ (∀ x ∈ l, RecOk x) ∧ rowB l = b := by
  unfold rowD at h
  rcases hr : getB b with ⟨x, p, e⟩
  rw [hr] at h
  simp only [] at h
  split at h
  · cases h
  · rename_i hc
    simp only [not_or, ne_eq, Classical.not_not] at hc
    obtain ⟨rfl, h0, h1⟩ := hc
    cases hs : seqD x.toNat (b.drop p) with
    | none => rw [hs] at h; simp at h
    | some y =>
      obtain ⟨L, r⟩ := y
      rw [hs] at h
      cases r with
      | cons c t => simp at h
      | nil =>
        simp only [Option.some.injEq] at h
        subst h
        obtain ⟨c1, c2, c3⟩ := seqD_ok _ _ _ _ hs
        refine ⟨mayRow_iff.2 ⟨by omega, fun x hx => (c2 x hx).1⟩, fun x hx => (c2 x hx).2, ?_⟩
        have c4 := (getB_canon hr).2
        unfold rowB
        rw [c1, show ((x.toNat : Nat) : Int) = x by omega]
        rw [List.append_nil] at c3
        rw [← c3]
        exact c4.symm
theorem seqD_put (l : List RecT) (r : List UInt8) (h : ∀ x ∈ l, mayT x = true) (hok : ∀ x ∈ l, RecOk x) : ∀ k, k ≤ l.length → seqD k (rowC l ++ r) = some (l.take k, rowC (l.drop k) ++ r)
  | 0, _ => by simp [seqD]
  | k + 1, hk => by
    rw [seqD, seqD_put l r h hok k (by omega)]
    simp only []
    have hm := List.getElem_mem (show k < l.length by omega)
    obtain ⟨y, hy, hu⟩ := readT_put (h _ hm) (hok _ hm) (rowC (l.drop (k + 1)) ++ r)
    have e1 : rowC (l.drop k) ++ r = recT l[k] ++ (rowC (l.drop (k + 1)) ++ r) := by
      rw [List.drop_eq_getElem_cons (show k < l.length by omega), rowC_cons, List.append_assoc]
    rw [e1, hy]
    simp only [if_true, List.drop_left]
    rw [hu, List.take_succ_eq_append_getElem (show k < l.length by omega)]
theorem rowD_put {l : List RecT} (h : mayRow l = true) (hok : ∀ x ∈ l, RecOk x) : rowD (rowB l) = some l := by
  obtain ⟨h1, h2⟩ := mayRow_iff.1 h
  have g := getB_put (l.length : Int) (by omega) (by omega) (rowC l)
  have s := seqD_put l [] h2 hok l.length (Nat.le_refl _)
  rw [List.take_length, List.drop_length, List.append_nil] at s
  unfold rowD rowB
  rw [g]
  simp only [List.drop_left, Int.toNat_natCast]
  rw [if_neg (by omega), s]
  rfl
theorem rowB_inj {l m : List RecT} (h : mayRow l = true) (hok : ∀ x ∈ l, RecOk x) (g : mayRow m = true) (gok : ∀ x ∈ m, RecOk x) (e : rowB l = rowB m) : l = m := by
  have a := rowD_put h hok
  rw [e, rowD_put g gok] at a
  exact (Option.some.inj a).symm
theorem rowB_ne (l : List RecT) : rowB l ≠ [] := by
  intro h
  have := Go.Lib.uvarint_pos (zigzag (l.length : Int))
  have h2 := congrArg List.length h
  unfold rowB at h2
  rw [List.length_append, List.length_nil] at h2
  omega
theorem rowE_len {l : List RecT} (hok : ∀ x ∈ l, RecOk x) : (rowE l).length ≤ 200010 := by
  unfold rowE
  split
  · rename_i h
    obtain ⟨h1, h2⟩ := mayRow_iff.1 h
    have e1 := (headL l.length (by omega)).1
    have e2 := rowC_len l h2 hok
    unfold rowB
    rw [List.length_append]
    omega
  · simp

end Go.Proofs.Ytoaiogfeffnlcaa
