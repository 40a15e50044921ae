/-
  Stage 22: a record more ahead of some: mathematics of SortedOne.
  Slices of records: cut, kept beside a row that is stored.
-/
import Derived.Test.YtibbligidncocaaM48
import Derived.Test.YtibbligidncocaaM17
namespace Go.Proofs.Ytibbligidncocaa
open Go.RowKit

theorem rrec_of1 {w : World} {v : Value} {l : List RecT} (h : RS w v l) (hok : ∀ x ∈ l, RecOk x) : RRec w v l := by
  obtain ⟨a, cap, hv, h1, h2, h3, h5⟩ := h
  exact ⟨a, cap, hv, h1, h2, h3, hok, h5⟩
theorem ownrec_one (w : World) (k : ByteArray) (g : Bool) (a n : Int) (s : ByteArray) : OwnRec (w.alloc (.cells #[.string k, .bool g, .int .i64 a, .int .i64 n, .string s] 39)) w.heap.size (.slice (some ⟨w.heap.size, 0, none⟩) 1 1) [(k, g, a, n, s)] :=
  ⟨rfl, .inr ⟨w.heap.size, 1, _, rfl, Nat.le_refl _, heap_alloc_new w _, Nat.le_refl _, by simp [maxLen], rfl, rfl⟩⟩
theorem firsts_cons {x : RecT} {A : List RecT} (y : RecT) : y ∈ firstsK kf (x :: A) ↔ y = x ∨ (y ∈ firstsK kf A ∧ kf y ≠ kf x) := by
  constructor
  · intro h
    obtain ⟨a, b, he, hn⟩ := firstsK_mem kf _ y h
    cases a with
    | nil =>
      rw [List.nil_append] at he
      exact .inl (List.cons.inj he).1.symm
    | cons z a =>
      rw [List.cons_append] at he
      obtain ⟨rfl, rfl⟩ := List.cons.inj he
      exact .inr ⟨firstsK_of kf fun u hu => hn u (List.mem_cons_of_mem _ hu), fun e => hn _ (by simp) e.symm⟩
  · rintro (rfl | ⟨h, hne⟩)
    · exact firstsK_of (a := []) kf fun u hu => by cases hu
    · obtain ⟨a, b, rfl, hn⟩ := firstsK_mem kf _ y h
      exact firstsK_of (a := x :: a) kf fun u hu => by
        rcases List.mem_cons.1 hu with rfl | hu
        · exact fun e => hne e.symm
        · exact hn u hu
theorem sort_ne {P : List RecT} (h : mayP P = true) : P.Pairwise (· ≠ ·) := (mayP_sort.1 h).1.imp fun {a b} h => by
  have h' := lessK_ne h
  exact fun e => h' (by rw [e])
theorem sort_keys {P : List RecT} (h : mayP P = true) : (P.map kf).Pairwise (· ≠ ·) := List.pairwise_map.2 ((mayP_sort.1 h).1.imp fun {_a _b} h => lessK_ne h)
theorem cut_key {r : RecT} (h : mayX (cutR r) = true) : (cutR r).1 = r.1 := by
  have h1 := (mayX_sizes h).1
  have h2 : (cutR r).1 = str ((bl r.1).take 20) := rfl
  rw [h2] at h1 ⊢
  rw [str_size, List.length_take] at h1
  rw [List.take_of_length_le (by omega), str_bl]
/-- A record more turns one key at most. -/
theorem one_pairs {l : List RecT} {r : RecT} {P Q : List RecT} (hl : l.length ≤ 25) (hP : PairsP P l) (hQ : PairsP Q (r :: l)) :
    (Q.length = P.length ∨ Q.length = P.length + 1) ∧ ∀ y ∈ Q, y.1 = r.1 ∨ y ∈ P := by
  have mP := hP.mem
  have mQ := hQ.mem
  rw [List.take_of_length_le (by omega)] at mP
  rw [List.take_of_length_le (by rw [List.length_cons]; omega), List.map_cons] at mQ
  have nP := sort_ne hP.may
  have nQ := sort_ne hQ.may
  by_cases hk : keepX (cutR r) = true
  · have e : keepL (cutR r :: l.map cutR) = cutR r :: keepL (l.map cutR) := by
      unfold keepL
      rw [List.filter_cons_of_pos hk]
    rw [e] at mQ
    have hmx : mayX (cutR r) = true := by
      unfold keepX at hk
      exact (Bool.and_eq_true _ _ ▸ hk).2
    have hkey := cut_key hmx
    have hin : ∀ y ∈ Q, y = cutR r ∨ y ∈ P := fun y hy => by
      rcases (firsts_cons y).1 ((mQ y).1 hy) with h | ⟨h, -⟩
      · exact .inl h
      · exact .inr ((mP y).2 h)
    refine ⟨?_, fun y hy => ?_⟩
    · have h1 := pair_len (cutR r :: P) nQ fun y hy => by
        rcases hin y hy with h | h
        · rw [h]; simp
        · exact List.mem_cons_of_mem _ h
      have h2 := pair_len (Q.map kf) (sort_keys hP.may) fun k hk => by
        obtain ⟨y, hy, rfl⟩ := List.mem_map.1 hk
        by_cases he : kf y = kf (cutR r)
        · exact List.mem_map.2 ⟨cutR r, (mQ _).2 ((firsts_cons _).2 (.inl rfl)), he.symm⟩
        · exact List.mem_map.2 ⟨y, (mQ _).2 ((firsts_cons _).2 (.inr ⟨(mP y).1 hy, he⟩)), rfl⟩
      rw [List.length_cons] at h1
      rw [List.length_map, List.length_map] at h2
      omega
    · rcases hin y hy with h | h
      · exact .inl (by rw [h, hkey])
      · exact .inr h
  · have e : keepL (cutR r :: l.map cutR) = keepL (l.map cutR) := by
      unfold keepL
      rw [List.filter_cons_of_neg hk]
    rw [e] at mQ
    have h1 := pair_len P nQ fun y hy => (mP y).2 ((mQ y).1 hy)
    have h2 := pair_len Q nP fun y hy => (mQ y).2 ((mP y).1 hy)
    exact ⟨.inl (by omega), fun y hy => .inr ((mP y).2 ((mQ y).1 hy))⟩
end Go.Proofs.Ytibbligidncocaa

namespace Go.Proofs.Ytibbligidncocaa
open Go.RowKit

/-- A piece of what reads as l reads as that piece. -/
theorem RS.cut {w : World} {a : Option Addr} {len cap : Nat} {l : List RecT} (h : RS w (.slice a len cap) l) (i j : Nat) (hij : i ≤ j) (hj : j ≤ l.length) : RS w (sliced a i j cap 5) ((l.take j).drop i) := by
  obtain ⟨a', cap', hv, h1, h2, h3, h4⟩ := h
  cases hv
  have hlen : ((l.take j).drop i).length = j - i := by simp; omega
  unfold sliced
  refine ⟨_, cap - i, by rw [hlen], by rw [hlen]; omega, by omega, ?_, fun hne => ?_⟩
  · intro hn
    by_cases hc : cap = i
    · omega
    · rw [if_neg hc] at hn
      have := h3 (by simpa using hn)
      omega
  · have hji : i < j := by
      rcases Nat.lt_or_ge i j with h | h
      · exact h
      · exact absurd (List.eq_nil_of_length_eq_zero (by rw [hlen]; omega)) hne
    have hl : l ≠ [] := by intro e; subst e; simp at hj; omega
    obtain ⟨b, o, rfl, hc⟩ := h4 hl
    refine ⟨b, o + i * 5, ?_, fun q hq => ?_⟩
    · rw [if_neg (by omega)]
      have hadd : (⟨b, o, none⟩ : Addr).add (i * 5) = ⟨b, o + i * 5, none⟩ := by unfold Addr.add; split <;> simp_all
      simpa using hadd
    · rw [hlen] at hq
      have hc := hc (i + q) (by omega)
      have e : ((l.take j).drop i)[q] = l[i + q] := by simp
      rw [e, show o + i * 5 + q * 5 = o + (i + q) * 5 by omega]
      exact hc
theorem sizeR (W : World) : (sizeOf (Try.prog.elem 22)).run Try.prog W = .ok 5 W := by
  obtain ⟨i, hi, -, hsize, -⟩ := info_parts info5
  have he : Try.prog.elem 22 = 39 := by kernel_rfl
  rw [he]
  simp [sizeOf, typeInfo, hi, hsize]
theorem elemR : Try.prog.underlying 22 = some (.slice (Try.prog.elem 22)) := by
  have he : Try.prog.elem 22 = 39 := by kernel_rfl
  rw [he]; exact Try.underlying22
theorem RS.len {w : World} {a : Option Addr} {len cap : Nat} {l : List RecT} (h : RS w (.slice a len cap) l) : len = l.length ∧ len ≤ cap ∧ cap ≤ maxLen := by
  obtain ⟨a', cap', hv, h1, h2, -⟩ := h
  cases hv
  exact ⟨rfl, h1, h2⟩
/-- 'l[:n]', in whatever world. -/
theorem RS.run_h {w : World} {a : Option Addr} {len cap : Nat} {l : List RecT} (h : RS w (.slice a len cap) l) (n : Nat) (hn : n ≤ l.length) (k : IntKind) :
    ∃ v, (∀ W, RS W (.slice a len cap) l → RS W v (l.take n)) ∧ ∀ W, (Instr.slice 22 (.slice a len cap) none (some (.int k (n : Int))) none).run Try.prog W = .ok v W := by
  obtain ⟨h1, h2, h3⟩ := h.len
  refine ⟨sliced a 0 n cap 5, fun W hW => ?_, fun W => ?_⟩
  · have hc := hW.cut 0 n (by omega) hn
    rw [List.drop_zero] at hc
    exact hc
  · have hr := run_slice_h (P := Try.prog) W 22 a len cap elemR k (n : Int) (by omega) (by omega)
    rw [sizeR] at hr
    simpa [Result.andThen] using hr
/-- 'l[n:]', in whatever world. -/
theorem RS.run_l {w : World} {a : Option Addr} {len cap : Nat} {l : List RecT} (h : RS w (.slice a len cap) l) (n : Nat) (hn : n ≤ l.length) (k : IntKind) :
    ∃ v, (∀ W, RS W (.slice a len cap) l → RS W v (l.drop n)) ∧ ∀ W, (Instr.slice 22 (.slice a len cap) (some (.int k (n : Int))) none none).run Try.prog W = .ok v W := by
  obtain ⟨h1, h2, h3⟩ := h.len
  refine ⟨sliced a n len cap 5, fun W hW => ?_, fun W => ?_⟩
  · have hc := hW.cut n l.length (by omega) (Nat.le_refl _)
    rw [List.take_of_length_le (Nat.le_refl _), ← h1] at hc
    exact hc
  · have hr := run_slice_l (P := Try.prog) W 22 a len cap elemR k (n : Int) (by omega) (by omega)
    rw [sizeR] at hr
    simpa [Result.andThen] using hr

theorem OwnRec.setRow {w : World} {B : Nat} {v : Value} {l : List RecT} (h : OwnRec w B v l) {g : Nat} (hg : g < B) (cs : Array Value) : OwnRec (w.setRow g cs) B v l := by
  refine ⟨h.1, ?_⟩
  rcases h.2 with h' | ⟨q, cap, cur, h1, hB, h2, h3⟩
  · exact .inl h'
  · exact .inr ⟨q, cap, cur, h1, hB, (setRow_other _ _ _ _ (by omega)).trans h2, h3⟩
theorem RS.one' (w : World) (k : ByteArray) (g : Bool) (a b : Int) (s : ByteArray) : RS (w.alloc (.cells #[.string k, .bool g, .int .i64 a, .int .i64 b, .string s] 39)) (.slice (some ⟨w.heap.size, 0, none⟩) 1 1) [(k, g, a, b, s)] := RS.one w (k, g, a, b, s)

end Go.Proofs.Ytibbligidncocaa
