/-
  Stage 22: keys of one hash are told apart by themselves: mathematics of SortedSame.
  A slice of structs of whatever kind as an argument.
  Stage 22: a slice of pairs as an argument.
-/
import Derived.Test.YtibbligidncocaaM48
import Derived.Test.YtibbligidncocaaM49
import Derived.Test.YtibbligidncocaaM15
import Derived.Lib.SmallJoins
import Derived.Deep.Slices
import Derived.Deep.Fields
import Derived.ChangeSame
import Derived.Test.YtibbligidncocaaM16
namespace Go.Proofs.Ytibbligidncocaa
open Go.RowKit

def nm3 (i : Nat) : List UInt8 := [UInt8.ofNat (248 + i % 8), UInt8.ofNat (248 + i / 8)]
theorem nm3_size (i : Nat) : (str (nm3 i)).size = 2 := str_size _
theorem nm3_inj : ∀ j k : Fin 24, nm3 j.val = nm3 k.val → j = k := by decide
theorem nm3_not : ∀ j : Fin 24, nm3 j.val ≠ [192, 192] := by decide
/-- The i-th key. -/
def keyT (s : ByteArray) (i : Nat) : ByteArray := s ++ str (nm3 i)
theorem keyT_size (s : ByteArray) (i : Nat) : (keyT s i).size = s.size + 2 := by unfold keyT; rw [ByteArray.size_append, nm3_size]
theorem bl_more (s : ByteArray) (l : List UInt8) : bl (s ++ str l) = bl s ++ l := by
  unfold bl str
  rw [ByteArray.data_append, Array.toList_append]
theorem keyT_bl (s : ByteArray) (i : Nat) : bl (keyT s i) = bl s ++ nm3 i := bl_more s _
theorem keyT_inj {s : ByteArray} {i j : Nat} (hi : i < 24) (hj : j < 24) (h : keyT s i = keyT s j) : i = j := by
  have h1 := congrArg bl h
  rw [keyT_bl, keyT_bl] at h1
  have h2 := List.append_cancel_left h1
  simpa using congrArg Fin.val (nm3_inj ⟨i, hi⟩ ⟨j, hj⟩ h2)
theorem keyT_not {s : ByteArray} {i : Nat} (hi : i < 24) : keyT s i ≠ s ++ str [192, 192] := fun h => by
  have h1 := congrArg bl h
  rw [keyT_bl, bl_more] at h1
  exact nm3_not ⟨i, hi⟩ (List.append_cancel_left h1)
theorem never_hi3 (k : Nat) (h : k < 8) : never (UInt8.ofNat (248 + k)) := .inl (by rw [UInt8.toNat_ofNat']; omega)
theorem keyT_hash (s : ByteArray) {i : Nat} (hi : i < 24) : hashS (keyT s i) = hashS (keyT s 0) := by
  unfold hashS
  rw [keyT_bl, keyT_bl]
  refine congrArg hashN ?_
  unfold nm3
  have e1 := runes_never (never_hi3 (i % 8) (by omega)) (never_hi3 0 (by omega)) [UInt8.ofNat (248 + i / 8)] _ (bl s) (Nat.le_refl _)
  have e2 := runes_never (never_hi3 (i / 8) (by omega)) (never_hi3 0 (by omega)) [] _ (bl s ++ [UInt8.ofNat (248 + 0)]) (Nat.le_refl _)
  rw [List.append_assoc, List.append_assoc] at e2
  exact e1.trans e2
/-- The records. -/
def recT3 (s : ByteArray) (i : Nat) : RecT := (keyT s i, false, 1, (i : Int), ⟨#[]⟩)
def tL (s : ByteArray) (m : Nat) : List RecT := (List.range m).map (recT3 s)
theorem tL_len (s : ByteArray) (m : Nat) : (tL s m).length = m := by simp [tL]
theorem tL_succ (s : ByteArray) (m : Nat) : tL s (m + 1) = tL s m ++ [recT3 s m] := by simp [tL, List.range_succ]
theorem tL_at (s : ByteArray) (m i : Nat) (h : i < (tL s m).length) : (tL s m)[i] = recT3 s i := by simp [tL]
theorem tL_mem {s : ByteArray} {m : Nat} {x : RecT} : x ∈ tL s m ↔ ∃ i, i < m ∧ x = recT3 s i := by
  unfold tL
  rw [List.mem_map]
  exact ⟨fun ⟨i, h1, h2⟩ => ⟨i, List.mem_range.1 h1, h2.symm⟩, fun ⟨i, h1, h2⟩ => ⟨i, List.mem_range.2 h1, h2.symm⟩⟩
theorem tL_keys (s : ByteArray) {m : Nat} (hm : m ≤ 24) : (tL s m).Pairwise fun a b => kf a ≠ kf b := by
  unfold tL
  refine List.pairwise_map.2 ((List.nodup_range (n := m)).imp_of_mem ?_)
  intro i j hi hj hne e
  exact hne (keyT_inj (s := s) (by have := List.mem_range.1 hi; omega) (by have := List.mem_range.1 hj; omega) e)
theorem firsts_distinct {l : List RecT} (h : l.Pairwise fun a b => kf a ≠ kf b) (x : RecT) : x ∈ firstsK kf l ↔ x ∈ l := by
  refine ⟨fun hx => (firstsK_facts kf l).2.1 x hx, fun hx => ?_⟩
  obtain ⟨a, b, rfl⟩ := List.append_of_mem hx
  rw [List.pairwise_append] at h
  exact firstsK_of kf fun y hy => h.2.2 y hy x (by simp)
theorem cut_short {x : RecT} (h1 : x.1.size ≤ 20) (h2 : x.2.2.2.2.size ≤ 30) : cutR x = x := by
  obtain ⟨k, g, a, n, s⟩ := x
  have e : ∀ (b : ByteArray) (m : Nat), b.size ≤ m → str ((bl b).take m) = b := fun b m hb => by
    rw [List.take_of_length_le (by unfold bl; rw [Array.length_toList]; exact hb)]
    rfl
  unfold cutR
  simp only [] at h1 h2 ⊢
  rw [e k 20 h1, e s 30 h2]
theorem recT3_may {s : ByteArray} (hs : s.size ≤ 12) (i : Nat) : mayX (recT3 s i) = true := by
  have h1 := keyT_size s i
  unfold mayX recT3 mayK mayR
  simp only [Bool.and_eq_true, if_true]
  refine ⟨?_, by rw [ByteArray.toList_eq]; rfl⟩
  simp only [decide_eq_true_eq]
  omega
theorem tL_pairs {s : ByteArray} (hs : s.size ≤ 12) {n : Nat} (hn : n ≤ 20) {P : List RecT} (h : PairsP P (tL s n)) : ∀ x, x ∈ P ↔ x ∈ tL s n := by
  intro x
  have e1 : ((tL s n).take 30).map cutR = tL s n := by
    rw [List.take_of_length_le (by rw [tL_len]; omega)]
    refine (List.map_congr_left fun y hy => ?_).trans (List.map_id _)
    obtain ⟨i, -, rfl⟩ := tL_mem.1 hy
    exact cut_short (by show (keyT s i).size ≤ 20; rw [keyT_size]; omega) (by show (⟨#[]⟩ : ByteArray).size ≤ 30; decide)
  have e2 : keepL (tL s n) = tL s n := by
    unfold keepL
    rw [List.filter_eq_self]
    intro y hy
    obtain ⟨i, -, rfl⟩ := tL_mem.1 hy
    unfold keepX
    rw [recT3_may hs]
    rfl
  rw [h.mem x, e1, e2]
  exact firsts_distinct (tL_keys s (by omega)) x
theorem tL_plen {s : ByteArray} (hs : s.size ≤ 12) {n : Nat} (hn : n ≤ 20) {P : List RecT} (h : PairsP P (tL s n)) : P.length = n := by
  have hm := tL_pairs hs hn h
  have h1 : P.Pairwise (· ≠ ·) := (mayP_sort.1 h.may).1.imp fun {a b} h => by
    have h' := lessK_ne h
    exact fun e => h' (by rw [e])
  have h2 : (tL s n).Pairwise (· ≠ ·) := (tL_keys s (by omega)).imp fun {a b} h => by
    exact fun e => h (by rw [e])
  have h3 := pair_len _ h1 fun x hx => (hm x).1 hx
  have h4 := pair_len _ h2 fun x hx => (hm x).2 hx
  rw [tL_len] at h3 h4
  omega
theorem tL_find {s : ByteArray} (hs : s.size ≤ 12) {n : Nat} (hn : n ≤ 20) {P : List RecT} (h : PairsP P (tL s n)) {i : Nat} (hi : i < n) : findK keyR P (keyT s i).toList = some (recT3 s i) :=
  mayP_find h.may (x := recT3 s i) ((tL_pairs hs hn h _).2 (tL_mem.2 ⟨i, hi, rfl⟩))
theorem tL_none {s : ByteArray} (hs : s.size ≤ 12) {n : Nat} (hn : n ≤ 20) {P : List RecT} (h : PairsP P (tL s n)) : findK keyR P (s ++ str [192, 192]).toList = none := (find_none _).2 fun x hx e => by
  obtain ⟨i, hi, rfl⟩ := tL_mem.1 ((tL_pairs hs hn h x).1 hx)
  exact keyT_not (by omega) (keyR_eq.1 e)
/-- One hash: whatever is asked leads to all. -/
theorem one_reads {P : List RecT} {h0 : Nat} (hm : mayP P = true) (hne : P ≠ []) (hh : ∀ x ∈ P, hR x = h0) (h : Nat) : sreadsK P h = P.length := by
  obtain ⟨g1, g2, -⟩ := hashesG_rise hR P (mayP_rise hm)
  have h1 : hashesG hR P = [h0] := by
    cases hl : hashesG hR P with
    | nil =>
      obtain ⟨x, hx⟩ := List.exists_mem_of_ne_nil P hne
      have := (g2 (hR x)).2 ⟨x, hx, rfl⟩
      rw [hl] at this
      cases this
    | cons a t =>
      rw [hl] at g1 g2
      have ha : a = h0 := by
        obtain ⟨x, hx, e⟩ := (g2 a).1 (by simp)
        rw [← e, hh x hx]
      subst ha
      cases t with
      | nil => rfl
      | cons b t =>
        obtain ⟨x, hx, e⟩ := (g2 b).1 (by simp)
        rw [hh x hx] at e
        rw [List.pairwise_cons] at g1
        have := g1.1 b (by simp)
        omega
  unfold sreadsK
  rw [h1]
  have e : rankB (treeL 64 [h0]) h 64 0 [h0].length 0 = some 0 := by
    rw [rankB_fork]
    rfl
  rw [e]
  simp only []
  rw [List.countP_eq_length]
  intro x hx
  rw [hh x hx]
  simp
theorem tL_reads {s : ByteArray} (hs : s.size ≤ 12) {n : Nat} (hn1 : 1 ≤ n) (hn : n ≤ 20) {P : List RecT} (h : PairsP P (tL s n)) (k : Nat) : sreadsK P k = n := by
  have hl := tL_plen hs hn h
  rw [one_reads (h0 := hashS (keyT s 0)) h.may (fun e => by rw [e] at hl; simp at hl; omega) (fun x hx => ?_) k, hl]
  obtain ⟨i, hi, rfl⟩ := tL_mem.1 ((tL_pairs hs hn h x).1 hx)
  exact keyT_hash s (by omega)
theorem rrec_of {w : World} {v : Value} {l : List RecT} (h : RS w v l) (hok : ∀ x ∈ l, RecOk x) : RRec w v l := by
  obtain ⟨a, cap, hv, h1, h2, h3, h5⟩ := h
  exact ⟨a, cap, hv, h1, h2, h3, hok, h5⟩
theorem tL_ok {s : ByteArray} (hs : s.size ≤ 12) (n : Nat) (hn : n ≤ 24) : ∀ x ∈ tL s n, RecOk x := fun x hx => by
  obtain ⟨i, hi, rfl⟩ := tL_mem.1 hx
  refine ⟨by show (keyT s i).size ≤ maxLen; rw [keyT_size]; unfold maxLen; omega, by show (Lit.int .i64 1).wf = true; decide, ?_, by show (⟨#[]⟩ : ByteArray).size ≤ maxLen; decide⟩
  show (Lit.int .i64 (i : Int)).wf = true
  simp [Lit.wf, IntKind.min, IntKind.max, IntKind.signed, IntKind.bits]
  omega
end Go.Proofs.Ytibbligidncocaa

namespace Go.Proofs.Ytibbligidncocaa
open Go.RowKit Go.Joins Go.ChangeShapes Go.WideShapes Go.Deep

theorem list_of_lay {α : Type} (n : Nat) (p : Nat → α → Prop) (h : ∀ i, i < n → ∃ x, p i x) : ∃ l : List α, l.length = n ∧ ∀ i (hi : i < l.length), p i l[i] := by
  induction n with
  | zero => exact ⟨[], rfl, fun i hi => absurd hi (by simp)⟩
  | succ n ih =>
    obtain ⟨l, hl, hp⟩ := ih fun i hi => h i (by omega)
    obtain ⟨x, hx⟩ := h n (by omega)
    refine ⟨l ++ [x], by simp [hl], fun i hi => ?_⟩
    by_cases hin : i < l.length
    · rw [List.getElem_append_left hin]; exact hp i hin
    · obtain rfl : i = n := by simp at hi; omega
      rw [List.getElem_append_right (by omega)]
      simpa using hx

set_option maxRecDepth 100000 in
theorem Lay.open_row {α : Type} {K : Lay α} {P : Program} (hK : K.Ok P) (hC : P.cellsOf K.elem = K.size) (ok : α → Prop) {H : Type} {enc : TypeId × Value → H} {W : World} {a : Option Addr} {len cap : Nat} {d : DataW H} {p : List MemPlace}
    (hcell : ∀ (fuel : Nat) (cs : List Value) (x : DataW H × List MemPlace), DataW.trod enc P W 0 (fun _ => true) true fuel K.elem cs = some x → cs.length = K.size → ∃ y, cs = K.enc y ∧ ok y)
    (h : DataW.Trod enc P W 0 (fun _ => true) true K.row (.slice a len cap) d p) : ∃ l, K.R W (.slice a len cap) l ∧ ∀ x ∈ l, ok x := by
  obtain ⟨fuel, hf⟩ := h
  rcases open_slice hK.under hf with ⟨hcs, -⟩ | ⟨x, l, c, m, n, D, Pl, hcs, hb, hl, hm, hmm, -, hi⟩
  · simp [Value.cells] at hcs
    obtain ⟨rfl, rfl, rfl⟩ := hcs
    exact ⟨[], Lay.R.nil _, fun x hx => by cases hx⟩
  · simp [Value.cells] at hcs
    obtain ⟨rfl, rfl, rfl⟩ := hcs
    simp only [if_true] at hmm
    subst hmm
    have key : ∀ i, i < len → ∃ y : α, ok y ∧ ∀ j u, (K.enc y)[j]? = some u → W.cell? ((x.add (i * K.size)).add j) = some u := by
      intro i hil
      obtain ⟨cs', hc, ht⟩ := hi i (by omega)
      rw [hC] at hc
      obtain ⟨-, hcl, hat⟩ := World.cells?_some hc
      obtain ⟨y, rfl, ok'⟩ := hcell _ _ _ ht hcl
      refine ⟨y, ok', fun j u hj => ?_⟩
      have hjl : j < (K.enc y).length := (List.getElem?_eq_some_iff.1 hj).1
      have := hat j (by omega)
      rw [this, ← hj, List.getElem?_eq_getElem hjl]
    obtain ⟨L, hL, hp⟩ := list_of_lay len _ key
    subst hL
    refine ⟨L, ⟨some x, _, rfl, hl, hm, (fun h => by cases h), fun hne => ?_⟩, fun y hy => ?_⟩
    · obtain ⟨b, o, spot⟩ := x
      have hL0 : 0 < L.length := List.length_pos_iff.2 hne
      have h00 : 0 < (K.enc L[0]).length := by rw [hK.len]; exact hK.pos
      have h0 := (hp 0 hL0).2 0 _ (List.getElem?_eq_getElem h00)
      have hspot : spot = none := by simpa [Addr.add] using World.cell?_spot h0
      subst hspot
      refine ⟨b, o, rfl, fun j u hj => ?_⟩
      have hps := hK.pos
      have hjl : j < L.length * K.size := by rw [← hK.flat_len]; exact (List.getElem?_eq_some_iff.1 hj).1
      have h1 : j / K.size < L.length := (Nat.div_lt_iff_lt_mul hps).2 hjl
      have h2 : j % K.size < K.size := Nat.mod_lt _ hps
      have hd : j / K.size * K.size + j % K.size = j := by rw [Nat.mul_comm]; exact Nat.div_add_mod j K.size
      have e := hK.flat_at L (j / K.size) (j % K.size) h1 h2
      rw [hd, hj] at e
      have := (hp (j / K.size) h1).2 (j % K.size) u e.symm
      rw [Addr.add_mid, Addr.add_mid] at this
      rw [show o + j = o + j / K.size * K.size + j % K.size by omega]
      exact this
    · obtain ⟨i, hi', rfl⟩ := List.mem_iff_getElem.1 hy
      exact (hp i hi').1

end Go.Proofs.Ytibbligidncocaa

namespace Go.Proofs.Ytibbligidncocaa
open Go.RowKit Go.Joins Go.ChangeShapes Go.WideShapes Go.Deep

set_option maxRecDepth 100000 in
theorem pair_cells {H : Type} {enc : TypeId × Value → H} {W : World} (fuel : Nat) (cs : List Value) (x : DataW H × List MemPlace) (h : DataW.trod enc Try.prog W 0 (fun _ => true) true fuel 42 cs = some x) (hl : cs.length = 4) :
    ∃ y : RecT, cs = K4.enc y ∧ RecOk y := by
  obtain ⟨c0, c1, c2, c3, rfl⟩ : ∃ c0 c1 c2 c3, cs = [c0, c1, c2, c3] := by
    match cs, hl with
    | [c0, c1, c2, c3], _ => exact ⟨c0, c1, c2, c3, rfl⟩
  have g0 : Try.prog.cellsOf 3 = 1 := by kernel_rfl
  have g1 : Try.prog.cellsOf 2 = 1 := by kernel_rfl
  have g2 : Try.prog.cellsOf 9 = 1 := by kernel_rfl
  have g4 : Try.prog.cellsOf 37 = 3 := by kernel_rfl
  obtain ⟨y0, y2, m, -, -, h0, h2⟩ := trod_struct2 Try.underlying42 h
  simp only [g2, g4, List.drop_zero, List.drop_succ_cons, List.take_succ_cons, List.take_zero] at h0 h2
  obtain ⟨z0, z1, z2, m', -, -, k0, k1, k2⟩ := trod_struct3 Try.underlying37 h2
  simp only [g0, g1, g2, List.drop_zero, List.drop_succ_cons, List.take_succ_cons, List.take_zero] at k0 k1 k2
  obtain ⟨key, e0, -, w0⟩ := DataW.trod_string Try.underlying9 h0
  obtain ⟨a, e2, -, w2⟩ := DataW.trod_int Try.underlying3 k0
  obtain ⟨b, e3, -, w3⟩ := DataW.trod_int Try.underlying2 k1
  obtain ⟨s, e4, -, w4⟩ := DataW.trod_string Try.underlying9 k2
  simp only [List.cons.injEq, and_true] at e0 e2 e3 e4
  subst e0 e2 e3 e4
  exact ⟨(key, false, a, b, s), rfl, w0, w2, w3, w4⟩

/-- An argument. -/
def RPairs (w : World) (v : Value) (l : List RecT) : Prop := K4.R w v l ∧ ∀ x ∈ l, RecOk x
theorem open_pairs {H : Type} {enc : TypeId × Value → H} {W : World} {a : Option Addr} {len cap : Nat} {d : DataW H} {p : List MemPlace} (h : DataW.Trod enc Try.prog W 0 (fun _ => true) true 24 (.slice a len cap) d p) : ∃ l, RPairs W (.slice a len cap) l :=
  Lay.open_row K4_ok (by kernel_rfl) RecOk (fun fuel cs x h hl => pair_cells fuel cs x h hl) h

end Go.Proofs.Ytibbligidncocaa
