/-
  Slices of raw values that the call itself makes, and their bytes one behind the other.
-/
import Derived.Test.YtpelcnehndlinaaValPut
import Derived.Test.YtpelcnehndlinaaValGet
import Derived.Test.YtpelcnehndlinaaBegun4
namespace Go.Proofs.Ytpelcnehndlinaa
open Go.RowKit

def rc (x : Int × Int × ByteArray) : List Value := [.int .i64 x.1, .int .i64 x.2.1, .string x.2.2]
def flat (l : List (Int × Int × ByteArray)) : List Value := l.flatMap rc
def OwnR (w : World) (B : Nat) (v : Value) (l : List (Int × Int × ByteArray)) : Prop := w.ownsRow B 23 3 v l.length (flat l)

theorem flat_at : ∀ (l : List (Int × Int × ByteArray)) (i j : Nat) (hi : i < l.length), j < 3 → (flat l)[i * 3 + j]? = (rc l[i])[j]?
  | [], i, j, hi, _ => absurd hi (by simp)
  | x :: l, 0, j, hi, hj => by
    show (rc x ++ flat l)[0 * 3 + j]? = (rc x)[j]?
    rw [Nat.zero_mul, Nat.zero_add, List.getElem?_append_left (by simpa [rc] using hj)]
  | x :: l, i + 1, j, hi, hj => by
    show (rc x ++ flat l)[(i + 1) * 3 + j]? = _
    rw [List.getElem?_append_right (by simp [rc]; omega), show (i + 1) * 3 + j - (rc x).length = i * 3 + j from by simp [rc]; omega]
    exact flat_at l i j (by simpa using hi) hj

theorem OwnR.nil (w : World) (B : Nat) : OwnR w B (.slice none 0 0) [] := World.ownsRow_nil w B _ 3
theorem OwnR.below {w w' : World} {B : Nat} {v : Value} {l : List (Int × Int × ByteArray)} (h : OwnR w B v l) (hb : Below w.heap.size w w') : OwnR w' B v l := by
  refine ⟨h.1, ?_⟩
  rcases h.2 with h' | ⟨g, cap, cur, h1, hB, h2, h3⟩
  · exact .inl h'
  · exact .inr ⟨g, cap, cur, h1, hB, (hb.block g (Array.getElem?_eq_some_iff.1 h2).1).trans h2, h3⟩
theorem OwnR.row {w : World} {B : Nat} {v : Value} {l : List (Int × Int × ByteArray)} (h : OwnR w B v l) : ∀ k, v.ownBlock = some k → B ≤ k := fun k hk => (World.ownsRow.lt h k hk).1
theorem OwnR.form {w : World} {B : Nat} {v : Value} {l : List (Int × Int × ByteArray)} (h : OwnR w B v l) : ∃ a cap, v = .slice a l.length cap ∧ l.length ≤ cap ∧ cap ≤ maxLen := by
  rcases h.2 with ⟨h', hn⟩ | ⟨g, cap, cur, h1, hB, h2, h3, h4, -⟩
  · exact ⟨none, 0, by rw [h', hn], by omega, by simp [maxLen]⟩
  · exact ⟨_, cap, h1, h3, h4⟩
theorem OwnR.at {w : World} {B : Nat} {a : Option Addr} {n cap : Nat} {l : List (Int × Int × ByteArray)} (h : OwnR w B (.slice a n cap) l) (i : Nat) (hi : i < l.length) :
    ∃ g, a = some ⟨g, 0, none⟩ ∧ n = l.length ∧ w.cell? ⟨g, i * 3, none⟩ = some (.int .i64 l[i].1) ∧ w.cell? ⟨g, i * 3 + 1, none⟩ = some (.int .i64 l[i].2.1) ∧ w.cell? ⟨g, i * 3 + 2, none⟩ = some (.string l[i].2.2) := by
  obtain ⟨g, rfl, rfl⟩ : ∃ g, a = some ⟨g, 0, none⟩ ∧ n = l.length := by
    rcases h.2 with ⟨_, h0⟩ | ⟨g, cap', cur, hv, -⟩
    · omega
    · simp only [Value.slice.injEq] at hv
      exact ⟨g, hv.1, hv.2.1⟩
  have c := fun j (hj : j < 3) => (World.ownsRow.cellAt h (i * 3 + j) (by omega)).trans (flat_at l i j hi hj)
  exact ⟨g, rfl, rfl, c 0 (by omega), c 1 (by omega), c 2 (by omega)⟩

theorem infoR : (Try.prog.info? 23).map (fun i => (i.zero, i.size, i.bytes)) = some (some (.agg #[.int .i64 0, .int .i64 0, .string ⟨#[]⟩]), 3, 32) := by kernel_rfl

/-- 'l[j]', in whatever world. -/
theorem run_idxR (g n cap j : Nat) (h : j < n) (W : World) : (Instr.indexAt 52 (.slice (some ⟨g, 0, none⟩) n cap) (.int .i64 (j : Int))).run Try.prog W = .ok (.pointer (some ⟨g, j * 3, none⟩)) W := by
  obtain ⟨i, hi, -, hsize, -⟩ := info_parts infoR
  have he : Try.prog.elem 52 = 23 := by kernel_rfl
  have hs : (sizeOf 23).run Try.prog W = .ok 3 W := by simp [sizeOf, typeInfo, hi, hsize]
  have hadd : (⟨g, 0, none⟩ : Addr).add (j * 3) = ⟨g, j * 3, none⟩ := by unfold Addr.add; split <;> simp_all
  rw [run_indexAt_slice W _ _ _ _ _ _ (by rw [he]; exact Try.underlying52), if_pos ⟨by omega, by omega⟩, he, hs]
  simp [Result.andThen, hadd]

/-- 'append(s, x)', s the call's own, x one raw value, in a new block. -/
theorem wpList_append_raw {ops : Array Oper} {rest : List Oper} {o : Oper} {a : Act} {w : World} {Q : Exit → Act → World → Prop} (hgd : o.guard = none) (s x : Operand)
    (ho : o.op = .call { callee := .builtin .append, args := #[s, x], argTypes := #[52, 52] })
    (B : Nat) (v : Value) (l : List (Int × Int × ByteArray)) (g : Nat) (y : Int × Int × ByteArray) (hs : a.eval s = v) (hx : a.eval x = .slice (some ⟨g, 0, none⟩) 1 1) (hown : OwnR w B v l)
    (h0 : w.cell? ⟨g, 0, none⟩ = some (.int .i64 y.1)) (h1 : w.cell? ⟨g, 1, none⟩ = some (.int .i64 y.2.1)) (h2 : w.cell? ⟨g, 2, none⟩ = some (.string y.2.2)) (hl : l.length ≤ 1000) (hbase : B ≤ w.heap.size)
    (h : ∀ v' w', OwnR w' B v' (l ++ [y]) → w.grownBy w' v.ownBlock → wpList Try.prog ops Q rest (a.put o.dst v') w') : wpList Try.prog ops Q (o :: rest) a w := by
  obtain ⟨i, hi, hz, hsize, hby⟩ := info_parts infoR
  refine wpList_append_own w hgd s x _ ho B 23 i (.agg #[.int .i64 0, .int .i64 0, .string ⟨#[]⟩]) 3 32 Try.underlying52 hi hz hsize hby rfl (by decide) v l.length (flat l) hs hown ⟨g, 0, none⟩ 1 1 (rc y) hx (by simp [rc]) ?_ ?_ (by unfold maxLen; omega) (by omega) hbase ?_
  · intro j u hj
    have hadd : (⟨g, 0, none⟩ : Addr).add j = ⟨g, j, none⟩ := by unfold Addr.add; simp; omega
    rw [hadd]
    match j, hj with
    | 0, hj => rw [h0]; exact hj
    | 1, hj => rw [h1]; exact hj
    | 2, hj => rw [h2]; exact hj
    | j + 3, hj => simp [rc] at hj
  · intro u hu
    simp only [rc, List.mem_cons, List.not_mem_nil, or_false] at hu
    rcases hu with rfl | rfl | rfl <;> rfl
  · intro v' w' hown' hg _
    refine h v' w' ?_ hg
    unfold OwnR
    rw [List.length_append]
    unfold flat at *
    rw [List.flatMap_append]
    simpa using hown'

theorem RRaw.below {w w' : World} {v : Value} {l : List (Int × Int × ByteArray)} (h : RRaw w v l) (hb : Below w.heap.size w w') : RRaw w' v l := by
  obtain ⟨a, cap, hv, h1, h2, h3, h4, h5⟩ := h
  refine ⟨a, cap, hv, h1, h2, h3, h4, fun hl => ?_⟩
  obtain ⟨b, o, ha, hc⟩ := h5 hl
  exact ⟨b, o, ha, fun i hi => ⟨cell_kept (hc i hi).1 hb, cell_kept (hc i hi).2.1 hb, cell_kept (hc i hi).2.2 hb⟩⟩

/-- Values' bytes, one behind the other. -/
def encV (l : List (Int × Int × ByteArray)) : List UInt8 := l.flatMap fun x => putV x.1 x.2.1 (bl x.2.2)
def GoodR (x : Int × Int × ByteArray) : Prop := mayR x.1 x.2.1 x.2.2 = true ∧ -9223372036854775808 ≤ x.2.1 ∧ x.2.1 ≤ 9223372036854775807
theorem encV_snoc (l : List (Int × Int × ByteArray)) (x : Int × Int × ByteArray) : encV (l ++ [x]) = encV l ++ putV x.1 x.2.1 (bl x.2.2) := by simp [encV]
theorem encV_cons (l : List (Int × Int × ByteArray)) (x : Int × Int × ByteArray) : encV (x :: l) = putV x.1 x.2.1 (bl x.2.2) ++ encV l := by simp [encV]
theorem putV_len {k n : Int} {s : List UInt8} (h : mayR k n (str s) = true) (h0 : -9223372036854775808 ≤ n) (h1 : n ≤ 9223372036854775807) : (putV k n s).length ≤ 100 := by
  rcases mayR_cases h with ⟨rfl, rfl⟩ | ⟨rfl, rfl, hs⟩
  · have e1 := Go.Lib.uvarint_length64 (Go.Lib.zigzag_lt (x := 1) (by omega) (by omega))
    have e2 := Go.Lib.uvarint_length64 (Go.Lib.zigzag_lt h0 h1)
    unfold putV
    rw [if_pos rfl, List.length_append]
    omega
  · have e1 := Go.Lib.uvarint_length64 (Go.Lib.zigzag_lt (x := 2) (by omega) (by omega))
    have e2 := Go.Lib.uvarint_length64 (Go.Lib.zigzag_lt (x := (s.length : Int)) (by omega) (by omega))
    unfold putV putT
    rw [if_neg (by omega), List.length_append, List.length_append]
    omega
theorem encV_len (l : List (Int × Int × ByteArray)) (h : ∀ x ∈ l, GoodR x) : (encV l).length ≤ 100 * l.length := by
  induction l with
  | nil => simp [encV]
  | cons x l ih =>
    rw [encV_cons, List.length_append, List.length_cons]
    obtain ⟨h1, h2, h3⟩ := h x (by simp)
    rw [← str_bl x.2.2] at h1
    have := putV_len h1 h2 h3
    have := ih fun y hy => h y (by simp [hy])
    omega

end Go.Proofs.Ytpelcnehndlinaa
