/-
  The contract of runes.Of.
  The contracts of hash.Of, First, Tag, Other.
  Mathematics of stage 10 (of no code): rows that rise by their keys, and what the last of each key is.
-/
import Derived.Test.YtibbligidncocaaM05
import Derived.Test.YtibbligidncocaaM04
import Derived.Test.YtibbligidncocaaM01
namespace Go.Proofs.Ytibbligidncocaa
open Go.RowKit

set_option maxRecDepth 100000 in
theorem of_c (s : ByteArray) (w : World) (hm : s.size ≤ 1000000000) :
    Calls Try.prog 54 #[.string s] w fun e w' => ∃ v, e = .returned v ∧ OwnV 21 w' w.heap.size v (zi .i32 (runesOf (toks (bl s)))) ∧ Below w.heap.size w w' := by
  have hl1 := toks_length (bl s)
  rw [← bl_size] at hl1
  have C := Go.Lib.hid (count_c s w (by omega))
  obtain ⟨T, hT⟩ : ∃ T, T = (toks (bl s)).length := ⟨_, rfl⟩
  rw [← hT] at hl1 C
  have HT := Go.Lib.hid hT; clear hT
  go_enter Try.func54, Try.ntmps54
  go_wp2_with (first
    | (refine C.out.mono ?_; rintro e w1 ⟨rfl, hb1⟩)
    | (with_reducible show wpList _ _ _ (⟨some 8, _, _, _, _, _⟩ :: _) _ _; go_loud (refine wpList_make_none rfl (.const (.int .i64 0)) (.tmp 7) 88 rfl 21 Try.underlying88 (.int .i32 0) 4 info32 .i64 .i64 _ T rfl rfl rfl (by omega) (by omega) ?_); intro v2 w2 hown2 hg2; have hb2 := hb1.grown hg2 hb1.size (by simp))
    | fail)
  go_loopw [3] (fun u wr => ∃ (n : Nat) (v : Value), v = u ∧ n ≤ T ∧ OwnV 21 wr w.heap.size v (zi .i32 ((runesOf (toks (bl s))).take n)) ∧ wr.heap[w2.heap.size]? = some (.stringIter s (posOf (bl s) n)) ∧ Below w.heap.size w wr) (fun _ wr => s.size - wr.iterPos w2.heap.size)
  case atStart => exact ⟨0, _, rfl, by omega, (hown2.mono hb1.size).alloc _, World.iter_heap w2 s 0, hb2.alloc hb2.size _⟩
  case round =>
    obtain ⟨n, v, rfl, hn, hown, hit, hbw⟩ := hrel
    by_cases hlt : n < T
    · have hT' : n < (toks (bl s)).length := by rw [← HT.out]; exact hlt
      obtain ⟨p1, p2, p3, p4⟩ := next_some s n hT'
      have hnx : ∀ ty, (Instr.next (.pointer (some ⟨w2.heap.size, 0, none⟩)) true ty).run Try.prog wr = _ := fun ty => Go.Lib.run_next_any_at wr w2.heap.size s _ ty hit p1
      rw [p3] at hnx
      rw [p2] at hnx
      rw [← p4] at hnx
      have hit2 := Go.Lib.iterAt_heap wr w2.heap.size s _ (posOf (bl s) (n + 1)) hit
      have hbw2 := below_iter hbw hb2.size s (posOf (bl s) (n + 1))
      have hown2 := hown.other (w' := wr.iterAt w2.heap.size s (posOf (bl s) (n + 1))) w2.heap.size _ hit (fun _ _ _ h => by cases h) (fun j hj => Go.Lib.iterAt_other wr w2.heap.size j s _ hj)
      have hmore := Go.Lib.hid (zi_more .i32 (toks (bl s)) n hT')
      have hmeas : Hid (s.size - posOf (bl s) (n + 1) < s.size - wr.iterPos w2.heap.size) := by
        have := posOf_lt_succ (bl s) n hT'
        simp only [Hid, World.iterPos, hit]
        omega
      have hnl : ((runesOf (toks (bl s))).take n).length = n := by rw [List.length_take, runesOf_length]; omega
      have Hnl := Go.Lib.hid hnl; clear hnl
      clear p1 p2 p3 p4 hit hbw hown
      generalize (toks (bl s))[n].1 = r at hnx hmore
      generalize wr.iterAt w2.heap.size s (posOf (bl s) (n + 1)) = wi at hnx hit2 hbw2 hown2
      have hown3 := hown2.alloc (.cells #[.int .i32 (r : Int)] 21)
      have hrv := RV.one wi 21 (.int .i32 (r : Int))
      have hbw3 := hbw2.alloc hbw2.size (.cells #[.int .i32 (r : Int)] 21)
      have hit3 := iter_alloc hit2 (.cells #[.int .i32 (r : Int)] 21)
      have hone : ∀ u ∈ [Value.int .i32 (r : Int)], u.oneCell' = true := by intro u hu; obtain rfl := List.mem_singleton.1 hu; rfl
      have hln1 : ((zi .i32 ((runesOf (toks (bl s))).take n)).length + [Value.int .i32 (r : Int)].length) * 4 ≤ 140737488355328 := by rw [zi_length, Hnl.out]; simp only [List.length_cons, List.length_nil]; omega
      have hln2 : (zi .i32 ((runesOf (toks (bl s))).take n)).length + [Value.int .i32 (r : Int)].length ≤ 140737488355328 := by omega
      go_wp2_with (first
        | (with_reducible show wpList _ _ _ (⟨some 17, _, _, _, _, _⟩ :: _) _ _; refine wpList_append_RV rfl (.tmp 14) (.tmp 16) 88 rfl w.heap.size 21 Try.underlying88 (.int .i32 0) 4 rfl info32 v (.slice (some ⟨wi.heap.size, 0, none⟩) 1 1) (zi .i32 ((runesOf (toks (bl s))).take n)) [.int .i32 (r : Int)] rfl rfl hown3 hrv hone hln1 hln2 hbw3.size ?_; intro v4 w4 hown4 hg4; have hb4 := hbw3.grown hg4 hbw3.size hown2.row; have hit4 := iter_kept hit3 hown3 hg4)
        | fail)
      go_roundw
      case rel => exact ⟨n + 1, _, rfl, by omega, by rw [← hmore.out]; exact hown4, hit4, hb4⟩
      case measure => simp only [World.iterPos, hit4]; exact hmeas.out
    · have hend : ¬ posOf (bl s) n < s.size := by
        rw [posOf_all (bl s) n (by rw [← HT.out]; omega), bl_size]
        exact Nat.lt_irrefl _
      have hnx : ∀ ty, (Instr.next (.pointer (some ⟨w2.heap.size, 0, none⟩)) true ty).run Try.prog wr = _ := fun ty => Go.Lib.run_next_end_at wr w2.heap.size s _ ty hit hend
      clear hend
      rw [List.take_of_length_le (by rw [runesOf_length, ← HT.out]; omega)] at hown
      go_wp2
      go_ret
      exact ⟨_, rfl, hown, hbw⟩

end Go.Proofs.Ytibbligidncocaa

namespace Go.Proofs.Ytibbligidncocaa
open Go.RowKit

set_option maxHeartbeats 1000000 in
set_option maxRecDepth 100000 in
theorem hof_c (s : ByteArray) (w : World) (hm : s.size ≤ 1000000) :
    Calls Try.prog 34 #[.string s] w fun e w' => e = .returned (.int .u64 (hashN (runesOf (toks (bl s))) : Int)) ∧ Below w.heap.size w w' := by
  have C := of_c s w (by omega)
  have hlen : (runesOf (toks (bl s))).length ≤ 1000000 := by rw [runesOf_length]; have := toks_length (bl s); rw [← bl_size] at this; omega
  have hrl := rune_lt (bl s)
  generalize runesOf (toks (bl s)) = rs at *
  have C := Go.Lib.hid C
  have hlen := Go.Lib.hid hlen
  have hrl := Go.Lib.hid hrl
  have hf := Go.Lib.hid fold_nil
  go_enter Try.func34, Try.ntmps34
  go_wp2_with fail
  refine C.out.mono ?_
  rintro e w1 ⟨v1, rfl, h1, hb⟩
  obtain ⟨a, c, rfl, -⟩ := h1.rv.form
  have e0 : (zi .i32 rs).length = rs.length := zi_length ..
  rw [e0] at h1 ⊢
  have HR := Go.Lib.hid h1.rv
  clear h1 e0 C
  go_wp2_with fail
  go_loop [3, 9] (fun hv iv => ∃ k : Nat, k ≤ rs.length ∧ iv = .int .i64 (k : Int) ∧ hv = .int .u64 (foldH (rs.take k) : Int)) (fun _ iv => rs.length - (intOf iv).toNat)
  case atStart => exact ⟨0, by omega, rfl, by rw [hf.out]; rfl⟩
  case round =>
    obtain ⟨k, hk, rfl, rfl⟩ := hrel
    by_cases hlt : k < rs.length
    · obtain ⟨b, o, rfl, hc, -⟩ := HR.out.at k (by rw [zi_length]; exact hlt)
      rw [zi_at _ _ _ hlt] at hc
      have hs := foldH_snoc (rs.take k) rs[k]
      rw [← List.take_succ_eq_append_getElem hlt] at hs
      have Hs := Go.Lib.hid hs
      have Hlt := Go.Lib.hid (foldH_lt (rs.take k))
      clear hs
      generalize foldH (rs.take k) = h at *
      have Hr := Go.Lib.hid (hrl.out rs[k] (List.getElem_mem hlt))
      generalize rs[k] = r at *
      have hk6 : k ≤ 1000000 := by have := hlen.out; omega
      have Hst := Go.Lib.hid (mix_step h r Hlt.out Hr.out)
      go_wp2_with fail
      go_round
      case rel => exact ⟨k + 1, by omega, by go_num, by rw [Hst.out, Hs.out]⟩
      case measure => simp only [intOf]; omega
    · obtain rfl : k = rs.length := by omega
      rw [List.take_length]
      have Ha := Go.Lib.hid (turn_a (foldH rs) (foldH_lt rs))
      have Hb := Go.Lib.hid (turn_b (foldH rs))
      have Hc := Go.Lib.hid (turn_c (foldH rs))
      have Hh := Go.Lib.hid (show hashN rs = turnC (foldH rs) from rfl)
      generalize foldH rs = h at *
      go_wp2_with fail
      go_ret
      refine ⟨ret_int (a := bits .xor .u64 (IntKind.u64.wrap (bits .xor .u64 (h : Int) ((h : Int) / 4294967296) * 11400714819323198485)) (IntKind.u64.wrap (bits .xor .u64 (h : Int) ((h : Int) / 4294967296) * 11400714819323198485) / 536870912)) ?_, hb⟩
      rw [Ha.out, Hb.out, Hc.out, Hh.out]

/-- A text's hash. -/
def hashS (s : ByteArray) : Nat := hashN (runesOf (toks (bl s)))
theorem hashS_lt (s : ByteArray) : hashS s < 18446744073709551616 := by have := hashN_lt (runesOf (toks (bl s))); rw [two64_lit] at this; exact this
theorem hof_k (s : ByteArray) (n : Nat) (h : hashS s = n) (w : World) (hm : s.size ≤ 1000000) : Calls Try.prog 34 #[.string s] w fun e w' => e = .returned (.int .u64 (n : Int)) ∧ Below w.heap.size w w' := by subst h; exact hof_c s w hm
theorem rhash_k (s : ByteArray) (n : Nat) (h : hashS s = n) (w : World) (hm : s.size ≤ 1000000) : Calls Try.prog 46 #[.string s] w fun e w' => e = .returned (.int .u64 (n : Int)) ∧ Below w.heap.size w w' := by subst h; exact rhash_c s w hm

end Go.Proofs.Ytibbligidncocaa

namespace Go.Proofs.Ytibbligidncocaa

section
variable {R K : Type} [DecidableEq K] (key : R → K) (lt : K → K → Bool)

/-- The order of keys. -/
structure Ordered : Prop where
  irr : ∀ a, lt a a = false
  trans : ∀ a b c, lt a b = true → lt b c = true → lt a c = true
  tri : ∀ a b, lt a b = true ∨ a = b ∨ lt b a = true

def Rising (l : List R) : Prop := l.Pairwise fun a b => lt (key a) (key b) = true
def findK (l : List R) (k : K) : Option R := l.find? fun x => decide (key x = k)
/-- One record more: the walk of the reference. -/
def setGo (r : R) : List R → Bool → List R
  | [], done => if done then [] else [r]
  | x :: t, done => (if !done && !(lt (key x) (key r)) then [r] else []) ++ ((if key x = key r then [] else [x]) ++ setGo r t (done || (!done && !(lt (key x) (key r)))))
def newestK (l : List R) : List R := l.foldl (fun a r => setGo key lt r a false) []

variable {key lt}
theorem setGo_done (r : R) : ∀ l : List R, (∀ x ∈ l, key x ≠ key r) → setGo key lt r l true = l := by
  intro l
  induction l with
  | nil => intro _; rfl
  | cons x t ih =>
    intro h
    have hx := h x (List.mem_cons_self ..)
    simp [setGo, hx, ih fun y hy => h y (List.mem_cons_of_mem _ hy)]

/-- Of a row that rises: what lies below, the record, what lies above. -/
theorem setGo_mem (O : Ordered lt) (r : R) : ∀ l : List R, Rising key lt l → ∀ y, y ∈ setGo key lt r l false → y = r ∨ (y ∈ l ∧ key y ≠ key r) := by
  intro l
  induction l with
  | nil => intro _ y hy; simp [setGo] at hy; exact .inl hy
  | cons x t ih =>
    intro hl y hy
    have ht : Rising key lt t := (List.pairwise_cons.1 hl).2
    have hxt := (List.pairwise_cons.1 hl).1
    cases hb : lt (key x) (key r) with
    | true =>
      have hne : key x ≠ key r := fun e => by rw [e, O.irr] at hb; cases hb
      simp [setGo, hb, hne] at hy
      rcases hy with rfl | hy
      · exact .inr ⟨List.mem_cons_self .., hne⟩
      · rcases ih ht y hy with h | h
        · exact .inl h
        · exact .inr ⟨List.mem_cons_of_mem _ h.1, h.2⟩
    | false =>
      have hd : ∀ z ∈ t, key z ≠ key r := by
        intro z hz e
        have := hxt z hz
        rw [e, hb] at this
        cases this
      have e := setGo_done (lt := lt) r t hd
      by_cases hk : key x = key r
      · simp [setGo, hk, O.irr, e] at hy
        rcases hy with h | h
        · exact .inl h
        · exact .inr ⟨List.mem_cons_of_mem _ h, hd y h⟩
      · simp [setGo, hb, hk, e] at hy
        rcases hy with h | h | h
        · exact .inl h
        · subst h; exact .inr ⟨List.mem_cons_self .., hk⟩
        · exact .inr ⟨List.mem_cons_of_mem _ h, hd y h⟩

theorem setGo_rising (O : Ordered lt) (r : R) : ∀ l : List R, Rising key lt l → Rising key lt (setGo key lt r l false) := by
  intro l
  induction l with
  | nil => intro _; simp [setGo, Rising]
  | cons x t ih =>
    intro hl
    have ht : Rising key lt t := (List.pairwise_cons.1 hl).2
    have hxt := (List.pairwise_cons.1 hl).1
    cases hb : lt (key x) (key r) with
    | true =>
      have hne : key x ≠ key r := fun e => by rw [e, O.irr] at hb; cases hb
      have e : setGo key lt r (x :: t) false = x :: setGo key lt r t false := by simp [setGo, hb, hne]
      rw [e]
      refine List.pairwise_cons.2 ⟨fun y hy => ?_, ih ht⟩
      rcases setGo_mem O r t ht y hy with rfl | h
      · exact hb
      · exact hxt y h.1
    | false =>
      have hd : ∀ z ∈ t, key z ≠ key r := by
        intro z hz e
        have := hxt z hz
        rw [e, hb] at this
        cases this
      have e := setGo_done (lt := lt) r t hd
      by_cases hk : key x = key r
      · have e2 : setGo key lt r (x :: t) false = r :: t := by simp [setGo, hk, O.irr, e]
        rw [e2]
        exact List.pairwise_cons.2 ⟨fun y hy => by rw [← hk]; exact hxt y hy, ht⟩
      · have e2 : setGo key lt r (x :: t) false = r :: x :: t := by simp [setGo, hb, hk, e]
        rw [e2]
        have hrx : lt (key r) (key x) = true := by
          rcases O.tri (key x) (key r) with h | h | h
          · rw [h] at hb; cases hb
          · exact absurd h hk
          · exact h
        refine List.pairwise_cons.2 ⟨fun y hy => ?_, hl⟩
        rcases List.mem_cons.1 hy with rfl | h
        · exact hrx
        · exact O.trans _ _ _ hrx (hxt y h)

theorem setGo_find (O : Ordered lt) (r : R) (k : K) : ∀ l : List R, Rising key lt l → findK key (setGo key lt r l false) k = if key r = k then some r else findK key l k := by
  intro l
  induction l with
  | nil => intro _; by_cases h : key r = k <;> simp [setGo, findK, h]
  | cons x t ih =>
    intro hl
    have ht : Rising key lt t := (List.pairwise_cons.1 hl).2
    have hxt := (List.pairwise_cons.1 hl).1
    cases hb : lt (key x) (key r) with
    | true =>
      have hne : key x ≠ key r := fun e => by rw [e, O.irr] at hb; cases hb
      have e : setGo key lt r (x :: t) false = x :: setGo key lt r t false := by simp [setGo, hb, hne]
      rw [e]
      have := ih ht
      unfold findK at this ⊢
      rw [List.find?_cons, List.find?_cons]
      by_cases hx : key x = k
      · have hr : ¬ key r = k := fun h => hne (hx.trans h.symm)
        simp [hx, hr]
      · simp [hx, this]
    | false =>
      have hd : ∀ z ∈ t, key z ≠ key r := by
        intro z hz e
        have := hxt z hz
        rw [e, hb] at this
        cases this
      have e := setGo_done (lt := lt) r t hd
      by_cases hk : key x = key r
      · have e2 : setGo key lt r (x :: t) false = r :: t := by simp [setGo, hk, O.irr, e]
        rw [e2]
        unfold findK
        rw [List.find?_cons, List.find?_cons]
        by_cases hr : key r = k
        · simp [hr]
        · simp [hr, hk]
      · have e2 : setGo key lt r (x :: t) false = r :: x :: t := by simp [setGo, hb, hk, e]
        rw [e2]
        unfold findK
        rw [List.find?_cons]
        by_cases hr : key r = k <;> simp [hr]

theorem rising_ext (O : Ordered lt) : ∀ l m : List R, Rising key lt l → Rising key lt m → (∀ k, findK key l k = findK key m k) → l = m := by
  have hnone : ∀ l : List R, (∀ k, findK key l k = none) → l = [] := by
    intro l h
    cases l with
    | nil => rfl
    | cons x t => have := h (key x); simp [findK] at this
  have habove : ∀ (x : R) (t : List R) (k : K), (∀ a ∈ t, lt (key x) (key a) = true) → lt k (key x) = true ∨ k = key x → findK key t k = none := by
    intro x t k h hk
    unfold findK
    rw [List.find?_eq_none]
    intro a ha
    simp only [decide_eq_true_eq]
    intro e
    have h1 := h a ha
    rw [e] at h1
    rcases hk with h2 | h2
    · have := O.trans _ _ _ h2 h1
      rw [O.irr] at this; cases this
    · rw [h2, O.irr] at h1; cases h1
  intro l
  induction l with
  | nil => intro m _ _ h; exact (hnone m fun k => (h k).symm).symm
  | cons x t ih =>
    intro m hl hm h
    cases m with
    | nil => have := h (key x); simp [findK] at this
    | cons y u =>
      have hxt := (List.pairwise_cons.1 hl).1
      have hyu := (List.pairwise_cons.1 hm).1
      have hx := h (key x)
      have hy := h (key y)
      have hkk : key x = key y := by
        rcases O.tri (key x) (key y) with g | g | g
        · have hne : key y ≠ key x := fun e => by rw [e, O.irr] at g; cases g
          have := habove y u (key x) hyu (.inl g)
          unfold findK at hx this
          rw [List.find?_cons, List.find?_cons, this] at hx
          simp [hne] at hx
        · exact g
        · have hne : key x ≠ key y := fun e => by rw [e, O.irr] at g; cases g
          have := habove x t (key y) hxt (.inl g)
          unfold findK at hy this
          rw [List.find?_cons, List.find?_cons, this] at hy
          simp [hne] at hy
      have hxy : x = y := by
        unfold findK at hx
        rw [List.find?_cons, List.find?_cons] at hx
        simpa [hkk] using hx
      subst hxy
      refine congrArg (x :: ·) (ih u (List.pairwise_cons.1 hl).2 (List.pairwise_cons.1 hm).2 fun k => ?_)
      by_cases hk : key x = k
      · subst hk
        rw [habove x t _ hxt (.inr rfl), habove x u _ hyu (.inr rfl)]
      · have := h k
        unfold findK at this ⊢
        rw [List.find?_cons, List.find?_cons] at this
        simpa [hk] using this

theorem newestK_rising (O : Ordered lt) (l : List R) : Rising key lt (newestK key lt l) := by
  have : ∀ (l a : List R), Rising key lt a → Rising key lt (l.foldl (fun a r => setGo key lt r a false) a) := by
    intro l
    induction l with
    | nil => intro a h; exact h
    | cons r l ih => intro a h; exact ih _ (setGo_rising O r a h)
  exact this l [] List.Pairwise.nil
theorem newestK_find (O : Ordered lt) (l : List R) (k : K) : findK key (newestK key lt l) k = findK key l.reverse k := by
  have : ∀ (l a : List R), Rising key lt a → findK key (l.foldl (fun a r => setGo key lt r a false) a) k = findK key (l.reverse ++ a) k := by
    intro l
    induction l with
    | nil => intro a _; rfl
    | cons r l ih =>
      intro a h
      rw [List.foldl_cons, ih _ (setGo_rising O r a h), List.reverse_cons, List.append_assoc]
      have := setGo_find O r k a h
      unfold findK at this ⊢
      rw [List.find?_append, List.find?_append, this, List.singleton_append, List.find?_cons]
      by_cases hr : key r = k <;> simp [hr]
  have h := this l [] List.Pairwise.nil
  rw [List.append_nil] at h
  exact h
/-- What rises and has of each key the last one is the reference's answer. -/
theorem newestK_of (O : Ordered lt) (l n : List R) (hn : Rising key lt n) (h : ∀ k, findK key n k = findK key l.reverse k) : n = newestK key lt l :=
  rising_ext O n _ hn (newestK_rising O l) fun k => by rw [h, newestK_find O]
theorem rising_rev (O : Ordered lt) (l : List R) (hl : Rising key lt l) (k : K) : findK key l.reverse k = findK key l k := by
  induction l with
  | nil => rfl
  | cons x t ih =>
    have ht := ih (List.pairwise_cons.1 hl).2
    have hxt := (List.pairwise_cons.1 hl).1
    unfold findK at ht ⊢
    rw [List.reverse_cons, List.find?_append, ht, List.find?_cons]
    by_cases hx : key x = k
    · have : t.find? (fun x => decide (key x = k)) = none := by
        rw [List.find?_eq_none]
        intro a ha
        simp only [decide_eq_true_eq]
        intro e
        have := hxt a ha
        rw [e, hx, O.irr] at this
        cases this
      simp [this, hx]
    · simp [hx]
theorem newestK_twice (O : Ordered lt) (l : List R) : newestK key lt (newestK key lt l) = newestK key lt l :=
  (newestK_of O _ _ (newestK_rising O l) fun k => (rising_rev O _ (newestK_rising O l) k).symm).symm
end

end Go.Proofs.Ytibbligidncocaa
