/-
  Stage 22: sorted.Less, sorted.recOf.
  Stage 22, mathematics of a sorted store: where each hash's pairs begin; those to which the tree leads.
  Slices of ints that count (Lay).
-/
import Derived.Test.YtibbligidncocaaM16
import Derived.Test.YtibbligidncocaaM20
import Derived.Test.YtibbligidncocaaM24
import Derived.Test.YtibbligidncocaaM08
import Derived.Test.YtibbligidncocaaM15
namespace Go.Proofs.Ytibbligidncocaa
open Go.RowKit

set_option maxRecDepth 100000 in
theorem sless_c (a b : ByteArray) (t : Bool) (w : World) (ha : a.size ≤ 1000000) (hb : b.size ≤ 1000000) (ht : lessK a b = t) :
    Calls Try.prog 19 #[.string a, .string b] w fun e w' => e = .returned (.bool t) ∧ Below w.heap.size w w' := by
  obtain ⟨x, hx⟩ : ∃ x, hashS a = x := ⟨_, rfl⟩
  obtain ⟨y, hy⟩ : ∃ y, hashS b = y := ⟨_, rfl⟩
  obtain ⟨s, hs⟩ : ∃ s, Go.Op.bytesLess a.toList b.toList = s := ⟨_, rfl⟩
  have C1 := Go.Lib.hid fun W => hof_k a x hx W ha
  have C2 := Go.Lib.hid fun W => hof_k b y hy W hb
  have C3 := fun W => kless_c a b W
  unfold lessK at ht
  rw [hs] at C3
  rw [hx, hy, hs] at ht
  have C3 := Go.Lib.hid C3
  clear hx hy ha hb
  rcases Nat.lt_trichotomy x y with h | h | h
  · have hI : (x : Int) < (y : Int) := by omega
    obtain rfl : t = true := by rw [← ht, decide_eq_true h]; rfl
    clear ht hs
    go_enter Try.func19, Try.ntmps19
    go_wp2_with fail
    refine (C1.out _).mono ?_
    rintro e w1 ⟨rfl, hb1⟩
    go_wp2_with fail
    refine (C2.out _).mono ?_
    rintro e w2 ⟨rfl, hb2⟩
    have hb3 := hb1.trans (hb2.mono hb1.size)
    go_wp2_with fail
    go_ret
    exact ⟨rfl, hb3⟩
  · subst h
    obtain rfl : t = s := by rw [← ht]; simp
    clear ht hs
    go_enter Try.func19, Try.ntmps19
    go_wp2_with fail
    refine (C1.out _).mono ?_
    rintro e w1 ⟨rfl, hb1⟩
    go_wp2_with fail
    refine (C2.out _).mono ?_
    rintro e w2 ⟨rfl, hb2⟩
    have hb3 := hb1.trans (hb2.mono hb1.size)
    go_wp2_with fail
    refine (C3.out _).mono ?_
    rintro e w3 ⟨rfl, hb4⟩
    have hb5 := hb3.trans (hb4.mono hb3.size)
    go_wp2_with fail
    go_ret
    exact ⟨rfl, hb5⟩
  · have hI : ¬ (x : Int) < (y : Int) := by omega
    have hE : ((x : Int) == (y : Int)) = false := by simp; omega
    have hN : decide (x < y) = false := decide_eq_false (by omega)
    obtain rfl : t = false := by rw [← ht, decide_eq_false (by omega), decide_eq_false (by omega)]; rfl
    clear ht hs
    go_enter Try.func19, Try.ntmps19
    go_wp2_with fail
    refine (C1.out _).mono ?_
    rintro e w1 ⟨rfl, hb1⟩
    go_wp2_with fail
    refine (C2.out _).mono ?_
    rintro e w2 ⟨rfl, hb2⟩
    have hb3 := hb1.trans (hb2.mono hb1.size)
    go_wp2_with fail
    go_ret
    exact ⟨rfl, hb3⟩

theorem ret_srec_at {w w0 : World} {tmps : Array Value} {key : ByteArray} {gone : Bool} {k n : Int} {s : ByteArray} {g : Nat} {fr : Nat × Nat}
    (hp : tmps.getD 2 undef = .pointer (some ⟨g, 0, none⟩)) (hg : w.heap[g]? = some (.cells #[.string key, .bool gone, .int .i64 k, .int .i64 n, .string s] 39 fr)) (hb : Below w0.heap.size w0 w) :
    bodyPost Try.prog Try.f42 (fun e w' => e = .returned (.agg #[.string key, .bool gone, .int .i64 k, .int .i64 n, .string s]) ∧ Below w0.heap.size w0 w') Exit.ret { tmps := tmps, defers := [] } w :=
  bodyPost_ret (results_cell_row (P := Try.prog) (fn := Try.f42) (p := 2) (ty := 39) rfl tmps w g 39 #[.string key, .bool gone, .int .i64 k, .int .i64 n, .string s] fr _ hp hg Try.underlying39 rfl (by kernel_rfl)) rfl ⟨rfl, hb⟩
set_option maxRecDepth 100000 in
theorem srec_c (key : ByteArray) (k n : Int) (s : ByteArray) (w : World) :
    Calls Try.prog 42 #[.agg #[.string key, .int .i64 k, .int .i64 n, .string s]] w fun e w' => e = .returned (.agg #[.string key, .bool false, .int .i64 k, .int .i64 n, .string s]) ∧ Below w.heap.size w w' := by
  have hbb := below_two w (.cells #[.string key, .int .i64 k, .int .i64 n, .string s] 42) (.cells #[.string ⟨#[]⟩, .bool false, .int .i64 0, .int .i64 0, .string ⟨#[]⟩] 39)
  have hB := heap_alloc2_new w (.cells #[.string key, .int .i64 k, .int .i64 n, .string s] 42) (.cells #[.string ⟨#[]⟩, .bool false, .int .i64 0, .int .i64 0, .string ⟨#[]⟩] 39)
  obtain ⟨x0, x1, x2, x3⟩ := pair4 (two_first w (.cells #[.string key, .int .i64 k, .int .i64 n, .string s] 42) (.cells #[.string ⟨#[]⟩, .bool false, .int .i64 0, .int .i64 0, .string ⟨#[]⟩] 39))
  have hbd := build_rec key k n s
  have HB := Go.Lib.hid hB
  clear hB
  go_enter Try.func42, Try.ntmps42
  go_wp2_with (first
    | (with_reducible show wpList _ _ _ (⟨none, Op.store 39 (.tmp 2) (.tmp 7), _, _, _, _⟩ :: _) _ _; go_loud (refine wpList_store_row rfl 39 (.tmp 2) (.tmp 7) rfl (w.heap.size + 1) #[.string key, .bool false, .int .i64 k, .int .i64 n, .string s] rfl rfl 39 _ HB.out (by kernel_rfl) rfl (rec_cells_one ..) ?_))
    | fail)
  exact ret_srec_at rfl (setRow_heap _ _ _ _ _ (0, 0) HB.out) (setRow_below _ hbb (by omega))

end Go.Proofs.Ytibbligidncocaa

namespace Go.Proofs.Ytibbligidncocaa
open Go.Op

section
variable {α : Type}
/-- The hashes and where each begins, one by one. -/
def runStep (H : α → Nat) (s : List Nat × List Nat × Nat) (x : α) : List Nat × List Nat × Nat := if s.1.getLast? = some (H x) then (s.1, s.2.1, s.2.2 + 1) else (s.1 ++ [H x], s.2.1 ++ [s.2.2], s.2.2 + 1)
def runG (H : α → Nat) (l : List α) : List Nat × List Nat × Nat := l.foldl (runStep H) ([], [], 0)
/-- Where each hash's things begin. -/
def startsG (H : α → Nat) (l : List α) : List Nat := (runG H l).2.1
theorem runG_snoc (H : α → Nat) (l : List α) (x : α) : runG H (l ++ [x]) = runStep H (runG H l) x := by
  unfold runG
  rw [List.foldl_append]
  rfl
theorem runG_facts (H : α → Nat) (l : List α) : (runG H l).1 = hashesG H l ∧ (runG H l).2.2 = l.length := by
  induction l using snoc_ind with
  | nil => exact ⟨rfl, rfl⟩
  | snoc l x ih =>
    obtain ⟨h1, h2⟩ := ih
    rw [runG_snoc, hashesG_snoc]
    unfold runStep hashStep
    rw [h1, h2]
    split
    · exact ⟨rfl, by simp⟩
    · exact ⟨rfl, by simp⟩
theorem startsG_snoc (H : α → Nat) (l : List α) (x : α) : startsG H (l ++ [x]) = if (hashesG H l).getLast? = some (H x) then startsG H l else startsG H l ++ [l.length] := by
  obtain ⟨h1, h2⟩ := runG_facts H l
  unfold startsG
  rw [runG_snoc]
  unfold runStep
  rw [h1, h2]
  split <;> rfl
theorem startsG_length (H : α → Nat) (l : List α) : (startsG H l).length = (hashesG H l).length := by
  induction l using snoc_ind with
  | nil => rfl
  | snoc l x ih =>
    rw [startsG_snoc, hashesG_snoc]
    unfold hashStep
    split
    · exact ih
    · rw [List.length_append, List.length_append, ih]; rfl
theorem startsG_lt (H : α → Nat) (l : List α) : ∀ s ∈ startsG H l, s < l.length := by
  induction l using snoc_ind with
  | nil => intro s hs; cases hs
  | snoc l x ih =>
    intro s hs
    rw [startsG_snoc] at hs
    rw [List.length_append]
    split at hs
    · have := ih s hs; omega
    · rcases List.mem_append.1 hs with h | h
      · have := ih s h; omega
      · rw [List.mem_singleton.1 h]; simp
theorem getD_in {l : List Nat} {i : Nat} (h : i < l.length) (d : Nat) : l.getD i d = l[i] := by
  rw [List.getD_eq_getElem?_getD, List.getElem?_eq_getElem h]
  rfl
theorem getD_out {l : List Nat} {i : Nat} (h : l.length ≤ i) (d : Nat) : l.getD i d = d := by
  rw [List.getD_eq_getElem?_getD, List.getElem?_eq_none h]
  rfl
/-- The things of a hash stand from where it begins to where the next one does. -/
def endG (H : α → Nat) (l : List α) (r : Nat) : Nat := (startsG H l).getD (r + 1) l.length
theorem group_all (H : α → Nat) (l : List α) (hp : l.Pairwise fun a b => H a ≤ H b) : ∀ r, r < (hashesG H l).length →
    (startsG H l).getD r 0 ≤ endG H l r ∧ endG H l r ≤ l.length ∧ (l.take (endG H l r)).drop ((startsG H l).getD r 0) = l.filter fun x => decide (H x = (hashesG H l).getD r 0) := by
  induction l using snoc_ind with
  | nil => intro r hr; simp [hashesG] at hr
  | snoc l x ih =>
    intro r hr
    have hr' := hashesG_rise H (l ++ [x]) hp
    rw [List.pairwise_append] at hp
    obtain ⟨hp1, -, hp2⟩ := hp
    have ih := ih hp1
    obtain ⟨g1, g2, g3⟩ := hashesG_rise H l hp1
    have hsl := startsG_length H l
    have hslt := startsG_lt H l
    unfold endG at ih ⊢
    rw [startsG_snoc]
    rw [hashesG_snoc] at hr' hr ⊢
    unfold hashStep at hr' hr ⊢
    rw [List.length_append, List.length_singleton, List.filter_append]
    by_cases hc : (hashesG H l).getLast? = some (H x)
    · rw [if_pos hc] at hr' hr ⊢
      rw [if_pos hc]
      obtain ⟨i1, i2, i3⟩ := ih r hr
      have hlast : ∀ h : (hashesG H l).length - 1 < (hashesG H l).length, (hashesG H l)[(hashesG H l).length - 1] = H x := fun h => by
        rw [List.getLast?_eq_getElem?, List.getElem?_eq_getElem h] at hc
        exact Option.some.inj hc
      by_cases h1 : r + 1 < (hashesG H l).length
      · have e1 : (startsG H l).getD (r + 1) (l.length + 1) = (startsG H l).getD (r + 1) l.length := by rw [getD_in (by omega), getD_in (by omega)]
        rw [e1]
        refine ⟨i1, by omega, ?_⟩
        rw [List.take_append_of_le_length i2, i3]
        have hne : H x ≠ (hashesG H l).getD r 0 := by
          rw [getD_in hr]
          have := List.pairwise_iff_getElem.1 g1 r ((hashesG H l).length - 1) hr (by omega) (by omega)
          rw [hlast] at this
          omega
        rw [List.filter_cons_of_neg (by simpa using hne)]
        simp
      · have e1 : (startsG H l).getD (r + 1) (l.length + 1) = l.length + 1 := getD_out (by omega) _
        have e2 : (startsG H l).getD (r + 1) l.length = l.length := getD_out (by omega) _
        rw [e2] at i1 i3
        rw [e1]
        refine ⟨by omega, Nat.le_refl _, ?_⟩
        have he : H x = (hashesG H l).getD r 0 := by
          rw [getD_in hr, ← hlast (by omega)]
          congr 1
          omega
        rw [List.take_of_length_le (by simp), List.drop_append_of_le_length i1, List.filter_cons_of_pos (by simpa using he), ← i3, List.take_length]
        rfl
    · rw [if_neg hc] at hr' hr ⊢
      rw [if_neg hc]
      obtain ⟨f1, -, -⟩ := hr'
      rw [List.pairwise_append] at f1
      obtain ⟨-, -, f3⟩ := f1
      rw [List.length_append, List.length_singleton] at hr
      by_cases h1 : r < (hashesG H l).length
      · obtain ⟨i1, i2, i3⟩ := ih r h1
        have e0 : (startsG H l ++ [l.length]).getD r 0 = (startsG H l).getD r 0 := by
          rw [List.getD_eq_getElem?_getD, List.getD_eq_getElem?_getD, List.getElem?_append_left (by omega)]
        have e1 : (startsG H l ++ [l.length]).getD (r + 1) (l.length + 1) = (startsG H l).getD (r + 1) l.length := by
          by_cases h2 : r + 1 < (startsG H l).length
          · rw [List.getD_eq_getElem?_getD, List.getD_eq_getElem?_getD, List.getElem?_append_left h2, List.getElem?_eq_getElem h2]
            rfl
          · rw [getD_out (l := startsG H l) (by omega), List.getD_eq_getElem?_getD, List.getElem?_append_right (by omega), show r + 1 - (startsG H l).length = 0 by omega]
            rfl
        have e2 : (hashesG H l ++ [H x]).getD r 0 = (hashesG H l).getD r 0 := by
          rw [List.getD_eq_getElem?_getD, List.getD_eq_getElem?_getD, List.getElem?_append_left h1]
        rw [e0, e1, e2]
        refine ⟨i1, by omega, ?_⟩
        have hne : H x ≠ (hashesG H l).getD r 0 := by
          rw [getD_in h1]
          have := f3 _ (List.getElem_mem h1) (H x) (by simp)
          omega
        rw [List.take_append_of_le_length i2, i3, List.filter_cons_of_neg (by simpa using hne)]
        simp
      · obtain rfl : r = (hashesG H l).length := by omega
        have e0 : (startsG H l ++ [l.length]).getD (hashesG H l).length 0 = l.length := by
          rw [List.getD_eq_getElem?_getD, List.getElem?_append_right (by omega), show (hashesG H l).length - (startsG H l).length = 0 by omega]
          rfl
        have e1 : (startsG H l ++ [l.length]).getD ((hashesG H l).length + 1) (l.length + 1) = l.length + 1 := getD_out (by rw [List.length_append, List.length_singleton]; omega) _
        have e2 : (hashesG H l ++ [H x]).getD (hashesG H l).length 0 = H x := by
          rw [List.getD_eq_getElem?_getD, List.getElem?_append_right (Nat.le_refl _), Nat.sub_self]
          rfl
        rw [e0, e1, e2]
        refine ⟨by omega, Nat.le_refl _, ?_⟩
        have hno : l.filter (fun y => decide (H y = H x)) = [] := by
          rw [List.filter_eq_nil_iff]
          intro y hy
          have := f3 (H y) ((g2 _).2 ⟨y, hy, rfl⟩) (H x) (by simp)
          simp only [decide_eq_true_eq]
          omega
        rw [List.take_of_length_le (by simp), List.drop_append_of_le_length (Nat.le_refl _), List.drop_length, hno, List.filter_cons_of_pos (by simp)]
        rfl

/-- Those of the hash to which the tree leads. -/
def aliG (H : α → Nat) (l : List α) (h : Nat) : List α := match rankB (treeL 64 (hashesG H l)) h 64 0 (hashesG H l).length 0 with
  | none => []
  | some r => l.filter fun x => decide (H x = (hashesG H l).getD r 0)
theorem aliG_mem {H : α → Nat} {l : List α} {h : Nat} {x : α} (hx : x ∈ aliG H l h) : x ∈ l := by
  unfold aliG at hx
  split at hx
  · cases hx
  · exact (List.mem_filter.1 hx).1
/-- What has a hash leads to that one. -/
theorem rank_own (H : α → Nat) (l : List α) (hp : l.Pairwise fun a b => H a ≤ H b) (h64 : ∀ x ∈ l, H x < 18446744073709551616) (hl : l.length < 18446744073709551615) {x : α} (hx : x ∈ l) :
    ∃ r, ∃ hr : r < (hashesG H l).length, (hashesG H l)[r] = H x ∧ rankB (treeL 64 (hashesG H l)) (H x) 64 0 (hashesG H l).length 0 = some r := by
  obtain ⟨g1, g2, -⟩ := hashesG_rise H l hp
  obtain ⟨i, hi, hix⟩ := List.mem_iff_getElem.1 ((g2 (H x)).2 ⟨x, hx, rfl⟩)
  have hb : ∀ n ∈ hashesG H l, n < 18446744073709551616 := fun n hn => by
    obtain ⟨y, hy, rfl⟩ := (g2 n).1 hn
    exact h64 y hy
  have hR : RiseK 64 (hashesG H l) := ⟨g1, fun a ha b hb' => by rw [Nat.div_eq_of_lt (hb a ha), Nat.div_eq_of_lt (hb b hb')]⟩
  have hlen := hashesG_length H l
  have := rank_tree 64 (hashesG H l) [] [] 0 i hi hR (by omega)
  rw [List.nil_append, List.append_nil, List.length_nil, Nat.zero_add, hix] at this
  exact ⟨i, hi, hix, this⟩
theorem find_filter_of {p q : α → Bool} : ∀ {l : List α}, (∀ x ∈ l, p x = true → q x = true) → (l.filter q).find? p = l.find? p
  | [], _ => rfl
  | x :: l, h => by
    have ih := find_filter_of (l := l) (p := p) (q := q) fun y hy => h y (List.mem_cons_of_mem _ hy)
    cases hq : q x with
    | true =>
      rw [List.filter_cons_of_pos hq]
      cases hp : p x with
      | true => rw [List.find?_cons_of_pos hp, List.find?_cons_of_pos hp]
      | false => rw [List.find?_cons_of_neg (by simp [hp]), List.find?_cons_of_neg (by simp [hp]), ih]
    | false =>
      rw [List.filter_cons_of_neg (by simp [hq])]
      cases hp : p x with
      | true => have := h x (by simp) hp; rw [hq] at this; cases this
      | false => rw [List.find?_cons_of_neg (by simp [hp]), ih]
/-- What is looked for is among them. -/
theorem aliG_find (H : α → Nat) (l : List α) (p : α → Bool) (h : Nat) (hp : l.Pairwise fun a b => H a ≤ H b) (h64 : ∀ x ∈ l, H x < 18446744073709551616) (hl : l.length < 18446744073709551615) (hh : ∀ x ∈ l, p x = true → H x = h) :
    (aliG H l h).find? p = l.find? p := by
  cases hf : l.find? p with
  | none =>
    rw [List.find?_eq_none] at hf ⊢
    exact fun x hx => hf x (aliG_mem hx)
  | some x =>
    have hx := List.mem_of_find?_eq_some hf
    have hpx := List.find?_some hf
    obtain ⟨r, hr, hrx, hrk⟩ := rank_own H l hp h64 hl hx
    rw [hh x hx hpx] at hrx hrk
    unfold aliG
    rw [hrk]
    simp only []
    rw [find_filter_of (fun y hy hpy => by rw [decide_eq_true_eq, hh y hy hpy, getD_in hr, hrx]), hf]
end
end Go.Proofs.Ytibbligidncocaa

namespace Go.Proofs.Ytibbligidncocaa
open Go.RowKit

def KN : Lay Nat := ⟨fun n => [.int .i64 (n : Int)], 1, 3, 63, .int .i64 0, 8⟩
theorem KN_ok : KN.Ok Try.prog := ⟨by decide, fun _ => rfl, fun x u hu => by rw [List.mem_singleton.1 hu]; rfl, Try.underlying63, by kernel_rfl, rfl, by decide⟩
theorem KN.at' {w : World} {a : Option Addr} {n cap : Nat} {l : List Nat} (h : KN.R w (.slice a n cap) l) (i : Nat) (hi : i < l.length) : ∃ b o, a = some ⟨b, o, none⟩ ∧ n = l.length ∧ b < w.heap.size ∧ w.cell? ⟨b, o + i, none⟩ = some (.int .i64 (l[i] : Int)) := by
  obtain ⟨b, o, h1, h2, h3, h4⟩ := h.at KN_ok i hi
  exact ⟨b, o, h1, h2, h3, by have := h4 0 _ rfl; simpa [KN] using this⟩
theorem idxN (b o n cap j : Nat) (h : j < n) (W : World) : (Instr.indexAt 63 (.slice (some ⟨b, o, none⟩) n cap) (.int .i64 (j : Int))).run Try.prog W = .ok (.pointer (some ⟨b, o + j, none⟩)) W := by
  have := KN_ok.run_idx b o n cap j h W
  simpa [KN] using this
theorem KN.one1 (w : World) (z : Nat) : KN.R (w.alloc (.cells #[.int .i64 (z : Int)] 3)) (.slice (some ⟨w.heap.size, 0, none⟩) 1 1) [z] := Lay.R.one w KN_ok z 3 (0, 0)

end Go.Proofs.Ytibbligidncocaa
