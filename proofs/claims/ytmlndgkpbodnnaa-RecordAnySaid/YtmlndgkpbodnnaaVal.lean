/-
  Values: contracts of the reference's EqVal, MayVal, of the laws' Cut.
-/
import Derived.Test.YtmlndgkpbodnnaaRawV
import Derived.Test.YtmlndgkpbodnnaaLCut
import Derived.Test.YtmlndgkpbodnnaaRValid
namespace Go.Proofs.Ytmlndgkpbodnnaa
open Go.RowKit

/-- The same Kind, N, S. -/
def eqR (k1 n1 : Int) (s1 : ByteArray) (k2 n2 : Int) (s2 : ByteArray) : Bool := k1 == k2 && n1 == n2 && s1.toList == s2.toList
theorem eqR_iff (k1 n1 : Int) (s1 : ByteArray) (k2 n2 : Int) (s2 : ByteArray) : eqR k1 n1 s1 k2 n2 s2 = true ↔ k1 = k2 ∧ n1 = n2 ∧ s1 = s2 := by
  unfold eqR
  rw [Bool.and_eq_true, Bool.and_eq_true, beq_iff_eq, beq_iff_eq, beq_iff_eq, ByteArray.toList_eq, ByteArray.toList_eq, and_assoc]
  constructor
  · rintro ⟨h1, h2, h3⟩
    exact ⟨h1, h2, ByteArray.ext (Array.toList_inj.1 h3)⟩
  · rintro ⟨h1, h2, rfl⟩
    exact ⟨h1, h2, rfl⟩
theorem eqR_refl (k n : Int) (s : ByteArray) : eqR k n s k n s = true := (eqR_iff ..).2 ⟨rfl, rfl, rfl⟩

theorem below_one (w : World) (o : Obj) : Below w.heap.size w (w.alloc o) := (Below.refl _ w).alloc (Nat.le_refl _) o
theorem below_two (w : World) (o1 o2 : Obj) : Below w.heap.size w ((w.alloc o1).alloc o2) := (below_one w o1).alloc (below_one w o1).size o2

set_option maxRecDepth 100000 in
theorem eqval_c (k1 n1 : Int) (s1 : ByteArray) (k2 n2 : Int) (s2 : ByteArray) (w : World) :
    Calls Try.prog 29 #[rawV k1 n1 s1, rawV k2 n2 s2] w fun e w' => e = .returned (.bool (eqR k1 n1 s1 k2 n2 s2)) ∧ Below w.heap.size w w' := by
  unfold rawV
  by_cases h1 : k1 = k2
  · by_cases h2 : n1 = n2
    · have hr : Hid (eqR k1 n1 s1 k2 n2 s2 = (s1.toList == s2.toList)) := by unfold Hid eqR; simp [h1, h2]
      go_enter Try.func29, Try.ntmps29
      go_wp2_with fail
      go_ret
      exact ⟨ret_of (congrArg Value.bool (by first | exact hr.out.symm | (subst h1; subst h2; exact hr.out.symm))), below_two _ _ _⟩
    · have hr : Hid (eqR k1 n1 s1 k2 n2 s2 = false) := by unfold Hid eqR; simp [h1, h2]
      go_enter Try.func29, Try.ntmps29
      go_wp2_with fail
      go_ret
      exact ⟨ret_of (congrArg Value.bool (by first | exact hr.out.symm | (subst h1; exact hr.out.symm))), below_two _ _ _⟩
  · have hr : Hid (eqR k1 n1 s1 k2 n2 s2 = false) := by unfold Hid eqR; simp [h1]
    go_enter Try.func29, Try.ntmps29
    go_wp2_with fail
    go_ret
    exact ⟨ret_of (congrArg Value.bool hr.out.symm), below_two _ _ _⟩

/-- What may be a value. -/
def mayR (k n : Int) (s : ByteArray) : Bool := if k = 1 then s.toList.isEmpty else if k = 2 then n == 0 && decide (s.size ≤ 24) && wellB (toks (bl s)) else false

set_option maxRecDepth 100000 in
theorem mayval_c (k n : Int) (s : ByteArray) (w : World) (hm : s.size ≤ maxLen) :
    Calls Try.prog 26 #[rawV k n s] w fun e w' => e = .returned (.bool (mayR k n s)) ∧ Below w.heap.size w w' := by
  unfold rawV
  unfold maxLen at hm
  by_cases h1 : k = 1
  · subst h1
    go_enter Try.func26, Try.ntmps26
    go_wp2_with fail
    go_ret
    exact ⟨ret_of (congrArg Value.bool (by unfold mayR; simp)), below_one _ _⟩
  by_cases h2 : k = 2
  · subst h2
    by_cases h3 : n = 0
    · subst h3
      by_cases h4 : s.size ≤ 24
      · have C := Go.Lib.hid fun W => rvalid_c s W (by omega)
        go_enter Try.func26, Try.ntmps26
        go_wp2_with fail
        refine (C.out _).mono ?_
        rintro e w1 ⟨rfl, rfl⟩
        go_wp2_with fail
        go_ret
        exact ⟨ret_of (congrArg Value.bool (by unfold mayR; simp [h4])), below_one _ _⟩
      · go_enter Try.func26, Try.ntmps26
        go_wp2_with fail
        go_ret
        exact ⟨ret_of (congrArg Value.bool (by unfold mayR; simp [h4])), below_one _ _⟩
    · have h3' : (n == 0) = false := by simp [h3]
      go_enter Try.func26, Try.ntmps26
      go_wp2_with fail
      go_ret
      exact ⟨ret_of (congrArg Value.bool (by unfold mayR; simp [h3])), below_one _ _⟩
  · have h1' : (k == 1) = false := by simp [h1]
    have h2' : (k == 2) = false := by simp [h2]
    go_enter Try.func26, Try.ntmps26
    go_wp2_with fail
    go_ret
    exact ⟨ret_of (congrArg Value.bool (by unfold mayR; simp [h1, h2])), below_one _ _⟩

set_option maxRecDepth 100000 in
/-- The laws' 'Cut(r)'. -/
theorem vcut_c (k n : Int) (s : ByteArray) (w : World) (hm : s.size ≤ maxLen) :
    Calls Try.prog 24 #[rawV k n s] w fun e w' => e = .returned (rawV k n (str ((bl s).take 30))) ∧ Below w.heap.size w w' := by
  unfold rawV
  have C := Go.Lib.hid fun W => lcut_c s 30 W hm (by omega)
  clear hm
  go_enter Try.func24, Try.ntmps24
  go_wp2_with fail
  refine (C.out _).mono ?_
  rintro e w1 ⟨rfl, rfl⟩
  go_wp2_with fail
  refine bodyPost_ret (results_cell_row rfl _ _ (w.heap.size + 1) 23 #[.int .i64 k, .int .i64 n, .string (str ((bl s).take 30))] (0, 0) _ rfl (heap_alloc2_new w _ _) Try.underlying23 rfl (by kernel_rfl)) rfl ?_
  exact ⟨rfl, below_two _ _ _⟩

/-- A row and two more are what is answered. -/
theorem results_row_two {P : Program} {fn : Func} {p u v : Tmp} {ty : TypeId} (h : fn.results = #[.cell p ty, .tmp u, .tmp v]) (tmps : Array Value) (w : World) (g : Nat) (t : TypeId) (cs : Array Value) (fr : Nat × Nat) (d : TypeDesc)
    (hp : tmps.getD p undef = .pointer (some ⟨g, 0, none⟩)) (hg : w.heap[g]? = some (.cells cs t fr))
    (hu : P.underlying ty = some d) (hd : (match d with | .struct _ | .array _ _ => true | _ => false) = true) (hi : (P.info? ty).map (·.size) = some cs.size) :
    (results fn tmps).run P w = .ok (.tuple #[.agg cs, tmps.getD u undef, tmps.getD v undef]) w := by
  have hp' : tmps[p]?.getD undef = .pointer (some ⟨g, 0, none⟩) := by simpa using hp
  simp only [results, h]
  simp [Result.andThen, hp', asAddr, run_loadVar_row w g t ty cs fr d hg hu hd hi]

end Go.Proofs.Ytmlndgkpbodnnaa
