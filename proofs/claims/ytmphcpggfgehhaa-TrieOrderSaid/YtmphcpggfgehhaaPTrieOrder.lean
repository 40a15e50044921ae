/- TrieOrder: a greater hash never has a lesser place: for every input the law returns true. -/
import Derived.Test.YtmphcpggfgehhaaRows
import Derived.WalkKit
import Derived.ProofKit
import Derived.OpenShut
import Derived.ShutString
import Derived.ChangeOld
import Derived.Below
import Derived.Test.YtmphcpggfgehhaaBegun21
import Derived.Test.YtmphcpggfgehhaaSrtd
namespace Go.Proofs.Ytmphcpggfgehhaa.trieOrder
open Go.ChangeShapes Go.WideShapes Go.ChangeAt Go.RowKit
open Go.ChangeMaps (open_string shut_string)
set_option linter.unusedVariables false

theorem own : ownKnob Try.prog.godebug = none := by kernel_rfl
theorem laidOut : laidOutB Try.prog = true := by kernel_rfl

/-- WHAT THE WALK IS TOLD OF A SLICE OF INTEGERS THAT CAME IN: it is nil; or it leads to a row of 'cap' cells, the numbers 'zs' (the first 'len' are its elements, the rest its spare room), each fitting its kind. -/
def IsRow (k : IntKind) (w : World) (a : Option Addr) (len cap : Nat) (zs : List Int) : Prop :=
  (a = none ∧ len = 0 ∧ cap = 0 ∧ zs = []) ∨
  ∃ x, a = some x ∧ len ≤ cap ∧ cap ≤ maxLen ∧ zs.length = cap ∧ (∀ i, i < zs.length → w.cell? (x.add i) = some (.int k (zs.getD i 0))) ∧ ∀ n ∈ zs, (Lit.int k n).wf = true

set_option maxHeartbeats 1000000 in
set_option maxRecDepth 100000 in
theorem walk (a0 : Option Addr) (len0 cap0 : Nat) (z0 : List Int) (a1 : Bool) (a2 : Int) (a3 : Int) (w : World) (w0 : IsRow .u64 w a0 len0 cap0 z0) (w2 : (Lit.int .u64 a2).wf = true) (w3 : (Lit.int .u64 a3).wf = true) :
    Calls Try.prog 6 #[.slice a0 len0 cap0, .bool a1, .int .u64 a2, .int .u64 a3] w fun e w' => e = .returned (.bool true) ∧ Below w.heap.size w w' := by
  obtain ⟨x0, x1⟩ := bounds_u64 w2
  obtain ⟨y0, y1⟩ := bounds_u64 w3
  obtain ⟨x, rfl⟩ : ∃ x : Nat, a2 = (x : Int) := ⟨a2.toNat, by omega⟩
  obtain ⟨y, rfl⟩ : ∃ y : Nat, a3 = (y : Int) := ⟨a3.toNat, by omega⟩
  obtain ⟨L, hL, hL64⟩ := ku_of_row w0
  have CS := Go.Lib.hid fun W (h : Below w.heap.size w W) => sorted_c _ L a1 W (hL.below h) hL64
  clear w0 w2 w3 hL hL64
  go_enter Try.func6, Try.ntmps6
  go_wp2_with fail
  refine (begun21_c _).mono ?_
  rintro e w1 ⟨rfl, hb1⟩
  go_wp2_with fail
  refine (CS.out w1 hb1).mono ?_
  rintro e w2 ⟨v2, rfl, S, hS, hP, h40, hS64, hb2⟩
  obtain ⟨a5, c5, rfl, -⟩ := hS.form
  have hb3 := hb1.trans (hb2.mono hb1.size)
  have CB := Go.Lib.hid (build_yes _ S w2 hS hS64 (by omega) (riseB_of hP))
  have hlen := treeL_len 64 S (by omega)
  have hmono : Hid (x ≤ y → ∀ p q, rankB (treeL 64 S) x 64 0 S.length 0 = some p → rankB (treeL 64 S) y 64 0 S.length 0 = some q → p ≤ q) := Go.Lib.hid fun hxy p q h1 h2 => rank_mono (treeL 64 S) 64 0 S.length 0 p q (by rw [Nat.mod_eq_of_lt (by omega), Nat.mod_eq_of_lt (by omega)]; exact hxy) h1 h2
  have HL : Hid ((treeL 64 S).length ≤ 100000000) := Go.Lib.hid (by omega)
  generalize treeL 64 S = T at *
  generalize S.length = n at *
  clear hS hP hS64 hb1 hb2 CS hlen
  go_wp2_with fail
  refine CB.out.mono ?_
  rintro e w4 ⟨B, u, rfl, hbt, hB, hb4⟩
  have hb5 := hb3.trans (hb4.mono hb3.size)
  have KX := Go.Lib.hid fun R hR => rank_c n x w4 B B u T hbt HL.out (by omega) R hR
  have KY := Go.Lib.hid fun (W : World) (h : Below w4.heap.size w4 W) R hR => rank_c n y W B B u T (hbt.below h) HL.out (by omega) R hR
  clear hbt CB hb3 hb4
  by_cases hxy : y < x
  · have hxyI : (y : Int) < (x : Int) := by omega
    clear KX KY hmono
    go_wp2_with fail
    go_ret
    exact ⟨rfl, hb5⟩
  · have hxyI : ¬ (y : Int) < (x : Int) := by omega
    have hm := Go.Lib.hid (hmono.out (by omega))
    cases h1 : rankB T x 64 0 n 0 with
    | none =>
      have KX1 := Go.Lib.hid (KX.out _ h1)
      cases h2 : rankB T y 64 0 n 0 with
      | none =>
        have KY1 := Go.Lib.hid fun W h => KY.out W h _ h2
        clear KX KY h1 h2 hm hmono
        simp only [endV] at KX1 KY1
        go_wp2_with fail
        refine KX1.out.mono ?_
        rintro e w5 ⟨rfl, hb6⟩
        go_wp2_with fail
        refine (KY1.out w5 hb6).mono ?_
        rintro e w6 ⟨rfl, hb7⟩
        have hb8 := hb5.trans ((hb6.trans (hb7.mono hb6.size)).mono hb5.size)
        go_wp2_with fail
        go_ret
        exact ⟨rfl, hb8⟩
      | some q =>
        have KY1 := Go.Lib.hid fun W h => KY.out W h _ h2
        clear KX KY h1 h2 hm hmono
        simp only [endV] at KX1 KY1
        go_wp2_with fail
        refine KX1.out.mono ?_
        rintro e w5 ⟨rfl, hb6⟩
        go_wp2_with fail
        refine (KY1.out w5 hb6).mono ?_
        rintro e w6 ⟨rfl, hb7⟩
        have hb8 := hb5.trans ((hb6.trans (hb7.mono hb6.size)).mono hb5.size)
        go_wp2_with fail
        go_ret
        exact ⟨rfl, hb8⟩
    | some p =>
      have KX1 := Go.Lib.hid (KX.out _ h1)
      cases h2 : rankB T y 64 0 n 0 with
      | none =>
        have KY1 := Go.Lib.hid fun W h => KY.out W h _ h2
        clear KX KY h1 h2 hm hmono
        simp only [endV] at KX1 KY1
        go_wp2_with fail
        refine KX1.out.mono ?_
        rintro e w5 ⟨rfl, hb6⟩
        go_wp2_with fail
        refine (KY1.out w5 hb6).mono ?_
        rintro e w6 ⟨rfl, hb7⟩
        have hb8 := hb5.trans ((hb6.trans (hb7.mono hb6.size)).mono hb5.size)
        go_wp2_with fail
        go_ret
        exact ⟨rfl, hb8⟩
      | some q =>
        have KY1 := Go.Lib.hid fun W h => KY.out W h _ h2
        have hpq : (p : Int) ≤ (q : Int) := by have := hm.out p q h1 h2; omega
        clear KX KY h1 h2 hm hmono
        simp only [endV] at KX1 KY1
        go_wp2_with fail
        refine KX1.out.mono ?_
        rintro e w5 ⟨rfl, hb6⟩
        go_wp2_with fail
        refine (KY1.out w5 hb6).mono ?_
        rintro e w6 ⟨rfl, hb7⟩
        have hb8 := hb5.trans ((hb6.trans (hb7.mono hb6.size)).mono hb5.size)
        go_wp2_with fail
        go_ret
        exact ⟨rfl, hb8⟩

/-! ### THE ROW's STEP: WRITTEN OUT: LEAVE IT -/
set_option maxRecDepth 100000 in
theorem lifted (os : Os) (started : os.Started) (H : Type) (enc : TypeId × Value → H) :
    ReturnsInHanded {} Try.checked os 6 .any (Rows.trieOrderSpec.pre6 enc Try.prog Try.f6 Rows.trieOrderRow.domain false) (Rows.trieOrderSpec.post enc Try.prog Try.f6 false true false false) := by
  refine returnsInHanded_of_change (C := Try.checked) own started (by kernel_rfl) Try.func6
    (ChangeSpec.witness6 (enc := enc) (C := Try.checked) false ⟨#[], #[.slice none 0 0, .bool false, .int .u64 0, .int .u64 0], []⟩ 8 (by kernel_rfl) (by kernel_rfl) (by kernel_rfl) (by kernel_rfl)) ?_
  intro W base args ds gs before hval0 hW hcnd _
  have hval : ∀ (j : Nat) t v, Try.f6.params[j]? = some t → args[j]? = some v → Value.okWide Try.prog W .any base t v := hval0
  have hW' := hW
  obtain ⟨p, q, hA0, hV, rfl, hfz, hnd⟩ := hW
  have hA : DataW.TrodAll enc Try.prog W 0 (fun _ => true) true Try.f6.params.toList args.toList ds p := hA0
  rw [Try.params6] at hA hval
  obtain ⟨v0, vs0, d0, ds0, p0, q0, hargs, rfl, rfl, h0, r0⟩ := trodAll_cons hA
  obtain ⟨v1, vs1, d1, ds1, p1, q1, rfl, rfl, rfl, h1, r1⟩ := trodAll_cons r0
  obtain ⟨v2, vs2, d2, ds2, p2, q2, rfl, rfl, rfl, h2, r2⟩ := trodAll_cons r1
  obtain ⟨v3, vs3, d3, ds3, p3, q3, rfl, rfl, rfl, h3, r3⟩ := trodAll_cons r2
  obtain ⟨rfl, rfl, rfl⟩ := trodAll_nil r3
  obtain rfl : args = #[v0, v1, v2, v3] := by cases args; simp_all
  obtain ⟨rfl, rfl⟩ := trodVars_none hV
  obtain ⟨a0, len0, cap0, rfl⟩ := okWide_slice Try.underlying22 (hval 0 22 v0 rfl rfl)
  have k0 := h0
  have lt0 : ∀ x ∈ p0, x.block < W.heap.size := by obtain ⟨m, hm⟩ := k0; exact DataW.trod_lt m _ _ _ hm
  obtain ⟨z0, w0⟩ : ∃ zs, IsRow .u64 W a0 len0 cap0 zs := by
    obtain ⟨fuel, hf⟩ := h0
    rcases open_ints Try.underlying22 Try.underlying23 (by kernel_rfl) hf with ⟨hcs, _⟩ | ⟨x, l, c, zs, hcs, _, hl, hm, hz, _, hcell, hwz⟩
    · simp [Value.cells] at hcs
      obtain ⟨rfl, rfl, rfl⟩ := hcs
      exact ⟨[], .inl ⟨rfl, rfl, rfl, rfl⟩⟩
    · simp [Value.cells] at hcs
      obtain ⟨rfl, rfl, rfl⟩ := hcs
      exact ⟨zs, .inr ⟨_, rfl, hl, hm, by simpa using hz, hcell, hwz⟩⟩
  obtain ⟨a1, rfl, rfl, rfl⟩ := open_bool Try.underlying4 (hval 1 4 v1 rfl rfl) h1
  obtain ⟨a2, rfl, rfl, rfl, w2⟩ := open_int Try.underlying23 (hval 2 23 v2 rfl rfl) h2
  obtain ⟨a3, rfl, rfl, rfl, w3⟩ := open_int Try.underlying23 (hval 3 23 v3 rfl rfl) h3
  clear hA0 hval0
  refine (walk a0 len0 cap0 z0 a1 a2 a3 W w0 w2 w3).mono fun e W' ⟨he, bel⟩ => ?_
  subst he
  exact ⟨_, rfl, _, _, _, [], _, [], hW', trodAll_mk1 (shut_bool Try.underlying4 _), (trodAll_cons_mk (Below.trod laidOut (by kernel_rfl) (of_decide_eq_true (by kernel_rfl)) k0 bel lt0) (trodAll_cons_mk (shut_bool Try.underlying4 _) (trodAll_cons_mk (shut_int Try.underlying23 w2) (trodAll_cons_mk (shut_int Try.underlying23 w3) trodAll_mk0)))), rfl, bel.frame _, fun h => by cases h⟩

theorem over : Rows.trieOrderRow.holds Try.pinned (OpenSpec.ofChange Rows.trieOrderSpec) :=
  OpenClaim.holds_of_wide 6 Try.f6 rfl rfl rfl rfl rfl rfl rfl ⟨rfl, rfl, rfl, rfl, rfl⟩ rfl rfl rfl rfl rfl (by kernel_rfl) Try.func6 (by kernel_rfl)
    (of_decide_eq_true (by kernel_rfl)) (by unfold Func.isWrapper; first | (rw [if_pos (by decide +kernel)]; kernel_rfl) | (rw [if_neg (by decide +kernel)]; exact ⟨rfl, rfl⟩))
    (fun os started H enc _ => lifted os started H enc)

/-- ████ THE STATEMENT ████ -/
theorem proved : Rows.TrieOrderSaid := over
#print axioms proved
end Go.Proofs.Ytmphcpggfgehhaa.trieOrder
