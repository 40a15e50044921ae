/- TrieAll: of rising hashes each one's place is found; of others some place or none; the tree is just the document's: for every input the law returns true. -/
import Derived.Test.YtmphcpggfgehhaaRows
import Derived.WalkKit
import Derived.ProofKit
import Derived.OpenShut
import Derived.ShutString
import Derived.ChangeOld
import Derived.Below
import Derived.Test.YtmphcpggfgehhaaBegun21
import Derived.Test.YtmphcpggfgehhaaSrtd
import Derived.Test.YtmphcpggfgehhaaTrieT
import Derived.Test.YtmphcpggfgehhaaTrieU
import Derived.Test.YtmphcpggfgehhaaSame
namespace Go.Proofs.Ytmphcpggfgehhaa.trieAll
open Go.ChangeShapes Go.WideShapes Go.ChangeAt Go.RowKit
open Go.ChangeMaps (open_string shut_string)
set_option linter.unusedVariables false

theorem own : ownKnob Try.prog.godebug = none := by kernel_rfl
theorem laidOut : laidOutB Try.prog = true := by kernel_rfl

/-- WHAT THE WALK IS TOLD OF A SLICE OF INTEGERS THAT CAME IN: it is nil; or it leads to a row of 'cap' cells, the numbers 'zs' (the first 'len' are its elements, the rest its spare room), each fitting its kind. -/
def IsRow (k : IntKind) (w : World) (a : Option Addr) (len cap : Nat) (zs : List Int) : Prop :=
  (a = none ∧ len = 0 ∧ cap = 0 ∧ zs = []) ∨
  ∃ x, a = some x ∧ len ≤ cap ∧ cap ≤ maxLen ∧ zs.length = cap ∧ (∀ i, i < zs.length → w.cell? (x.add i) = some (.int k (zs.getD i 0))) ∧ ∀ n ∈ zs, (Lit.int k n).wf = true

set_option maxHeartbeats 2000000 in
set_option maxRecDepth 100000 in
theorem walk (a0 : Option Addr) (len0 cap0 : Nat) (z0 : List Int) (a1 : Bool) (a2 : Int) (w : World) (w0 : IsRow .u64 w a0 len0 cap0 z0) (w2 : (Lit.int .u64 a2).wf = true) :
    Calls Try.prog 3 #[.slice a0 len0 cap0, .bool a1, .int .u64 a2] w fun e w' => e = .returned (.bool true) ∧ Below w.heap.size w w' := by
  obtain ⟨x0, x1⟩ := bounds_u64 w2
  obtain ⟨x, rfl⟩ : ∃ x : Nat, a2 = (x : Int) := ⟨a2.toNat, by omega⟩
  obtain ⟨L, hL, hL64⟩ := ku_of_row w0
  have CS := Go.Lib.hid fun W (h : Below w.heap.size w W) => sorted_c _ L a1 W (hL.below h) hL64
  clear w0 w2 hL hL64
  go_enter Try.func3, Try.ntmps3
  go_wp2_with fail
  refine (begun21_c _).mono ?_
  rintro e w1 ⟨rfl, hb1⟩
  go_wp2_with fail
  refine (CS.out w1 hb1).mono ?_
  rintro e w2 ⟨v2, rfl, S, hS, hP, h40, hS64, hb2⟩
  obtain ⟨a5, c5, rfl, -⟩ := hS.form
  have hb3 := hb1.trans (hb2.mono hb1.size)
  have hR := rise64 (riseB_of hP) hS64
  have CB := Go.Lib.hid (build_yes _ S w2 hS hS64 (by omega) (riseB_of hP))
  have hlen := treeL_len 64 S (by omega)
  have CT := Go.Lib.hid fun (W : World) (h : Below w2.heap.size w2 W) => rtree_c 64 0 S _ W rfl (hS.below h) hS64 (by omega) (by omega)
  have hplace := Go.Lib.hid fun (i : Nat) (hi : i < S.length) => rank_place hR (by omega) i hi
  have hchk := Go.Lib.hid (check_tree hR (by omega))
  have HS := Go.Lib.hid hS
  have HL : Hid ((treeL 64 S).length ≤ 1000000) := Go.Lib.hid (by omega)
  have H64 := Go.Lib.hid hS64
  have hx64 : x < 18446744073709551616 := by omega
  generalize treeL 64 S = T at *
  clear hS hP hS64 hb1 hb2 CS hlen hR
  go_wp2_with fail
  refine CB.out.mono ?_
  rintro e w4 ⟨B, u, rfl, hbt, hB, hb4⟩
  have hb5 := hb3.trans (hb4.mono hb3.size)
  have HBT := Go.Lib.hid hbt
  have HS4 := Go.Lib.hid (HS.out.below hb4)
  have HB4 := Go.Lib.hid hb4
  have HB5 := Go.Lib.hid hb5
  clear hbt CB hb3 hb4 hb5 HS
  go_wp2_with fail
  refine (CT.out w4 HB4.out).mono ?_
  rintro e w5 ⟨vT, rfl, hoT, hb6⟩
  have HT5 := Go.Lib.hid hoT.rv
  obtain ⟨aT, cT, rfl, -⟩ := hoT.rv.zbForm
  have HBT5 := Go.Lib.hid (HBT.out.below hb6)
  have HB6 := Go.Lib.hid hb6
  have KM := Go.Lib.hid (same_c _ T w5 B B u HBT5.out HT5.out HL.out)
  have KC := Go.Lib.hid fun (W : World) (h : Below w5.heap.size w5 W) => check_c S.length true W B B u T (HBT5.out.below h) (by have := HL.out; omega) (by omega) hchk.out
  have KR := Go.Lib.hid fun (y : Nat) (R : Option Nat) (hR : rankB T y 64 0 S.length 0 = R) (W : World) (h : Below w5.heap.size w5 W) => rank_c S.length y W B B u T (HBT5.out.below h) (by have := HL.out; omega) (by omega) R hR
  have KQ := Go.Lib.hid fun (R : Option Nat) (hR : rankB T x 64 0 S.length 0 = R) (W : World) (h : Below w5.heap.size w5 W) => rrank_c S.length x _ T W (HT5.out.below h) (by have := HL.out; omega) (by omega) hx64 R hR
  have HS5 := Go.Lib.hid (HS4.out.below hb6)
  clear hoT hb6 CT HBT HBT5 HS4 HT5 hchk
  go_wp2_with fail
  refine KM.out.mono ?_
  rintro e w6 ⟨rfl, hb7⟩
  go_wp2_with fail
  refine (KC.out w6 hb7).mono ?_
  rintro e w7 ⟨rfl, hb8⟩
  have hb9 := hb7.trans (hb8.mono hb7.size)
  have HB9 := Go.Lib.hid hb9
  clear KM KC hb7 hb8 hb9
  go_wp2_with fail
  go_loopw [11] (fun i' wr => ∃ i : Nat, i' = .int .i64 (i : Int) ∧ i ≤ S.length ∧ Below w5.heap.size w5 wr) (fun i' _ => S.length - (intOf i').toNat)
  case atStart => exact ⟨0, rfl, by omega, HB9.out⟩
  case round =>
    obtain ⟨i, rfl, hi, hb⟩ := hrel
    by_cases hlt : i < S.length
    · obtain ⟨b, o, rfl, -, hbl, c1⟩ := KU.at' HS5.out i hlt
      have d1 := (hb.cell (p := ⟨b, o + i, none⟩) hbl).trans c1
      have i1 := idxU b o S.length c5 i hlt
      have K1 := KR.out S[i] (some i) (hplace.out i hlt)
      generalize S[i] = y at *
      simp only [endV] at K1
      have K1 := Go.Lib.hid (K1 wr hb)
      have hii : ((i : Int) == (i : Int)) = true := by simp
      have hii2 : ((i : Int) != (i : Int)) = false := by simp
      clear c1
      go_wp2_with fail
      refine K1.out.mono ?_
      rintro e w8 ⟨rfl, hb8⟩
      have hb9 := hb.trans (hb8.mono hb.size)
      clear K1 hb8
      go_wp2_with fail
      go_roundw
      case rel => exact ⟨i + 1, by go_num, by omega, hb9⟩
      case measure => simp only [intOf]; omega
    · have hfin : Hid (∀ W, Below w5.heap.size w5 W → Below w.heap.size w W) := Go.Lib.hid fun W h => HB5.out.trans ((HB6.out.trans (h.mono HB6.out.size)).mono HB5.out.size)
      have hltI : ¬ (i : Int) < (S.length : Int) := by omega
      cases hR : rankB T x 64 0 S.length 0 with
      | none =>
        have K1 := Go.Lib.hid (KR.out x none hR wr hb)
        have K2 := Go.Lib.hid fun W h => KQ.out none hR W h
        simp only [endV] at K1 K2
        clear KR KQ hR hplace
        go_wp2_with fail
        refine K1.out.mono ?_
        rintro e w8 ⟨rfl, hb8⟩
        have hb9 := hb.trans (hb8.mono hb.size)
        go_wp2_with fail
        refine (K2.out w8 hb9).mono ?_
        rintro e w9 ⟨rfl, rfl⟩
        go_wp2_with fail
        go_ret
        exact ⟨rfl, hfin.out _ hb9⟩
      | some p =>
        have K1 := Go.Lib.hid (KR.out x (some p) hR wr hb)
        have K2 := Go.Lib.hid fun W h => KQ.out (some p) hR W h
        simp only [endV] at K1 K2
        have hpp : ((p : Int) == (p : Int)) = true := by simp
        clear KR KQ hR hplace
        go_wp2_with fail
        refine K1.out.mono ?_
        rintro e w8 ⟨rfl, hb8⟩
        have hb9 := hb.trans (hb8.mono hb.size)
        go_wp2_with fail
        refine (K2.out w8 hb9).mono ?_
        rintro e w9 ⟨rfl, rfl⟩
        go_wp2_with fail
        go_ret
        exact ⟨rfl, hfin.out _ hb9⟩

/-! ### THE ROW's STEP: WRITTEN OUT: LEAVE IT -/
set_option maxRecDepth 100000 in
theorem lifted (os : Os) (started : os.Started) (H : Type) (enc : TypeId × Value → H) :
    ReturnsInHanded {} Try.checked os 3 .any (Rows.trieAllSpec.pre6 enc Try.prog Try.f3 Rows.trieAllRow.domain false) (Rows.trieAllSpec.post enc Try.prog Try.f3 false true false false) := by
  refine returnsInHanded_of_change (C := Try.checked) own started (by kernel_rfl) Try.func3
    (ChangeSpec.witness6 (enc := enc) (C := Try.checked) false ⟨#[], #[.slice none 0 0, .bool false, .int .u64 0], []⟩ 8 (by kernel_rfl) (by kernel_rfl) (by kernel_rfl) (by kernel_rfl)) ?_
  intro W base args ds gs before hval0 hW hcnd _
  have hval : ∀ (j : Nat) t v, Try.f3.params[j]? = some t → args[j]? = some v → Value.okWide Try.prog W .any base t v := hval0
  have hW' := hW
  obtain ⟨p, q, hA0, hV, rfl, hfz, hnd⟩ := hW
  have hA : DataW.TrodAll enc Try.prog W 0 (fun _ => true) true Try.f3.params.toList args.toList ds p := hA0
  rw [Try.params3] at hA hval
  obtain ⟨v0, vs0, d0, ds0, p0, q0, hargs, rfl, rfl, h0, r0⟩ := trodAll_cons hA
  obtain ⟨v1, vs1, d1, ds1, p1, q1, rfl, rfl, rfl, h1, r1⟩ := trodAll_cons r0
  obtain ⟨v2, vs2, d2, ds2, p2, q2, rfl, rfl, rfl, h2, r2⟩ := trodAll_cons r1
  obtain ⟨rfl, rfl, rfl⟩ := trodAll_nil r2
  obtain rfl : args = #[v0, v1, v2] := by cases args; simp_all
  obtain ⟨rfl, rfl⟩ := trodVars_none hV
  obtain ⟨a0, len0, cap0, rfl⟩ := okWide_slice Try.underlying22 (hval 0 22 v0 rfl rfl)
  have k0 := h0
  have lt0 : ∀ x ∈ p0, x.block < W.heap.size := by obtain ⟨m, hm⟩ := k0; exact DataW.trod_lt m _ _ _ hm
  obtain ⟨z0, w0⟩ : ∃ zs, IsRow .u64 W a0 len0 cap0 zs := by
    obtain ⟨fuel, hf⟩ := h0
    rcases open_ints Try.underlying22 Try.underlying23 (by kernel_rfl) hf with ⟨hcs, _⟩ | ⟨x, l, c, zs, hcs, _, hl, hm, hz, _, hcell, hwz⟩
    · simp [Value.cells] at hcs
      obtain ⟨rfl, rfl, rfl⟩ := hcs
      exact ⟨[], .inl ⟨rfl, rfl, rfl, rfl⟩⟩
    · simp [Value.cells] at hcs
      obtain ⟨rfl, rfl, rfl⟩ := hcs
      exact ⟨zs, .inr ⟨_, rfl, hl, hm, by simpa using hz, hcell, hwz⟩⟩
  obtain ⟨a1, rfl, rfl, rfl⟩ := open_bool Try.underlying4 (hval 1 4 v1 rfl rfl) h1
  obtain ⟨a2, rfl, rfl, rfl, w2⟩ := open_int Try.underlying23 (hval 2 23 v2 rfl rfl) h2
  clear hA0 hval0
  refine (walk a0 len0 cap0 z0 a1 a2 W w0 w2).mono fun e W' ⟨he, bel⟩ => ?_
  subst he
  exact ⟨_, rfl, _, _, _, [], _, [], hW', trodAll_mk1 (shut_bool Try.underlying4 _), (trodAll_cons_mk (Below.trod laidOut (by kernel_rfl) (of_decide_eq_true (by kernel_rfl)) k0 bel lt0) (trodAll_cons_mk (shut_bool Try.underlying4 _) (trodAll_cons_mk (shut_int Try.underlying23 w2) trodAll_mk0))), rfl, bel.frame _, fun h => by cases h⟩

theorem over : Rows.trieAllRow.holds Try.pinned (OpenSpec.ofChange Rows.trieAllSpec) :=
  OpenClaim.holds_of_wide 3 Try.f3 rfl rfl rfl rfl rfl rfl rfl ⟨rfl, rfl, rfl, rfl, rfl⟩ rfl rfl rfl rfl rfl (by kernel_rfl) Try.func3 (by kernel_rfl)
    (of_decide_eq_true (by kernel_rfl)) (by unfold Func.isWrapper; first | (rw [if_pos (by decide +kernel)]; kernel_rfl) | (rw [if_neg (by decide +kernel)]; exact ⟨rfl, rfl⟩))
    (fun os started H enc _ => lifted os started H enc)

/-- ████ THE STATEMENT ████ -/
theorem proved : Rows.TrieAllSaid := over
#print axioms proved
end Go.Proofs.Ytmphcpggfgehhaa.trieAll
