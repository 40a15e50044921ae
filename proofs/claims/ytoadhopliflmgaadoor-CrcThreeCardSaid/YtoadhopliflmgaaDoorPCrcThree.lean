/- CrcThree: of three texts of one length the sum of their exclusive or is the exclusive or of their sums: for every input the law returns true. -/
import Derived.Test.YtoadhopliflmgaaDoorCards
import Derived.Test.YtoadhopliflmgaaDoorTie
import Derived.WalkKit
import Derived.ProofKit
import Derived.OpenShut
import Derived.ShutString
import Derived.ChangeOld
import Derived.Below
import Derived.Test.YtoadhopliflmgaaDoorCrcB
import Derived.Laws.BitsAllLaws
import Derived.RegionTactic
import Derived.ChangeAlike
import Derived.BigRegion
import Derived.Deep.QuietTactic
import Derived.BigQuiet
import Derived.Deep.DeepCutAuto
import Derived.Deep.DeepHandedRow
import Derived.SevenTiedAt
import Derived.LaidMore
import Derived.Stop.Joined
namespace Go.Proofs.YtoadhopliflmgaaDoor.crcThree
open Go.ChangeShapes Go.WideShapes Go.ChangeAt Go.RowKit
open Go.ChangeMaps (open_string shut_string)
set_option linter.unusedVariables false

theorem own : ownKnob Tryd.prog.godebug = none := by kernel_rfl
theorem laidOut : laidOutB Tryd.prog = true := by kernel_rfl

/-- WHAT THE WALK IS TOLD OF A SLICE OF INTEGERS THAT CAME IN: it is nil; or it leads to a row of 'cap' cells, the numbers 'zs' (the first 'len' are its elements, the rest its spare room), each fitting its kind. -/
def IsRow (k : IntKind) (w : World) (a : Option Addr) (len cap : Nat) (zs : List Int) : Prop :=
  (a = none ∧ len = 0 ∧ cap = 0 ∧ zs = []) ∨
  ∃ x, a = some x ∧ len ≤ cap ∧ cap ≤ maxLen ∧ zs.length = cap ∧ (∀ i, i < zs.length → w.cell? (x.add i) = some (.int k (zs.getD i 0))) ∧ ∀ n ∈ zs, (Lit.int k n).wf = true

theorem tab_of {w : World} (L : laidMetH Tryd.prog Rows.crcThreeRow.laid w) : Tab w := Tab.of (Lib.tabIs_of_head (rest := []) gNib (by kernel_rfl) Tryd.underlying34 Tryd.underlying25 (by kernel_rfl) (by kernel_rfl) L)

set_option maxRecDepth 100000 in
set_option maxHeartbeats 2000000 in
theorem walk (a0 : Option Addr) (len0 cap0 : Nat) (z0 : List Int) (a1 : Option Addr) (len1 cap1 : Nat) (z1 : List Int) (a2 : Option Addr) (len2 cap2 : Nat) (z2 : List Int) (w : World) (L : laidMetH Tryd.prog Rows.crcThreeRow.laid w) (w0 : IsRow .u8 w a0 len0 cap0 z0) (w1 : IsRow .u8 w a1 len1 cap1 z1) (w2 : IsRow .u8 w a2 len2 cap2 z2) :
    Calls Tryd.prog 5 #[.slice a0 len0 cap0, .slice a1 len1 cap1, .slice a2 len2 cap2] w fun e w' => e = .returned (.bool true) ∧ Below w.heap.size w w' := by
  have hT := tab_of L
  clear L
  obtain ⟨la, hla⟩ := rb_of_row w0
  obtain ⟨lb, hlb⟩ := rb_of_row w1
  obtain ⟨lc, hlc⟩ := rb_of_row w2
  clear w0 w1 w2
  have HT := Go.Lib.hid hT; clear hT
  go_enter Tryd.func5, Tryd.ntmps5
  go_wp2_with fail
  refine (begun_c _ HT.out).mono ?_
  rintro e w1 ⟨rfl, hb1⟩
  have hA1 := hla.below hb1
  have hB1 := hlb.below hb1
  have hC1 := hlc.below hb1
  clear hla hlb hlc
  obtain ⟨n, hn⟩ : ∃ n : Nat, n = min len0 (min 100 (min len1 len2)) := ⟨_, rfl⟩
  have hnI : (min (len0 : Int) (min 100 (min (len1 : Int) (len2 : Int)))) = (n : Int) := by omega
  have hn0 : n ≤ len0 := by omega
  have hn1 : n ≤ len1 := by omega
  have hn2 : n ≤ len2 := by omega
  have hn100 : n ≤ 100 := by omega
  clear hn
  go_wp2_with (first
    | (with_reducible show wpList _ _ _ (⟨some 24, _, _, _, _, _⟩ :: _) _ _; go_loud (refine wpList_make_len rfl (.tmp 23) (.tmp 23) 22 rfl 5 Tryd.underlying22 info8 .i64 .i64 _ _ n n rfl rfl rfl rfl (Nat.le_refl _) (by omega) ?_); intro v w2 hown hg)
    | fail)
  have hb12 := grown_below hg (Nat.le_refl _) (by simp)
  have hT2 := HT.out.below hb1
  have HT1 := Go.Lib.hid hT2; clear hT2
  have hlA := hA1.len
  have hlB := hB1.len
  have hlC := hC1.len
  have h0 : n ≤ la.length := by omega
  have h1 : n ≤ lb.length := by omega
  have h2 : n ≤ lc.length := by omega
  have hm0 : len0 ≤ 9223372036854775807 := by have := hlA.2; unfold maxLen at this; omega
  have hm1 : len1 ≤ 9223372036854775807 := by have := hlB.2; unfold maxLen at this; omega
  have hm2 : len2 ≤ 9223372036854775807 := by have := hlC.2; unfold maxLen at this; omega
  clear hg hnI hlA hlB hlC
  obtain ⟨X, hX⟩ : ∃ X, X = xorL (xorL (la.take n) (lb.take n)) (lc.take n) := ⟨_, rfl⟩
  have hXl : X.length = n := by rw [hX]; simp [xorL]; omega
  have hXat : ∀ k (h : k < n) (hx : k < X.length), X[k] = (la[k]'(Nat.lt_of_lt_of_le h h0) ^^^ lb[k]'(Nat.lt_of_lt_of_le h h1)) ^^^ lc[k]'(Nat.lt_of_lt_of_le h h2) := by
    intro k h hx; subst hX; simp [xorL]
  have HX := Go.Lib.hid hX; clear hX
  have HXl := Go.Lib.hid hXl; clear hXl
  have HA := Go.Lib.hid hA1; clear hA1
  have HB := Go.Lib.hid hB1; clear hB1
  have HC := Go.Lib.hid hC1; clear hC1
  have HXat := Go.Lib.hid hXat; clear hXat
  go_loopw [10] (fun i wr => ∃ k : Nat, k ≤ n ∧ i = .int .i64 (k : Int) ∧ Own 5 wr w1.heap.size v (X.take k ++ List.replicate (n - k) 0) ∧ Below w1.heap.size w1 wr) (fun i _ => n - (intOf i).toNat)
  case atStart => exact ⟨0, by omega, rfl, by simpa using hown, hb12⟩
  case round =>
    obtain ⟨k, hk, rfl, hown, hbr⟩ := hrel
    by_cases hlt : k < n
    · obtain ⟨g, cap, rfl, hgB, hgs, hgc, hgm, -⟩ := hown.form (by have := HXl.out; simp; omega)
      have hk0 : k < len0 := by omega
      have hk1 : k < len1 := by omega
      have hk2 : k < len2 := by omega
      obtain ⟨ba, oa, rfl, hca, hba⟩ := HA.out.at k (by omega)
      obtain ⟨bb, ob, rfl, hcb, hbb⟩ := HB.out.at k (by omega)
      obtain ⟨bc, oc, rfl, hcc, hbc⟩ := HC.out.at k (by omega)
      have ha := (hbr.cell (p := ⟨ba, oa + k, none⟩) hba).trans hca
      have hb := (hbr.cell (p := ⟨bb, ob + k, none⟩) hbb).trans hcb
      have hc := (hbr.cell (p := ⟨bc, oc + k, none⟩) hbc).trans hcc
      clear hca hcb hcc
      have hL : (X.take k ++ List.replicate (n - k) 0).length = n := by have := HXl.out; simp; omega
      have hd := hown.cell k (by omega)
      have hf := hown.frozenAt k
      have hfin : (X.take k ++ List.replicate (n - k) 0).set k (la[k] ^^^ lb[k] ^^^ lc[k]) = X.take (k + 1) ++ List.replicate (n - (k + 1)) 0 := by
        have hxl := HXl.out
        have hx := HXat.out k hlt (by omega)
        rw [← hx, List.take_succ_eq_append_getElem (by omega), List.append_assoc, List.set_append_right _ _ (by simp; omega), List.length_take, Nat.min_eq_left (by omega), Nat.sub_self]
        congr 1
        rw [show n - k = (n - (k + 1)) + 1 from by omega, List.replicate_succ]
        rfl
      have hst := hown.store k (la[k] ^^^ lb[k] ^^^ lc[k]) _ rfl
      rw [hfin] at hst
      have hx1 := u8_xor_c la[k] lb[k]
      have hx2 := u8_xor_c (la[k] ^^^ lb[k]) lc[k]
      generalize (X.take k ++ List.replicate (n - k) 0)[k] = od at hd
      rw [hL] at hst hgc
      rw [hL]
      generalize (la[k] ^^^ lb[k] ^^^ lc[k]) = x2 at hst hx2
      generalize (la[k] ^^^ lb[k]) = x1 at hx1 hx2
      generalize la[k] = ca at ha hx1
      generalize lb[k] = cb at hb hx1
      generalize lc[k] = cc at hc hx2
      have hrb := hbr.setCell (p := ⟨g, k, none⟩) hgB (.int .u8 (x2.toNat : Int))
      have Hst := Go.Lib.hid hst; clear hst
      have Hrb := Go.Lib.hid hrb; clear hrb
      clear hown hfin hL
      have hgB' := Go.Lib.hid hgB; clear hgB
      have hgs' := Go.Lib.hid hgs; clear hgs
      have hba' := Go.Lib.hid hba; clear hba
      have hbb' := Go.Lib.hid hbb; clear hbb
      have hbc' := Go.Lib.hid hbc; clear hbc
      go_wp2_with fail
      go_region
      go_wp2
      go_roundw
      case rel => exact ⟨k + 1, by omega, by go_num, Hst.out.drew, Hrb.out.drew⟩
      case measure => simp [intOf]; omega
    · obtain rfl : k = n := by omega
      have HT2 := Go.Lib.hid (HT1.out.below hbr)
      have hrb := hown.rb
      rw [show k - k = 0 from by omega, List.replicate_zero, List.append_nil, List.take_of_length_le (by have := HXl.out; omega)] at hrb
      have hA2 := Go.Lib.hid (HA.out.below hbr)
      have hB2 := Go.Lib.hid (HB.out.below hbr)
      have hC2 := Go.Lib.hid (HC.out.below hbr)
      clear HA HB HC hown
      obtain ⟨va, hva, hsa⟩ := hA2.out.run_h 22 5 Tryd.underlying22 info8 k h0 .i64
      obtain ⟨vb, hvb, hsb⟩ := hB2.out.run_h 22 5 Tryd.underlying22 info8 k h1 .i64
      obtain ⟨vc, hvc, hsc⟩ := hC2.out.run_h 22 5 Tryd.underlying22 info8 k h2 .i64
      have hx1 := x_xor (crcSum (la.take k)) (crcSum (lb.take k))
      have hx2 := x_xor (crcSum (la.take k) ^^^ crcSum (lb.take k)) (crcSum (lc.take k))
      have hsum : crcSum X = crcSum (la.take k) ^^^ crcSum (lb.take k) ^^^ crcSum (lc.take k) := by
        rw [HX.out, sum_three] <;> simp <;> omega
      have cX := fun n => sum_q v X wr n HT2.out hrb
      have cA := fun n => sum_q va _ wr n HT2.out hva
      have cB := fun n => sum_q vb _ wr n HT2.out hvb
      have cC := fun n => sum_q vc _ wr n HT2.out hvc
      rw [hsum] at cX
      clear hsum
      generalize crcSum (la.take k) ^^^ crcSum (lb.take k) ^^^ crcSum (lc.take k) = s3 at cX hx2
      generalize crcSum (la.take k) ^^^ crcSum (lb.take k) = s2 at hx1 hx2
      generalize crcSum (la.take k) = sa at cA hx1
      generalize crcSum (lb.take k) = sb at cB hx1
      generalize crcSum (lc.take k) = sc at cC hx2
      have CX := Go.Lib.hid cX; clear cX
      have CA := Go.Lib.hid cA; clear cA
      have CB := Go.Lib.hid cB; clear cB
      have CC := Go.Lib.hid cC; clear cC
      clear hrb hva hvb hvc
      go_wp2_with fail
      go_quiet ((go_at_call 9; first | exact CX.out _ | exact CA.out _ | exact CB.out _ | exact CC.out _))
      go_wp2
      go_ret
      exact ⟨rfl, below_drewN (hb1.trans (hbr.mono hb1.size)) nq⟩

/-! ### THE ROW's STEP: WRITTEN OUT: LEAVE IT -/
noncomputable def laidWorld (os : Os) : World := World.doorLaid Tryd.prog 400 os
theorem laid_met (os : Os) : laidMetH Tryd.prog Rows.crcThreeRow.laid ((laidWorld os).forCall (fun _ _ => 0) ⟨#[], #[.slice none 0 0, .slice none 0 0, .slice none 0 0], []⟩).memory :=
  laidMetH_of_parts3 (fuel := 8) (laidMet_of_run' 8 (by kernel_rfl) (by kernel_rfl)) (by kernel_rfl) (by kernel_rfl)
theorem reads (os : Os) {H : Type} (enc : TypeId × Value → H) : ∃ places, DataW.whole enc Tryd.prog ((laidWorld os).forCall (fun _ _ => 0) ⟨#[], #[.slice none 0 0, .slice none 0 0, .slice none 0 0], []⟩).memory Tryd.f5.params.toList Rows.crcThreeSpec.vars false (Array.toList #[.slice none 0 0, .slice none 0 0, .slice none 0 0]) 8 = some ([.nil, .nil, .nil], [], places) :=
  ⟨[], by kernel_rfl⟩

set_option maxRecDepth 100000 in
theorem lifted (os : Os) (started : os.Started) (H : Type) (enc : TypeId × Value → H) (F : Stop.Interp) :
    ReturnsInHanded {} Tryd.checked os 5 .any ((OpenSpec.ofChange Rows.crcThreeSpec).preRow enc Tryd.prog Tryd.f5 Rows.crcThreeRow.domain false Rows.crcThreeRow.laid) (((OpenSpec.ofChange Rows.crcThreeSpec).at F).post enc Tryd.prog Tryd.f5 false true false false) := by
  obtain ⟨places, hx⟩ := reads os enc
  refine returnsInHanded_of_row (C := Tryd.checked) (s := OpenSpec.ofChange Rows.crcThreeSpec) own started (by kernel_rfl) Tryd.func5
    (witness_row_at (enc := enc) (C := Tryd.checked) false (laidWorld os) #[.slice none 0 0, .slice none 0 0, .slice none 0 0] rfl (by kernel_rfl) (by kernel_rfl) (by kernel_rfl)
      (OpenSpec.preRow_of_cond 8 hx (by kernel_rfl) (fun k hk => by cases hk) (by kernel_rfl) (laid_met os))) ?_
  intro W base args ds gs before hval0 hW _ _ _ hL _ _
  have hval : ∀ (j : Nat) t v, Tryd.f5.params[j]? = some t → args[j]? = some v → Value.okWide Tryd.prog W .any base t v := hval0
  have hW' := hW
  obtain ⟨p, q, hA0, hV, rfl, hfz, hnd⟩ := hW
  have hA : DataW.TrodAll enc Tryd.prog W 0 (fun _ => true) true Tryd.f5.params.toList args.toList ds p := hA0
  rw [Tryd.params5] at hA hval
  obtain ⟨v0, vs0, d0, ds0, p0, q0, hargs, rfl, rfl, h0, r0⟩ := trodAll_cons hA
  obtain ⟨v1, vs1, d1, ds1, p1, q1, rfl, rfl, rfl, h1, r1⟩ := trodAll_cons r0
  obtain ⟨v2, vs2, d2, ds2, p2, q2, rfl, rfl, rfl, h2, r2⟩ := trodAll_cons r1
  obtain ⟨rfl, rfl, rfl⟩ := trodAll_nil r2
  obtain rfl : args = #[v0, v1, v2] := by cases args; simp_all
  obtain ⟨rfl, rfl⟩ := trodVars_none hV
  obtain ⟨a0, len0, cap0, rfl⟩ := okWide_slice Tryd.underlying22 (hval 0 22 v0 rfl rfl)
  have k0 := h0
  have lt0 : ∀ x ∈ p0, x.block < W.heap.size := by obtain ⟨m, hm⟩ := k0; exact DataW.trod_lt m _ _ _ hm
  obtain ⟨z0, w0⟩ : ∃ zs, IsRow .u8 W a0 len0 cap0 zs := by
    obtain ⟨fuel, hf⟩ := h0
    rcases open_ints Tryd.underlying22 Tryd.underlying5 (by kernel_rfl) hf with ⟨hcs, _⟩ | ⟨x, l, c, zs, hcs, _, hl, hm, hz, _, hcell, hwz⟩
    · simp [Value.cells] at hcs
      obtain ⟨rfl, rfl, rfl⟩ := hcs
      exact ⟨[], .inl ⟨rfl, rfl, rfl, rfl⟩⟩
    · simp [Value.cells] at hcs
      obtain ⟨rfl, rfl, rfl⟩ := hcs
      exact ⟨zs, .inr ⟨_, rfl, hl, hm, by simpa using hz, hcell, hwz⟩⟩
  obtain ⟨a1, len1, cap1, rfl⟩ := okWide_slice Tryd.underlying22 (hval 1 22 v1 rfl rfl)
  have k1 := h1
  have lt1 : ∀ x ∈ p1, x.block < W.heap.size := by obtain ⟨m, hm⟩ := k1; exact DataW.trod_lt m _ _ _ hm
  obtain ⟨z1, w1⟩ : ∃ zs, IsRow .u8 W a1 len1 cap1 zs := by
    obtain ⟨fuel, hf⟩ := h1
    rcases open_ints Tryd.underlying22 Tryd.underlying5 (by kernel_rfl) hf with ⟨hcs, _⟩ | ⟨x, l, c, zs, hcs, _, hl, hm, hz, _, hcell, hwz⟩
    · simp [Value.cells] at hcs
      obtain ⟨rfl, rfl, rfl⟩ := hcs
      exact ⟨[], .inl ⟨rfl, rfl, rfl, rfl⟩⟩
    · simp [Value.cells] at hcs
      obtain ⟨rfl, rfl, rfl⟩ := hcs
      exact ⟨zs, .inr ⟨_, rfl, hl, hm, by simpa using hz, hcell, hwz⟩⟩
  obtain ⟨a2, len2, cap2, rfl⟩ := okWide_slice Tryd.underlying22 (hval 2 22 v2 rfl rfl)
  have k2 := h2
  have lt2 : ∀ x ∈ p2, x.block < W.heap.size := by obtain ⟨m, hm⟩ := k2; exact DataW.trod_lt m _ _ _ hm
  obtain ⟨z2, w2⟩ : ∃ zs, IsRow .u8 W a2 len2 cap2 zs := by
    obtain ⟨fuel, hf⟩ := h2
    rcases open_ints Tryd.underlying22 Tryd.underlying5 (by kernel_rfl) hf with ⟨hcs, _⟩ | ⟨x, l, c, zs, hcs, _, hl, hm, hz, _, hcell, hwz⟩
    · simp [Value.cells] at hcs
      obtain ⟨rfl, rfl, rfl⟩ := hcs
      exact ⟨[], .inl ⟨rfl, rfl, rfl, rfl⟩⟩
    · simp [Value.cells] at hcs
      obtain ⟨rfl, rfl, rfl⟩ := hcs
      exact ⟨zs, .inr ⟨_, rfl, hl, hm, by simpa using hz, hcell, hwz⟩⟩
  clear hA0 hval0
  refine (walk a0 len0 cap0 z0 a1 len1 cap1 z1 a2 len2 cap2 z2 W hL w0 w1 w2).mono fun e W' ⟨he, bel⟩ => ?_
  subst he
  exact ⟨_, rfl, _, _, _, [], _, [], hW', trodAll_mk1 (shut_bool Tryd.underlying4 _), (trodAll_cons_mk (Below.trod laidOut (by kernel_rfl) (of_decide_eq_true (by kernel_rfl)) k0 bel lt0) (trodAll_cons_mk (Below.trod laidOut (by kernel_rfl) (of_decide_eq_true (by kernel_rfl)) k1 bel lt1) (trodAll_cons_mk (Below.trod laidOut (by kernel_rfl) (of_decide_eq_true (by kernel_rfl)) k2 bel lt2) trodAll_mk0))), rfl, bel.frame _, fun h => by cases h⟩

theorem said : Rows.CrcThreeSaid :=
  OpenClaim.holds_of_cond 5 Tryd.f5 rfl rfl rfl rfl rfl rfl rfl ⟨rfl, rfl, rfl, rfl, rfl⟩ rfl rfl rfl rfl rfl (by kernel_rfl) Tryd.func5 (by kernel_rfl)
    (of_decide_eq_true (by kernel_rfl)) (by unfold Func.isWrapper; first | (rw [if_pos (by decide +kernel)]; kernel_rfl) | (rw [if_neg (by decide +kernel)]; exact ⟨rfl, rfl⟩))
    (fun os started H enc _ F => by rw [OpenClaim.pre_eq_preRow]; exact lifted os started H enc F)

/-- No parameter wants a stand-in; the program's own looks are off: what the card asks. -/
theorem plain (f : FuncId) (fn : Func) (hf : Tryd.pinned.checked.prog.funcNamed "loess/loesslaw2.CrcThree" = some f) (hfn : Tryd.pinned.checked.prog.funcs[f]? = some fn) :
    false = Tryd.pinned.checked.prog.looks [] ∧ ∀ (j : Nat) t, fn.params[j]? = some t → Tryd.pinned.checked.prog.wantsStandIn t = false := by
  obtain rfl : f = 5 := Option.some.inj ((show Tryd.prog.funcNamed "loess/loesslaw2.CrcThree" = some 5 by kernel_rfl).symm.trans hf) |>.symm
  obtain rfl : fn = Tryd.f5 := (Option.some.inj (Tryd.func5.symm.trans hfn)).symm
  refine ⟨by kernel_rfl, fun j t ht => ?_⟩
  rw [Tryd.params5] at ht
  have hm : t ∈ [22, 22, 22] := by simpa using Array.mem_of_getElem? ht
  have hall : ([22, 22, 22].all fun u => !Tryd.prog.wantsStandIn u) = true := by kernel_rfl
  exact (show Tryd.prog.wantsStandIn t = false by simpa using List.all_eq_true.1 hall t hm)

/-- THE CARD. -/
theorem proved : Rows.CrcThreeCardSaid :=
  Claim7.holds_tied_plain_at .later [] _ _ _ _ said (fun _ h => by cases h) (by kernel_rfl) (fun _ h => by cases h) crcThree_row_tie rfl ⟨rfl, rfl⟩ (by kernel_rfl) rfl plain (by kernel_rfl)
end Go.Proofs.YtoadhopliflmgaaDoor.crcThree
