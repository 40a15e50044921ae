/- CrcMany: a text that comes piece by piece has the same sum at each of its places: for every input the law returns true. -/
import Derived.Test.YtoadhopliflmgaaDoorCards
import Derived.Test.YtoadhopliflmgaaDoorTie
import Derived.WalkKit
import Derived.ProofKit
import Derived.OpenShut
import Derived.ShutString
import Derived.ChangeOld
import Derived.Below
import Derived.Test.YtoadhopliflmgaaDoorCrcB
import Derived.Test.YtoadhopliflmgaaDoorShort
import Derived.Laws.BitsAllLaws
import Derived.Deep.DeepCutAuto
import Derived.Deep.DeepHandedRow
import Derived.SevenTiedAt
import Derived.LaidMore
import Derived.Stop.Joined
namespace Go.Proofs.YtoadhopliflmgaaDoor.crcMany
open Go.ChangeShapes Go.WideShapes Go.ChangeAt Go.RowKit
open Go.ChangeMaps (open_string shut_string)
set_option linter.unusedVariables false

theorem own : ownKnob Tryd.prog.godebug = none := by kernel_rfl
theorem laidOut : laidOutB Tryd.prog = true := by kernel_rfl

/-- WHAT THE WALK IS TOLD OF A SLICE OF INTEGERS THAT CAME IN: it is nil; or it leads to a row of 'cap' cells, the numbers 'zs' (the first 'len' are its elements, the rest its spare room), each fitting its kind. -/
def IsRow (k : IntKind) (w : World) (a : Option Addr) (len cap : Nat) (zs : List Int) : Prop :=
  (a = none ∧ len = 0 ∧ cap = 0 ∧ zs = []) ∨
  ∃ x, a = some x ∧ len ≤ cap ∧ cap ≤ maxLen ∧ zs.length = cap ∧ (∀ i, i < zs.length → w.cell? (x.add i) = some (.int k (zs.getD i 0))) ∧ ∀ n ∈ zs, (Lit.int k n).wf = true

theorem tab_of {w : World} (L : laidMetH Tryd.prog Rows.crcManyRow.laid w) : Tab w := Tab.of (Lib.tabIs_of_head (rest := []) gNib (by kernel_rfl) Tryd.underlying34 Tryd.underlying25 (by kernel_rfl) (by kernel_rfl) L)

theorem piece (z : Int) : ∃ m : Nat, (wrap64 (z.tmod 40 + 40)).tmod 40 = (m : Int) ∧ m < 40 := by
  have h1 := Int.tmod_lt_of_pos z (show (0 : Int) < 40 by omega)
  have h2 : -40 < z.tmod 40 := Int.lt_tmod_of_pos z (by omega)
  have e : wrap64 (z.tmod 40 + 40) = z.tmod 40 + 40 := by
    unfold wrap64
    omega
  rw [e, Int.tmod_eq_emod_of_nonneg (by omega)]
  exact ⟨((z.tmod 40 + 40) % 40).toNat, by omega, by omega⟩

/-- What a []int says at place k. -/
theorem int_at {w : World} {a : Option Addr} {len cap : Nat} {zs : List Int} (h : IsRow .i64 w a len cap zs) (k : Nat) (hk : k < len) : ∃ b o z, a = some ⟨b, o, none⟩ ∧ w.cell? ⟨b, o + k, none⟩ = some (.int .i64 z) ∧ b < w.heap.size ∧ -9223372036854775808 ≤ z ∧ z ≤ 9223372036854775807 := by
  rcases h with ⟨rfl, rfl, rfl, rfl⟩ | ⟨x, rfl, hl, hmx, hz, hc, hw⟩
  · omega
  · obtain ⟨b, o, spot⟩ := x
    have hspot : spot = none := by simpa [Addr.add] using World.cell?_spot (hc 0 (by omega))
    subst hspot
    have h1 := hc k (by omega)
    have hadd : (⟨b, o, none⟩ : Addr).add k = ⟨b, o + k, none⟩ := by unfold Addr.add; split <;> simp_all
    rw [hadd] at h1
    have hk' : k < zs.length := by omega
    rw [List.getD_eq_getElem?_getD, List.getElem?_eq_getElem hk', Option.getD_some] at h1
    have := bounds_i64 (hw zs[k] (List.getElem_mem hk'))
    exact ⟨b, o, zs[k], rfl, h1, World.block_lt_of_cell? w _ h1, by omega, by omega⟩

set_option maxRecDepth 100000 in
set_option maxHeartbeats 2000000 in
theorem walk (a0 : Option Addr) (len0 cap0 : Nat) (z0 : List Int) (a1 : Option Addr) (len1 cap1 : Nat) (z1 : List Int) (w : World) (L : laidMetH Tryd.prog Rows.crcManyRow.laid w) (w0 : IsRow .u8 w a0 len0 cap0 z0) (w1 : IsRow .i64 w a1 len1 cap1 z1) :
    Calls Tryd.prog 6 #[.slice a0 len0 cap0, .slice a1 len1 cap1] w fun e w' => e = .returned (.bool true) ∧ Below w.heap.size w w' := by
  have hT := tab_of L
  clear L
  obtain ⟨la, hla⟩ := rb_of_row w0
  clear w0
  have hlen1 : len1 ≤ 9223372036854775807 := by
    rcases w1 with ⟨rfl, rfl, rfl, rfl⟩ | ⟨x, rfl, hl, hmx, hz, hc, hw⟩
    · omega
    · unfold maxLen at hmx; omega
  have HI := Go.Lib.hid (fun k => int_at w1 k); clear w1
  have HT := Go.Lib.hid hT; clear hT
  go_enter Tryd.func6, Tryd.ntmps6
  go_wp2_with fail
  refine (begun_c _ HT.out).mono ?_
  rintro e w1 ⟨rfl, hb1⟩
  have HT1 := Go.Lib.hid (HT.out.below hb1)
  go_wp2_with fail
  refine (short_c _ la 300 _ (hla.below hb1) (by omega)).mono ?_
  rintro e w2 ⟨⟨va, rfl, hva⟩, rfl⟩
  have ha300 : (la.take 300).length ≤ 300 := List.length_take_le _ _
  generalize la.take 300 = B at hva ha300
  obtain ⟨ab, capb, rfl, hcb, hmb, -, -⟩ := id hva
  have HB := Go.Lib.hid hva; clear hva
  clear hla HT
  go_wp2_with fail
  go_loop [6, 7, 8, 9] (fun s a i n => ∃ k j : Nat, k ≤ len1 ∧ k ≤ 40 ∧ j ≤ B.length ∧ i = .int .i64 (k : Int) ∧ a = .int .i64 (j : Int) ∧ ∃ q : U, s = .int .u32 (q.toNat : Int) ∧ Hid (q = crcSum (B.take j))) (fun _ _ i _ => 40 - (intOf i).toNat)
  case atStart => exact ⟨0, 0, by omega, by omega, by omega, rfl, rfl, 0#32, rfl, by simp [Hid, sum_nil]⟩
  case round =>
    obtain ⟨k, j, hk, hk40, hj, rfl, rfl, q, rfl, hq⟩ := hrel
    by_cases hlt : k < len1 ∧ k < 40
    · obtain ⟨hlt1, hlt40⟩ := hlt
      obtain ⟨b, o, z, rfl, hz, hbs, z1, z2⟩ := HI.out k hlt1
      have hc := (hb1.cell (p := ⟨b, o + k, none⟩) hbs).trans hz
      clear hz hbs
      obtain ⟨m, hmI, hm40⟩ := piece z
      obtain ⟨p, hpI⟩ : ∃ p : Nat, min ((B.length : Int) - (j : Int)) (m : Int) = (p : Int) := ⟨(min ((B.length : Int) - (j : Int)) (m : Int)).toNat, by omega⟩
      have hjp : j + p ≤ B.length := by omega
      have hs2 : (0 : Int) ≤ (j : Int) + (p : Int) := by omega
      clear hlen1
      go_wp2_with (first
        | (with_reducible show wpList _ _ _ (⟨some 43, _, _, _, _, _⟩ :: _) _ _; go_loud (refine wpList_slice_lh rfl (.tmp 38) (.tmp 39) (.tmp 42) 22 rfl 5 Tryd.underlying22 info8 (.slice ab B.length capb) B .i64 .i64 _ _ j (j + p) rfl rfl rfl rfl (by simp) HB.out (by omega) hjp ?_); intro v1 hv1)
        | fail)
      refine (more_c q v1 _ _ HT1.out hv1).mono ?_
      rintro e w3 ⟨rfl, rfl⟩
      have hq2 : crcMore q ((B.take (j + p)).drop j) = crcSum (B.take (j + p)) := by
        rw [hq.out, more_sum]
        congr 1
        have e1 : B.take j = (B.take (j + p)).take j := by rw [List.take_take, Nat.min_eq_left (by omega)]
        rw [e1, List.take_append_drop]
      rw [hq2]
      clear hq2 hq hmI hv1
      go_wp2_with (first
        | (with_reducible show wpList _ _ _ (⟨some 51, _, _, _, _, _⟩ :: _) _ _; go_loud (refine wpList_slice_h rfl (.tmp 49) (.tmp 50) 22 rfl 5 Tryd.underlying22 info8 (.slice ab B.length capb) B .i64 _ (j + p) rfl rfl (by simp) HB.out hjp ?_); intro v2 hv2)
        | fail)
      refine (sum_c v2 _ _ HT1.out hv2).mono ?_
      rintro e w3 ⟨rfl, rfl⟩
      obtain ⟨q2, hq2⟩ : ∃ q2, q2 = crcSum (B.take (j + p)) := ⟨_, rfl⟩
      rw [← hq2]
      have HQ := Go.Lib.hid hq2; clear hq2
      go_wp2
      go_round
      case rel => exact ⟨k + 1, j + p, by omega, by omega, by omega, by go_num, by go_num, q2, rfl, HQ⟩
      case measure => simp [intOf]; omega
    · have hfin : crcMore q (B.drop j) = crcSum B := by
        rw [hq.out, more_sum, List.take_append_drop]
      have Hfin := Go.Lib.hid hfin; clear hfin hq
      clear hlen1
      by_cases hlt1 : k < len1
      all_goals
        go_wp2_with (first
          | (with_reducible show wpList _ _ _ (⟨some 57, _, _, _, _, _⟩ :: _) _ _; go_loud (refine wpList_slice_l rfl (.tmp 55) (.tmp 56) 22 rfl 5 Tryd.underlying22 info8 (.slice ab B.length capb) B .i64 _ j rfl rfl rfl HB.out hj ?_); intro v2 hv2)
          | fail)
        refine (more_c q v2 _ _ HT1.out hv2).mono ?_
        rintro e w3 ⟨rfl, rfl⟩
        rw [Hfin.out]
        go_wp2_with fail
        refine (sum_c _ _ _ HT1.out HB.out).mono ?_
        rintro e w3 ⟨rfl, rfl⟩
        go_wp2
        go_ret
        exact ⟨rfl, hb1⟩

/-! ### THE ROW's STEP: WRITTEN OUT: LEAVE IT -/
noncomputable def laidWorld (os : Os) : World := World.doorLaid Tryd.prog 400 os
theorem laid_met (os : Os) : laidMetH Tryd.prog Rows.crcManyRow.laid ((laidWorld os).forCall (fun _ _ => 0) ⟨#[], #[.slice none 0 0, .slice none 0 0], []⟩).memory :=
  laidMetH_of_parts3 (fuel := 8) (laidMet_of_run' 8 (by kernel_rfl) (by kernel_rfl)) (by kernel_rfl) (by kernel_rfl)
theorem reads (os : Os) {H : Type} (enc : TypeId × Value → H) : ∃ places, DataW.whole enc Tryd.prog ((laidWorld os).forCall (fun _ _ => 0) ⟨#[], #[.slice none 0 0, .slice none 0 0], []⟩).memory Tryd.f6.params.toList Rows.crcManySpec.vars false (Array.toList #[.slice none 0 0, .slice none 0 0]) 8 = some ([.nil, .nil], [], places) :=
  ⟨[], by kernel_rfl⟩

set_option maxRecDepth 100000 in
theorem lifted (os : Os) (started : os.Started) (H : Type) (enc : TypeId × Value → H) (F : Stop.Interp) :
    ReturnsInHanded {} Tryd.checked os 6 .any ((OpenSpec.ofChange Rows.crcManySpec).preRow enc Tryd.prog Tryd.f6 Rows.crcManyRow.domain false Rows.crcManyRow.laid) (((OpenSpec.ofChange Rows.crcManySpec).at F).post enc Tryd.prog Tryd.f6 false true false false) := by
  obtain ⟨places, hx⟩ := reads os enc
  refine returnsInHanded_of_row (C := Tryd.checked) (s := OpenSpec.ofChange Rows.crcManySpec) own started (by kernel_rfl) Tryd.func6
    (witness_row_at (enc := enc) (C := Tryd.checked) false (laidWorld os) #[.slice none 0 0, .slice none 0 0] rfl (by kernel_rfl) (by kernel_rfl) (by kernel_rfl)
      (OpenSpec.preRow_of_cond 8 hx (by kernel_rfl) (fun k hk => by cases hk) (by kernel_rfl) (laid_met os))) ?_
  intro W base args ds gs before hval0 hW _ _ _ hL _ _
  have hval : ∀ (j : Nat) t v, Tryd.f6.params[j]? = some t → args[j]? = some v → Value.okWide Tryd.prog W .any base t v := hval0
  have hW' := hW
  obtain ⟨p, q, hA0, hV, rfl, hfz, hnd⟩ := hW
  have hA : DataW.TrodAll enc Tryd.prog W 0 (fun _ => true) true Tryd.f6.params.toList args.toList ds p := hA0
  rw [Tryd.params6] at hA hval
  obtain ⟨v0, vs0, d0, ds0, p0, q0, hargs, rfl, rfl, h0, r0⟩ := trodAll_cons hA
  obtain ⟨v1, vs1, d1, ds1, p1, q1, rfl, rfl, rfl, h1, r1⟩ := trodAll_cons r0
  obtain ⟨rfl, rfl, rfl⟩ := trodAll_nil r1
  obtain rfl : args = #[v0, v1] := by cases args; simp_all
  obtain ⟨rfl, rfl⟩ := trodVars_none hV
  obtain ⟨a0, len0, cap0, rfl⟩ := okWide_slice Tryd.underlying22 (hval 0 22 v0 rfl rfl)
  have k0 := h0
  have lt0 : ∀ x ∈ p0, x.block < W.heap.size := by obtain ⟨m, hm⟩ := k0; exact DataW.trod_lt m _ _ _ hm
  obtain ⟨z0, w0⟩ : ∃ zs, IsRow .u8 W a0 len0 cap0 zs := by
    obtain ⟨fuel, hf⟩ := h0
    rcases open_ints Tryd.underlying22 Tryd.underlying5 (by kernel_rfl) hf with ⟨hcs, _⟩ | ⟨x, l, c, zs, hcs, _, hl, hm, hz, _, hcell, hwz⟩
    · simp [Value.cells] at hcs
      obtain ⟨rfl, rfl, rfl⟩ := hcs
      exact ⟨[], .inl ⟨rfl, rfl, rfl, rfl⟩⟩
    · simp [Value.cells] at hcs
      obtain ⟨rfl, rfl, rfl⟩ := hcs
      exact ⟨zs, .inr ⟨_, rfl, hl, hm, by simpa using hz, hcell, hwz⟩⟩
  obtain ⟨a1, len1, cap1, rfl⟩ := okWide_slice Tryd.underlying31 (hval 1 31 v1 rfl rfl)
  have k1 := h1
  have lt1 : ∀ x ∈ p1, x.block < W.heap.size := by obtain ⟨m, hm⟩ := k1; exact DataW.trod_lt m _ _ _ hm
  obtain ⟨z1, w1⟩ : ∃ zs, IsRow .i64 W a1 len1 cap1 zs := by
    obtain ⟨fuel, hf⟩ := h1
    rcases open_ints Tryd.underlying31 Tryd.underlying3 (by kernel_rfl) hf with ⟨hcs, _⟩ | ⟨x, l, c, zs, hcs, _, hl, hm, hz, _, hcell, hwz⟩
    · simp [Value.cells] at hcs
      obtain ⟨rfl, rfl, rfl⟩ := hcs
      exact ⟨[], .inl ⟨rfl, rfl, rfl, rfl⟩⟩
    · simp [Value.cells] at hcs
      obtain ⟨rfl, rfl, rfl⟩ := hcs
      exact ⟨zs, .inr ⟨_, rfl, hl, hm, by simpa using hz, hcell, hwz⟩⟩
  clear hA0 hval0
  refine (walk a0 len0 cap0 z0 a1 len1 cap1 z1 W hL w0 w1).mono fun e W' ⟨he, bel⟩ => ?_
  subst he
  exact ⟨_, rfl, _, _, _, [], _, [], hW', trodAll_mk1 (shut_bool Tryd.underlying4 _), (trodAll_cons_mk (Below.trod laidOut (by kernel_rfl) (of_decide_eq_true (by kernel_rfl)) k0 bel lt0) (trodAll_cons_mk (Below.trod laidOut (by kernel_rfl) (of_decide_eq_true (by kernel_rfl)) k1 bel lt1) trodAll_mk0)), rfl, bel.frame _, fun h => by cases h⟩

theorem said : Rows.CrcManySaid :=
  OpenClaim.holds_of_cond 6 Tryd.f6 rfl rfl rfl rfl rfl rfl rfl ⟨rfl, rfl, rfl, rfl, rfl⟩ rfl rfl rfl rfl rfl (by kernel_rfl) Tryd.func6 (by kernel_rfl)
    (of_decide_eq_true (by kernel_rfl)) (by unfold Func.isWrapper; first | (rw [if_pos (by decide +kernel)]; kernel_rfl) | (rw [if_neg (by decide +kernel)]; exact ⟨rfl, rfl⟩))
    (fun os started H enc _ F => by rw [OpenClaim.pre_eq_preRow]; exact lifted os started H enc F)

/-- No parameter wants a stand-in; the program's own looks are off: what the card asks. -/
theorem plain (f : FuncId) (fn : Func) (hf : Tryd.pinned.checked.prog.funcNamed "loess/loesslaw2.CrcMany" = some f) (hfn : Tryd.pinned.checked.prog.funcs[f]? = some fn) :
    false = Tryd.pinned.checked.prog.looks [] ∧ ∀ (j : Nat) t, fn.params[j]? = some t → Tryd.pinned.checked.prog.wantsStandIn t = false := by
  obtain rfl : f = 6 := Option.some.inj ((show Tryd.prog.funcNamed "loess/loesslaw2.CrcMany" = some 6 by kernel_rfl).symm.trans hf) |>.symm
  obtain rfl : fn = Tryd.f6 := (Option.some.inj (Tryd.func6.symm.trans hfn)).symm
  refine ⟨by kernel_rfl, fun j t ht => ?_⟩
  rw [Tryd.params6] at ht
  have hm : t ∈ [22, 31] := by simpa using Array.mem_of_getElem? ht
  have hall : ([22, 31].all fun u => !Tryd.prog.wantsStandIn u) = true := by kernel_rfl
  exact (show Tryd.prog.wantsStandIn t = false by simpa using List.all_eq_true.1 hall t hm)

/-- THE CARD. -/
theorem proved : Rows.CrcManyCardSaid :=
  Claim7.holds_tied_plain_at .later [] _ _ _ _ said (fun _ h => by cases h) (by kernel_rfl) (fun _ h => by cases h) crcMany_row_tie rfl ⟨rfl, rfl⟩ (by kernel_rfl) rfl plain (by kernel_rfl)
end Go.Proofs.YtoadhopliflmgaaDoor.crcMany
