/- CrcBurst: up to four bytes behind one another that were changed change the sum: for every input the law returns true. -/
import Derived.Test.YtoadhopliflmgaaDoorCards
import Derived.Test.YtoadhopliflmgaaDoorTie
import Derived.WalkKit
import Derived.ProofKit
import Derived.OpenShut
import Derived.ShutString
import Derived.ChangeOld
import Derived.Below
import Derived.Test.YtoadhopliflmgaaDoorCrcB
import Derived.Test.YtoadhopliflmgaaDoorShort
import Derived.Laws.BitsAllLaws
import Derived.RegionTactic
import Derived.ChangeAlike
import Derived.BigRegion
import Derived.Deep.DeepCutAuto
import Derived.Deep.DeepHandedRow
import Derived.SevenTiedAt
import Derived.LaidMore
import Derived.Stop.Joined
namespace Go.Proofs.YtoadhopliflmgaaDoor.crcBurst
open Go.ChangeShapes Go.WideShapes Go.ChangeAt Go.RowKit
open Go.ChangeMaps (open_string shut_string)
set_option linter.unusedVariables false

theorem own : ownKnob Tryd.prog.godebug = none := by kernel_rfl
theorem laidOut : laidOutB Tryd.prog = true := by kernel_rfl

/-- WHAT THE WALK IS TOLD OF A SLICE OF INTEGERS THAT CAME IN: it is nil; or it leads to a row of 'cap' cells, the numbers 'zs' (the first 'len' are its elements, the rest its spare room), each fitting its kind. -/
def IsRow (k : IntKind) (w : World) (a : Option Addr) (len cap : Nat) (zs : List Int) : Prop :=
  (a = none ∧ len = 0 ∧ cap = 0 ∧ zs = []) ∨
  ∃ x, a = some x ∧ len ≤ cap ∧ cap ≤ maxLen ∧ zs.length = cap ∧ (∀ i, i < zs.length → w.cell? (x.add i) = some (.int k (zs.getD i 0))) ∧ ∀ n ∈ zs, (Lit.int k n).wf = true

theorem tab_of {w : World} (L : laidMetH Tryd.prog Rows.crcBurstRow.laid w) : Tab w := Tab.of (Lib.tabIs_of_head (rest := []) gNib (by kernel_rfl) Tryd.underlying34 Tryd.underlying25 (by kernel_rfl) (by kernel_rfl) L)

/-- B, the first k bytes of X laid over it at n. -/
def burst (B X : List UInt8) (n k : Nat) : List UInt8 := B.mapIdx fun i b => if n ≤ i ∧ i < n + k then b ^^^ X.getD (i - n) 0 else b

theorem burst_length (B X : List UInt8) (n k : Nat) : (burst B X n k).length = B.length := by simp [burst]
theorem burst_get (B X : List UInt8) (n k i : Nat) (h : i < (burst B X n k).length) : (burst B X n k)[i] = if n ≤ i ∧ i < n + k then B[i]'(by simpa [burst] using h) ^^^ X.getD (i - n) 0 else B[i]'(by simpa [burst] using h) := List.getElem_mapIdx ..
theorem burst_zero (B X : List UInt8) (n : Nat) : burst B X n 0 = B := by
  apply List.ext_getElem
  · simp [burst]
  · intro i h1 h2
    rw [burst_get, if_neg (by omega)]
theorem burst_at (B X : List UInt8) (n k : Nat) (h : n + k < B.length) (h' : n + k < (burst B X n k).length) : (burst B X n k)[n + k] = B[n + k] := by
  rw [burst_get, if_neg (by omega)]
theorem burst_succ (B X : List UInt8) (n k : Nat) (h : n + k < B.length) (hx : k < X.length) : (burst B X n k).set (n + k) (B[n + k] ^^^ X[k]) = burst B X n (k + 1) := by
  apply List.ext_getElem
  · simp [burst]
  · intro i h1 h2
    rw [List.getElem_set, burst_get, burst_get]
    by_cases hi : n + k = i
    · subst hi
      rw [if_pos rfl, if_pos (by omega), Nat.add_sub_cancel_left, List.getD_eq_getElem?_getD, List.getElem?_eq_getElem hx]
      rfl
    · rw [if_neg hi]
      by_cases hc : n ≤ i ∧ i < n + k
      · rw [if_pos hc, if_pos (by omega)]
      · rw [if_neg hc, if_neg (by omega)]
theorem burst_all (B X : List UInt8) (n : Nat) (h : n + X.length ≤ B.length) : burst B X n X.length = B.take n ++ xorL ((B.drop n).take X.length) X ++ B.drop (n + X.length) := by
  apply List.ext_getElem
  · simp [burst, xorL]; omega
  · intro i h1 h2
    have h1' := h1
    rw [burst_length] at h1'
    rw [burst_get]
    by_cases hi : n ≤ i ∧ i < n + X.length
    · rw [if_pos hi, List.getElem_append_left (by simp [xorL]; omega), List.getElem_append_right (by simp; omega)]
      simp only [xorL, List.getElem_zipWith, List.length_take, Nat.min_eq_left (show n ≤ B.length by omega), List.getElem_take, List.getElem_drop]
      rw [List.getD_eq_getElem?_getD, List.getElem?_eq_getElem (by omega)]
      simp only [Option.getD_some, show n + (i - n) = i from by omega]
    · rw [if_neg hi]
      by_cases hlt : i < n
      · rw [List.getElem_append_left (by simp [xorL]; omega), List.getElem_append_left (by simp; omega), List.getElem_take]
      · rw [List.getElem_append_right (by simp [xorL]; omega), List.getElem_drop]
        congr 1
        simp [xorL]
        omega
theorem burst_ne (B X : List UInt8) (n : Nat) (h : n + X.length ≤ B.length) (h4 : X.length ≤ 4) (hx : ¬ ∀ c ∈ X, c = 0) : crcSum B ≠ crcSum (burst B X n X.length) := by
  rw [burst_all B X n h]
  have := sum_burst (B.take n) ((B.drop n).take X.length) (B.drop (n + X.length)) X (by simp; omega) h4 hx
  have e : B.take n ++ (B.drop n).take X.length ++ B.drop (n + X.length) = B := by
    rw [List.append_assoc, ← List.drop_drop, List.take_append_drop, List.take_append_drop]
  rw [e] at this
  exact this

/-- Is one of the first k not nought? -/
def someB (X : List UInt8) (k : Nat) : Bool := (X.take k).any (· != 0)
theorem someB_succ (X : List UInt8) (k : Nat) (h : k < X.length) : someB X (k + 1) = (someB X k || X[k] != 0) := by
  unfold someB
  rw [List.take_succ_eq_append_getElem h, List.any_append]
  simp
theorem someB_all (X : List UInt8) (h : someB X X.length = true) : ¬ ∀ c ∈ X, c = 0 := by
  unfold someB at h
  rw [List.take_length, List.any_eq_true] at h
  obtain ⟨c, hc, hn⟩ := h
  intro h0
  rw [h0 c hc] at hn
  simp at hn

set_option maxRecDepth 100000 in
set_option maxHeartbeats 2000000 in
theorem walk (a0 : Option Addr) (len0 cap0 : Nat) (z0 : List Int) (a1 : Int) (a2 : Option Addr) (len2 cap2 : Nat) (z2 : List Int) (w : World) (L : laidMetH Tryd.prog Rows.crcBurstRow.laid w) (w0 : IsRow .u8 w a0 len0 cap0 z0) (w1 : (Lit.int .i64 a1).wf = true) (w2 : IsRow .u8 w a2 len2 cap2 z2) :
    Calls Tryd.prog 4 #[.slice a0 len0 cap0, .int .i64 a1, .slice a2 len2 cap2] w fun e w' => e = .returned (.bool true) ∧ Below w.heap.size w w' := by
  have hT := tab_of L
  clear L
  obtain ⟨i1, i2⟩ := bounds_i64 w1
  have i2 : a1 ≤ 9223372036854775807 := by omega
  clear w1
  obtain ⟨la, hla⟩ := rb_of_row w0
  obtain ⟨lx, hlx⟩ := rb_of_row w2
  clear w0 w2
  have HT := Go.Lib.hid hT; clear hT
  go_enter Tryd.func4, Tryd.ntmps4
  go_wp2_with fail
  refine (begun_c _ HT.out).mono ?_
  rintro e w1 ⟨rfl, hb1⟩
  go_wp2_with fail
  refine (short_c _ la 200 _ (hla.below hb1) (by omega)).mono ?_
  rintro e w2 ⟨⟨va, rfl, hva⟩, rfl⟩
  go_wp2_with fail
  refine (short_c _ lx 4 _ (hlx.below hb1) (by omega)).mono ?_
  rintro e w2 ⟨⟨vx, rfl, hvx⟩, rfl⟩
  have ha200 : (la.take 200).length ≤ 200 := List.length_take_le _ _
  have hx4 : (lx.take 4).length ≤ 4 := List.length_take_le _ _
  generalize la.take 200 = B at hva ha200
  generalize lx.take 4 = X at hvx hx4
  obtain ⟨ab, capb, rfl, hcb, hmb, -, -⟩ := id hva
  obtain ⟨ax, capx, rfl, hcx, hmx, -, -⟩ := id hvx
  have HB := Go.Lib.hid hva; clear hva
  have HXx := Go.Lib.hid hvx; clear hvx
  clear hla hlx
  go_wp2_with fail
  go_loop [8, 9] (fun s i => ∃ k : Nat, ∃ q : Bool, k ≤ X.length ∧ i = .int .i64 (k : Int) ∧ s = .bool q ∧ Hid (q = someB X k)) (fun _ i => X.length - (intOf i).toNat)
  case atStart => exact ⟨0, false, by omega, rfl, rfl, by simp [Hid, someB]⟩
  case round =>
    obtain ⟨k, q, hk, rfl, rfl, hq⟩ := hrel
    by_cases hlt : k < X.length
    · obtain ⟨bx, ox, rfl, hcell, -⟩ := HXx.out.at k hlt
      have hs := someB_succ X k hlt
      rw [← hq.out] at hs
      generalize X[k] = c at hcell hs
      clear hq
      cases q with
      | true =>
        rw [Bool.true_or] at hs
        have Hs := Go.Lib.hid hs; clear hs
        go_wp2
        go_round
        case rel => exact ⟨k + 1, true, by omega, by go_num, rfl, Hs.out.symm⟩
        case measure => simp [intOf]; omega
      | false =>
        rw [Bool.false_or] at hs
        have hd : ((c.toNat : Int) != 0) = (c != 0) := by
          rw [Bool.eq_iff_iff]
          simp [← UInt8.toNat_inj]
        generalize (c != 0) = r at hs hd
        have Hs := Go.Lib.hid hs; clear hs
        go_wp2
        go_round
        case rel => exact ⟨k + 1, r, by omega, by go_num, rfl, Hs.out.symm⟩
        case measure => simp [intOf]; omega
    · obtain rfl : k = X.length := by omega
      by_cases hneg : a1 < 0
      · have hd : decide (a1 < 0) = true := by simpa using hneg
        go_wp2
        go_ret
        exact ⟨rfl, hb1⟩
      · obtain ⟨n, rfl⟩ : ∃ n : Nat, a1 = (n : Int) := ⟨a1.toNat, by omega⟩
        clear i1
        by_cases hbig : (B.length : Int) - (X.length : Int) < (n : Int)
        · clear hq
          go_wp2
          go_ret
          exact ⟨rfl, hb1⟩
        · cases q with
          | false =>
            clear hq
            go_wp2
            go_ret
            exact ⟨rfl, hb1⟩
          | true =>
            have hlen : n + X.length ≤ B.length := by omega
            have hne := burst_ne B X n hlen hx4 (someB_all X hq.out.symm)
            have Hne := Go.Lib.hid hne; clear hne hq
            go_wp2_with (first
              | (with_reducible show wpList _ _ _ (⟨some 49, _, _, _, _, _⟩ :: _) _ _; go_loud (refine wpList_append_RB rfl (.const (.slice none 0 0)) (.tmp 48) 22 rfl w1.heap.size 5 Tryd.underlying22 info8 (.slice none 0 0) (.slice ab B.length capb) [] B rfl rfl (Own.nil _ _ _) HB.out (by simp; omega) (Nat.le_refl _) ?_); intro v w2 hown hg)
              | fail)
            rw [List.nil_append, ← burst_zero B X n] at hown
            have hb12 := grown_below hg (Nat.le_refl _) (by simp [Value.ownBlock])
            have HT1 := Go.Lib.hid (HT.out.below hb1)
            have hm : B.length ≤ 9223372036854775807 := by omega
            clear hg HT hneg hbig
            go_loopw [11] (fun i wr => ∃ k : Nat, k ≤ X.length ∧ i = .int .i64 (k : Int) ∧ Own 5 wr w1.heap.size v (burst B X n k) ∧ Below w1.heap.size w1 wr) (fun i _ => X.length - (intOf i).toNat)
            case atStart => exact ⟨0, by omega, rfl, hown, hb12⟩
            case round =>
              obtain ⟨k, hk, rfl, hown, hbr⟩ := hrel
              by_cases hlt : k < X.length
              · have hL := burst_length B X n k
                obtain ⟨g, cap, rfl, hgB, hgs, hgc, hgm, -⟩ := hown.form (by omega)
                obtain ⟨bb, ob, rfl, -, -⟩ := HB.out.at (n + k) (by omega)
                obtain ⟨bx, ox, rfl, hcx', hbx⟩ := HXx.out.at k hlt
                have hx := (hbr.cell (p := ⟨bx, ox + k, none⟩) hbx).trans hcx'
                have hd := hown.cell (n + k) (by omega)
                rw [burst_at B X n k (by omega)] at hd
                have hf := hown.frozenAt (n + k)
                have hst := hown.store (n + k) (B[n + k] ^^^ X[k]) _ rfl
                rw [burst_succ B X n k (by omega) hlt] at hst
                have hx1 := u8_xor_c B[n + k] X[k]
                generalize B[n + k] ^^^ X[k] = c1 at hst hx1
                generalize B[n + k] = c2 at hd hx1
                generalize X[k] = c3 at hx hx1
                rw [hL] at hst hgc
                rw [hL]
                have hrb := hbr.setCell (p := ⟨g, n + k, none⟩) hgB (.int .u8 (c1.toNat : Int))
                have Hst := Go.Lib.hid hst; clear hst
                have Hrb := Go.Lib.hid hrb; clear hrb
                have Hown := Go.Lib.hid hown; clear hown
                have hnk : n + k < B.length := by omega
                have hs1 : IntKind.i64.wrap ((n : Int) + (k : Int)) = (n : Int) + (k : Int) := by rw [IntKind.wrap_i64]; omega
                have hs2 : ((n : Int) + (k : Int)).toNat = n + k := by omega
                have hs3 : (0 : Int) ≤ (n : Int) + (k : Int) := by omega
                have hs4 : (n : Int) + (k : Int) < (B.length : Int) := by omega
                clear hL hcx'
                have hgB' := Go.Lib.hid hgB; clear hgB
                have hgs' := Go.Lib.hid hgs; clear hgs
                have hbx' := Go.Lib.hid hbx; clear hbx
                go_wp2_with fail
                go_region
                clear hs1 hs2 hs3 hs4
                go_wp2
                go_roundw
                case rel => exact ⟨k + 1, by omega, by go_num, Hst.out.drew, Hrb.out.drew⟩
                case measure => simp [intOf]; omega
              · obtain rfl : k = X.length := by omega
                have hrb := hown.rb
                have HTr := Go.Lib.hid (HT1.out.below hbr)
                have HBr := Go.Lib.hid (HB.out.below hbr)
                have hd : (((crcSum B).toNat : Int) != ((crcSum (burst B X n X.length)).toNat : Int)) = true := by
                  rw [bne_iff_ne]
                  intro h
                  apply Hne.out
                  apply BitVec.eq_of_toNat_eq
                  omega
                generalize burst B X n X.length = C at hrb hd
                clear hown
                go_wp2_with fail
                refine (sum_c _ _ _ HTr.out HBr.out).mono ?_
                rintro e w3 ⟨rfl, rfl⟩
                go_wp2_with fail
                refine (sum_c _ _ _ HTr.out hrb).mono ?_
                rintro e w3 ⟨rfl, rfl⟩
                go_wp2
                go_ret
                exact ⟨rfl, hb1.trans (hbr.mono hb1.size)⟩

/-! ### THE ROW's STEP: WRITTEN OUT: LEAVE IT -/
noncomputable def laidWorld (os : Os) : World := World.doorLaid Tryd.prog 400 os
theorem laid_met (os : Os) : laidMetH Tryd.prog Rows.crcBurstRow.laid ((laidWorld os).forCall (fun _ _ => 0) ⟨#[], #[.slice none 0 0, .int .i64 0, .slice none 0 0], []⟩).memory :=
  laidMetH_of_parts3 (fuel := 8) (laidMet_of_run' 8 (by kernel_rfl) (by kernel_rfl)) (by kernel_rfl) (by kernel_rfl)
theorem reads (os : Os) {H : Type} (enc : TypeId × Value → H) : ∃ places, DataW.whole enc Tryd.prog ((laidWorld os).forCall (fun _ _ => 0) ⟨#[], #[.slice none 0 0, .int .i64 0, .slice none 0 0], []⟩).memory Tryd.f4.params.toList Rows.crcBurstSpec.vars false (Array.toList #[.slice none 0 0, .int .i64 0, .slice none 0 0]) 8 = some ([.nil, .lit (.int .i64 0), .nil], [], places) :=
  ⟨[], by kernel_rfl⟩

set_option maxRecDepth 100000 in
theorem lifted (os : Os) (started : os.Started) (H : Type) (enc : TypeId × Value → H) (F : Stop.Interp) :
    ReturnsInHanded {} Tryd.checked os 4 .any ((OpenSpec.ofChange Rows.crcBurstSpec).preRow enc Tryd.prog Tryd.f4 Rows.crcBurstRow.domain false Rows.crcBurstRow.laid) (((OpenSpec.ofChange Rows.crcBurstSpec).at F).post enc Tryd.prog Tryd.f4 false true false false) := by
  obtain ⟨places, hx⟩ := reads os enc
  refine returnsInHanded_of_row (C := Tryd.checked) (s := OpenSpec.ofChange Rows.crcBurstSpec) own started (by kernel_rfl) Tryd.func4
    (witness_row_at (enc := enc) (C := Tryd.checked) false (laidWorld os) #[.slice none 0 0, .int .i64 0, .slice none 0 0] rfl (by kernel_rfl) (by kernel_rfl) (by kernel_rfl)
      (OpenSpec.preRow_of_cond 8 hx (by kernel_rfl) (fun k hk => by cases hk) (by kernel_rfl) (laid_met os))) ?_
  intro W base args ds gs before hval0 hW _ _ _ hL _ _
  have hval : ∀ (j : Nat) t v, Tryd.f4.params[j]? = some t → args[j]? = some v → Value.okWide Tryd.prog W .any base t v := hval0
  have hW' := hW
  obtain ⟨p, q, hA0, hV, rfl, hfz, hnd⟩ := hW
  have hA : DataW.TrodAll enc Tryd.prog W 0 (fun _ => true) true Tryd.f4.params.toList args.toList ds p := hA0
  rw [Tryd.params4] at hA hval
  obtain ⟨v0, vs0, d0, ds0, p0, q0, hargs, rfl, rfl, h0, r0⟩ := trodAll_cons hA
  obtain ⟨v1, vs1, d1, ds1, p1, q1, rfl, rfl, rfl, h1, r1⟩ := trodAll_cons r0
  obtain ⟨v2, vs2, d2, ds2, p2, q2, rfl, rfl, rfl, h2, r2⟩ := trodAll_cons r1
  obtain ⟨rfl, rfl, rfl⟩ := trodAll_nil r2
  obtain rfl : args = #[v0, v1, v2] := by cases args; simp_all
  obtain ⟨rfl, rfl⟩ := trodVars_none hV
  obtain ⟨a0, len0, cap0, rfl⟩ := okWide_slice Tryd.underlying22 (hval 0 22 v0 rfl rfl)
  have k0 := h0
  have lt0 : ∀ x ∈ p0, x.block < W.heap.size := by obtain ⟨m, hm⟩ := k0; exact DataW.trod_lt m _ _ _ hm
  obtain ⟨z0, w0⟩ : ∃ zs, IsRow .u8 W a0 len0 cap0 zs := by
    obtain ⟨fuel, hf⟩ := h0
    rcases open_ints Tryd.underlying22 Tryd.underlying5 (by kernel_rfl) hf with ⟨hcs, _⟩ | ⟨x, l, c, zs, hcs, _, hl, hm, hz, _, hcell, hwz⟩
    · simp [Value.cells] at hcs
      obtain ⟨rfl, rfl, rfl⟩ := hcs
      exact ⟨[], .inl ⟨rfl, rfl, rfl, rfl⟩⟩
    · simp [Value.cells] at hcs
      obtain ⟨rfl, rfl, rfl⟩ := hcs
      exact ⟨zs, .inr ⟨_, rfl, hl, hm, by simpa using hz, hcell, hwz⟩⟩
  obtain ⟨a1, rfl, rfl, rfl, w1⟩ := open_int Tryd.underlying3 (hval 1 3 v1 rfl rfl) h1
  obtain ⟨a2, len2, cap2, rfl⟩ := okWide_slice Tryd.underlying22 (hval 2 22 v2 rfl rfl)
  have k2 := h2
  have lt2 : ∀ x ∈ p2, x.block < W.heap.size := by obtain ⟨m, hm⟩ := k2; exact DataW.trod_lt m _ _ _ hm
  obtain ⟨z2, w2⟩ : ∃ zs, IsRow .u8 W a2 len2 cap2 zs := by
    obtain ⟨fuel, hf⟩ := h2
    rcases open_ints Tryd.underlying22 Tryd.underlying5 (by kernel_rfl) hf with ⟨hcs, _⟩ | ⟨x, l, c, zs, hcs, _, hl, hm, hz, _, hcell, hwz⟩
    · simp [Value.cells] at hcs
      obtain ⟨rfl, rfl, rfl⟩ := hcs
      exact ⟨[], .inl ⟨rfl, rfl, rfl, rfl⟩⟩
    · simp [Value.cells] at hcs
      obtain ⟨rfl, rfl, rfl⟩ := hcs
      exact ⟨zs, .inr ⟨_, rfl, hl, hm, by simpa using hz, hcell, hwz⟩⟩
  clear hA0 hval0
  refine (walk a0 len0 cap0 z0 a1 a2 len2 cap2 z2 W hL w0 w1 w2).mono fun e W' ⟨he, bel⟩ => ?_
  subst he
  exact ⟨_, rfl, _, _, _, [], _, [], hW', trodAll_mk1 (shut_bool Tryd.underlying4 _), (trodAll_cons_mk (Below.trod laidOut (by kernel_rfl) (of_decide_eq_true (by kernel_rfl)) k0 bel lt0) (trodAll_cons_mk (shut_int Tryd.underlying3 w1) (trodAll_cons_mk (Below.trod laidOut (by kernel_rfl) (of_decide_eq_true (by kernel_rfl)) k2 bel lt2) trodAll_mk0))), rfl, bel.frame _, fun h => by cases h⟩

theorem said : Rows.CrcBurstSaid :=
  OpenClaim.holds_of_cond 4 Tryd.f4 rfl rfl rfl rfl rfl rfl rfl ⟨rfl, rfl, rfl, rfl, rfl⟩ rfl rfl rfl rfl rfl (by kernel_rfl) Tryd.func4 (by kernel_rfl)
    (of_decide_eq_true (by kernel_rfl)) (by unfold Func.isWrapper; first | (rw [if_pos (by decide +kernel)]; kernel_rfl) | (rw [if_neg (by decide +kernel)]; exact ⟨rfl, rfl⟩))
    (fun os started H enc _ F => by rw [OpenClaim.pre_eq_preRow]; exact lifted os started H enc F)

/-- No parameter wants a stand-in; the program's own looks are off: what the card asks. -/
theorem plain (f : FuncId) (fn : Func) (hf : Tryd.pinned.checked.prog.funcNamed "loess/loesslaw2.CrcBurst" = some f) (hfn : Tryd.pinned.checked.prog.funcs[f]? = some fn) :
    false = Tryd.pinned.checked.prog.looks [] ∧ ∀ (j : Nat) t, fn.params[j]? = some t → Tryd.pinned.checked.prog.wantsStandIn t = false := by
  obtain rfl : f = 4 := Option.some.inj ((show Tryd.prog.funcNamed "loess/loesslaw2.CrcBurst" = some 4 by kernel_rfl).symm.trans hf) |>.symm
  obtain rfl : fn = Tryd.f4 := (Option.some.inj (Tryd.func4.symm.trans hfn)).symm
  refine ⟨by kernel_rfl, fun j t ht => ?_⟩
  rw [Tryd.params4] at ht
  have hm : t ∈ [22, 3, 22] := by simpa using Array.mem_of_getElem? ht
  have hall : ([22, 3, 22].all fun u => !Tryd.prog.wantsStandIn u) = true := by kernel_rfl
  exact (show Tryd.prog.wantsStandIn t = false by simpa using List.all_eq_true.1 hall t hm)

/-- THE CARD. -/
theorem proved : Rows.CrcBurstCardSaid :=
  Claim7.holds_tied_plain_at .later [] _ _ _ _ said (fun _ h => by cases h) (by kernel_rfl) (fun _ h => by cases h) crcBurst_row_tie rfl ⟨rfl, rfl⟩ (by kernel_rfl) rfl plain (by kernel_rfl)
end Go.Proofs.YtoadhopliflmgaaDoor.crcBurst
