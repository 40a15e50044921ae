/- StoreLasts: what is emptied gives its room back: for every input the law returns true. -/
import Derived.Test.YtnalokjnbccjnaaGreatDoorCards
import Derived.Test.YtnalokjnbccjnaaGreatDoorTie
import Derived.WalkKit
import Derived.ProofKit
import Derived.OpenShut
import Derived.ShutString
import Derived.Test.YtnalokjnbccjnaaGreatDoorM13
import Derived.Deep.DeepHandedRow
import Derived.SevenTiedAt
import Derived.LaidMore
import Derived.Stop.Joined
namespace Go.Proofs.YtnalokjnbccjnaaGreatDoor.storeLasts
open Go.ChangeShapes Go.WideShapes Go.ChangeAt Go.RowKit
open Go.ChangeMaps (open_string shut_string)
set_option linter.unusedVariables false      -- a walk need not use every 'w<i>' (that an integer argument fits its kind)

theorem own : ownKnob Tryz.prog.godebug = none := by kernel_rfl

theorem tab_of {w : World} (L : laidMetH Tryz.prog Rows.storeLastsRow.laid w) : Tab w := Tab.of (Lib.tabIs_of_head (rest := []) gNib (by kernel_rfl) Tryz.underlying199 Tryz.underlying155 (by kernel_rfl) (by kernel_rfl) L)
theorem len_of {e : TypeId} {w : World} {B : Nat} {v : Value} {n : Nat} (h : Own e w B v (List.replicate n 0)) : ∃ a c, v = .slice a n c := by
  obtain ⟨a, c, h, -⟩ := h.rb
  exact ⟨a, c, by rw [h, List.length_replicate]⟩
abbrev nF : ByteArray := ⟨#[102]⟩
/-- One file at most, of m bytes. -/
def OneF (X : FL) (m : Nat) : Prop := X = [] ∨ ∃ b : List UInt8, X = [(nF, b)] ∧ b.length = m
theorem OneF.done {X : FL} {m : Nat} (h : OneF X m) (sl : Option Addr × Nat × Nat) (b : List UInt8) : doneL X [(nF, false, sl, b)] = [(nF, b)] := by
  show putGo nF b false X = _
  rcases h with rfl | ⟨b0, rfl, -⟩
  · rfl
  · unfold putGo
    rw [if_neg (by rw [ltN_irr]; decide), if_pos rfl]
    rfl
theorem OneF.gone {X : FL} {m : Nat} (h : OneF X m) (sl : Option Addr × Nat × Nat) (b : List UInt8) : doneL X [(nF, true, sl, b)] = [] := by
  show putGo nF b true X = _
  rcases h with rfl | ⟨b0, rfl, -⟩
  · rfl
  · unfold putGo
    rw [if_pos rfl]
    rfl
theorem OneF.len {X : FL} {m : Nat} (h : OneF X m) : X.length ≤ 1 := by
  rcases h with rfl | ⟨b0, rfl, -⟩ <;> simp
theorem OneF.secs {X : FL} {m : Nat} (h : OneF X m) : ∀ x ∈ X, Proofs.YtnalokjnbccjnaaGreatDoor.secs x.2.length ≤ Proofs.YtnalokjnbccjnaaGreatDoor.secs m := by
  rcases h with rfl | ⟨b0, rfl, h⟩
  · intro x hx; cases hx
  · intro x hx
    rw [List.mem_singleton.1 hx]
    show Proofs.YtnalokjnbccjnaaGreatDoor.secs b0.length ≤ _
    rw [h]
    exact Nat.le_refl _
theorem okp_f (g : Bool) (sl : Option Addr × Nat × Nat) (b : List UInt8) (hb : b.length ≤ 4000) : OkP [(nF, g, sl, b)] := by
  intro z hz
  rw [List.mem_singleton.1 hz]
  exact ⟨(by decide : 1 ≤ nF.size), (by decide : nF.size ≤ 20), hb⟩

theorem apply_f {w : World} {M s d g p t K sz : Nat} {X : FL} {v : Value} {gn : Bool} {sl : Option Addr × Nat × Nat} {b : List UInt8} (h : LW w M s d g p 100 (lifeN K) t X) (hone : OneF X sz) (hsz : sz ≤ 600) (hT : Tab w) (hB : 0 < M) (hrp : RPt w v [(nF, gn, sl, b)]) (hb : gn = false → b.length = sz) (hb2 : b.length ≤ 600) (hK : K ≤ 900000) (ht : t ≤ 1000000) :
    Calls Tryz.prog 16 #[.pointer (some ⟨s, 0, none⟩), v] w fun e w' => e = .returned (.int .i64 0) ∧ (∃ k', k' ≤ K + 1400 ∧ LW w' M s d g p 100 (lifeN k') (t + 1) (doneL X [(nF, gn, sl, b)])) ∧ Tab w' ∧ Below M w w' ∧ Offs [s, d, g, p] w w' := by
  have h7 := hone.len
  have h5 : max 1 (secs sz) ≤ 10 := by unfold secs; omega
  have h8 : 8 ≤ 86 / max 1 (secs sz) := by
    have : 86 / 10 ≤ 86 / max 1 (secs sz) := Nat.div_le_div_left h5 (by omega)
    omega
  have h9 : secs (26 * X.length + 1) ≤ 1 := by unfold secs; omega
  have h6 : (X.length + 1) * max 1 (secs sz) ≤ 2 * 10 := Nat.mul_le_mul (by omega) h5
  refine apply_ok h hT hB hrp (by simp) (okp_f _ _ _ (by omega)) (by simp) ?_ hK ht (max 1 (secs sz)) (86 / max 1 (secs sz)) (by omega) (by unfold secs; omega) (fun x hx => Nat.le_trans (hone.secs x hx) (by omega)) ?_ (Nat.div_mul_le_self _ _) ?_ ?_
  · cases gn
    · rw [hone.done]; simp
    · rw [hone.gone]; simp
  · intro z hz hg h0
    rw [List.mem_singleton.1 hz] at h0 hg ⊢
    have h3 : b.length ≠ 0 := fun e => h0 (List.eq_nil_of_length_eq_zero e)
    show secs b.length = _
    rw [hb hg] at h3 ⊢
    unfold secs
    omega
  · simp only [List.length_cons, List.length_nil, Nat.zero_add]
    omega
  · simp only [List.length_cons, List.length_nil, Nat.zero_add]
    omega

set_option maxHeartbeats 4000000 in
set_option maxRecDepth 100000 in
theorem walk (a0 a1 : Int) (w0 : (Lit.int .i64 a0).wf = true) (w1 : (Lit.int .i64 a1).wf = true) (w : World) (L : laidMetH Tryz.prog Rows.storeLastsRow.laid w) :
    Calls Tryz.prog 5 #[.int .i64 a0, .int .i64 a1] w fun e w' => e = .returned (.bool true) ∧ Below w.heap.size w w' := by
  have hT := tab_of L
  clear L w0 w1
  have C0 := Go.Lib.hid (begun_c w hT)
  have HT := Go.Lib.hid hT; clear hT
  go_enter Tryz.func5, Tryz.ntmps5
  go_wp2_with fail
  refine C0.out.mono ?_
  rintro e w1 ⟨rfl, hb1⟩
  have HB1 := Go.Lib.hid hb1
  clear hb1 C0
  by_cases h1 : a0 < 0
  · go_wp2_with fail
    go_ret
    exact ⟨rfl, HB1.out⟩
  by_cases h2 : 30 < a0
  · go_wp2_with fail
    go_ret
    exact ⟨rfl, HB1.out⟩
  by_cases h3 : a1 < 0
  · go_wp2_with fail
    go_ret
    exact ⟨rfl, HB1.out⟩
  by_cases h4 : 600 < a1
  · go_wp2_with fail
    go_ret
    exact ⟨rfl, HB1.out⟩
  obtain ⟨rs, rfl⟩ : ∃ n : Nat, a0 = (n : Int) := ⟨a0.toNat, by omega⟩
  obtain ⟨sz, rfl⟩ : ∃ n : Nat, a1 = (n : Int) := ⟨a1.toNat, by omega⟩
  have HRS := Go.Lib.hid (show rs ≤ 30 by omega)
  have HSZ := Go.Lib.hid (show sz ≤ 600 by omega)
  have C1 := Go.Lib.hid (snew_c 100 w1)
  go_wp2_with fail
  refine C1.out.mono ?_
  rintro e w2 ⟨d, g, rfl, hd2, hb2⟩
  rw [show lenD 100 = 100 from rfl] at hd2
  have HB2 := Go.Lib.hid (HB1.out.trans (hb2.mono HB1.out.size))
  have C2 := Go.Lib.hid (make_ok (hd2.mono HB1.out.size) (HT.out.below HB2.out) (by omega) HT.out.low HB2.out.size)
  clear hd2 hb2 C1 HB1
  go_wp2_with fail
  refine C2.out.mono ?_
  rintro e w3 ⟨s, p, rfl, hw3, ht3, hb3, -⟩
  have HB3 := Go.Lib.hid (HB2.out.trans hb3)
  have HW3 := Go.Lib.hid hw3
  have C3 := Go.Lib.hid (free_ok hw3)
  clear hw3 ht3 hb3 C2 HB2
  go_wp2_with fail
  refine C3.out.mono ?_
  rintro e w4 ⟨r, rfl, hb4, hr, -⟩
  have hr : r = 86 := by first | (have := hr rfl; omega) | (have := hr trivial; omega)
  subst hr
  have HB4 := Go.Lib.hid (HB3.out.trans (hb4.mono HB3.out.size))
  have HW4 := Go.Lib.hid (HW3.out.below hb4)
  clear hb4 C3 HB3 HW3
  go_wp2_with fail
  go_loopw [10] (fun i wr => ∃ (k K : Nat) (X : FL), k ≤ rs ∧ i = .int .i64 (k : Int) ∧ K ≤ 4 + 1400 * k ∧ LW wr w.heap.size s d g p 100 (lifeN K) (1 + k) X ∧ OneF X sz ∧ Below w.heap.size w wr) (fun i _ => rs - (intOf i).toNat)
  case atStart => exact ⟨0, 4, [], by omega, rfl, by omega, HW4.out, .inl rfl, HB4.out⟩
  case round =>
    obtain ⟨k, K, X, hk, rfl, hK, hlw, hone, hbw⟩ := hrel
    obtain ⟨wo, rfl⟩ : ∃ wo, wo = wr := ⟨_, rfl⟩
    have HK := Go.Lib.hid hK
    have HLW := Go.Lib.hid hlw
    have HONE := Go.Lib.hid hone
    have HBW := Go.Lib.hid hbw
    clear hK hlw hone hbw
    by_cases hlt : k < rs
    · have hkI : (k : Int) < (rs : Int) := by omega
      have HLT := Go.Lib.hid hlt
      clear hlt hk
      go_wp2_with (first
        | (with_reducible show wpList _ _ _ (⟨some 48, _, _, _, _, _⟩ :: _) _ _; go_must (refine wpList_make_len rfl (.tmp 47) (.tmp 47) 45 rfl 5 Tryz.underlying45 info8 .i64 .i64 _ _ sz sz rfl rfl rfl rfl (by omega) (by omega) ?_); intro v5 w5 hown5 hg5; have HO5 := Go.Lib.hid hown5; obtain ⟨ab, cb, rfl⟩ := len_of hown5; have HB5 := Go.Lib.hid (show Below wo.heap.size wo w5 from (Below.refl _ _).grown hg5 (Nat.le_refl _) (fun j hj => by cases hj)); clear hown5 hg5)
        | fail)
      go_loopw [51] (fun c wx => ∃ (q : Nat) (M : List UInt8), q ≤ sz ∧ c = .int .i64 (q : Int) ∧ M.length = sz ∧ Own 5 wx wo.heap.size (.slice ab sz cb) M ∧ Below wo.heap.size wo wx) (fun c _ => sz - (intOf c).toNat)
      case atStart => exact ⟨0, _, by omega, rfl, by rw [List.length_replicate], HO5.out, HB5.out⟩
      case round =>
        obtain ⟨q, M, hq, rfl, hM, hown, hbx⟩ := hrel
        by_cases hqn : q < sz
        · obtain ⟨bg, bc, hv, hbB, hbl, -, -, -⟩ := hown.form (by omega)
          simp only [Value.slice.injEq] at hv
          obtain ⟨rfl, -, rfl⟩ := hv
          have hcell := hown.cell q (by omega)
          have hfr := hown.frozenAt q
          obtain ⟨S, hS⟩ : ∃ S : Int, S = IntKind.i64.wrap ((k : Int) + (q : Int)) := ⟨_, rfl⟩
          have e58 : IntKind.i64.wrap ((k : Int) + (q : Int)) = (k : Int) + (q : Int) := by rw [IntKind.wrap_i64]; have := HRS.out; have := HSZ.out; omega
          obtain ⟨y, hy⟩ : ∃ y : Nat, y = (k + q) % 256 := ⟨_, rfl⟩
          have e59 : IntKind.u8.wrap ((k : Int) + (q : Int)) = (y : Int) := by rw [IntKind.wrap_u8']; omega
          have hst := Go.Lib.hid (hown.store q (UInt8.ofNat y) (y : Int) (byte_of y (by omega)))
          have hb6 := Go.Lib.hid (hbx.setCell (p := ⟨bg, q, none⟩) hbB (.int .u8 (y : Int)))
          have hqI : (q : Int) < (sz : Int) := by omega
          have HM := Go.Lib.hid (show (M.set q (UInt8.ofNat y)).length = sz from by rw [List.length_set, hM])
          have HQ := Go.Lib.hid hqn
          have hqM : (q : Int) ≤ 600 := by have := HSZ.out; omega
          generalize M[q].toNat = x at *
          clear hown hbx hbB hbl hM hy hS hq hqn
          go_wp2_with fail
          go_roundw
          case rel => exact ⟨q + 1, _, by have := HQ.out; omega, by go_num, HM.out, hst.out, hb6.out⟩
          case measure => simp only [intOf]; have := HQ.out; omega
        · obtain rfl : q = sz := by omega
          have hlw2 := HLW.out.below hbx
          have hT2 := HT.out.below (HBW.out.trans (hbx.mono HBW.out.size))
          have hbz := newB wr (.cells #[.string nF, .bool false, .slice ab q cb] 47)
          have hrp := RPt.one wr wr.heap.size rfl (nF, false, (ab, q, cb), M) hown.tx (0, 0)
          have C5 := Go.Lib.hid (apply_f (hlw2.below hbz) HONE.out HSZ.out (hT2.below hbz) HT.out.low hrp (fun _ => hM) (by have := HSZ.out; omega) (by have := HK.out; have := HLT.out; have := HRS.out; omega) (by have := HLT.out; have := HRS.out; omega))
          have HO := Go.Lib.hid (hown.below hbz)
          have HLZ := Go.Lib.hid (hlw2.below hbz)
          have HBX := Go.Lib.hid (HBW.out.trans ((below_to hbx (Nat.le_refl _) hbz).mono HBW.out.size))
          have HM := Go.Lib.hid hM
          clear hown hbx hlw2 hT2 hbz hrp hM hqn hq
          go_wp2_with fail
          refine C5.out.mono ?_
          rintro e w6 ⟨rfl, ⟨K', hK', hlw6⟩, ht6, hb6, ho6⟩
          have HB6 := Go.Lib.hid (HBX.out.trans hb6)
          have HO6 := Go.Lib.hid (HLZ.out.ownKept HO.out ho6)
          have HLW6 := Go.Lib.hid hlw6
          have HK6 := Go.Lib.hid hK'
          have C6 := Go.Lib.hid (get_ok hlw6 nF M (by rw [HONE.out.done]; rfl))
          clear hlw6 hK' ht6 hb6 ho6 C5
          go_wp2_with fail
          refine C6.out.mono ?_
          rintro e w7 ⟨vx, rfl, hox, hb7⟩
          have hob := HO6.out.below hb7
          have hcv := run_string_RB w7 45 5 9 Tryz.underlying45 Tryz.underlying5 Tryz.underlying9 vx M hox.rb
          have hcw := run_string_RB w7 45 5 9 Tryz.underlying45 Tryz.underlying5 Tryz.underlying9 (.slice ab q cb) M hob.rb
          have hbq : ((str M).toList == (str M).toList) = true := by simp
          have HB7 := Go.Lib.hid (HB6.out.trans (hb7.mono HB6.out.size))
          have HLW7 := Go.Lib.hid (HLW6.out.below hb7)
          clear hox hob hb7 C6
          go_wp2_with fail
          clear hcv hcw hbq
          go_roundw
          case rel => exact ⟨k + 1, K', _, by have := HLT.out; omega, by go_num, by have := HK6.out; have := HK.out; omega, HLW7.out, by rw [HONE.out.done]; exact .inr ⟨M, rfl, HM.out⟩, HB7.out⟩
          case measure => simp only [intOf]; have := HLT.out; omega
    · obtain rfl : k = rs := by omega
      have hbz := newB wo (.cells #[.string nF, .bool true, .slice none 0 0] 47)
      have hrp := RPt.one wo wo.heap.size rfl (nF, true, (none, 0, 0), []) (TX.nil wo) (0, 0)
      have C5 := Go.Lib.hid (apply_f (HLW.out.below hbz) HONE.out HSZ.out ((HT.out.below HBW.out).below hbz) HT.out.low hrp (fun h => by cases h) (by simp) (by have := HK.out; have := HRS.out; omega) (by have := HRS.out; omega))
      have HBZ := Go.Lib.hid (below_to HBW.out (Nat.le_refl _) hbz)
      clear hbz hrp hk hlt
      go_wp2_with fail
      refine C5.out.mono ?_
      rintro e w6 ⟨rfl, ⟨K', hK', hlw6⟩, ht6, hb6, ho6⟩
      have hlw7 := hlw6
      rw [HONE.out.gone] at hlw7
      have HB6 := Go.Lib.hid (HBZ.out.trans hb6)
      have HLW6 := Go.Lib.hid hlw7
      have C6 := Go.Lib.hid (free_ok hlw7)
      clear hlw6 hlw7 hK' ht6 hb6 ho6 C5
      go_wp2_with fail
      refine C6.out.mono ?_
      rintro e w7 ⟨r, rfl, hb7, hr, -⟩
      have hr : r = 86 := by first | (have := hr rfl; omega) | (have := hr trivial; omega)
      subst hr
      have HB7 := Go.Lib.hid (HB6.out.trans (hb7.mono HB6.out.size))
      have C7 := names_ok (HLW6.out.below hb7)
      rw [List.map_nil] at C7
      have C7 := Go.Lib.hid C7
      clear hb7 C6
      go_wp2_with fail
      refine C7.out.mono ?_
      rintro e w8 ⟨vn, rfl, hon, hb8⟩
      obtain ⟨an, cn, rfl, -⟩ := hon.rv.form
      rw [List.length_nil]
      have HB8 := Go.Lib.hid (HB7.out.trans (hb8.mono HB7.out.size))
      clear hon hb8 C7
      go_wp2_with fail
      go_ret
      exact ⟨rfl, HB8.out⟩

/-! ### THE ROW's STEP: WRITTEN OUT: LEAVE IT -/
noncomputable def laidWorld (os : Os) : World := World.doorLaid Tryz.prog 400 os
theorem laid_met (os : Os) : laidMetH Tryz.prog Rows.storeLastsRow.laid ((laidWorld os).forCall (fun _ _ => 0) ⟨#[], #[.int .i64 0, .int .i64 0], []⟩).memory :=
  laidMetH_of_parts3 (fuel := 8) (laidMet_of_run' 8 (by kernel_rfl) (by kernel_rfl)) (by kernel_rfl) (by kernel_rfl)
theorem reads (os : Os) {H : Type} (enc : TypeId × Value → H) : ∃ places, DataW.whole enc Tryz.prog ((laidWorld os).forCall (fun _ _ => 0) ⟨#[], #[.int .i64 0, .int .i64 0], []⟩).memory Tryz.f5.params.toList Rows.storeLastsSpec.vars false (Array.toList #[.int .i64 0, .int .i64 0]) 8 = some ([.lit (.int .i64 0), .lit (.int .i64 0)], [], places) :=
  ⟨[], by kernel_rfl⟩

set_option maxRecDepth 100000 in
theorem lifted (os : Os) (started : os.Started) (H : Type) (enc : TypeId × Value → H) (F : Stop.Interp) :
    ReturnsInHanded {} Tryz.checked os 5 .any ((OpenSpec.ofChange Rows.storeLastsSpec).preRow enc Tryz.prog Tryz.f5 Rows.storeLastsRow.domain false Rows.storeLastsRow.laid) (((OpenSpec.ofChange Rows.storeLastsSpec).at F).post enc Tryz.prog Tryz.f5 false true false false) := by
  obtain ⟨places, hx⟩ := reads os enc
  refine returnsInHanded_of_row (C := Tryz.checked) (s := OpenSpec.ofChange Rows.storeLastsSpec) own started (by kernel_rfl) Tryz.func5
    (witness_row_at (enc := enc) (C := Tryz.checked) false (laidWorld os) #[.int .i64 0, .int .i64 0] rfl (by kernel_rfl) (by kernel_rfl) (by kernel_rfl)
      (OpenSpec.preRow_of_cond 8 hx (by kernel_rfl) (fun k hk => by cases hk) (by kernel_rfl) (laid_met os))) ?_
  intro W base args ds gs before hval0 hW _ _ _ hL _ _
  have hval : ∀ (j : Nat) t v, Tryz.f5.params[j]? = some t → args[j]? = some v → Value.okWide Tryz.prog W .any base t v := hval0
  have hW' := hW
  obtain ⟨p, q, hA0, hV, rfl, hfz, hnd⟩ := hW
  have hA : DataW.TrodAll enc Tryz.prog W 0 (fun _ => true) true Tryz.f5.params.toList args.toList ds p := hA0
  rw [Tryz.params5] at hA hval
  obtain ⟨v0, vs0, d0, ds0, p0, q0, hargs, rfl, rfl, h0, r0⟩ := trodAll_cons hA
  obtain ⟨v1, vs1, d1, ds1, p1, q1, rfl, rfl, rfl, h1, r1⟩ := trodAll_cons r0
  obtain ⟨rfl, rfl, rfl⟩ := trodAll_nil r1
  obtain rfl : args = #[v0, v1] := by cases args; simp_all
  obtain ⟨rfl, rfl⟩ := trodVars_none hV
  obtain ⟨a0, rfl, rfl, rfl, w0⟩ := open_int Tryz.underlying3 (hval 0 3 v0 rfl rfl) h0
  obtain ⟨a1, rfl, rfl, rfl, w1⟩ := open_int Tryz.underlying3 (hval 1 3 v1 rfl rfl) h1
  clear hA0 hval0
  refine (walk a0 a1 w0 w1 W hL).mono fun e W' ⟨he, hg⟩ => ?_
  subst he
  exact ⟨_, rfl, _, _, _, [], _, [], hW', (trodAll_cons_mk (shut_bool Tryz.underlying4 _) trodAll_mk0), (trodAll_cons_mk (shut_int Tryz.underlying3 w0) (trodAll_cons_mk (shut_int Tryz.underlying3 w1) trodAll_mk0)), rfl, hg.frame _, fun h => by cases h⟩

theorem said : Rows.StoreLastsSaid :=
  OpenClaim.holds_of_cond 5 Tryz.f5 rfl rfl rfl rfl rfl rfl rfl ⟨rfl, rfl, rfl, rfl, rfl⟩ rfl rfl rfl rfl rfl (by kernel_rfl) Tryz.func5 (by kernel_rfl)
    (of_decide_eq_true (by kernel_rfl)) (by unfold Func.isWrapper; first | (rw [if_pos (by decide +kernel)]; kernel_rfl) | (rw [if_neg (by decide +kernel)]; exact ⟨rfl, rfl⟩))
    (fun os started H enc _ F => by rw [OpenClaim.pre_eq_preRow]; exact lifted os started H enc F)

/-- No parameter wants a stand-in; the program's own looks are off: what the card asks. -/
theorem plain (f : FuncId) (fn : Func) (hf : Tryz.pinned.checked.prog.funcNamed "loess/loesslaw15.StoreLasts" = some f) (hfn : Tryz.pinned.checked.prog.funcs[f]? = some fn) :
    false = Tryz.pinned.checked.prog.looks [] ∧ ∀ (j : Nat) t, fn.params[j]? = some t → Tryz.pinned.checked.prog.wantsStandIn t = false := by
  obtain rfl : f = 5 := Option.some.inj ((show Tryz.prog.funcNamed "loess/loesslaw15.StoreLasts" = some 5 by kernel_rfl).symm.trans hf) |>.symm
  obtain rfl : fn = Tryz.f5 := (Option.some.inj (Tryz.func5.symm.trans hfn)).symm
  refine ⟨by kernel_rfl, fun j t ht => ?_⟩
  rw [Tryz.params5] at ht
  have hm : t ∈ [3, 3] := by simpa using Array.mem_of_getElem? ht
  have hall : ([3, 3].all fun u => !Tryz.prog.wantsStandIn u) = true := by kernel_rfl
  exact (show Tryz.prog.wantsStandIn t = false by simpa using List.all_eq_true.1 hall t hm)

/-- THE CARD. -/
theorem proved : Rows.StoreLastsCardSaid :=
  Claim7.holds_tied_plain_at .later [] _ _ _ _ said (fun _ h => by cases h) (by kernel_rfl) (fun _ h => by cases h) storeLasts_row_tie rfl ⟨rfl, rfl⟩ (by kernel_rfl) rfl plain (by kernel_rfl)
end Go.Proofs.YtnalokjnbccjnaaGreatDoor.storeLasts
