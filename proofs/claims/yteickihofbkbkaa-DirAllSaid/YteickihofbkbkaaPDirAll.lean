/- DirAll: which lists may be; those go to bytes and back; where a name stands; two lists have one text just if they are the same: for every input the law returns true. -/
import Derived.Test.YteickihofbkbkaaRows
import Derived.WalkKit
import Derived.ProofKit
import Derived.OpenShut
import Derived.ShutString
import Derived.ChangeOld
import Derived.Below
import Derived.Test.YteickihofbkbkaaEnt
import Derived.Test.YteickihofbkbkaaBegun14
import Derived.Test.YteickihofbkbkaaEntL
namespace Go.Proofs.Yteickihofbkbkaa.dirAll
open Go.ChangeShapes Go.WideShapes Go.ChangeAt Go.RowKit
open Go.ChangeMaps (open_string shut_string)
set_option linter.unusedVariables false

theorem own : ownKnob Try.prog.godebug = none := by kernel_rfl
theorem laidOut : laidOutB Try.prog = true := by kernel_rfl

def WT (ub u0 ux u1 : Value) (A B : List UInt8) (nm : ByteArray) (F : Int) (p : Bool) : Nat → World → Value → Prop
  | 6, _, v => v = .bool true
  | 61, _, v => v = ub
  | 62, _, v => v = .string (str A)
  | 63, _, v => v = u0
  | 64, w, v => RB w v A
  | 65, _, v => v = .string (str A)
  | 66, _, v => v = .bool true
  | 67, _, v => v = .bool true
  | 68, _, v => v = .int .i64 0
  | 69, _, v => v = .bool true
  | 70, _, v => v = .bool true
  | 71, _, v => v = .bool true
  | 72, _, v => v = ux
  | 73, _, v => v = u0
  | 74, _, v => v = .bool true
  | 75, _, v => v = .bool true
  | 76, _, v => v = .bool true
  | 77, _, v => v = u0
  | 78, _, v => v = .string nm
  | 79, _, v => v = .int .i64 F
  | 80, _, v => v = .int .i64 F
  | 81, _, v => v = .bool true
  | 82, _, v => v = .bool true
  | 83, _, v => v = .bool true
  | 84, _, v => v = u1
  | 85, _, v => v = .bool true
  | 86, _, v => v = .bool false
  | 87, _, v => v = .bool false
  | 88, _, v => v = u1
  | 89, w, v => RB w v B
  | 90, _, v => v = .string (str B)
  | 91, _, v => v = ub
  | 92, _, v => v = .string (str A)
  | 93, _, v => v = .bool p
  | 94, _, v => v = u0
  | 95, _, v => v = u1
  | 96, _, v => v = .bool p
  | 97, _, v => v = .bool true
  | 98, _, v => v = .bool true
  | 99, _, v => v = .bool true
  | _, _, _ => True

theorem WT_below (ub u0 ux u1 : Value) (A B : List UInt8) (nm : ByteArray) (F : Int) (p : Bool) : ∀ (i : Nat) (w w' : World) (v : Value), WT ub u0 ux u1 A B nm F p i w v → Below w.heap.size w w' → WT ub u0 ux u1 A B nm F p i w' v := by
  intro i w w' v h hb
  unfold WT at h ⊢
  split at h <;> first | exact h | trivial | exact RB.below h hb | exact Own.below h hb

def WF (ub u0 ux u1 : Value) (A B : List UInt8) (nm : ByteArray) (F : Int) (p : Bool) : Nat → World → Value → Prop
  | 6, _, v => v = .bool true
  | 61, _, v => v = ub
  | 62, _, v => v = .string (str A)
  | 63, _, v => v = u0
  | 64, w, v => RB w v A
  | 65, _, v => v = .string (str A)
  | 66, _, v => v = .bool true
  | 67, _, v => v = .bool true
  | 68, _, v => v = .int .i64 0
  | 69, _, v => v = .bool true
  | 70, _, v => v = .bool true
  | 71, _, v => v = .bool true
  | 72, _, v => v = ux
  | 73, _, v => v = u0
  | 74, _, v => v = .bool true
  | 75, _, v => v = .bool true
  | 76, _, v => v = .bool true
  | 77, _, v => v = u0
  | 78, _, v => v = .string nm
  | 79, _, v => v = .int .i64 F
  | 80, _, v => v = .int .i64 F
  | 81, _, v => v = .bool true
  | 82, _, v => v = .bool true
  | 83, _, v => v = .bool true
  | 84, _, v => v = u1
  | 85, _, v => v = .bool false
  | 86, _, v => v = .bool true
  | 87, _, v => v = .bool true
  | 88, _, v => v = undef
  | 89, _, v => v = undef
  | 90, _, v => v = undef
  | 91, _, v => v = undef
  | 92, _, v => v = undef
  | 93, _, v => v = undef
  | 94, _, v => v = undef
  | 95, _, v => v = undef
  | 96, _, v => v = undef
  | 97, _, v => v = undef
  | 98, _, v => v = .bool true
  | 99, _, v => v = .bool true
  | _, _, _ => True

theorem WF_below (ub u0 ux u1 : Value) (A B : List UInt8) (nm : ByteArray) (F : Int) (p : Bool) : ∀ (i : Nat) (w w' : World) (v : Value), WF ub u0 ux u1 A B nm F p i w v → Below w.heap.size w w' → WF ub u0 ux u1 A B nm F p i w' v := by
  intro i w w' v h hb
  unfold WF at h ⊢
  split at h <;> first | exact h | trivial | exact RB.below h hb | exact Own.below h hb

/-- The last place of the name among the first k. -/
def LastAt (L : List EntT) (nm : ByteArray) (k : Nat) (A : Int) : Prop :=
  (A = -1 ∧ ∀ (j : Nat) (h : j < L.length), j < k → L[j].1 ≠ nm) ∨ ∃ (j : Nat) (h : j < L.length), j < k ∧ A = (j : Int) ∧ L[j].1 = nm
theorem LastAt.find {L : List EntT} {nm : ByteArray} {A : Int} (hm : MayL L) (h : LastAt L nm L.length A) : A = findE L nm := by
  rcases h with ⟨h1, h2⟩ | ⟨j, hj, -, h1, h2⟩
  · rw [h1, findE_none (fun j hj => h2 j hj hj)]
  · rw [h1, ← h2, findE_of hm hj]
theorem LastAt.small {L : List EntT} {nm : ByteArray} {k : Nat} {A : Int} (h : LastAt L nm k A) : -1 ≤ A ∧ A < (L.length : Int) := by
  rcases h with ⟨h1, h2⟩ | ⟨j, hj, -, h1, h2⟩ <;> omega

set_option maxHeartbeats 4000000 in
set_option maxRecDepth 100000 in
theorem walk (w : World) (a0 : Option Addr) (len0 cap0 : Nat) (l0 : List EntT) (w0 : REnt w (.slice a0 len0 cap0) l0) (a1 : Option Addr) (len1 cap1 : Nat) (l1 : List EntT) (w1 : REnt w (.slice a1 len1 cap1) l1) (a2 : ByteArray) (w2 : a2.size ≤ maxLen) :
    Calls Try.prog 3 #[.slice a0 len0 cap0, .slice a1 len1 cap1, .string a2] w fun e w' => e = .returned (.bool true) ∧ Below w.heap.size w w' := by
  have H0 := Go.Lib.hid w0
  have H1 := Go.Lib.hid w1
  have C0 := Go.Lib.hid fun W (h : REnt W (.slice a0 len0 cap0) l0) => cut_c _ l0 W h
  have C1 := Go.Lib.hid fun W (h : REnt W (.slice a1 len1 cap1) l1) => cut_c _ l1 W h
  have C2 := Go.Lib.hid fun W => lcut_c a2 22 W w2 (by omega)
  have H32 := Go.Lib.hid (show ((l0.take 34).map cutE).length ≤ 34 by rw [List.length_map]; exact List.length_take_le _ _)
  clear w0 w1 w2
  generalize (l0.take 34).map cutE = L at *
  generalize (l1.take 34).map cutE = M at *
  generalize str ((bl a2).take 22) = nm at *
  go_enter Try.func3, Try.ntmps3
  go_wp2_with fail
  refine (begun_c _).mono ?_
  rintro e w1 ⟨rfl, hc⟩
  have HB1 := Go.Lib.hid hc
  have HA1 := Go.Lib.hid (H0.out.below hc)
  have HD1 := Go.Lib.hid (H1.out.below hc)
  clear hc H0 H1
  go_wp2_with fail
  refine (C0.out _ HA1.out).mono ?_
  rintro e w2 ⟨u0, rfl, hown, hc⟩
  have HL2 := Go.Lib.hid hown.re
  have HB2 := Go.Lib.hid (below_to HB1.out (Nat.le_refl _) hc)
  have HD2 := Go.Lib.hid (HD1.out.below hc)
  clear hc hown HA1 HB1 HD1 C0
  go_wp2_with fail
  refine (C1.out _ HD2.out).mono ?_
  rintro e w3 ⟨u1, rfl, hown, hc⟩
  have HM3 := Go.Lib.hid hown.re
  have HB3 := Go.Lib.hid (below_to HB2.out (Nat.le_refl _) hc)
  have HL3 := Go.Lib.hid (HL2.out.below hc)
  clear hc hown HB2 HD2 HL2 C1
  go_wp2_with fail
  refine (C2.out _).mono ?_
  rintro e w4 ⟨rfl, rfl⟩
  clear C2
  go_wp2_with fail
  cases hmay : mayL L with
  | false =>
    refine (encode_no u0 L _ HL3.out hmay).mono ?_
    rintro e w5 ⟨rfl, hc⟩
    have HB5 := Go.Lib.hid (below_to HB3.out (Nat.le_refl _) hc)
    have HL5 := Go.Lib.hid (HL3.out.below hc)
    have CM := Go.Lib.hid (fun W (h : RE W u0 L) => by have := may_c u0 L W h; rw [hmay] at this; exact this)
    have CR := Go.Lib.hid (fun W (h : RE W u0 L) => by have := rmay_c u0 L W h; rw [hmay] at this; exact this)
    clear hc hmay HB3 HL3 HM3
    go_wp2_with fail
    refine (CM.out _ HL5.out).mono ?_
    rintro e w6 ⟨rfl, hc⟩
    have HB6 := Go.Lib.hid (below_to HB5.out (Nat.le_refl _) hc)
    have HL6 := Go.Lib.hid (HL5.out.below hc)
    clear hc HB5 HL5
    go_wp2_with fail
    refine (CR.out _ HL6.out).mono ?_
    rintro e w7 ⟨rfl, hc⟩
    have HB7 := Go.Lib.hid (below_to HB6.out (Nat.le_refl _) hc)
    have HL7 := Go.Lib.hid (HL6.out.below hc)
    clear hc HB6 HL6
    go_wp2_with fail
    refine (CR.out _ HL7.out).mono ?_
    rintro e w8 ⟨rfl, hc⟩
    have HB8 := Go.Lib.hid (below_to HB7.out (Nat.le_refl _) hc)
    have HL8 := Go.Lib.hid (HL7.out.below hc)
    clear hc HB7 HL7
    go_wp2_with fail
    refine (CR.out _ HL8.out).mono ?_
    rintro e w9 ⟨rfl, hc⟩
    have HB9 := Go.Lib.hid (below_to HB8.out (Nat.le_refl _) hc)
    clear hc HB8 HL8
    go_wp2_with fail
    go_ret
    exact ⟨rfl, HB9.out⟩
  | true =>
    refine (encode_c u0 L _ HL3.out hmay).mono ?_
    rintro e w5 ⟨ub, rfl, hown, hc⟩
    have HB5 := Go.Lib.hid (below_to HB3.out (Nat.le_refl _) hc)
    have HL5 := Go.Lib.hid (HL3.out.below hc)
    have HM5 := Go.Lib.hid (HM3.out.below hc)
    have HU5 := Go.Lib.hid hown.rb
    have CM := Go.Lib.hid (fun W (h : RE W u0 L) => by have := may_c u0 L W h; rw [hmay] at this; exact this)
    have CR := Go.Lib.hid (fun W (h : RE W u0 L) => by have := rmay_c u0 L W h; rw [hmay] at this; exact this)
    have HMAY := Go.Lib.hid hmay
    clear hc hmay HB3 HL3 HM3 hown
    go_wp2_with fail
    refine (CM.out _ HL5.out).mono ?_
    rintro e w6 ⟨rfl, hc⟩
    have HB6 := Go.Lib.hid (below_to HB5.out (Nat.le_refl _) hc)
    have HL6 := Go.Lib.hid (HL5.out.below hc)
    have HM6 := Go.Lib.hid (HM5.out.below hc)
    have HU6 := Go.Lib.hid (HU5.out.below hc)
    clear hc HB5 HL5 HM5 HU5 CM
    go_wp2_with fail
    refine (CR.out _ HL6.out).mono ?_
    rintro e w7 ⟨rfl, hc⟩
    have HB7 := Go.Lib.hid (below_to HB6.out (Nat.le_refl _) hc)
    have HL7 := Go.Lib.hid (HL6.out.below hc)
    have HM7 := Go.Lib.hid (HM6.out.below hc)
    have HU7 := Go.Lib.hid (HU6.out.below hc)
    clear hc HB6 HL6 HM6 HU6
    go_wp2_with fail
    refine (CR.out _ HL7.out).mono ?_
    rintro e w8 ⟨rfl, hc⟩
    have HB8 := Go.Lib.hid (below_to HB7.out (Nat.le_refl _) hc)
    have HL8 := Go.Lib.hid (HL7.out.below hc)
    have HM8 := Go.Lib.hid (HM7.out.below hc)
    have HU8 := Go.Lib.hid (HU7.out.below hc)
    clear hc HB7 HL7 HM7 HU7
    go_wp2_with fail
    refine (CR.out _ HL8.out).mono ?_
    rintro e w9 ⟨rfl, hc⟩
    have HB9 := Go.Lib.hid (below_to HB8.out (Nat.le_refl _) hc)
    have HL9 := Go.Lib.hid (HL8.out.below hc)
    have HM9 := Go.Lib.hid (HM8.out.below hc)
    have HU9 := Go.Lib.hid (HU8.out.below hc)
    clear hc HB8 HL8 HM8 HU8 CR
    obtain ⟨ua, uc, rfl, hul⟩ := HL9.out.form
    go_wp2_with fail
    go_loopw [9, 10] (fun av i wr => ∃ (k : Nat) (A : Int), k ≤ L.length ∧ i = .int .i64 (k : Int) ∧ av = .int .i64 A ∧ Hid (LastAt L nm k A) ∧ Below w9.heap.size w9 wr) (fun _ i _ => L.length - (intOf i).toNat)
    case atStart => exact ⟨0, -1, by omega, rfl, rfl, Go.Lib.hid (.inl ⟨rfl, fun j h hj => by omega⟩), Below.refl _ _⟩
    case round =>
      obtain ⟨k, F, hk, rfl, rfl, hat, hbr⟩ := hrel
      have HBR := Go.Lib.hid hbr
      by_cases hlt : k < L.length
      · obtain ⟨b, o, rfl, -, -, c0, -, -, -⟩ := (HL9.out.below hbr).at k hlt
        have Hlt := Go.Lib.hid hlt
        obtain ⟨q, hq⟩ : ∃ q, q = L[k].1 := ⟨_, rfl⟩
        have d0 : wr.cell? ⟨b, o + k * 4, none⟩ = some (.string q) := by rw [hq]; exact c0
        clear c0
        by_cases hn : q = nm
        · have bn : (q.toList == nm.toList) = true := by rw [hn]; simp
          have HK := Go.Lib.hid (show LastAt L nm (k + 1) (k : Int) from .inr ⟨k, hlt, by omega, rfl, hq.symm.trans hn⟩)
          clear hn hat hbr hq
          go_wp2_with fail
          go_roundw
          case rel => exact ⟨k + 1, (k : Int), by have := Hlt.out; omega, by go_num, rfl, HK, HBR.out⟩
          case measure => simp only [intOf]; have := Hlt.out; omega
        · have bn : (q.toList == nm.toList) = false := text_ne hn
          have HK := Go.Lib.hid (show LastAt L nm (k + 1) F from by
            rcases hat.out with ⟨h1, h2⟩ | ⟨j, hj, h0, h1, h2⟩
            · refine .inl ⟨h1, fun j hj hjk => ?_⟩
              rcases Nat.lt_or_ge j k with h3 | h3
              · exact h2 j hj h3
              · obtain rfl : j = k := by omega
                exact fun e => hn (hq.trans e)
            · exact .inr ⟨j, hj, by omega, h1, h2⟩)
          clear hn hat hbr hq
          go_wp2_with fail
          go_roundw
          case rel => exact ⟨k + 1, F, by have := Hlt.out; omega, by go_num, rfl, HK, HBR.out⟩
          case measure => simp only [intOf]; have := Hlt.out; omega
      · obtain rfl : k = L.length := by omega
        have hml := mayL_iff.1 HMAY.out
        have hF := hat.out.find hml
        have HLr := Go.Lib.hid (HL9.out.below hbr)
        have HMr := Go.Lib.hid (HM9.out.below hbr)
        have HUr := Go.Lib.hid (HU9.out.below hbr)
        have HBr := Go.Lib.hid (below_to HB9.out (Nat.le_refl _) hbr)
        have CD := Go.Lib.hid (decode_c HUr.out (decB_put hml))
        have CBY := Go.Lib.hid (fun W (h : RE W (.slice ua L.length uc) L) => rbytes_c _ L W h (fun x hx => putE_of (hml.each x hx)) (by have := hml.1; omega))
        have CEQ := Go.Lib.hid (fun ux W (hx : RE W ux L) (h : RE W (.slice ua L.length uc) L) => by have := eq_c ux _ L L W hx h; rw [decide_eq_true rfl] at this; exact this)
        have CF := Go.Lib.hid (fun W (h : RE W (.slice ua L.length uc) L) => by have := find_c _ L nm W h; rw [← hF] at this; exact this)
        have CEM := Go.Lib.hid (fun W (h : RE W (.slice ua L.length uc) L) (hm : RE W u1 M) => eq_c _ u1 L M W h hm)
        have HINJ := Go.Lib.hid (fun (hM : mayL M = true) => show ((str (lstB M)).toList == (str (lstB L)).toList) = decide (L = M) from by
          rw [Bool.eq_iff_iff, beq_iff_eq, decide_eq_true_eq, ByteArray.toList_eq, ByteArray.toList_eq]
          constructor
          · intro h
            exact ((lstB_inj HMAY.out hM).1 (str_inj (ByteArray.ext (Array.toList_inj.1 h)).symm))
          · intro h; rw [h])
        clear hml hF hat hbr hlt HL9 HM9 HU9 HB9 HBR
        go_wp2_with fail
        refine CD.out.mono ?_
        rintro e w10 ⟨ux, rfl, hown, hc⟩
        have HX := Go.Lib.hid hown.re
        have HL := Go.Lib.hid (HLr.out.below hc)
        have HM := Go.Lib.hid (HMr.out.below hc)
        have HUB := Go.Lib.hid (HUr.out.below hc)
        have HB := Go.Lib.hid (below_to HBr.out (Nat.le_refl _) hc)
        have CEQ1 := Go.Lib.hid (fun W (hx : RE W ux L) (h : RE W (.slice ua L.length uc) L) => CEQ.out ux W hx h)
        clear hc hown HLr HMr HUr HBr CD CEQ
        generalize hA : lstB L = A at *
        cases hmm : mayL M with
        | true =>
          have CM := Go.Lib.hid (fun W (h : RE W u1 M) => by have := rmay_c u1 M W h; rw [hmm] at this; exact this)
          have CE := Go.Lib.hid (fun W (h : RE W u1 M) => encode_c u1 M W h hmm)
          have HP0 := HINJ.out hmm
          generalize hp : decide (L = M) = p at *
          have HP := Go.Lib.hid HP0
          generalize lstB M = B at *
          clear HP0 hp hmm HINJ hA
          go_upto_region 17 with (fail)
          refine wp_region_each (by kernel_rfl) (WT ub (.slice ua L.length uc) ux u1 A B nm F p) (WT_below ub (.slice ua L.length uc) ux u1 A B nm F p) (by decide +kernel) (by decide +kernel) (by rfl) [61, 62, 63, 64, 65, 66, 67, 68, 69, 70, 71, 72, 73, 74, 75, 76, 77, 78, 79, 80, 81, 82, 83, 84, 85, 86, 87, 88, 89, 90, 91, 92, 93, 94, 95, 96, 97, 98, 99, 6] (by rfl) ?_ ?_
          · intro i o ho a w6 hb6 hlen hg
            match i, ho with
            | 0, ho =>
              obtain rfl := Option.some.inj ho
              have h8 := given_old hg 8 (by decide +kernel)
              clear hg
              exact st_yield ho (wanted_none rfl) (ub) w6 (by simp [execOp, Act.eval, h8, go_sem]) ⟨_, rfl, Below.refl _ _, by rintro t' ⟨⟩; rfl⟩
            | 1, ho =>
              obtain rfl := Option.some.inj ho
              obtain ⟨v61', h61, p61⟩ := given_fed hg 61 (by decide +kernel)
              have p61 : v61' = ub := p61
              rw [p61] at h61
              clear hg
              have cv := run_string_RB w6 26 5 9 Try.underlying26 Try.underlying5 Try.underlying9 ub _ (HUB.out.below hb6)
              exact st_yield ho (wanted_none rfl) (.string (str A)) w6 (by simp [execOp, Act.eval, h61, go_sem, cv, Result.andThen]) ⟨_, rfl, Below.refl _ _, by rintro t' ⟨⟩; rfl⟩
            | 2, ho =>
              obtain rfl := Option.some.inj ho
              have h0 := given_old hg 0 (by decide +kernel)
              clear hg
              exact st_yield ho (wanted_none rfl) (.slice ua L.length uc) w6 (by simp [execOp, Act.eval, h0, go_sem]) ⟨_, rfl, Below.refl _ _, by rintro t' ⟨⟩; rfl⟩
            | 3, ho =>
              obtain rfl := Option.some.inj ho
              obtain ⟨_, h63, rfl⟩ := given_fed hg 63 (by decide +kernel)
              clear hg
              exact st_enter (w1 := w6) ho (wanted_none rfl) 14 #[.slice ua L.length uc] (by simp [execOp, Act.eval, h63, resolve, go_sem]) ((CBY.out _ (HL.out.below hb6)).mono (by rintro e w7 ⟨v, rfl, hown, hb7⟩; exact ⟨v, rfl, _, rfl, hb7, by rintro t' ⟨⟩; exact hown.rb⟩))
            | 4, ho =>
              obtain rfl := Option.some.inj ho
              obtain ⟨v64, h64, p64⟩ := given_fed hg 64 (by decide +kernel)
              clear hg
              have cv := run_string_RB w6 26 5 9 Try.underlying26 Try.underlying5 Try.underlying9 v64 _ p64
              exact st_yield ho (wanted_none rfl) (.string (str A)) w6 (by simp [execOp, Act.eval, h64, go_sem, cv, Result.andThen]) ⟨_, rfl, Below.refl _ _, by rintro t' ⟨⟩; rfl⟩
            | 5, ho =>
              obtain rfl := Option.some.inj ho
              obtain ⟨_, h62, rfl⟩ := given_fed hg 62 (by decide +kernel)
              obtain ⟨_, h65, rfl⟩ := given_fed hg 65 (by decide +kernel)
              clear hg
              exact st_yield ho (wanted_none rfl) (.bool true) w6 (by simp [execOp, Act.eval, h62, h65, go_sem]) ⟨_, rfl, Below.refl _ _, by rintro t' ⟨⟩; rfl⟩
            | 6, ho =>
              obtain rfl := Option.some.inj ho
              obtain ⟨_, h66, rfl⟩ := given_fed hg 66 (by decide +kernel)
              clear hg
              exact st_yield ho (wanted_none rfl) (.bool true) w6 (by simp [execOp, Act.eval, h66, go_sem]) ⟨_, rfl, Below.refl _ _, by rintro t' ⟨⟩; rfl⟩
            | 7, ho =>
              obtain rfl := Option.some.inj ho
              have h12 := given_old hg 12 (by decide +kernel)
              obtain ⟨_, h67, rfl⟩ := given_fed hg 67 (by decide +kernel)
              clear hg
              exact st_yield ho (wanted_some rfl rfl h67 rfl) (.int .i64 0) w6 (by simp [execOp, Act.eval, h12, go_sem]) ⟨_, rfl, Below.refl _ _, by rintro t' ⟨⟩; rfl⟩
            | 8, ho =>
              obtain rfl := Option.some.inj ho
              obtain ⟨_, h68, rfl⟩ := given_fed hg 68 (by decide +kernel)
              obtain ⟨_, h67, rfl⟩ := given_fed hg 67 (by decide +kernel)
              clear hg
              exact st_yield ho (wanted_some rfl rfl h67 rfl) (.bool true) w6 (by simp [execOp, Act.eval, h68, go_sem]) ⟨_, rfl, Below.refl _ _, by rintro t' ⟨⟩; rfl⟩
            | 9, ho =>
              obtain rfl := Option.some.inj ho
              obtain ⟨_, h67, rfl⟩ := given_fed hg 67 (by decide +kernel)
              obtain ⟨_, h69, rfl⟩ := given_fed hg 69 (by decide +kernel)
              clear hg
              exact st_yield ho (wanted_none rfl) (.bool true) w6 (by simp [execOp, Act.eval, h67, h69, go_sem]) ⟨_, rfl, Below.refl _ _, by rintro t' ⟨⟩; rfl⟩
            | 10, ho =>
              obtain rfl := Option.some.inj ho
              obtain ⟨_, h70, rfl⟩ := given_fed hg 70 (by decide +kernel)
              clear hg
              exact st_yield ho (wanted_none rfl) (.bool true) w6 (by simp [execOp, Act.eval, h70, go_sem]) ⟨_, rfl, Below.refl _ _, by rintro t' ⟨⟩; rfl⟩
            | 11, ho =>
              obtain rfl := Option.some.inj ho
              have h11 := given_old hg 11 (by decide +kernel)
              obtain ⟨_, h71, rfl⟩ := given_fed hg 71 (by decide +kernel)
              clear hg
              exact st_yield ho (wanted_some rfl rfl h71 rfl) (ux) w6 (by simp [execOp, Act.eval, h11, go_sem]) ⟨_, rfl, Below.refl _ _, by rintro t' ⟨⟩; rfl⟩
            | 12, ho =>
              obtain rfl := Option.some.inj ho
              have h0 := given_old hg 0 (by decide +kernel)
              obtain ⟨_, h71, rfl⟩ := given_fed hg 71 (by decide +kernel)
              clear hg
              exact st_yield ho (wanted_some rfl rfl h71 rfl) (.slice ua L.length uc) w6 (by simp [execOp, Act.eval, h0, go_sem]) ⟨_, rfl, Below.refl _ _, by rintro t' ⟨⟩; rfl⟩
            | 13, ho =>
              obtain rfl := Option.some.inj ho
              obtain ⟨v72', h72, p72⟩ := given_fed hg 72 (by decide +kernel)
              have p72 : v72' = ux := p72
              rw [p72] at h72
              obtain ⟨_, h73, rfl⟩ := given_fed hg 73 (by decide +kernel)
              obtain ⟨_, h71, rfl⟩ := given_fed hg 71 (by decide +kernel)
              clear hg
              exact st_enter (w1 := w6) ho (wanted_some rfl rfl h71 rfl) 15 #[ux, .slice ua L.length uc] (by simp [execOp, Act.eval, h72, h73, resolve, go_sem]) (((CEQ1.out _ (HX.out.below hb6) (HL.out.below hb6))).mono (by rintro e w7 ⟨rfl, hb7⟩; exact ⟨_, rfl, _, rfl, hb7, by rintro t' ⟨⟩; rfl⟩))
            | 14, ho =>
              obtain rfl := Option.some.inj ho
              obtain ⟨_, h71, rfl⟩ := given_fed hg 71 (by decide +kernel)
              obtain ⟨_, h74, rfl⟩ := given_fed hg 74 (by decide +kernel)
              clear hg
              exact st_yield ho (wanted_none rfl) (.bool true) w6 (by simp [execOp, Act.eval, h71, h74, go_sem]) ⟨_, rfl, Below.refl _ _, by rintro t' ⟨⟩; rfl⟩
            | 15, ho =>
              obtain rfl := Option.some.inj ho
              obtain ⟨_, h75, rfl⟩ := given_fed hg 75 (by decide +kernel)
              clear hg
              exact st_yield ho (wanted_none rfl) (.bool true) w6 (by simp [execOp, Act.eval, h75, go_sem]) ⟨_, rfl, Below.refl _ _, by rintro t' ⟨⟩; rfl⟩
            | 16, ho =>
              obtain rfl := Option.some.inj ho
              have h0 := given_old hg 0 (by decide +kernel)
              obtain ⟨_, h76, rfl⟩ := given_fed hg 76 (by decide +kernel)
              clear hg
              exact st_yield ho (wanted_some rfl rfl h76 rfl) (.slice ua L.length uc) w6 (by simp [execOp, Act.eval, h0, go_sem]) ⟨_, rfl, Below.refl _ _, by rintro t' ⟨⟩; rfl⟩
            | 17, ho =>
              obtain rfl := Option.some.inj ho
              have h2 := given_old hg 2 (by decide +kernel)
              obtain ⟨_, h76, rfl⟩ := given_fed hg 76 (by decide +kernel)
              clear hg
              exact st_yield ho (wanted_some rfl rfl h76 rfl) (.string nm) w6 (by simp [execOp, Act.eval, h2, go_sem]) ⟨_, rfl, Below.refl _ _, by rintro t' ⟨⟩; rfl⟩
            | 18, ho =>
              obtain rfl := Option.some.inj ho
              obtain ⟨_, h77, rfl⟩ := given_fed hg 77 (by decide +kernel)
              obtain ⟨_, h78, rfl⟩ := given_fed hg 78 (by decide +kernel)
              obtain ⟨_, h76, rfl⟩ := given_fed hg 76 (by decide +kernel)
              clear hg
              exact st_enter (w1 := w6) ho (wanted_some rfl rfl h76 rfl) 16 #[.slice ua L.length uc, .string nm] (by simp [execOp, Act.eval, h77, h78, resolve, go_sem]) (((CF.out _ (HL.out.below hb6))).mono (by rintro e w7 ⟨rfl, hb7⟩; exact ⟨_, rfl, _, rfl, hb7, by rintro t' ⟨⟩; rfl⟩))
            | 19, ho =>
              obtain rfl := Option.some.inj ho
              have h9 := given_old hg 9 (by decide +kernel)
              obtain ⟨_, h76, rfl⟩ := given_fed hg 76 (by decide +kernel)
              clear hg
              exact st_yield ho (wanted_some rfl rfl h76 rfl) (.int .i64 F) w6 (by simp [execOp, Act.eval, h9, go_sem]) ⟨_, rfl, Below.refl _ _, by rintro t' ⟨⟩; rfl⟩
            | 20, ho =>
              obtain rfl := Option.some.inj ho
              obtain ⟨_, h79, rfl⟩ := given_fed hg 79 (by decide +kernel)
              obtain ⟨_, h80, rfl⟩ := given_fed hg 80 (by decide +kernel)
              obtain ⟨_, h76, rfl⟩ := given_fed hg 76 (by decide +kernel)
              clear hg
              exact st_yield ho (wanted_some rfl rfl h76 rfl) (.bool true) w6 (by simp [execOp, Act.eval, h79, h80, go_sem]) ⟨_, rfl, Below.refl _ _, by rintro t' ⟨⟩; rfl⟩
            | 21, ho =>
              obtain rfl := Option.some.inj ho
              obtain ⟨_, h76, rfl⟩ := given_fed hg 76 (by decide +kernel)
              obtain ⟨_, h81, rfl⟩ := given_fed hg 81 (by decide +kernel)
              clear hg
              exact st_yield ho (wanted_none rfl) (.bool true) w6 (by simp [execOp, Act.eval, h76, h81, go_sem]) ⟨_, rfl, Below.refl _ _, by rintro t' ⟨⟩; rfl⟩
            | 22, ho =>
              obtain rfl := Option.some.inj ho
              obtain ⟨_, h82, rfl⟩ := given_fed hg 82 (by decide +kernel)
              clear hg
              exact st_yield ho (wanted_none rfl) (.bool true) w6 (by simp [execOp, Act.eval, h82, go_sem]) ⟨_, rfl, Below.refl _ _, by rintro t' ⟨⟩; rfl⟩
            | 23, ho =>
              obtain rfl := Option.some.inj ho
              have h1 := given_old hg 1 (by decide +kernel)
              obtain ⟨_, h83, rfl⟩ := given_fed hg 83 (by decide +kernel)
              clear hg
              exact st_yield ho (wanted_some rfl rfl h83 rfl) (u1) w6 (by simp [execOp, Act.eval, h1, go_sem]) ⟨_, rfl, Below.refl _ _, by rintro t' ⟨⟩; rfl⟩
            | 24, ho =>
              obtain rfl := Option.some.inj ho
              obtain ⟨v84', h84, p84⟩ := given_fed hg 84 (by decide +kernel)
              have p84 : v84' = u1 := p84
              rw [p84] at h84
              obtain ⟨_, h83, rfl⟩ := given_fed hg 83 (by decide +kernel)
              clear hg
              exact st_enter (w1 := w6) ho (wanted_some rfl rfl h83 rfl) 12 #[u1] (by simp [execOp, Act.eval, h84, resolve, go_sem]) (((CM.out _ (HM.out.below hb6))).mono (by rintro e w7 ⟨rfl, hb7⟩; exact ⟨_, rfl, _, rfl, hb7, by rintro t' ⟨⟩; rfl⟩))
            | 25, ho =>
              obtain rfl := Option.some.inj ho
              obtain ⟨_, h85, rfl⟩ := given_fed hg 85 (by decide +kernel)
              obtain ⟨_, h83, rfl⟩ := given_fed hg 83 (by decide +kernel)
              clear hg
              exact st_yield ho (wanted_some rfl rfl h83 rfl) (.bool false) w6 (by simp [execOp, Act.eval, h85, go_sem]) ⟨_, rfl, Below.refl _ _, by rintro t' ⟨⟩; rfl⟩
            | 26, ho =>
              obtain rfl := Option.some.inj ho
              obtain ⟨_, h86, rfl⟩ := given_fed hg 86 (by decide +kernel)
              obtain ⟨_, h83, rfl⟩ := given_fed hg 83 (by decide +kernel)
              clear hg
              exact st_yield ho (wanted_some rfl rfl h83 rfl) (.bool false) w6 (by simp [execOp, Act.eval, h86, go_sem]) ⟨_, rfl, Below.refl _ _, by rintro t' ⟨⟩; rfl⟩
            | 27, ho =>
              obtain rfl := Option.some.inj ho
              have h1 := given_old hg 1 (by decide +kernel)
              obtain ⟨_, h87, rfl⟩ := given_fed hg 87 (by decide +kernel)
              clear hg
              exact st_yield ho (wanted_some rfl rfl h87 rfl) (u1) w6 (by simp [execOp, Act.eval, h1, go_sem]) ⟨_, rfl, Below.refl _ _, by rintro t' ⟨⟩; rfl⟩
            | 28, ho =>
              obtain rfl := Option.some.inj ho
              obtain ⟨v88', h88, p88⟩ := given_fed hg 88 (by decide +kernel)
              have p88 : v88' = u1 := p88
              rw [p88] at h88
              obtain ⟨_, h87, rfl⟩ := given_fed hg 87 (by decide +kernel)
              clear hg
              exact st_enter (w1 := w6) ho (wanted_some rfl rfl h87 rfl) 10 #[u1] (by simp [execOp, Act.eval, h88, resolve, go_sem]) ((CE.out _ (HM.out.below hb6)).mono (by rintro e w7 ⟨v, rfl, hown, hb7⟩; exact ⟨v, rfl, _, rfl, hb7, by rintro t' ⟨⟩; exact hown.rb⟩))
            | 29, ho =>
              obtain rfl := Option.some.inj ho
              obtain ⟨v89, h89, p89⟩ := given_fed hg 89 (by decide +kernel)
              obtain ⟨_, h87, rfl⟩ := given_fed hg 87 (by decide +kernel)
              clear hg
              have cv := run_string_RB w6 26 5 9 Try.underlying26 Try.underlying5 Try.underlying9 v89 _ p89
              exact st_yield ho (wanted_some rfl rfl h87 rfl) (.string (str B)) w6 (by simp [execOp, Act.eval, h89, go_sem, cv, Result.andThen]) ⟨_, rfl, Below.refl _ _, by rintro t' ⟨⟩; rfl⟩
            | 30, ho =>
              obtain rfl := Option.some.inj ho
              have h8 := given_old hg 8 (by decide +kernel)
              obtain ⟨_, h87, rfl⟩ := given_fed hg 87 (by decide +kernel)
              clear hg
              exact st_yield ho (wanted_some rfl rfl h87 rfl) (ub) w6 (by simp [execOp, Act.eval, h8, go_sem]) ⟨_, rfl, Below.refl _ _, by rintro t' ⟨⟩; rfl⟩
            | 31, ho =>
              obtain rfl := Option.some.inj ho
              obtain ⟨v91', h91, p91⟩ := given_fed hg 91 (by decide +kernel)
              have p91 : v91' = ub := p91
              rw [p91] at h91
              obtain ⟨_, h87, rfl⟩ := given_fed hg 87 (by decide +kernel)
              clear hg
              have cv := run_string_RB w6 26 5 9 Try.underlying26 Try.underlying5 Try.underlying9 ub _ (HUB.out.below hb6)
              exact st_yield ho (wanted_some rfl rfl h87 rfl) (.string (str A)) w6 (by simp [execOp, Act.eval, h91, go_sem, cv, Result.andThen]) ⟨_, rfl, Below.refl _ _, by rintro t' ⟨⟩; rfl⟩
            | 32, ho =>
              obtain rfl := Option.some.inj ho
              obtain ⟨_, h90, rfl⟩ := given_fed hg 90 (by decide +kernel)
              obtain ⟨_, h92, rfl⟩ := given_fed hg 92 (by decide +kernel)
              obtain ⟨_, h87, rfl⟩ := given_fed hg 87 (by decide +kernel)
              clear hg
              exact st_yield ho (wanted_some rfl rfl h87 rfl) (.bool p) w6 (by simp [execOp, Act.eval, h90, h92, go_sem, HP.out]) ⟨_, rfl, Below.refl _ _, by rintro t' ⟨⟩; rfl⟩
            | 33, ho =>
              obtain rfl := Option.some.inj ho
              have h0 := given_old hg 0 (by decide +kernel)
              obtain ⟨_, h87, rfl⟩ := given_fed hg 87 (by decide +kernel)
              clear hg
              exact st_yield ho (wanted_some rfl rfl h87 rfl) (.slice ua L.length uc) w6 (by simp [execOp, Act.eval, h0, go_sem]) ⟨_, rfl, Below.refl _ _, by rintro t' ⟨⟩; rfl⟩
            | 34, ho =>
              obtain rfl := Option.some.inj ho
              have h1 := given_old hg 1 (by decide +kernel)
              obtain ⟨_, h87, rfl⟩ := given_fed hg 87 (by decide +kernel)
              clear hg
              exact st_yield ho (wanted_some rfl rfl h87 rfl) (u1) w6 (by simp [execOp, Act.eval, h1, go_sem]) ⟨_, rfl, Below.refl _ _, by rintro t' ⟨⟩; rfl⟩
            | 35, ho =>
              obtain rfl := Option.some.inj ho
              obtain ⟨_, h94, rfl⟩ := given_fed hg 94 (by decide +kernel)
              obtain ⟨v95', h95, p95⟩ := given_fed hg 95 (by decide +kernel)
              have p95 : v95' = u1 := p95
              rw [p95] at h95
              obtain ⟨_, h87, rfl⟩ := given_fed hg 87 (by decide +kernel)
              clear hg
              exact st_enter (w1 := w6) ho (wanted_some rfl rfl h87 rfl) 15 #[.slice ua L.length uc, u1] (by simp [execOp, Act.eval, h94, h95, resolve, go_sem]) (((CEM.out _ (HL.out.below hb6) (HM.out.below hb6))).mono (by rintro e w7 ⟨rfl, hb7⟩; exact ⟨_, rfl, _, rfl, hb7, by rintro t' ⟨⟩; rfl⟩))
            | 36, ho =>
              obtain rfl := Option.some.inj ho
              obtain ⟨_, h93, rfl⟩ := given_fed hg 93 (by decide +kernel)
              obtain ⟨_, h96, rfl⟩ := given_fed hg 96 (by decide +kernel)
              obtain ⟨_, h87, rfl⟩ := given_fed hg 87 (by decide +kernel)
              clear hg
              exact st_yield ho (wanted_some rfl rfl h87 rfl) (.bool true) w6 (by simp [execOp, Act.eval, h93, h96, go_sem]) ⟨_, rfl, Below.refl _ _, by rintro t' ⟨⟩; rfl⟩
            | 37, ho =>
              obtain rfl := Option.some.inj ho
              obtain ⟨_, h87, rfl⟩ := given_fed hg 87 (by decide +kernel)
              obtain ⟨_, h97, rfl⟩ := given_fed hg 97 (by decide +kernel)
              obtain ⟨_, h83, rfl⟩ := given_fed hg 83 (by decide +kernel)
              clear hg
              exact st_yield ho (wanted_some rfl rfl h83 rfl) (.bool true) w6 (by simp [execOp, Act.eval, h87, h97, go_sem]) ⟨_, rfl, Below.refl _ _, by rintro t' ⟨⟩; rfl⟩
            | 38, ho =>
              obtain rfl := Option.some.inj ho
              obtain ⟨_, h83, rfl⟩ := given_fed hg 83 (by decide +kernel)
              obtain ⟨_, h98, rfl⟩ := given_fed hg 98 (by decide +kernel)
              clear hg
              exact st_yield ho (wanted_none rfl) (.bool true) w6 (by simp [execOp, Act.eval, h83, h98, go_sem]) ⟨_, rfl, Below.refl _ _, by rintro t' ⟨⟩; rfl⟩
            | 39, ho =>
              obtain rfl := Option.some.inj ho
              obtain ⟨_, h99, rfl⟩ := given_fed hg 99 (by decide +kernel)
              clear hg
              exact st_yield ho (wanted_none rfl) (.bool true) w6 (by simp [execOp, Act.eval, h99, go_sem]) ⟨_, rfl, Below.refl _ _, by rintro t' ⟨⟩; rfl⟩
            | n + 40, ho => simp at ho
          · intro f w11 hb11 hv
            have h6 := hv 6 (by decide)
            simp only [WT] at h6
            have HB11 := Go.Lib.hid (HB.out.trans (hb11.mono HB.out.size))
            clear hv hb11
            unfold putAll
            simp only [List.foldl]
            simp only [h6]
            go_simp
            go_wp2_with fail
            go_ret
            exact ⟨rfl, HB11.out⟩
        | false =>
          have CM := Go.Lib.hid (fun W (h : RE W u1 M) => by have := rmay_c u1 M W h; rw [hmm] at this; exact this)
          have p := true
          have B : List UInt8 := []
          clear hmm HINJ hA
          go_upto_region 17 with (fail)
          refine wp_region_each (by kernel_rfl) (WF ub (.slice ua L.length uc) ux u1 A B nm F p) (WF_below ub (.slice ua L.length uc) ux u1 A B nm F p) (by decide +kernel) (by decide +kernel) (by rfl) [61, 62, 63, 64, 65, 66, 67, 68, 69, 70, 71, 72, 73, 74, 75, 76, 77, 78, 79, 80, 81, 82, 83, 84, 85, 86, 87, 88, 89, 90, 91, 92, 93, 94, 95, 96, 97, 98, 99, 6] (by rfl) ?_ ?_
          · intro i o ho a w6 hb6 hlen hg
            match i, ho with
            | 0, ho =>
              obtain rfl := Option.some.inj ho
              have h8 := given_old hg 8 (by decide +kernel)
              clear hg
              exact st_yield ho (wanted_none rfl) (ub) w6 (by simp [execOp, Act.eval, h8, go_sem]) ⟨_, rfl, Below.refl _ _, by rintro t' ⟨⟩; rfl⟩
            | 1, ho =>
              obtain rfl := Option.some.inj ho
              obtain ⟨v61', h61, p61⟩ := given_fed hg 61 (by decide +kernel)
              have p61 : v61' = ub := p61
              rw [p61] at h61
              clear hg
              have cv := run_string_RB w6 26 5 9 Try.underlying26 Try.underlying5 Try.underlying9 ub _ (HUB.out.below hb6)
              exact st_yield ho (wanted_none rfl) (.string (str A)) w6 (by simp [execOp, Act.eval, h61, go_sem, cv, Result.andThen]) ⟨_, rfl, Below.refl _ _, by rintro t' ⟨⟩; rfl⟩
            | 2, ho =>
              obtain rfl := Option.some.inj ho
              have h0 := given_old hg 0 (by decide +kernel)
              clear hg
              exact st_yield ho (wanted_none rfl) (.slice ua L.length uc) w6 (by simp [execOp, Act.eval, h0, go_sem]) ⟨_, rfl, Below.refl _ _, by rintro t' ⟨⟩; rfl⟩
            | 3, ho =>
              obtain rfl := Option.some.inj ho
              obtain ⟨_, h63, rfl⟩ := given_fed hg 63 (by decide +kernel)
              clear hg
              exact st_enter (w1 := w6) ho (wanted_none rfl) 14 #[.slice ua L.length uc] (by simp [execOp, Act.eval, h63, resolve, go_sem]) ((CBY.out _ (HL.out.below hb6)).mono (by rintro e w7 ⟨v, rfl, hown, hb7⟩; exact ⟨v, rfl, _, rfl, hb7, by rintro t' ⟨⟩; exact hown.rb⟩))
            | 4, ho =>
              obtain rfl := Option.some.inj ho
              obtain ⟨v64, h64, p64⟩ := given_fed hg 64 (by decide +kernel)
              clear hg
              have cv := run_string_RB w6 26 5 9 Try.underlying26 Try.underlying5 Try.underlying9 v64 _ p64
              exact st_yield ho (wanted_none rfl) (.string (str A)) w6 (by simp [execOp, Act.eval, h64, go_sem, cv, Result.andThen]) ⟨_, rfl, Below.refl _ _, by rintro t' ⟨⟩; rfl⟩
            | 5, ho =>
              obtain rfl := Option.some.inj ho
              obtain ⟨_, h62, rfl⟩ := given_fed hg 62 (by decide +kernel)
              obtain ⟨_, h65, rfl⟩ := given_fed hg 65 (by decide +kernel)
              clear hg
              exact st_yield ho (wanted_none rfl) (.bool true) w6 (by simp [execOp, Act.eval, h62, h65, go_sem]) ⟨_, rfl, Below.refl _ _, by rintro t' ⟨⟩; rfl⟩
            | 6, ho =>
              obtain rfl := Option.some.inj ho
              obtain ⟨_, h66, rfl⟩ := given_fed hg 66 (by decide +kernel)
              clear hg
              exact st_yield ho (wanted_none rfl) (.bool true) w6 (by simp [execOp, Act.eval, h66, go_sem]) ⟨_, rfl, Below.refl _ _, by rintro t' ⟨⟩; rfl⟩
            | 7, ho =>
              obtain rfl := Option.some.inj ho
              have h12 := given_old hg 12 (by decide +kernel)
              obtain ⟨_, h67, rfl⟩ := given_fed hg 67 (by decide +kernel)
              clear hg
              exact st_yield ho (wanted_some rfl rfl h67 rfl) (.int .i64 0) w6 (by simp [execOp, Act.eval, h12, go_sem]) ⟨_, rfl, Below.refl _ _, by rintro t' ⟨⟩; rfl⟩
            | 8, ho =>
              obtain rfl := Option.some.inj ho
              obtain ⟨_, h68, rfl⟩ := given_fed hg 68 (by decide +kernel)
              obtain ⟨_, h67, rfl⟩ := given_fed hg 67 (by decide +kernel)
              clear hg
              exact st_yield ho (wanted_some rfl rfl h67 rfl) (.bool true) w6 (by simp [execOp, Act.eval, h68, go_sem]) ⟨_, rfl, Below.refl _ _, by rintro t' ⟨⟩; rfl⟩
            | 9, ho =>
              obtain rfl := Option.some.inj ho
              obtain ⟨_, h67, rfl⟩ := given_fed hg 67 (by decide +kernel)
              obtain ⟨_, h69, rfl⟩ := given_fed hg 69 (by decide +kernel)
              clear hg
              exact st_yield ho (wanted_none rfl) (.bool true) w6 (by simp [execOp, Act.eval, h67, h69, go_sem]) ⟨_, rfl, Below.refl _ _, by rintro t' ⟨⟩; rfl⟩
            | 10, ho =>
              obtain rfl := Option.some.inj ho
              obtain ⟨_, h70, rfl⟩ := given_fed hg 70 (by decide +kernel)
              clear hg
              exact st_yield ho (wanted_none rfl) (.bool true) w6 (by simp [execOp, Act.eval, h70, go_sem]) ⟨_, rfl, Below.refl _ _, by rintro t' ⟨⟩; rfl⟩
            | 11, ho =>
              obtain rfl := Option.some.inj ho
              have h11 := given_old hg 11 (by decide +kernel)
              obtain ⟨_, h71, rfl⟩ := given_fed hg 71 (by decide +kernel)
              clear hg
              exact st_yield ho (wanted_some rfl rfl h71 rfl) (ux) w6 (by simp [execOp, Act.eval, h11, go_sem]) ⟨_, rfl, Below.refl _ _, by rintro t' ⟨⟩; rfl⟩
            | 12, ho =>
              obtain rfl := Option.some.inj ho
              have h0 := given_old hg 0 (by decide +kernel)
              obtain ⟨_, h71, rfl⟩ := given_fed hg 71 (by decide +kernel)
              clear hg
              exact st_yield ho (wanted_some rfl rfl h71 rfl) (.slice ua L.length uc) w6 (by simp [execOp, Act.eval, h0, go_sem]) ⟨_, rfl, Below.refl _ _, by rintro t' ⟨⟩; rfl⟩
            | 13, ho =>
              obtain rfl := Option.some.inj ho
              obtain ⟨v72', h72, p72⟩ := given_fed hg 72 (by decide +kernel)
              have p72 : v72' = ux := p72
              rw [p72] at h72
              obtain ⟨_, h73, rfl⟩ := given_fed hg 73 (by decide +kernel)
              obtain ⟨_, h71, rfl⟩ := given_fed hg 71 (by decide +kernel)
              clear hg
              exact st_enter (w1 := w6) ho (wanted_some rfl rfl h71 rfl) 15 #[ux, .slice ua L.length uc] (by simp [execOp, Act.eval, h72, h73, resolve, go_sem]) (((CEQ1.out _ (HX.out.below hb6) (HL.out.below hb6))).mono (by rintro e w7 ⟨rfl, hb7⟩; exact ⟨_, rfl, _, rfl, hb7, by rintro t' ⟨⟩; rfl⟩))
            | 14, ho =>
              obtain rfl := Option.some.inj ho
              obtain ⟨_, h71, rfl⟩ := given_fed hg 71 (by decide +kernel)
              obtain ⟨_, h74, rfl⟩ := given_fed hg 74 (by decide +kernel)
              clear hg
              exact st_yield ho (wanted_none rfl) (.bool true) w6 (by simp [execOp, Act.eval, h71, h74, go_sem]) ⟨_, rfl, Below.refl _ _, by rintro t' ⟨⟩; rfl⟩
            | 15, ho =>
              obtain rfl := Option.some.inj ho
              obtain ⟨_, h75, rfl⟩ := given_fed hg 75 (by decide +kernel)
              clear hg
              exact st_yield ho (wanted_none rfl) (.bool true) w6 (by simp [execOp, Act.eval, h75, go_sem]) ⟨_, rfl, Below.refl _ _, by rintro t' ⟨⟩; rfl⟩
            | 16, ho =>
              obtain rfl := Option.some.inj ho
              have h0 := given_old hg 0 (by decide +kernel)
              obtain ⟨_, h76, rfl⟩ := given_fed hg 76 (by decide +kernel)
              clear hg
              exact st_yield ho (wanted_some rfl rfl h76 rfl) (.slice ua L.length uc) w6 (by simp [execOp, Act.eval, h0, go_sem]) ⟨_, rfl, Below.refl _ _, by rintro t' ⟨⟩; rfl⟩
            | 17, ho =>
              obtain rfl := Option.some.inj ho
              have h2 := given_old hg 2 (by decide +kernel)
              obtain ⟨_, h76, rfl⟩ := given_fed hg 76 (by decide +kernel)
              clear hg
              exact st_yield ho (wanted_some rfl rfl h76 rfl) (.string nm) w6 (by simp [execOp, Act.eval, h2, go_sem]) ⟨_, rfl, Below.refl _ _, by rintro t' ⟨⟩; rfl⟩
            | 18, ho =>
              obtain rfl := Option.some.inj ho
              obtain ⟨_, h77, rfl⟩ := given_fed hg 77 (by decide +kernel)
              obtain ⟨_, h78, rfl⟩ := given_fed hg 78 (by decide +kernel)
              obtain ⟨_, h76, rfl⟩ := given_fed hg 76 (by decide +kernel)
              clear hg
              exact st_enter (w1 := w6) ho (wanted_some rfl rfl h76 rfl) 16 #[.slice ua L.length uc, .string nm] (by simp [execOp, Act.eval, h77, h78, resolve, go_sem]) (((CF.out _ (HL.out.below hb6))).mono (by rintro e w7 ⟨rfl, hb7⟩; exact ⟨_, rfl, _, rfl, hb7, by rintro t' ⟨⟩; rfl⟩))
            | 19, ho =>
              obtain rfl := Option.some.inj ho
              have h9 := given_old hg 9 (by decide +kernel)
              obtain ⟨_, h76, rfl⟩ := given_fed hg 76 (by decide +kernel)
              clear hg
              exact st_yield ho (wanted_some rfl rfl h76 rfl) (.int .i64 F) w6 (by simp [execOp, Act.eval, h9, go_sem]) ⟨_, rfl, Below.refl _ _, by rintro t' ⟨⟩; rfl⟩
            | 20, ho =>
              obtain rfl := Option.some.inj ho
              obtain ⟨_, h79, rfl⟩ := given_fed hg 79 (by decide +kernel)
              obtain ⟨_, h80, rfl⟩ := given_fed hg 80 (by decide +kernel)
              obtain ⟨_, h76, rfl⟩ := given_fed hg 76 (by decide +kernel)
              clear hg
              exact st_yield ho (wanted_some rfl rfl h76 rfl) (.bool true) w6 (by simp [execOp, Act.eval, h79, h80, go_sem]) ⟨_, rfl, Below.refl _ _, by rintro t' ⟨⟩; rfl⟩
            | 21, ho =>
              obtain rfl := Option.some.inj ho
              obtain ⟨_, h76, rfl⟩ := given_fed hg 76 (by decide +kernel)
              obtain ⟨_, h81, rfl⟩ := given_fed hg 81 (by decide +kernel)
              clear hg
              exact st_yield ho (wanted_none rfl) (.bool true) w6 (by simp [execOp, Act.eval, h76, h81, go_sem]) ⟨_, rfl, Below.refl _ _, by rintro t' ⟨⟩; rfl⟩
            | 22, ho =>
              obtain rfl := Option.some.inj ho
              obtain ⟨_, h82, rfl⟩ := given_fed hg 82 (by decide +kernel)
              clear hg
              exact st_yield ho (wanted_none rfl) (.bool true) w6 (by simp [execOp, Act.eval, h82, go_sem]) ⟨_, rfl, Below.refl _ _, by rintro t' ⟨⟩; rfl⟩
            | 23, ho =>
              obtain rfl := Option.some.inj ho
              have h1 := given_old hg 1 (by decide +kernel)
              obtain ⟨_, h83, rfl⟩ := given_fed hg 83 (by decide +kernel)
              clear hg
              exact st_yield ho (wanted_some rfl rfl h83 rfl) (u1) w6 (by simp [execOp, Act.eval, h1, go_sem]) ⟨_, rfl, Below.refl _ _, by rintro t' ⟨⟩; rfl⟩
            | 24, ho =>
              obtain rfl := Option.some.inj ho
              obtain ⟨v84', h84, p84⟩ := given_fed hg 84 (by decide +kernel)
              have p84 : v84' = u1 := p84
              rw [p84] at h84
              obtain ⟨_, h83, rfl⟩ := given_fed hg 83 (by decide +kernel)
              clear hg
              exact st_enter (w1 := w6) ho (wanted_some rfl rfl h83 rfl) 12 #[u1] (by simp [execOp, Act.eval, h84, resolve, go_sem]) (((CM.out _ (HM.out.below hb6))).mono (by rintro e w7 ⟨rfl, hb7⟩; exact ⟨_, rfl, _, rfl, hb7, by rintro t' ⟨⟩; rfl⟩))
            | 25, ho =>
              obtain rfl := Option.some.inj ho
              obtain ⟨_, h85, rfl⟩ := given_fed hg 85 (by decide +kernel)
              obtain ⟨_, h83, rfl⟩ := given_fed hg 83 (by decide +kernel)
              clear hg
              exact st_yield ho (wanted_some rfl rfl h83 rfl) (.bool true) w6 (by simp [execOp, Act.eval, h85, go_sem]) ⟨_, rfl, Below.refl _ _, by rintro t' ⟨⟩; rfl⟩
            | 26, ho =>
              obtain rfl := Option.some.inj ho
              obtain ⟨_, h86, rfl⟩ := given_fed hg 86 (by decide +kernel)
              obtain ⟨_, h83, rfl⟩ := given_fed hg 83 (by decide +kernel)
              clear hg
              exact st_yield ho (wanted_some rfl rfl h83 rfl) (.bool true) w6 (by simp [execOp, Act.eval, h86, go_sem]) ⟨_, rfl, Below.refl _ _, by rintro t' ⟨⟩; rfl⟩
            | 27, ho =>
              obtain rfl := Option.some.inj ho
              obtain ⟨_, h87, rfl⟩ := given_fed hg 87 (by decide +kernel)
              clear hg
              exact st_skip ho (wanted_not rfl rfl h87 (by decide)) ⟨_, rfl, Below.refl _ _, by rintro t' ⟨⟩; rfl⟩
            | 28, ho =>
              obtain rfl := Option.some.inj ho
              obtain ⟨_, h87, rfl⟩ := given_fed hg 87 (by decide +kernel)
              clear hg
              exact st_skip ho (wanted_not rfl rfl h87 (by decide)) ⟨_, rfl, Below.refl _ _, by rintro t' ⟨⟩; rfl⟩
            | 29, ho =>
              obtain rfl := Option.some.inj ho
              obtain ⟨_, h87, rfl⟩ := given_fed hg 87 (by decide +kernel)
              clear hg
              exact st_skip ho (wanted_not rfl rfl h87 (by decide)) ⟨_, rfl, Below.refl _ _, by rintro t' ⟨⟩; rfl⟩
            | 30, ho =>
              obtain rfl := Option.some.inj ho
              obtain ⟨_, h87, rfl⟩ := given_fed hg 87 (by decide +kernel)
              clear hg
              exact st_skip ho (wanted_not rfl rfl h87 (by decide)) ⟨_, rfl, Below.refl _ _, by rintro t' ⟨⟩; rfl⟩
            | 31, ho =>
              obtain rfl := Option.some.inj ho
              obtain ⟨_, h87, rfl⟩ := given_fed hg 87 (by decide +kernel)
              clear hg
              exact st_skip ho (wanted_not rfl rfl h87 (by decide)) ⟨_, rfl, Below.refl _ _, by rintro t' ⟨⟩; rfl⟩
            | 32, ho =>
              obtain rfl := Option.some.inj ho
              obtain ⟨_, h87, rfl⟩ := given_fed hg 87 (by decide +kernel)
              clear hg
              exact st_skip ho (wanted_not rfl rfl h87 (by decide)) ⟨_, rfl, Below.refl _ _, by rintro t' ⟨⟩; rfl⟩
            | 33, ho =>
              obtain rfl := Option.some.inj ho
              obtain ⟨_, h87, rfl⟩ := given_fed hg 87 (by decide +kernel)
              clear hg
              exact st_skip ho (wanted_not rfl rfl h87 (by decide)) ⟨_, rfl, Below.refl _ _, by rintro t' ⟨⟩; rfl⟩
            | 34, ho =>
              obtain rfl := Option.some.inj ho
              obtain ⟨_, h87, rfl⟩ := given_fed hg 87 (by decide +kernel)
              clear hg
              exact st_skip ho (wanted_not rfl rfl h87 (by decide)) ⟨_, rfl, Below.refl _ _, by rintro t' ⟨⟩; rfl⟩
            | 35, ho =>
              obtain rfl := Option.some.inj ho
              obtain ⟨_, h87, rfl⟩ := given_fed hg 87 (by decide +kernel)
              clear hg
              exact st_skip ho (wanted_not rfl rfl h87 (by decide)) ⟨_, rfl, Below.refl _ _, by rintro t' ⟨⟩; rfl⟩
            | 36, ho =>
              obtain rfl := Option.some.inj ho
              obtain ⟨_, h87, rfl⟩ := given_fed hg 87 (by decide +kernel)
              clear hg
              exact st_skip ho (wanted_not rfl rfl h87 (by decide)) ⟨_, rfl, Below.refl _ _, by rintro t' ⟨⟩; rfl⟩
            | 37, ho =>
              obtain rfl := Option.some.inj ho
              obtain ⟨_, h87, rfl⟩ := given_fed hg 87 (by decide +kernel)
              obtain ⟨_, h97, rfl⟩ := given_fed hg 97 (by decide +kernel)
              obtain ⟨_, h83, rfl⟩ := given_fed hg 83 (by decide +kernel)
              clear hg
              exact st_yield ho (wanted_some rfl rfl h83 rfl) (.bool true) w6 (by simp [execOp, Act.eval, h87, h97, go_sem]) ⟨_, rfl, Below.refl _ _, by rintro t' ⟨⟩; rfl⟩
            | 38, ho =>
              obtain rfl := Option.some.inj ho
              obtain ⟨_, h83, rfl⟩ := given_fed hg 83 (by decide +kernel)
              obtain ⟨_, h98, rfl⟩ := given_fed hg 98 (by decide +kernel)
              clear hg
              exact st_yield ho (wanted_none rfl) (.bool true) w6 (by simp [execOp, Act.eval, h83, h98, go_sem]) ⟨_, rfl, Below.refl _ _, by rintro t' ⟨⟩; rfl⟩
            | 39, ho =>
              obtain rfl := Option.some.inj ho
              obtain ⟨_, h99, rfl⟩ := given_fed hg 99 (by decide +kernel)
              clear hg
              exact st_yield ho (wanted_none rfl) (.bool true) w6 (by simp [execOp, Act.eval, h99, go_sem]) ⟨_, rfl, Below.refl _ _, by rintro t' ⟨⟩; rfl⟩
            | n + 40, ho => simp at ho
          · intro f w11 hb11 hv
            have h6 := hv 6 (by decide)
            simp only [WF] at h6
            have HB11 := Go.Lib.hid (HB.out.trans (hb11.mono HB.out.size))
            clear hv hb11
            unfold putAll
            simp only [List.foldl]
            simp only [h6]
            go_simp
            go_wp2_with fail
            go_ret
            exact ⟨rfl, HB11.out⟩

/-! ### THE ROW -/
set_option maxRecDepth 100000 in
theorem lifted (os : Os) (started : os.Started) (H : Type) (enc : TypeId × Value → H) :
    ReturnsInHanded {} Try.checked os 3 .any (Rows.dirAllSpec.pre6 enc Try.prog Try.f3 Rows.dirAllRow.domain false) (Rows.dirAllSpec.post enc Try.prog Try.f3 false true false false) := by
  refine returnsInHanded_of_change (C := Try.checked) own started (by kernel_rfl) Try.func3
    (ChangeSpec.witness6 (enc := enc) (C := Try.checked) false ⟨#[], #[.slice none 0 0, .slice none 0 0, .string ByteArray.empty], []⟩ 8 (by kernel_rfl) (by kernel_rfl) (by kernel_rfl) (by kernel_rfl)) ?_
  intro W base args ds gs before hval0 hW hcnd _
  have hval : ∀ (j : Nat) t v, Try.f3.params[j]? = some t → args[j]? = some v → Value.okWide Try.prog W .any base t v := hval0
  have hW' := hW
  obtain ⟨p, q, hA0, hV, rfl, hfz, hnd⟩ := hW
  have hA : DataW.TrodAll enc Try.prog W 0 (fun _ => true) true Try.f3.params.toList args.toList ds p := hA0
  rw [Try.params3] at hA hval
  obtain ⟨v0, vs0, d0, ds0, p0, q0, hargs, rfl, rfl, h0, r0⟩ := trodAll_cons hA
  obtain ⟨v1, vs1, d1, ds1, p1, q1, rfl, rfl, rfl, h1, r1⟩ := trodAll_cons r0
  obtain ⟨v2, vs2, d2, ds2, p2, q2, rfl, rfl, rfl, h2, r2⟩ := trodAll_cons r1
  obtain ⟨rfl, rfl, rfl⟩ := trodAll_nil r2
  obtain rfl : args = #[v0, v1, v2] := by cases args; simp_all
  obtain ⟨rfl, rfl⟩ := trodVars_none hV
  have kk0 := h0
  have lt0 : ∀ x ∈ p0, x.block < W.heap.size := by obtain ⟨m, hm⟩ := kk0; exact DataW.trod_lt m _ _ _ hm
  have kk1 := h1
  have lt1 : ∀ x ∈ p1, x.block < W.heap.size := by obtain ⟨m, hm⟩ := kk1; exact DataW.trod_lt m _ _ _ hm
  have kk2 := h2
  have lt2 : ∀ x ∈ p2, x.block < W.heap.size := by obtain ⟨m, hm⟩ := kk2; exact DataW.trod_lt m _ _ _ hm
  obtain ⟨a0, len0, cap0, rfl⟩ := okWide_slice Try.underlying22 (hval 0 22 v0 rfl rfl)
  obtain ⟨l0, w0⟩ := open_ents h0
  obtain ⟨a1, len1, cap1, rfl⟩ := okWide_slice Try.underlying22 (hval 1 22 v1 rfl rfl)
  obtain ⟨l1, w1⟩ := open_ents h1
  obtain ⟨a2, rfl, rfl, rfl, w2⟩ := open_string Try.underlying9 (hval 2 9 v2 rfl rfl) h2
  clear hA0 hval0
  refine (walk W a0 len0 cap0 l0 w0 a1 len1 cap1 l1 w1 a2 w2).mono fun e W' ⟨he, bel⟩ => ?_
  subst he
  exact ⟨_, rfl, _, _, _, [], _, [], hW', trodAll_mk1 (shut_bool Try.underlying4 _), (trodAll_cons_mk (Below.trod laidOut (by kernel_rfl) (of_decide_eq_true (by kernel_rfl)) kk0 bel lt0) (trodAll_cons_mk (Below.trod laidOut (by kernel_rfl) (of_decide_eq_true (by kernel_rfl)) kk1 bel lt1) (trodAll_cons_mk (Below.trod laidOut (by kernel_rfl) (of_decide_eq_true (by kernel_rfl)) kk2 bel lt2) trodAll_mk0))), rfl, bel.frame _, fun h => by cases h⟩

theorem over : Rows.dirAllRow.holds Try.pinned (OpenSpec.ofChange Rows.dirAllSpec) :=
  OpenClaim.holds_of_wide 3 Try.f3 rfl rfl rfl rfl rfl rfl rfl ⟨rfl, rfl, rfl, rfl, rfl⟩ rfl rfl rfl rfl rfl (by kernel_rfl) Try.func3 (by kernel_rfl)
    (of_decide_eq_true (by kernel_rfl)) (by unfold Func.isWrapper; first | (rw [if_pos (by decide +kernel)]; kernel_rfl) | (rw [if_neg (by decide +kernel)]; exact ⟨rfl, rfl⟩))
    (fun os started H enc _ => lifted os started H enc)

theorem proved : Rows.DirAllSaid := over
#print axioms proved
end Go.Proofs.Yteickihofbkbkaa.dirAll
