/- TableFull: a table of thirty-two records, each found: for every turn and every number asked the law returns true. -/
import Derived.Test.YthbnecdeebmlhaaGreatRows
import Derived.WalkKit
import Derived.ProofKit
import Derived.OpenShut
import Derived.ShutString
import Derived.ChangeOld
import Derived.Below
import Derived.Test.YthbnecdeebmlhaaGreatM01
import Derived.Test.YthbnecdeebmlhaaGreatM13
import Derived.Test.YthbnecdeebmlhaaGreatM05
namespace Go.Proofs.YthbnecdeebmlhaaGreat.tableFull
open Go.ChangeShapes Go.WideShapes Go.ChangeAt Go.RowKit
open Go.ChangeMaps (open_string shut_string)
set_option linter.unusedVariables false

theorem own : ownKnob Tryz.prog.godebug = none := by kernel_rfl
theorem laidOut : laidOutB Tryz.prog = true := by kernel_rfl

theorem build_frec (kx : ByteArray) (gx : Bool) (ax nx : Int) (sx : ByteArray) (W : World) : (Instr.build 28 #[(0, .string kx), (1, .bool gx), (2, .agg #[.int .i64 ax, .int .i64 nx, .string sx])]).run Tryz.prog W = .ok (.agg #[.string kx, .bool gx, .int .i64 ax, .int .i64 nx, .string sx]) W :=
  run_build W _ _ _ (by kernel_rfl)
def VFa (u : Value) (k A D C av nv : Nat) (ky : List UInt8) (b3 : Bool) : Nat → World → Value → Prop
  | 23, _, v => v = u
  | 24, _, v => v = .int .i64 (k : Int)
  | 25, _, v => v = .int .i64 (A : Int)
  | 26, _, v => v = .int .i64 (97 + (A : Int))
  | 27, _, v => v = .int .u8 (97 + (A : Int))
  | 28, _, v => v = .int .i64 (k : Int)
  | 29, _, v => v = .int .i64 (D : Int)
  | 30, _, v => v = .int .i64 (97 + (D : Int))
  | 31, _, v => v = .int .u8 (97 + (D : Int))
  | 32, w, v => RB w v ky
  | 33, _, v => v = .string (str ky)
  | 34, _, v => v = .int .i64 (k : Int)
  | 35, _, v => v = .int .i64 (C : Int)
  | 36, _, v => v = .bool b3
  | 37, _, v => v = .int .i64 (k : Int)
  | 38, _, v => v = .agg #[.int .i64 (av : Int), .int .i64 (nv : Int), .string ⟨#[]⟩]
  | 39, _, v => v = .agg #[.string (str ky), .bool b3, .int .i64 (av : Int), .int .i64 (nv : Int), .string ⟨#[]⟩]
  | 40, w, v => RS w v [(str ky, b3, (av : Int), (nv : Int), ⟨#[]⟩)]
  | _, _, _ => True

theorem VFa_below (u : Value) (k A D C av nv : Nat) (ky : List UInt8) (b3 : Bool) : ∀ (i : Nat) (w w' : World) (v : Value), VFa u k A D C av nv ky b3 i w v → Below w.heap.size w w' → VFa u k A D C av nv ky b3 i w' v := by
  intro i w w' v h hb
  unfold VFa at h ⊢
  split at h <;> first | exact h | trivial | exact RB.below h hb | exact RS.below h hb

def VFb (g8 g11 z D R s : Nat) (hq : Bool) (kx : ByteArray) (gx : Bool) (ax nx : Int) (sx : ByteArray) : Nat → World → Value → Prop
  | 84, _, v => v = .int .i64 (z : Int)
  | 85, _, v => v = .int .i64 (D : Int)
  | 86, _, v => v = .int .i64 (s : Int)
  | 87, _, v => v = .int .i64 (z : Int)
  | 88, _, v => v = .int .i64 (D : Int)
  | 89, _, v => v = .int .i64 (z : Int)
  | 90, _, v => v = .int .i64 (R : Int)
  | 91, _, v => v = .pointer (some ⟨g11, 24 * D, none⟩)
  | 92, _, v => v = .pointer (some ⟨g11, 24 * D + 6 * R, none⟩)
  | 93, _, v => v = .agg #[.bool hq, .string kx, .bool gx, .int .i64 ax, .int .i64 nx, .string sx]
  | 94, _, v => v = .pointer (some ⟨g8, 24 * D, none⟩)
  | 95, _, v => v = .pointer (some ⟨g8, 24 * D + 6 * s, none⟩)
  | _, _, _ => True

theorem VFb_below (g8 g11 z D R s : Nat) (hq : Bool) (kx : ByteArray) (gx : Bool) (ax nx : Int) (sx : ByteArray) : ∀ (i : Nat) (w w' : World) (v : Value), VFb g8 g11 z D R s hq kx gx ax nx sx i w v → Below w.heap.size w w' → VFb g8 g11 z D R s hq kx gx ax nx sx i w' v := by
  intro i w w' v h hb
  unfold VFb at h ⊢
  split at h <;> first | exact h | trivial | exact RB.below h hb | exact RS.below h hb

def VFc (UL : List Value) (ph b q c6 J n : Nat) (a1 Z1 : Int) (kj : ByteArray) : Nat → World → Value → Prop
  | 4, _, v => v = .bool true
  | 104, _, v => v = .int .i64 0
  | 105, _, v => v = .bool true
  | 106, _, v => v = .bool true
  | 107, _, v => v = .pointer (some ⟨ph, 0, none⟩)
  | 108, _, v => v = .agg UL.toArray
  | 109, _, v => v = .slice (some ⟨b, q, none⟩) 400 c6
  | 110, _, v => v = .int .i64 a1
  | 111, _, v => v = .int .i64 Z1
  | 112, _, v => v = .int .i64 (Z1 + 400)
  | 113, _, v => v = .int .i64 (J : Int)
  | 114, _, v => v = .pointer (some ⟨b, q + J * 5, none⟩)
  | 115, _, v => v = .pointer (some ⟨b, q + J * 5, none⟩)
  | 116, _, v => v = .string kj
  | 117, _, v => v = .bool true
  | 118, _, v => v = .bool true
  | 119, _, v => v = .bool true
  | 120, _, v => v = .pointer (some ⟨ph, 0, none⟩)
  | 121, _, v => v = .int .i64 (n : Int)
  | 122, _, v => v = .int .i64 (n : Int)
  | 123, _, v => v = .bool true
  | 124, _, v => v = .bool true
  | _, _, _ => True

theorem VFc_below (UL : List Value) (ph b q c6 J n : Nat) (a1 Z1 : Int) (kj : ByteArray) : ∀ (i : Nat) (w w' : World) (v : Value), VFc UL ph b q c6 J n a1 Z1 kj i w v → Below w.heap.size w w' → VFc UL ph b q c6 J n a1 Z1 kj i w' v := by
  intro i w w' v h hb
  unfold VFc at h ⊢
  split at h <;> first | exact h | trivial | exact RB.below h hb | exact RS.below h hb

set_option maxHeartbeats 16000000 in
set_option maxRecDepth 100000 in
theorem walk (w : World) (a0 : Option Addr) (len0 cap0 : Nat) (l0 : List Bool) (w0 : RV w (.slice a0 len0 cap0) (zb l0)) (a1 : Int) (w1 : (Lit.int .i64 a1).wf = true) :
    Calls Tryz.prog 7 #[.slice a0 len0 cap0, .int .i64 a1] w fun e w' => e = .returned (.bool true) ∧ Below w.heap.size w w' := by
  obtain ⟨Z1, hZ1⟩ : ∃ Z, Z = a1.tmod 400 := ⟨_, rfl⟩
  have hzb : -400 < Z1 ∧ Z1 < 400 := by
    have h1 := Int.tmod_lt_of_pos a1 (show (0 : Int) < 400 by decide)
    have h2 := Int.lt_tmod_of_pos a1 (show (0 : Int) < 400 by decide)
    omega
  obtain ⟨J, hJe⟩ : ∃ J : Nat, J = ((Z1 + 400) % 400).toNat := ⟨_, rfl⟩
  have hJ : J < 400 := by omega
  have HZ := Go.Lib.hid (show a1.tmod 400 = Z1 ∧ IntKind.i64.wrap (Z1 + 400) = Z1 + 400 ∧ (Z1 + 400).tmod 400 = (J : Int) from ⟨hZ1.symm, by rw [IntKind.wrap_i64]; omega, by rw [Int.tmod_eq_emod_of_nonneg (by omega)]; omega⟩)
  have HJ := Go.Lib.hid hJ
  clear hZ1 hzb hJe hJ w1
  have HT0 := Go.Lib.hid (show ∀ W, Below w.heap.size w W → RV W (.slice a0 len0 cap0) (zb l0) from fun W hb => w0.below hb)
  clear w0
  have hzr := zero_tabRZ
  go_enter Tryz.func7, Tryz.ntmps7
  go_wp2_with fail
  refine (begun20_c _).mono ?_
  rintro e w2 ⟨rfl, hc⟩
  have HB := Go.Lib.hid hc
  clear hc
  go_wp2_with fail
  go_loopw [6, 7] (fun lv kv wr => ∃ (k : Nat) (u : Value), u = lv ∧ k ≤ 400 ∧ kv = .int .i64 (k : Int) ∧ Hid (OwnRec wr w.heap.size u (recsF k)) ∧ Hid (Below w.heap.size w wr)) (fun _ kv _ => 400 - (intOf kv).toNat)
  case atStart => exact ⟨0, _, rfl, by omega, rfl, Go.Lib.hid (OwnRec.nil _ _), HB⟩
  case round =>
    clear HB
    obtain ⟨k, u, rfl, hk, rfl, HO, HB⟩ := hrel
    by_cases hlt : k < 400
    · have hltI : (k : Int) < 400 := by omega
      obtain ⟨A, hA⟩ : ∃ A, A = k % 20 := ⟨_, rfl⟩
      obtain ⟨D, hD⟩ : ∃ D, D = k / 20 := ⟨_, rfl⟩
      obtain ⟨C, hC⟩ : ∃ C, C = k % 3 := ⟨_, rfl⟩
      have r1 : (k : Int).tmod 20 = (A : Int) := by rw [Int.tmod_eq_emod_of_nonneg (by omega)]; omega
      have d1 : (k : Int).tdiv 20 = (D : Int) := by rw [Int.tdiv_eq_ediv_of_nonneg (by omega)]; omega
      have r3 : (k : Int).tmod 3 = (C : Int) := by rw [Int.tmod_eq_emod_of_nonneg (by omega)]; omega
      have hA2 : A < 20 := by omega
      have hD2 : D < 20 := by omega
      have hwA : IntKind.i64.wrap (97 + (A : Int)) = 97 + (A : Int) := by rw [IntKind.wrap_i64]; omega
      have huA : IntKind.u8.wrap (97 + (A : Int)) = 97 + (A : Int) := by rw [IntKind.wrap_u8]; omega
      have hwD : IntKind.i64.wrap (D : Int) = (D : Int) := by rw [IntKind.wrap_i64]; omega
      have hwE : IntKind.i64.wrap (97 + (D : Int)) = 97 + (D : Int) := by rw [IntKind.wrap_i64]; omega
      have huE : IntKind.u8.wrap (97 + (D : Int)) = 97 + (D : Int) := by rw [IntKind.wrap_u8]; omega
      have hb3 : ((C : Int) == 0) = decide (k % 3 = 0) := by
        rw [← hC, Bool.eq_iff_iff, beq_iff_eq, decide_eq_true_iff]
        omega
      have HTL := Go.Lib.hid (show ∀ W : World, RB (W.alloc (.cells #[.int .u8 (97 + (A : Int)), .int .u8 (97 + (D : Int))] 5)) (.slice (some ⟨W.heap.size, 0, none⟩) 2 2) (keyF k) from fun W => RB.lits W 5 (0, 0) (keyF k) _ 2 (by
        have e1 : ((UInt8.ofNat (97 + k % 20)).toNat : Int) = 97 + (A : Int) := by rw [UInt8.toNat_ofNat']; omega
        have e2 : ((UInt8.ofNat (97 + k / 20)).toNat : Int) = 97 + (D : Int) := by rw [UInt8.toNat_ofNat']; omega
        unfold keyF cells
        simp only [List.map_cons, List.map_nil, e1, e2]) rfl (by simp [keyF]))
      have CV := Go.Lib.hid (fun W => lval_c k W hlt)
      have HRS := Go.Lib.hid (show recsF (k + 1) = recsF k ++ [(str (keyF k), decide (k % 3 = 0), ((if k % 3 = 0 then 0 else 1 : Nat) : Int), ((if k % 3 = 0 then 0 else k : Nat) : Int), ⟨#[]⟩)] from recsF_succ k)
      have HLN := Go.Lib.hid (recsF_len k)
      generalize (if k % 3 = 0 then 0 else 1 : Nat) = av at *
      generalize (if k % 3 = 0 then 0 else k : Nat) = nv at *
      generalize decide (k % 3 = 0) = b3 at *
      generalize keyF k = ky at *
      clear hA hD hC
      go_upto_region 8 with (fail)
      refine wp_region_head 18 (by decide) (by kernel_rfl) (VFa u k A D C av nv ky b3) (VFa_below u k A D C av nv ky b3) (by decide +kernel) (by rfl) [23, 24, 25, 26, 27, 28, 29, 30, 31, 32, 33, 34, 35, 36, 37, 38, 39, 40] (by rfl) ?_ ?_
      · intro i o hin ho a w6 hb6 hlen hg
        match i, hin, ho with
        | 0, hin, ho =>
          obtain rfl := Option.some.inj ho
          have h6 := given_old hg 6 (by decide +kernel)
          clear hg
          exact st_yield ho (wanted_none rfl) (u) w6 (by simp [execOp, Act.eval, h6, go_sem]) ⟨_, rfl, Below.refl _ _, by rintro t' ⟨⟩; rfl⟩
        | 1, hin, ho =>
          obtain rfl := Option.some.inj ho
          have h7 := given_old hg 7 (by decide +kernel)
          clear hg
          exact st_yield ho (wanted_none rfl) (.int .i64 (k : Int)) w6 (by simp [execOp, Act.eval, h7, go_sem]) ⟨_, rfl, Below.refl _ _, by rintro t' ⟨⟩; rfl⟩
        | 2, hin, ho =>
          obtain rfl := Option.some.inj ho
          obtain ⟨_, h24, rfl⟩ := given_fed hg 24 (by decide +kernel)
          clear hg
          exact st_yield ho (wanted_none rfl) (.int .i64 (A : Int)) w6 (by simp [execOp, Act.eval, h24, go_sem, r1]) ⟨_, rfl, Below.refl _ _, by rintro t' ⟨⟩; rfl⟩
        | 3, hin, ho =>
          obtain rfl := Option.some.inj ho
          obtain ⟨_, h25, rfl⟩ := given_fed hg 25 (by decide +kernel)
          clear hg
          exact st_yield ho (wanted_none rfl) (.int .i64 (97 + (A : Int))) w6 (by simp [execOp, Act.eval, h25, go_sem, hwA]) ⟨_, rfl, Below.refl _ _, by rintro t' ⟨⟩; rfl⟩
        | 4, hin, ho =>
          obtain rfl := Option.some.inj ho
          obtain ⟨_, h26, rfl⟩ := given_fed hg 26 (by decide +kernel)
          clear hg
          exact st_yield ho (wanted_none rfl) (.int .u8 (97 + (A : Int))) w6 (by simp [execOp, Act.eval, h26, go_sem, huA]) ⟨_, rfl, Below.refl _ _, by rintro t' ⟨⟩; rfl⟩
        | 5, hin, ho =>
          obtain rfl := Option.some.inj ho
          have h7 := given_old hg 7 (by decide +kernel)
          clear hg
          exact st_yield ho (wanted_none rfl) (.int .i64 (k : Int)) w6 (by simp [execOp, Act.eval, h7, go_sem]) ⟨_, rfl, Below.refl _ _, by rintro t' ⟨⟩; rfl⟩
        | 6, hin, ho =>
          obtain rfl := Option.some.inj ho
          obtain ⟨_, h28, rfl⟩ := given_fed hg 28 (by decide +kernel)
          clear hg
          exact st_yield ho (wanted_none rfl) (.int .i64 (D : Int)) w6 (by simp [execOp, Act.eval, h28, go_sem, d1, hwD]) ⟨_, rfl, Below.refl _ _, by rintro t' ⟨⟩; rfl⟩
        | 7, hin, ho =>
          obtain rfl := Option.some.inj ho
          obtain ⟨_, h29, rfl⟩ := given_fed hg 29 (by decide +kernel)
          clear hg
          exact st_yield ho (wanted_none rfl) (.int .i64 (97 + (D : Int))) w6 (by simp [execOp, Act.eval, h29, go_sem, hwE]) ⟨_, rfl, Below.refl _ _, by rintro t' ⟨⟩; rfl⟩
        | 8, hin, ho =>
          obtain rfl := Option.some.inj ho
          obtain ⟨_, h30, rfl⟩ := given_fed hg 30 (by decide +kernel)
          clear hg
          exact st_yield ho (wanted_none rfl) (.int .u8 (97 + (D : Int))) w6 (by simp [execOp, Act.eval, h30, go_sem, huE]) ⟨_, rfl, Below.refl _ _, by rintro t' ⟨⟩; rfl⟩
        | 9, hin, ho =>
          obtain rfl := Option.some.inj ho
          obtain ⟨_, h27, rfl⟩ := given_fed hg 27 (by decide +kernel)
          obtain ⟨_, h31, rfl⟩ := given_fed hg 31 (by decide +kernel)
          clear hg
          have hr6 := HTL.out w6
          exact st_yield ho (wanted_none rfl) (.slice (some ⟨w6.heap.size, 0, none⟩) 2 2) (w6.alloc (.cells #[.int .u8 (97 + (A : Int)), .int .u8 (97 + (D : Int))] 5)) (by simp [execOp, Act.eval, h27, h31, go_sem]) ⟨_, rfl, below_one w6 _, by rintro t' ⟨⟩; exact hr6⟩
        | 10, hin, ho =>
          obtain rfl := Option.some.inj ho
          obtain ⟨v32, h32, p32⟩ := given_fed hg 32 (by decide +kernel)
          clear hg
          have cv := run_string_RB w6 47 5 9 Tryz.underlying47 Tryz.underlying5 Tryz.underlying9 v32 ky p32
          exact st_yield ho (wanted_none rfl) (.string (str ky)) w6 (by simp [execOp, Act.eval, h32, cv, Result.andThen]) ⟨_, rfl, Below.refl _ _, by rintro t' ⟨⟩; rfl⟩
        | 11, hin, ho =>
          obtain rfl := Option.some.inj ho
          have h7 := given_old hg 7 (by decide +kernel)
          clear hg
          exact st_yield ho (wanted_none rfl) (.int .i64 (k : Int)) w6 (by simp [execOp, Act.eval, h7, go_sem]) ⟨_, rfl, Below.refl _ _, by rintro t' ⟨⟩; rfl⟩
        | 12, hin, ho =>
          obtain rfl := Option.some.inj ho
          obtain ⟨_, h34, rfl⟩ := given_fed hg 34 (by decide +kernel)
          clear hg
          exact st_yield ho (wanted_none rfl) (.int .i64 (C : Int)) w6 (by simp [execOp, Act.eval, h34, go_sem, r3]) ⟨_, rfl, Below.refl _ _, by rintro t' ⟨⟩; rfl⟩
        | 13, hin, ho =>
          obtain rfl := Option.some.inj ho
          obtain ⟨_, h35, rfl⟩ := given_fed hg 35 (by decide +kernel)
          clear hg
          exact st_yield ho (wanted_none rfl) (.bool b3) w6 (by simp [execOp, Act.eval, h35, go_sem, hb3]) ⟨_, rfl, Below.refl _ _, by rintro t' ⟨⟩; rfl⟩
        | 14, hin, ho =>
          obtain rfl := Option.some.inj ho
          have h7 := given_old hg 7 (by decide +kernel)
          clear hg
          exact st_yield ho (wanted_none rfl) (.int .i64 (k : Int)) w6 (by simp [execOp, Act.eval, h7, go_sem]) ⟨_, rfl, Below.refl _ _, by rintro t' ⟨⟩; rfl⟩
        | 15, hin, ho =>
          obtain rfl := Option.some.inj ho
          obtain ⟨_, h37, rfl⟩ := given_fed hg 37 (by decide +kernel)
          clear hg
          exact st_enter (w1 := w6) ho (wanted_none rfl) 32 #[.int .i64 (k : Int)] (by simp [execOp, Act.eval, h37, resolve, go_sem]) ((CV.out w6).mono (by rintro e w7 ⟨rfl, hb7⟩; exact ⟨_, rfl, _, rfl, hb7, by rintro t' ⟨⟩; rfl⟩))
        | 16, hin, ho =>
          obtain rfl := Option.some.inj ho
          obtain ⟨_, h33, rfl⟩ := given_fed hg 33 (by decide +kernel)
          obtain ⟨_, h36, rfl⟩ := given_fed hg 36 (by decide +kernel)
          obtain ⟨_, h38, rfl⟩ := given_fed hg 38 (by decide +kernel)
          clear hg
          exact st_yield ho (wanted_none rfl) (.agg #[.string (str ky), .bool b3, .int .i64 (av : Int), .int .i64 (nv : Int), .string ⟨#[]⟩]) w6 (by simp [execOp, Act.eval, h33, h36, h38, build_frec (str ky) b3 (av : Int) (nv : Int) ⟨#[]⟩ w6]) ⟨_, rfl, Below.refl _ _, by rintro t' ⟨⟩; rfl⟩
        | 17, hin, ho =>
          obtain rfl := Option.some.inj ho
          obtain ⟨_, h39, rfl⟩ := given_fed hg 39 (by decide +kernel)
          clear hg
          have hr6 := RS.one' w6 (str ky) b3 (av : Int) (nv : Int) ⟨#[]⟩
          exact st_yield ho (wanted_none rfl) (.slice (some ⟨w6.heap.size, 0, none⟩) 1 1) (w6.alloc (.cells #[.string (str ky), .bool b3, .int .i64 (av : Int), .int .i64 (nv : Int), .string ⟨#[]⟩] 28)) (by simp [execOp, Act.eval, h39, go_sem]) ⟨_, rfl, below_one w6 _, by rintro t' ⟨⟩; exact hr6⟩
        | n + 18, hin, ho => omega
      · intro f w8 hb8 hv
        have h23 := hv 23 (by decide)
        have h40 := hv 40 (by decide)
        simp only [VFa] at h23 h40
        have HO8 := Go.Lib.hid (HO.out.below hb8)
        have HB8 := Go.Lib.hid (HB.out.trans (hb8.mono HB.out.size))
        have HR8 := Go.Lib.hid h40
        clear hv hb8 HO HB CV HTL r1 d1 r3 hA2 hD2 hwA huA hwD hwE huE hb3 h40
        unfold putAll
        simp only [List.foldl, List.drop]
        simp only [h23]
        clear h23
        go_simp
        go_wp2_with (first
          | (with_reducible show wpList _ _ _ (⟨some 41, _, _, _, _, _⟩ :: _) _ _; go_loud (refine wpList_append_recs rfl (.tmp 23) (.tmp 40) rfl w.heap.size u (f 40) (recsF k) [(str ky, b3, (av : Int), (nv : Int), ⟨#[]⟩)] rfl rfl HO8.out HR8.out (by rw [HLN.out]; simp; omega) HB8.out.size ?_); intro v9 w9 ho9 hg9)
          | fail)
        have HO9 := Go.Lib.hid (show OwnRec w9 w.heap.size v9 (recsF (k + 1)) by rw [HRS.out]; exact ho9)
        have HB9 := Go.Lib.hid (HB8.out.grown hg9 HB8.out.size (fun j hj => HO8.out.row j hj))
        clear ho9 hg9
        go_wp2_with fail
        go_roundw
        case rel => exact ⟨k + 1, _, rfl, by omega, by go_num, HO9, HB9⟩
        case measure => simp only [intOf]; omega
    · obtain rfl : k = 400 := by omega
      rw [show ((400 : Nat) : Int) = 400 from rfl]
      obtain ⟨w5, hw5⟩ : ∃ W, W = wr := ⟨_, rfl⟩
      subst hw5
      have HRS0 := Go.Lib.hid HO.out.rs
      obtain ⟨a6, c6, hu, -⟩ := HO.out.rs.form
      rw [recsF_len] at hu
      subst hu
      have HBW := Go.Lib.hid HB.out
      have HTV := Go.Lib.hid (show ∀ W, Below w5.heap.size w5 W → RV W (.slice a0 len0 cap0) (zb l0) from fun W hb => HT0.out W (HB.out.trans (hb.mono HB.out.size)))
      have HRS := Go.Lib.hid (show ∀ W, Below w5.heap.size w5 W → RS W (.slice a6 400 c6) (recsF 400) from fun W hb => HRS0.out.below hb)
      clear HO HB HT0 HRS0 hlt
      obtain ⟨g8, hg8⟩ : ∃ g, g = w5.heap.size := ⟨_, rfl⟩
      have HG8 := Go.Lib.hid hg8
      have HTz := Go.Lib.hid (TK.new w5 zeroT)
      have HBz := Go.Lib.hid (below_one w5 (.cells (tabL zeroT 32).toArray 33))
      have HZN := Go.Lib.hid (fun UU => show (tabL zeroT 32).length = (tabL UU 32).length from by rw [tabL_len, tabL_len])
      have HR0 := Go.Lib.hid (show recsT zeroT 32 = [] from by decide +kernel)
      rw [← hg8] at HTz HBz HRS HTV
      generalize tabL zeroT 32 = ZL at *
      clear hg8
      go_upto_region 10 with (fail)
      rw [← HG8.out]
      obtain ⟨w6, hw6⟩ : ∃ W, W = w5.alloc (.cells ZL.toArray 33) := ⟨_, rfl⟩
      rw [← hw6] at HTz HBz ⊢
      clear hw6
      go_wp2_with fail
      go_loopw [9, 10] (fun nv iv wr => ∃ (i : Nat) (UU : TabT), nv = .int .i64 ((recsT UU 32).length : Int) ∧ iv = .int .i64 (i : Int) ∧ i ≤ 400 ∧ Hid (FullT UU i) ∧ Hid (TK wr g8 UU) ∧ Hid (Below g8 w5 wr)) (fun _ iv _ => 400 - (intOf iv).toNat)
      case atStart => exact ⟨0, zeroT, by rw [HR0.out]; rfl, rfl, by omega, Go.Lib.hid FullT.start, HTz, HBz⟩
      case round =>
        clear HTz HBz HR0
        obtain ⟨i, UU, rfl, rfl, hi, HFU, HT, HB⟩ := hrel
        obtain ⟨wA, hwA⟩ : ∃ W, W = wr := ⟨_, rfl⟩
        subst hwA
        obtain ⟨n, hn⟩ : ∃ n, n = (recsT UU 32).length := ⟨_, rfl⟩
        have hn32 : n ≤ 32 := by rw [hn]; exact recsT_len UU 32
        have HN := Go.Lib.hid hn
        rw [← hn]
        clear hn
        by_cases hlt : i < 400
        · have hltI : (i : Int) < 400 := by omega
          by_cases hnl : n < 32
          · have hnlI : (n : Int) < 32 := by omega
            have HFI := Go.Lib.hid hlt
            obtain ⟨v56, hv56, hrun⟩ := (HRS.out _ HB.out).run_lh i (i + 1) (by omega) (by rw [recsF_len]; omega) .i64 .i64
            rw [recsF_one hlt] at hv56
            rw [show ((i + 1 : Nat) : Int) = (i : Int) + 1 from by omega] at hrun
            have CL := llay_c v56 (.slice a0 len0 cap0) [recF i] l0 wA (hv56 _ (HRS.out wA HB.out)) (HTV.out wA HB.out) (fun x hx => by rw [List.mem_singleton.1 hx]; exact recF_ok hlt)
            rw [show min [recF i].length 40 = 1 from rfl, lay_one] at CL
            have CL := Go.Lib.hid CL
            have hBl := layB_lt (recF i) (l0.getD 0 false)
            have HO1 := Go.Lib.hid (show ∀ z, (oneF i l0 z).1 = decide (z = 4 * layB (recF i) (l0.getD 0 false)) from fun z => by
              unfold oneF setT
              by_cases h : z = 4 * layB (recF i) (l0.getD 0 false)
              · rw [if_pos h, decide_eq_true h]
              · rw [if_neg h, decide_eq_false h]; rfl)
            have HO2 := Go.Lib.hid (show oneF i l0 (4 * layB (recF i) (l0.getD 0 false)) = (true, recF i) from setT_new _ _ _)
            have HPUT := Go.Lib.hid (fun VV s (h : FullT VV i) (hs : s < 4) hf => h.put hlt l0 hs hf)
            generalize layB (recF i) (l0.getD 0 false) = Bn at *
            generalize oneF i l0 = ONE at *
            generalize recF i = rfi at *
            have HTK1 := Go.Lib.hid (fun (W : World) (g : Nat) (h : W.heap[g]? = some (.cells (tabL ONE 32).toArray 33 (0, 0))) => TK.of_row h)
            have HST1 := Go.Lib.hid (sizeTab ONE)
            have HTO1 := Go.Lib.hid (tabL_one ONE)
            have HLE1 := Go.Lib.hid (HZN.out ONE)
            generalize tabL ONE 32 = OL at *
            clear hv56
            go_wp2_with fail
            refine CL.out.mono ?_
            rintro e w7 ⟨rfl, hc⟩
            have hb7 := below_one w7 (.cells ZL.toArray 33)
            have HZ7 := Go.Lib.hid (heap_alloc_new w7 (.cells ZL.toArray 33))
            have HX7 := Go.Lib.hid (setRow_heap _ w7.heap.size _ OL.toArray 33 (0, 0) HZ7.out)
            have hs7 := setRow_below OL.toArray hb7 (Nat.le_refl _)
            have hc7 := hc.trans (hs7.mono hc.size)
            have HG11 := Go.Lib.hid (show g8 < w7.heap.size from by have := HT.out.lt; have := hc.size; omega)
            have HT8 := Go.Lib.hid (HT.out.below hc7)
            have HB8 := Go.Lib.hid (HB.out.trans (hc7.mono (by have := HT.out.lt; omega)))
            clear hb7 hs7 hc7 hc CL HT HB hrun
            go_upto_region 15 with (first
              | (with_reducible show wpList _ _ _ (⟨none, Op.store 33 (.tmp 11) (.tmp 58), _, _, _, _⟩ :: _) _ _; go_loud (refine wpList_store_row rfl 33 (.tmp 11) (.tmp 58) rfl w7.heap.size OL.toArray rfl rfl 33 _ HZ7.out (by rw [HST1.out, List.size_toArray]) (by rw [List.size_toArray, List.size_toArray]; exact HLE1.out) HTO1.out ?_))
              | fail)
            obtain ⟨g11, hg11⟩ : ∃ g, g = w7.heap.size := ⟨_, rfl⟩
            rw [← hg11] at HX7 HG11 HT8 HB8 ⊢
            clear hg11 HZ7
            generalize (w7.alloc (.cells ZL.toArray 33)).setRow g11 OL.toArray = w8 at *
            have HT1 := Go.Lib.hid (HTK1.out w8 g11 HX7.out)
            clear HX7 HTK1 HST1 HTO1 HLE1
            go_wp2_with fail
            go_loopw [9, 12] (fun nv kv wr => ∃ (z : Nat) (VV : TabT), nv = .int .i64 ((recsT VV 32).length : Int) ∧ kv = .int .i64 (z : Int) ∧ z ≤ 32 ∧ Hid (FullT VV (if z ≤ 4 * Bn then i else i + 1)) ∧ Hid (TK wr g8 VV) ∧ Hid (TK wr g11 ONE) ∧ Hid (Below g8 w5 wr)) (fun _ kv _ => 32 - (intOf kv).toNat)
            case atStart => exact ⟨0, UU, by rw [HN.out], rfl, by omega, Go.Lib.hid (by rw [if_pos (by omega)]; exact HFU.out), HT8, HT1, HB8⟩
            case round =>
              clear HT8 HT1 HB8 HFU HN
              obtain ⟨z, VV, rfl, rfl, hz32, HFV, HT, HT1, HB⟩ := hrel
              obtain ⟨wB, hwB⟩ : ∃ W, W = wr := ⟨_, rfl⟩
              subst hwB
              have hm32 := recsT_len VV 32
              by_cases hzl : z < 32
              · have hzlI : (z : Int) < 32 := by omega
                obtain ⟨D, hD⟩ : ∃ D, D = z / 4 := ⟨_, rfl⟩
                obtain ⟨R, hR⟩ : ∃ R, R = z % 4 := ⟨_, rfl⟩
                have d1 : (z : Int).tdiv 4 = (D : Int) := by rw [Int.tdiv_eq_ediv_of_nonneg (by omega)]; omega
                have r1 : (z : Int).tmod 4 = (R : Int) := by rw [Int.tmod_eq_emod_of_nonneg (by omega)]; omega
                have hD8 : D < 8 := by omega
                have hR4 : R < 4 := by omega
                have HIE := Go.Lib.hid (show 4 * D + R = z by omega)
                have hwD : IntKind.i64.wrap (D : Int) = (D : Int) := by rw [IntKind.wrap_i64]; omega
                have hjx1 := idxT g11 D hD8
                have hjx2 := idxT2 g11 (24 * D) R hR4
                have c0 := (HT1.out.at hD8 hR4).1
                rw [HIE.out, HO1.out] at c0
                by_cases hzb : z = 4 * Bn
                · rw [decide_eq_true hzb] at c0
                  have HDB := Go.Lib.hid (show D = Bn ∧ 4 * D + R = 4 * Bn by omega)
                  have HFV := Go.Lib.hid (show FullT VV i by have := HFV.out; rwa [if_pos (by omega)] at this)
                  have HNX := Go.Lib.hid (show ¬ z + 1 ≤ 4 * Bn by omega)
                  clear hzb hD hR
                  go_wp2_with fail
                  go_loopw [9, 13] (fun nv sv wr => ∃ s : Nat, nv = .int .i64 ((recsT VV 32).length : Int) ∧ sv = .int .i64 (s : Int) ∧ s ≤ 4 ∧ wr = wB) (fun _ sv _ => 4 - (intOf sv).toNat)
                  case atStart => exact ⟨0, rfl, rfl, by omega, rfl⟩
                  case round =>
                    obtain ⟨s, rfl, rfl, hs4, hwr⟩ := hrel
                    subst hwr
                    by_cases hsl : s < 4
                    · have hslI : (s : Int) < 4 := by omega
                      have hix1 := idxT g8 D hD8
                      have hix2 := idxT2 g8 (24 * D) s hsl
                      have e0 := (HT.out.at hD8 hsl).1
                      cases hv0 : (VV (4 * D + s)).1 with
                      | true =>
                        rw [hv0] at e0
                        clear hv0
                        go_wp2_with fail
                        exact ⟨⟨s + 1, rfl, by go_num, by omega, trivial⟩, by simp only [intOf]; omega⟩
                      | false =>
                        rw [hv0] at e0
                        have HV0 := Go.Lib.hid hv0
                        have hy := fun W (hb : Below wr.heap.size wr W) => (HT1.out.below hb).at hD8 hR4
                        rw [HDB.out.2, HO2.out] at hy
                        have HPT := HPUT.out VV s HFV.out hsl (by rw [← HDB.out.1]; exact hv0)
                        rw [← HDB.out.1] at HPT
                        have HPT := Go.Lib.hid HPT
                        clear hv0
                        obtain ⟨kx, gx, ax, nx, sx⟩ := rfi
                        simp only [] at hy
                        obtain ⟨hq, hhq⟩ : ∃ hq, hq = true := ⟨_, rfl⟩
                        rw [← hhq] at hy
                        have HY6 := Go.Lib.hid hy
                        have HHQ := Go.Lib.hid hhq
                        clear hy hhq
                        go_upto_region 23 with (fail)
                        clear e0 c0
                        refine wp_region_head 12 (by decide) (by kernel_rfl) (VFb g8 g11 z D R s hq kx gx ax nx sx) (VFb_below g8 g11 z D R s hq kx gx ax nx sx) (by decide +kernel) (by rfl) [84, 85, 86, 87, 88, 89, 90, 91, 92, 93, 94, 95] (by rfl) ?_ ?_
                        · intro i o hin ho a w6 hb6 hlen hg
                          obtain ⟨y0, y1, y2, y3, y4, y5⟩ := HY6.out w6 hb6
                          match i, hin, ho with
                          | 0, hin, ho =>
                            obtain rfl := Option.some.inj ho
                            have h12 := given_old hg 12 (by decide +kernel)
                            clear hg
                            exact st_yield ho (wanted_none rfl) (.int .i64 (z : Int)) w6 (by simp [execOp, Act.eval, h12, go_sem]) ⟨_, rfl, Below.refl _ _, by rintro t' ⟨⟩; rfl⟩
                          | 1, hin, ho =>
                            obtain rfl := Option.some.inj ho
                            obtain ⟨_, h84, rfl⟩ := given_fed hg 84 (by decide +kernel)
                            clear hg
                            exact st_yield ho (wanted_none rfl) (.int .i64 (D : Int)) w6 (by simp [execOp, Act.eval, h84, go_sem, d1, hwD]) ⟨_, rfl, Below.refl _ _, by rintro t' ⟨⟩; rfl⟩
                          | 2, hin, ho =>
                            obtain rfl := Option.some.inj ho
                            have h13 := given_old hg 13 (by decide +kernel)
                            clear hg
                            exact st_yield ho (wanted_none rfl) (.int .i64 (s : Int)) w6 (by simp [execOp, Act.eval, h13, go_sem]) ⟨_, rfl, Below.refl _ _, by rintro t' ⟨⟩; rfl⟩
                          | 3, hin, ho =>
                            obtain rfl := Option.some.inj ho
                            have h12 := given_old hg 12 (by decide +kernel)
                            clear hg
                            exact st_yield ho (wanted_none rfl) (.int .i64 (z : Int)) w6 (by simp [execOp, Act.eval, h12, go_sem]) ⟨_, rfl, Below.refl _ _, by rintro t' ⟨⟩; rfl⟩
                          | 4, hin, ho =>
                            obtain rfl := Option.some.inj ho
                            obtain ⟨_, h87, rfl⟩ := given_fed hg 87 (by decide +kernel)
                            clear hg
                            exact st_yield ho (wanted_none rfl) (.int .i64 (D : Int)) w6 (by simp [execOp, Act.eval, h87, go_sem, d1, hwD]) ⟨_, rfl, Below.refl _ _, by rintro t' ⟨⟩; rfl⟩
                          | 5, hin, ho =>
                            obtain rfl := Option.some.inj ho
                            have h12 := given_old hg 12 (by decide +kernel)
                            clear hg
                            exact st_yield ho (wanted_none rfl) (.int .i64 (z : Int)) w6 (by simp [execOp, Act.eval, h12, go_sem]) ⟨_, rfl, Below.refl _ _, by rintro t' ⟨⟩; rfl⟩
                          | 6, hin, ho =>
                            obtain rfl := Option.some.inj ho
                            obtain ⟨_, h89, rfl⟩ := given_fed hg 89 (by decide +kernel)
                            clear hg
                            exact st_yield ho (wanted_none rfl) (.int .i64 (R : Int)) w6 (by simp [execOp, Act.eval, h89, go_sem, r1]) ⟨_, rfl, Below.refl _ _, by rintro t' ⟨⟩; rfl⟩
                          | 7, hin, ho =>
                            obtain rfl := Option.some.inj ho
                            have h11 := given_old hg 11 (by decide +kernel)
                            obtain ⟨_, h88, rfl⟩ := given_fed hg 88 (by decide +kernel)
                            clear hg
                            exact st_yield ho (wanted_none rfl) (.pointer (some ⟨g11, 24 * D, none⟩)) w6 (by simp [execOp, Act.eval, h11, h88, go_sem, hjx1]) ⟨_, rfl, Below.refl _ _, by rintro t' ⟨⟩; rfl⟩
                          | 8, hin, ho =>
                            obtain rfl := Option.some.inj ho
                            obtain ⟨_, h91, rfl⟩ := given_fed hg 91 (by decide +kernel)
                            obtain ⟨_, h90, rfl⟩ := given_fed hg 90 (by decide +kernel)
                            clear hg
                            exact st_yield ho (wanted_none rfl) (.pointer (some ⟨g11, 24 * D + 6 * R, none⟩)) w6 (by simp [execOp, Act.eval, h91, h90, go_sem, hjx2]) ⟨_, rfl, Below.refl _ _, by rintro t' ⟨⟩; rfl⟩
                          | 9, hin, ho =>
                            obtain rfl := Option.some.inj ho
                            obtain ⟨_, h92, rfl⟩ := given_fed hg 92 (by decide +kernel)
                            clear hg
                            exact st_yield ho (wanted_none rfl) (.agg #[.bool hq, .string kx, .bool gx, .int .i64 ax, .int .i64 nx, .string sx]) w6 (by simp [execOp, Act.eval, h92, go_sem, y0, y1, y2, y3, y4, y5]) ⟨_, rfl, Below.refl _ _, by rintro t' ⟨⟩; rfl⟩
                          | 10, hin, ho =>
                            obtain rfl := Option.some.inj ho
                            have h8 := given_old hg 8 (by decide +kernel)
                            obtain ⟨_, h85, rfl⟩ := given_fed hg 85 (by decide +kernel)
                            clear hg
                            exact st_yield ho (wanted_none rfl) (.pointer (some ⟨g8, 24 * D, none⟩)) w6 (by simp [execOp, Act.eval, h8, h85, go_sem, hix1]) ⟨_, rfl, Below.refl _ _, by rintro t' ⟨⟩; rfl⟩
                          | 11, hin, ho =>
                            obtain rfl := Option.some.inj ho
                            obtain ⟨_, h94, rfl⟩ := given_fed hg 94 (by decide +kernel)
                            obtain ⟨_, h86, rfl⟩ := given_fed hg 86 (by decide +kernel)
                            clear hg
                            exact st_yield ho (wanted_none rfl) (.pointer (some ⟨g8, 24 * D + 6 * s, none⟩)) w6 (by simp [execOp, Act.eval, h94, h86, go_sem, hix2]) ⟨_, rfl, Below.refl _ _, by rintro t' ⟨⟩; rfl⟩
                          | n + 12, hin, ho => omega
                        · intro f w9 hb9 hv
                          have h93 := hv 93 (by decide)
                          have h95 := hv 95 (by decide)
                          simp only [VFb] at h93 h95
                          have HT9 := Go.Lib.hid (HT.out.below hb9)
                          have HU9 := Go.Lib.hid (HT1.out.below hb9)
                          have HB9 := Go.Lib.hid (HB.out.trans (hb9.mono (by have := HT.out.lt; omega)))
                          have HQ9 := Go.Lib.hid (show 4 * D + s < 32 ∧ 6 * (4 * D + s) = 24 * D + 6 * s by omega)
                          have HTH := Go.Lib.hid (show w9.there g8 (24 * D + 6 * s) (#[.bool hq, .string kx, .bool gx, .int .i64 ax, .int .i64 nx, .string sx] : Array Value).size from by rw [← HQ9.out.2]; exact HT9.out.there HQ9.out.1)
                          have hgr := setCells_gr [.bool hq, .string kx, .bool gx, .int .i64 ax, .int .i64 nx, .string sx] w9 g8 (24 * D + 6 * s)
                          have HTa := Go.Lib.hid (show TK (w9.setCells g8 (24 * D + 6 * s) [.bool hq, .string kx, .bool gx, .int .i64 ax, .int .i64 nx, .string sx]) g8 (setT VV (4 * D + s) (true, (kx, gx, ax, nx, sx))) from by
                            have := HT9.out.set (q := 4 * D + s) HQ9.out.1 (hq, kx, gx, ax, nx, sx)
                            rw [HQ9.out.2] at this
                            rw [← HHQ.out]
                            exact this)
                          have HUa := Go.Lib.hid (HU9.out.same (hgr.block g11 HU9.out.lt (fun e => by have := HG11.out; have := Option.some.inj e; omega)))
                          have HBa := Go.Lib.hid (show Below g8 w5 (w9.setCells g8 (24 * D + 6 * s) [.bool hq, .string kx, .bool gx, .int .i64 ax, .int .i64 nx, .string sx]) from HB9.out.grown hgr (by have := HT9.out.lt; omega) (fun j e => by have := Option.some.inj e; omega))
                          clear hv hb9 HT9 HU9 HB9 HQ9 hgr d1 r1 hwD hix1 hix2 hjx1 hjx2 HY6 HT HT1 HB
                          obtain ⟨m, hm⟩ : ∃ m, m = (recsT VV 32).length := ⟨_, rfl⟩
                          have HM := Go.Lib.hid hm
                          rw [← hm] at hm32 ⊢
                          clear hm
                          unfold putAll
                          simp only [List.foldl, List.drop]
                          simp only [h93, h95]
                          clear h93 h95
                          go_simp
                          go_wp2_with (first
                            | (with_reducible show wpList _ _ _ (⟨none, _, _, _, _, _⟩ :: _) _ _; go_loud (refine wpList_store_mid rfl 30 (.tmp 95) (.tmp 93) rfl g8 (24 * D + 6 * s) #[.bool hq, .string kx, .bool gx, .int .i64 ax, .int .i64 nx, .string sx] rfl rfl HTH.out (by kernel_rfl) (six1 hq kx gx ax nx sx) ?_))
                            | fail)
                          go_roundw
                          case rel => exact ⟨z + 1, setT VV (4 * D + s) (true, (kx, gx, ax, nx, sx)), by rw [HPT.out.2, ← HM.out]; go_num, by go_num, by omega, Go.Lib.hid (by rw [if_neg HNX.out]; exact HPT.out.1), HTa, HUa, HBa⟩
                          case measure => simp only [intOf]; omega
                    · obtain rfl : s = 4 := by omega
                      go_wp2_with fail
                      exact ⟨⟨z + 1, VV, rfl, by go_num, by omega, Go.Lib.hid (by rw [if_neg HNX.out]; exact HFV.out.none), HT, HT1, HB⟩, by simp only [intOf]; omega⟩
                · rw [decide_eq_false hzb] at c0
                  have HF2 := Go.Lib.hid (show FullT VV (if z + 1 ≤ 4 * Bn then i else i + 1) by
                    have := HFV.out
                    by_cases h : z ≤ 4 * Bn
                    · rw [if_pos h] at this; rw [if_pos (by omega)]; exact this
                    · rw [if_neg h] at this; rw [if_neg (by omega)]; exact this)
                  clear hzb hD hR HFV
                  go_wp2_with fail
                  exact ⟨⟨z + 1, VV, rfl, by go_num, by omega, HF2, HT, HT1, HB⟩, by simp only [intOf]; omega⟩
              · obtain rfl : z = 32 := by omega
                have HF2 := Go.Lib.hid (show FullT VV (i + 1) by have := HFV.out; rwa [if_neg (by omega)] at this)
                clear HFV HT1
                go_wp2_with fail
                go_roundw
                case rel => exact ⟨i + 1, VV, rfl, by go_num, by omega, HF2, HT, HB⟩
                case measure => simp only [intOf]; omega
          · have hnlI : ¬ (n : Int) < 32 := by omega
            have COF := Go.Lib.hid fun W => lof_c UU W
            have CN := Go.Lib.hid fun W => new_ok HFU.out.lay W
            have HRG := Go.Lib.hid HT.out.range
            have HRB := Go.Lib.hid (fun W (hb : Below wA.heap.size wA W) => (HT.out.below hb).range)
            have HSZ := Go.Lib.hid (sizeTab UU)
            have CRT := Go.Lib.hid (fun (W : World) B p u r (h : HW W B p u r UU) (kj : ByteArray) (hk : kj.size ≤ 1000000) => right_c h kj hk)
            have CLN := Go.Lib.hid (fun (W : World) B p u r (h : HW W B p u r UU) => hlen_c h)
            clear HFU
            generalize tabL UU 32 = UL at *
            have hJ := HJ.out
            go_wp2_with (first
              | (with_reducible show wpList _ _ _ (⟨some 99, _, _, _, _, _⟩ :: _) _ _; go_loud (refine wpList_load_mid rfl 33 (.tmp 8) rfl g8 0 rfl UL _ HRG.out Tryz.underlying33 rfl HSZ.out ?_))
              | fail)
            refine (COF.out _).mono ?_
            rintro e w10 ⟨rfl, hc⟩
            have HBt := Go.Lib.hid hc
            clear hc COF HRG
            go_wp2_with fail
            refine (CN.out _).mono ?_
            rintro e w11 ⟨ph, uh, rh, rfl, hw, hc⟩
            have HBt := Go.Lib.hid (HBt.out.trans (hc.mono HBt.out.size))
            have HRNG := Go.Lib.hid (fun W (hb : Below w11.heap.size w11 W) => HRB.out W (HBt.out.trans (hb.mono HBt.out.size)))
            have HB11 := Go.Lib.hid (HB.out.trans (HBt.out.mono (Nat.le_of_lt HT.out.lt)))
            have hJr : J < (recsF 400).length := by rw [recsF_len]; exact hJ
            obtain ⟨b, q, rfl, -, -, c0, -⟩ := (HRS.out _ HB11.out).at J hJr
            rw [recsF_at] at c0
            have hix := run_idx5 b q 400 c6 J hJ
            have CRT := Go.Lib.hid (fun (W : World) (hb : Below w11.heap.size w11 W) => CRT.out W _ _ _ _ (hw.below hb) (recF J).1 (by show (str (keyF J)).size ≤ 1000000; rw [keyF_size]; omega))
            have CLN := Go.Lib.hid (fun (W : World) (hb : Below w11.heap.size w11 W) => (CLN.out W _ _ _ _ (hw.below hb)).mono fun e w' hh => (show e = .returned (.int .i64 (n : Int)) ∧ Below W.heap.size W w' from ⟨by rw [HN.out]; exact hh.1, by rw [← hh.2]; exact Below.refl _ _⟩))
            generalize (recF J).1 = kj at *
            have C0 := Go.Lib.hid (fun (W : World) (hb : Below w11.heap.size w11 W) => keepC c0 hb)
            clear hc hw CN HT HB HBt HRB HRS c0 hJr HN
            obtain ⟨hz1, hz2, hz3⟩ := HZ.out
            go_upto_region 26 with (fail)
            refine wp_region_each (by kernel_rfl) (VFc UL ph b q c6 J n a1 Z1 kj) (VFc_below UL ph b q c6 J n a1 Z1 kj) (by decide +kernel) (by decide +kernel) (by rfl) [104, 105, 106, 107, 108, 109, 110, 111, 112, 113, 114, 115, 116, 117, 118, 119, 120, 121, 122, 123, 124, 4] (by rfl) ?_ ?_
            · intro i o ho a w6 hb6 hlen hg
              have c0 := C0.out w6 hb6
              match i, ho with
              | 0, ho =>
                obtain rfl := Option.some.inj ho
                have h15 := given_old hg 15 (by decide +kernel)
                clear hg
                exact st_yield ho (wanted_none rfl) (.int .i64 0) w6 (by simp [execOp, Act.eval, h15, go_sem]) ⟨_, rfl, Below.refl _ _, by rintro t' ⟨⟩; rfl⟩
              | 1, ho =>
                obtain rfl := Option.some.inj ho
                obtain ⟨_, h104, rfl⟩ := given_fed hg 104 (by decide +kernel)
                clear hg
                exact st_yield ho (wanted_none rfl) (.bool true) w6 (by simp [execOp, Act.eval, h104, go_sem]) ⟨_, rfl, Below.refl _ _, by rintro t' ⟨⟩; rfl⟩
              | 2, ho =>
                obtain rfl := Option.some.inj ho
                obtain ⟨_, h105, rfl⟩ := given_fed hg 105 (by decide +kernel)
                clear hg
                exact st_yield ho (wanted_none rfl) (.bool true) w6 (by simp [execOp, Act.eval, h105, go_sem]) ⟨_, rfl, Below.refl _ _, by rintro t' ⟨⟩; rfl⟩
              | 3, ho =>
                obtain rfl := Option.some.inj ho
                have h14 := given_old hg 14 (by decide +kernel)
                obtain ⟨_, h106, rfl⟩ := given_fed hg 106 (by decide +kernel)
                clear hg
                exact st_yield ho (wanted_some rfl rfl h106 rfl) (.pointer (some ⟨ph, 0, none⟩)) w6 (by simp [execOp, Act.eval, h14, go_sem]) ⟨_, rfl, Below.refl _ _, by rintro t' ⟨⟩; rfl⟩
              | 4, ho =>
                obtain rfl := Option.some.inj ho
                have h8 := given_old hg 8 (by decide +kernel)
                obtain ⟨_, h106, rfl⟩ := given_fed hg 106 (by decide +kernel)
                clear hg
                exact st_list ho (wanted_some rfl rfl h106 rfl) fun Q' hQ => wpList_met (wanted_some rfl rfl h106 rfl) (wpList_load_mid rfl 33 (.tmp 8) rfl g8 0 (by simp [Act.eval, h8]) UL _ (HRNG.out w6 hb6) Tryz.underlying33 rfl HSZ.out (wpList_nil (hQ _ _ ⟨_, rfl, Below.refl _ _, by rintro t' ⟨⟩; rfl⟩)))
              | 5, ho =>
                obtain rfl := Option.some.inj ho
                have h6 := given_old hg 6 (by decide +kernel)
                obtain ⟨_, h106, rfl⟩ := given_fed hg 106 (by decide +kernel)
                clear hg
                exact st_yield ho (wanted_some rfl rfl h106 rfl) (.slice (some ⟨b, q, none⟩) 400 c6) w6 (by simp [execOp, Act.eval, h6, go_sem]) ⟨_, rfl, Below.refl _ _, by rintro t' ⟨⟩; rfl⟩
              | 6, ho =>
                obtain rfl := Option.some.inj ho
                have h1 := given_old hg 1 (by decide +kernel)
                obtain ⟨_, h106, rfl⟩ := given_fed hg 106 (by decide +kernel)
                clear hg
                exact st_yield ho (wanted_some rfl rfl h106 rfl) (.int .i64 a1) w6 (by simp [execOp, Act.eval, h1, go_sem]) ⟨_, rfl, Below.refl _ _, by rintro t' ⟨⟩; rfl⟩
              | 7, ho =>
                obtain rfl := Option.some.inj ho
                obtain ⟨_, h110, rfl⟩ := given_fed hg 110 (by decide +kernel)
                obtain ⟨_, h106, rfl⟩ := given_fed hg 106 (by decide +kernel)
                clear hg
                exact st_yield ho (wanted_some rfl rfl h106 rfl) (.int .i64 Z1) w6 (by simp [execOp, Act.eval, h110, go_sem, hz1]) ⟨_, rfl, Below.refl _ _, by rintro t' ⟨⟩; rfl⟩
              | 8, ho =>
                obtain rfl := Option.some.inj ho
                obtain ⟨_, h111, rfl⟩ := given_fed hg 111 (by decide +kernel)
                obtain ⟨_, h106, rfl⟩ := given_fed hg 106 (by decide +kernel)
                clear hg
                exact st_yield ho (wanted_some rfl rfl h106 rfl) (.int .i64 (Z1 + 400)) w6 (by simp [execOp, Act.eval, h111, go_sem, hz2]) ⟨_, rfl, Below.refl _ _, by rintro t' ⟨⟩; rfl⟩
              | 9, ho =>
                obtain rfl := Option.some.inj ho
                obtain ⟨_, h112, rfl⟩ := given_fed hg 112 (by decide +kernel)
                obtain ⟨_, h106, rfl⟩ := given_fed hg 106 (by decide +kernel)
                clear hg
                exact st_yield ho (wanted_some rfl rfl h106 rfl) (.int .i64 (J : Int)) w6 (by simp [execOp, Act.eval, h112, go_sem, hz3]) ⟨_, rfl, Below.refl _ _, by rintro t' ⟨⟩; rfl⟩
              | 10, ho =>
                obtain rfl := Option.some.inj ho
                obtain ⟨_, h109, rfl⟩ := given_fed hg 109 (by decide +kernel)
                obtain ⟨_, h113, rfl⟩ := given_fed hg 113 (by decide +kernel)
                obtain ⟨_, h106, rfl⟩ := given_fed hg 106 (by decide +kernel)
                clear hg
                exact st_yield ho (wanted_some rfl rfl h106 rfl) (.pointer (some ⟨b, q + J * 5, none⟩)) w6 (by simp [execOp, Act.eval, h109, h113, go_sem, hix]) ⟨_, rfl, Below.refl _ _, by rintro t' ⟨⟩; rfl⟩
              | 11, ho =>
                obtain rfl := Option.some.inj ho
                obtain ⟨_, h114, rfl⟩ := given_fed hg 114 (by decide +kernel)
                obtain ⟨_, h106, rfl⟩ := given_fed hg 106 (by decide +kernel)
                clear hg
                exact st_yield ho (wanted_some rfl rfl h106 rfl) (.pointer (some ⟨b, q + J * 5, none⟩)) w6 (by simp [execOp, Act.eval, h114, go_sem]) ⟨_, rfl, Below.refl _ _, by rintro t' ⟨⟩; rfl⟩
              | 12, ho =>
                obtain rfl := Option.some.inj ho
                obtain ⟨_, h115, rfl⟩ := given_fed hg 115 (by decide +kernel)
                obtain ⟨_, h106, rfl⟩ := given_fed hg 106 (by decide +kernel)
                clear hg
                exact st_yield ho (wanted_some rfl rfl h106 rfl) (.string kj) w6 (by simp [execOp, Act.eval, h115, go_sem, c0]) ⟨_, rfl, Below.refl _ _, by rintro t' ⟨⟩; rfl⟩
              | 13, ho =>
                obtain rfl := Option.some.inj ho
                obtain ⟨_, h107, rfl⟩ := given_fed hg 107 (by decide +kernel)
                obtain ⟨_, h108, rfl⟩ := given_fed hg 108 (by decide +kernel)
                obtain ⟨_, h116, rfl⟩ := given_fed hg 116 (by decide +kernel)
                obtain ⟨_, h106, rfl⟩ := given_fed hg 106 (by decide +kernel)
                clear hg
                exact st_enter (w1 := w6) ho (wanted_some rfl rfl h106 rfl) 13 #[.pointer (some ⟨ph, 0, none⟩), .agg UL.toArray, .string kj] (by simp [execOp, Act.eval, h107, h108, h116, resolve, go_sem]) ((CRT.out w6 hb6).mono (by rintro e w7 ⟨rfl, hb7⟩; exact ⟨_, rfl, _, rfl, hb7, by rintro t' ⟨⟩; rfl⟩))
              | 14, ho =>
                obtain rfl := Option.some.inj ho
                obtain ⟨_, h106, rfl⟩ := given_fed hg 106 (by decide +kernel)
                obtain ⟨_, h117, rfl⟩ := given_fed hg 117 (by decide +kernel)
                clear hg
                exact st_yield ho (wanted_none rfl) (.bool true) w6 (by simp [execOp, Act.eval, h106, h117, go_sem]) ⟨_, rfl, Below.refl _ _, by rintro t' ⟨⟩; rfl⟩
              | 15, ho =>
                obtain rfl := Option.some.inj ho
                obtain ⟨_, h118, rfl⟩ := given_fed hg 118 (by decide +kernel)
                clear hg
                exact st_yield ho (wanted_none rfl) (.bool true) w6 (by simp [execOp, Act.eval, h118, go_sem]) ⟨_, rfl, Below.refl _ _, by rintro t' ⟨⟩; rfl⟩
              | 16, ho =>
                obtain rfl := Option.some.inj ho
                have h14 := given_old hg 14 (by decide +kernel)
                obtain ⟨_, h119, rfl⟩ := given_fed hg 119 (by decide +kernel)
                clear hg
                exact st_yield ho (wanted_some rfl rfl h119 rfl) (.pointer (some ⟨ph, 0, none⟩)) w6 (by simp [execOp, Act.eval, h14, go_sem]) ⟨_, rfl, Below.refl _ _, by rintro t' ⟨⟩; rfl⟩
              | 17, ho =>
                obtain rfl := Option.some.inj ho
                obtain ⟨_, h120, rfl⟩ := given_fed hg 120 (by decide +kernel)
                obtain ⟨_, h119, rfl⟩ := given_fed hg 119 (by decide +kernel)
                clear hg
                exact st_enter (w1 := w6) ho (wanted_some rfl rfl h119 rfl) 22 #[.pointer (some ⟨ph, 0, none⟩)] (by simp [execOp, Act.eval, h120, resolve, go_sem]) ((CLN.out w6 hb6).mono (by rintro e w7 ⟨rfl, hb7⟩; exact ⟨_, rfl, _, rfl, hb7, by rintro t' ⟨⟩; rfl⟩))
              | 18, ho =>
                obtain rfl := Option.some.inj ho
                have h9 := given_old hg 9 (by decide +kernel)
                obtain ⟨_, h119, rfl⟩ := given_fed hg 119 (by decide +kernel)
                clear hg
                exact st_yield ho (wanted_some rfl rfl h119 rfl) (.int .i64 (n : Int)) w6 (by simp [execOp, Act.eval, h9, go_sem]) ⟨_, rfl, Below.refl _ _, by rintro t' ⟨⟩; rfl⟩
              | 19, ho =>
                obtain rfl := Option.some.inj ho
                obtain ⟨_, h121, rfl⟩ := given_fed hg 121 (by decide +kernel)
                obtain ⟨_, h122, rfl⟩ := given_fed hg 122 (by decide +kernel)
                obtain ⟨_, h119, rfl⟩ := given_fed hg 119 (by decide +kernel)
                clear hg
                exact st_yield ho (wanted_some rfl rfl h119 rfl) (.bool true) w6 (by simp [execOp, Act.eval, h121, h122, go_sem]) ⟨_, rfl, Below.refl _ _, by rintro t' ⟨⟩; rfl⟩
              | 20, ho =>
                obtain rfl := Option.some.inj ho
                obtain ⟨_, h119, rfl⟩ := given_fed hg 119 (by decide +kernel)
                obtain ⟨_, h123, rfl⟩ := given_fed hg 123 (by decide +kernel)
                clear hg
                exact st_yield ho (wanted_none rfl) (.bool true) w6 (by simp [execOp, Act.eval, h119, h123, go_sem]) ⟨_, rfl, Below.refl _ _, by rintro t' ⟨⟩; rfl⟩
              | 21, ho =>
                obtain rfl := Option.some.inj ho
                obtain ⟨_, h124, rfl⟩ := given_fed hg 124 (by decide +kernel)
                clear hg
                exact st_yield ho (wanted_none rfl) (.bool true) w6 (by simp [execOp, Act.eval, h124, go_sem]) ⟨_, rfl, Below.refl _ _, by rintro t' ⟨⟩; rfl⟩
              | n + 22, ho => simp at ho
            · intro f w20 hb20 hv
              have h4 := hv 4 (by decide)
              simp only [VFc] at h4
              have HBf := Go.Lib.hid (HBW.out.trans ((HB11.out.trans (hb20.mono (by have := HB11.out.size; have := HG8.out; omega))).mono (by have := HBW.out.size; have := HG8.out; omega)))
              clear hv hb20 HB11 HRNG C0 hix CRT CLN
              unfold putAll
              simp only [List.foldl]
              simp only [h4]
              go_simp
              go_wp2_with fail
              go_ret
              exact ⟨rfl, HBf.out⟩
        · obtain rfl : i = 400 := by omega
          rw [show ((400 : Nat) : Int) = 400 from rfl]
          have COF := Go.Lib.hid fun W => lof_c UU W
          have CN := Go.Lib.hid fun W => new_ok HFU.out.lay W
          have HRG := Go.Lib.hid HT.out.range
          have HRB := Go.Lib.hid (fun W (hb : Below wA.heap.size wA W) => (HT.out.below hb).range)
          have HSZ := Go.Lib.hid (sizeTab UU)
          have CRT := Go.Lib.hid (fun (W : World) B p u r (h : HW W B p u r UU) (kj : ByteArray) (hk : kj.size ≤ 1000000) => right_c h kj hk)
          have CLN := Go.Lib.hid (fun (W : World) B p u r (h : HW W B p u r UU) => hlen_c h)
          clear HFU
          generalize tabL UU 32 = UL at *
          have hJ := HJ.out
          go_wp2_with (first
            | (with_reducible show wpList _ _ _ (⟨some 99, _, _, _, _, _⟩ :: _) _ _; go_loud (refine wpList_load_mid rfl 33 (.tmp 8) rfl g8 0 rfl UL _ HRG.out Tryz.underlying33 rfl HSZ.out ?_))
            | fail)
          refine (COF.out _).mono ?_
          rintro e w10 ⟨rfl, hc⟩
          have HBt := Go.Lib.hid hc
          clear hc COF HRG
          go_wp2_with fail
          refine (CN.out _).mono ?_
          rintro e w11 ⟨ph, uh, rh, rfl, hw, hc⟩
          have HBt := Go.Lib.hid (HBt.out.trans (hc.mono HBt.out.size))
          have HRNG := Go.Lib.hid (fun W (hb : Below w11.heap.size w11 W) => HRB.out W (HBt.out.trans (hb.mono HBt.out.size)))
          have HB11 := Go.Lib.hid (HB.out.trans (HBt.out.mono (Nat.le_of_lt HT.out.lt)))
          have hJr : J < (recsF 400).length := by rw [recsF_len]; exact hJ
          obtain ⟨b, q, rfl, -, -, c0, -⟩ := (HRS.out _ HB11.out).at J hJr
          rw [recsF_at] at c0
          have hix := run_idx5 b q 400 c6 J hJ
          have CRT := Go.Lib.hid (fun (W : World) (hb : Below w11.heap.size w11 W) => CRT.out W _ _ _ _ (hw.below hb) (recF J).1 (by show (str (keyF J)).size ≤ 1000000; rw [keyF_size]; omega))
          have CLN := Go.Lib.hid (fun (W : World) (hb : Below w11.heap.size w11 W) => (CLN.out W _ _ _ _ (hw.below hb)).mono fun e w' hh => (show e = .returned (.int .i64 (n : Int)) ∧ Below W.heap.size W w' from ⟨by rw [HN.out]; exact hh.1, by rw [← hh.2]; exact Below.refl _ _⟩))
          generalize (recF J).1 = kj at *
          have C0 := Go.Lib.hid (fun (W : World) (hb : Below w11.heap.size w11 W) => keepC c0 hb)
          clear hc hw CN HT HB HBt HRB HRS c0 hJr HN
          obtain ⟨hz1, hz2, hz3⟩ := HZ.out
          go_upto_region 26 with (fail)
          refine wp_region_each (by kernel_rfl) (VFc UL ph b q c6 J n a1 Z1 kj) (VFc_below UL ph b q c6 J n a1 Z1 kj) (by decide +kernel) (by decide +kernel) (by rfl) [104, 105, 106, 107, 108, 109, 110, 111, 112, 113, 114, 115, 116, 117, 118, 119, 120, 121, 122, 123, 124, 4] (by rfl) ?_ ?_
          · intro i o ho a w6 hb6 hlen hg
            have c0 := C0.out w6 hb6
            match i, ho with
            | 0, ho =>
              obtain rfl := Option.some.inj ho
              have h15 := given_old hg 15 (by decide +kernel)
              clear hg
              exact st_yield ho (wanted_none rfl) (.int .i64 0) w6 (by simp [execOp, Act.eval, h15, go_sem]) ⟨_, rfl, Below.refl _ _, by rintro t' ⟨⟩; rfl⟩
            | 1, ho =>
              obtain rfl := Option.some.inj ho
              obtain ⟨_, h104, rfl⟩ := given_fed hg 104 (by decide +kernel)
              clear hg
              exact st_yield ho (wanted_none rfl) (.bool true) w6 (by simp [execOp, Act.eval, h104, go_sem]) ⟨_, rfl, Below.refl _ _, by rintro t' ⟨⟩; rfl⟩
            | 2, ho =>
              obtain rfl := Option.some.inj ho
              obtain ⟨_, h105, rfl⟩ := given_fed hg 105 (by decide +kernel)
              clear hg
              exact st_yield ho (wanted_none rfl) (.bool true) w6 (by simp [execOp, Act.eval, h105, go_sem]) ⟨_, rfl, Below.refl _ _, by rintro t' ⟨⟩; rfl⟩
            | 3, ho =>
              obtain rfl := Option.some.inj ho
              have h14 := given_old hg 14 (by decide +kernel)
              obtain ⟨_, h106, rfl⟩ := given_fed hg 106 (by decide +kernel)
              clear hg
              exact st_yield ho (wanted_some rfl rfl h106 rfl) (.pointer (some ⟨ph, 0, none⟩)) w6 (by simp [execOp, Act.eval, h14, go_sem]) ⟨_, rfl, Below.refl _ _, by rintro t' ⟨⟩; rfl⟩
            | 4, ho =>
              obtain rfl := Option.some.inj ho
              have h8 := given_old hg 8 (by decide +kernel)
              obtain ⟨_, h106, rfl⟩ := given_fed hg 106 (by decide +kernel)
              clear hg
              exact st_list ho (wanted_some rfl rfl h106 rfl) fun Q' hQ => wpList_met (wanted_some rfl rfl h106 rfl) (wpList_load_mid rfl 33 (.tmp 8) rfl g8 0 (by simp [Act.eval, h8]) UL _ (HRNG.out w6 hb6) Tryz.underlying33 rfl HSZ.out (wpList_nil (hQ _ _ ⟨_, rfl, Below.refl _ _, by rintro t' ⟨⟩; rfl⟩)))
            | 5, ho =>
              obtain rfl := Option.some.inj ho
              have h6 := given_old hg 6 (by decide +kernel)
              obtain ⟨_, h106, rfl⟩ := given_fed hg 106 (by decide +kernel)
              clear hg
              exact st_yield ho (wanted_some rfl rfl h106 rfl) (.slice (some ⟨b, q, none⟩) 400 c6) w6 (by simp [execOp, Act.eval, h6, go_sem]) ⟨_, rfl, Below.refl _ _, by rintro t' ⟨⟩; rfl⟩
            | 6, ho =>
              obtain rfl := Option.some.inj ho
              have h1 := given_old hg 1 (by decide +kernel)
              obtain ⟨_, h106, rfl⟩ := given_fed hg 106 (by decide +kernel)
              clear hg
              exact st_yield ho (wanted_some rfl rfl h106 rfl) (.int .i64 a1) w6 (by simp [execOp, Act.eval, h1, go_sem]) ⟨_, rfl, Below.refl _ _, by rintro t' ⟨⟩; rfl⟩
            | 7, ho =>
              obtain rfl := Option.some.inj ho
              obtain ⟨_, h110, rfl⟩ := given_fed hg 110 (by decide +kernel)
              obtain ⟨_, h106, rfl⟩ := given_fed hg 106 (by decide +kernel)
              clear hg
              exact st_yield ho (wanted_some rfl rfl h106 rfl) (.int .i64 Z1) w6 (by simp [execOp, Act.eval, h110, go_sem, hz1]) ⟨_, rfl, Below.refl _ _, by rintro t' ⟨⟩; rfl⟩
            | 8, ho =>
              obtain rfl := Option.some.inj ho
              obtain ⟨_, h111, rfl⟩ := given_fed hg 111 (by decide +kernel)
              obtain ⟨_, h106, rfl⟩ := given_fed hg 106 (by decide +kernel)
              clear hg
              exact st_yield ho (wanted_some rfl rfl h106 rfl) (.int .i64 (Z1 + 400)) w6 (by simp [execOp, Act.eval, h111, go_sem, hz2]) ⟨_, rfl, Below.refl _ _, by rintro t' ⟨⟩; rfl⟩
            | 9, ho =>
              obtain rfl := Option.some.inj ho
              obtain ⟨_, h112, rfl⟩ := given_fed hg 112 (by decide +kernel)
              obtain ⟨_, h106, rfl⟩ := given_fed hg 106 (by decide +kernel)
              clear hg
              exact st_yield ho (wanted_some rfl rfl h106 rfl) (.int .i64 (J : Int)) w6 (by simp [execOp, Act.eval, h112, go_sem, hz3]) ⟨_, rfl, Below.refl _ _, by rintro t' ⟨⟩; rfl⟩
            | 10, ho =>
              obtain rfl := Option.some.inj ho
              obtain ⟨_, h109, rfl⟩ := given_fed hg 109 (by decide +kernel)
              obtain ⟨_, h113, rfl⟩ := given_fed hg 113 (by decide +kernel)
              obtain ⟨_, h106, rfl⟩ := given_fed hg 106 (by decide +kernel)
              clear hg
              exact st_yield ho (wanted_some rfl rfl h106 rfl) (.pointer (some ⟨b, q + J * 5, none⟩)) w6 (by simp [execOp, Act.eval, h109, h113, go_sem, hix]) ⟨_, rfl, Below.refl _ _, by rintro t' ⟨⟩; rfl⟩
            | 11, ho =>
              obtain rfl := Option.some.inj ho
              obtain ⟨_, h114, rfl⟩ := given_fed hg 114 (by decide +kernel)
              obtain ⟨_, h106, rfl⟩ := given_fed hg 106 (by decide +kernel)
              clear hg
              exact st_yield ho (wanted_some rfl rfl h106 rfl) (.pointer (some ⟨b, q + J * 5, none⟩)) w6 (by simp [execOp, Act.eval, h114, go_sem]) ⟨_, rfl, Below.refl _ _, by rintro t' ⟨⟩; rfl⟩
            | 12, ho =>
              obtain rfl := Option.some.inj ho
              obtain ⟨_, h115, rfl⟩ := given_fed hg 115 (by decide +kernel)
              obtain ⟨_, h106, rfl⟩ := given_fed hg 106 (by decide +kernel)
              clear hg
              exact st_yield ho (wanted_some rfl rfl h106 rfl) (.string kj) w6 (by simp [execOp, Act.eval, h115, go_sem, c0]) ⟨_, rfl, Below.refl _ _, by rintro t' ⟨⟩; rfl⟩
            | 13, ho =>
              obtain rfl := Option.some.inj ho
              obtain ⟨_, h107, rfl⟩ := given_fed hg 107 (by decide +kernel)
              obtain ⟨_, h108, rfl⟩ := given_fed hg 108 (by decide +kernel)
              obtain ⟨_, h116, rfl⟩ := given_fed hg 116 (by decide +kernel)
              obtain ⟨_, h106, rfl⟩ := given_fed hg 106 (by decide +kernel)
              clear hg
              exact st_enter (w1 := w6) ho (wanted_some rfl rfl h106 rfl) 13 #[.pointer (some ⟨ph, 0, none⟩), .agg UL.toArray, .string kj] (by simp [execOp, Act.eval, h107, h108, h116, resolve, go_sem]) ((CRT.out w6 hb6).mono (by rintro e w7 ⟨rfl, hb7⟩; exact ⟨_, rfl, _, rfl, hb7, by rintro t' ⟨⟩; rfl⟩))
            | 14, ho =>
              obtain rfl := Option.some.inj ho
              obtain ⟨_, h106, rfl⟩ := given_fed hg 106 (by decide +kernel)
              obtain ⟨_, h117, rfl⟩ := given_fed hg 117 (by decide +kernel)
              clear hg
              exact st_yield ho (wanted_none rfl) (.bool true) w6 (by simp [execOp, Act.eval, h106, h117, go_sem]) ⟨_, rfl, Below.refl _ _, by rintro t' ⟨⟩; rfl⟩
            | 15, ho =>
              obtain rfl := Option.some.inj ho
              obtain ⟨_, h118, rfl⟩ := given_fed hg 118 (by decide +kernel)
              clear hg
              exact st_yield ho (wanted_none rfl) (.bool true) w6 (by simp [execOp, Act.eval, h118, go_sem]) ⟨_, rfl, Below.refl _ _, by rintro t' ⟨⟩; rfl⟩
            | 16, ho =>
              obtain rfl := Option.some.inj ho
              have h14 := given_old hg 14 (by decide +kernel)
              obtain ⟨_, h119, rfl⟩ := given_fed hg 119 (by decide +kernel)
              clear hg
              exact st_yield ho (wanted_some rfl rfl h119 rfl) (.pointer (some ⟨ph, 0, none⟩)) w6 (by simp [execOp, Act.eval, h14, go_sem]) ⟨_, rfl, Below.refl _ _, by rintro t' ⟨⟩; rfl⟩
            | 17, ho =>
              obtain rfl := Option.some.inj ho
              obtain ⟨_, h120, rfl⟩ := given_fed hg 120 (by decide +kernel)
              obtain ⟨_, h119, rfl⟩ := given_fed hg 119 (by decide +kernel)
              clear hg
              exact st_enter (w1 := w6) ho (wanted_some rfl rfl h119 rfl) 22 #[.pointer (some ⟨ph, 0, none⟩)] (by simp [execOp, Act.eval, h120, resolve, go_sem]) ((CLN.out w6 hb6).mono (by rintro e w7 ⟨rfl, hb7⟩; exact ⟨_, rfl, _, rfl, hb7, by rintro t' ⟨⟩; rfl⟩))
            | 18, ho =>
              obtain rfl := Option.some.inj ho
              have h9 := given_old hg 9 (by decide +kernel)
              obtain ⟨_, h119, rfl⟩ := given_fed hg 119 (by decide +kernel)
              clear hg
              exact st_yield ho (wanted_some rfl rfl h119 rfl) (.int .i64 (n : Int)) w6 (by simp [execOp, Act.eval, h9, go_sem]) ⟨_, rfl, Below.refl _ _, by rintro t' ⟨⟩; rfl⟩
            | 19, ho =>
              obtain rfl := Option.some.inj ho
              obtain ⟨_, h121, rfl⟩ := given_fed hg 121 (by decide +kernel)
              obtain ⟨_, h122, rfl⟩ := given_fed hg 122 (by decide +kernel)
              obtain ⟨_, h119, rfl⟩ := given_fed hg 119 (by decide +kernel)
              clear hg
              exact st_yield ho (wanted_some rfl rfl h119 rfl) (.bool true) w6 (by simp [execOp, Act.eval, h121, h122, go_sem]) ⟨_, rfl, Below.refl _ _, by rintro t' ⟨⟩; rfl⟩
            | 20, ho =>
              obtain rfl := Option.some.inj ho
              obtain ⟨_, h119, rfl⟩ := given_fed hg 119 (by decide +kernel)
              obtain ⟨_, h123, rfl⟩ := given_fed hg 123 (by decide +kernel)
              clear hg
              exact st_yield ho (wanted_none rfl) (.bool true) w6 (by simp [execOp, Act.eval, h119, h123, go_sem]) ⟨_, rfl, Below.refl _ _, by rintro t' ⟨⟩; rfl⟩
            | 21, ho =>
              obtain rfl := Option.some.inj ho
              obtain ⟨_, h124, rfl⟩ := given_fed hg 124 (by decide +kernel)
              clear hg
              exact st_yield ho (wanted_none rfl) (.bool true) w6 (by simp [execOp, Act.eval, h124, go_sem]) ⟨_, rfl, Below.refl _ _, by rintro t' ⟨⟩; rfl⟩
            | n + 22, ho => simp at ho
          · intro f w20 hb20 hv
            have h4 := hv 4 (by decide)
            simp only [VFc] at h4
            have HBf := Go.Lib.hid (HBW.out.trans ((HB11.out.trans (hb20.mono (by have := HB11.out.size; have := HG8.out; omega))).mono (by have := HBW.out.size; have := HG8.out; omega)))
            clear hv hb20 HB11 HRNG C0 hix CRT CLN
            unfold putAll
            simp only [List.foldl]
            simp only [h4]
            go_simp
            go_wp2_with fail
            go_ret
            exact ⟨rfl, HBf.out⟩

/-! ### THE ROW -/
set_option maxRecDepth 100000 in
theorem lifted (os : Os) (started : os.Started) (H : Type) (enc : TypeId × Value → H) :
    ReturnsInHanded {} Tryz.checked os 7 .any (Rows.tableFullSpec.pre6 enc Tryz.prog Tryz.f7 Rows.tableFullRow.domain false) (Rows.tableFullSpec.post enc Tryz.prog Tryz.f7 false true false false) := by
  refine returnsInHanded_of_change (C := Tryz.checked) own started (by kernel_rfl) Tryz.func7
    (ChangeSpec.witness6 (enc := enc) (C := Tryz.checked) false ⟨#[], #[.slice none 0 0, .int .i64 0], []⟩ 8 (by kernel_rfl) (by kernel_rfl) (by kernel_rfl) (by kernel_rfl)) ?_
  intro W base args ds gs before hval0 hW hcnd _
  have hval : ∀ (j : Nat) t v, Tryz.f7.params[j]? = some t → args[j]? = some v → Value.okWide Tryz.prog W .any base t v := hval0
  have hW' := hW
  obtain ⟨p, q, hA0, hV, rfl, hfz, hnd⟩ := hW
  have hA : DataW.TrodAll enc Tryz.prog W 0 (fun _ => true) true Tryz.f7.params.toList args.toList ds p := hA0
  rw [Tryz.params7] at hA hval
  obtain ⟨v0, vs0, d0, ds0, p0, q0, hargs, rfl, rfl, h0, r0⟩ := trodAll_cons hA
  obtain ⟨v1, vs1, d1, ds1, p1, q1, rfl, rfl, rfl, h1, r1⟩ := trodAll_cons r0
  obtain ⟨rfl, rfl, rfl⟩ := trodAll_nil r1
  obtain rfl : args = #[v0, v1] := by cases args; simp_all
  obtain ⟨rfl, rfl⟩ := trodVars_none hV
  have kk0 := h0
  have lt0 : ∀ x ∈ p0, x.block < W.heap.size := by obtain ⟨m, hm⟩ := kk0; exact DataW.trod_lt m _ _ _ hm
  have kk1 := h1
  have lt1 : ∀ x ∈ p1, x.block < W.heap.size := by obtain ⟨m, hm⟩ := kk1; exact DataW.trod_lt m _ _ _ hm
  obtain ⟨a0, len0, cap0, rfl⟩ := okWide_slice Tryz.underlying23 (hval 0 23 v0 rfl rfl)
  obtain ⟨l0, w0⟩ := open_zb Tryz.underlying23 Tryz.underlying4 (by kernel_rfl) h0
  obtain ⟨a1, rfl, rfl, rfl, w1⟩ := open_int Tryz.underlying3 (hval 1 3 v1 rfl rfl) h1
  clear hA0 hval0
  refine (walk W a0 len0 cap0 l0 w0 a1 w1).mono fun e W' ⟨he, bel⟩ => ?_
  subst he
  exact ⟨_, rfl, _, _, _, [], _, [], hW', trodAll_mk1 (shut_bool Tryz.underlying4 _), (trodAll_cons_mk (Below.trod laidOut (by kernel_rfl) (of_decide_eq_true (by kernel_rfl)) kk0 bel lt0) (trodAll_cons_mk (Below.trod laidOut (by kernel_rfl) (of_decide_eq_true (by kernel_rfl)) kk1 bel lt1) trodAll_mk0)), rfl, bel.frame _, fun h => by cases h⟩

theorem over : Rows.tableFullRow.holds Tryz.pinned (OpenSpec.ofChange Rows.tableFullSpec) :=
  OpenClaim.holds_of_wide 7 Tryz.f7 rfl rfl rfl rfl rfl rfl rfl ⟨rfl, rfl, rfl, rfl, rfl⟩ rfl rfl rfl rfl rfl (by kernel_rfl) Tryz.func7 (by kernel_rfl)
    (of_decide_eq_true (by kernel_rfl)) (by unfold Func.isWrapper; first | (rw [if_pos (by decide +kernel)]; kernel_rfl) | (rw [if_neg (by decide +kernel)]; exact ⟨rfl, rfl⟩))
    (fun os started H enc _ => lifted os started H enc)

theorem proved : Rows.TableFullSaid := over
#print axioms proved
end Go.Proofs.YthbnecdeebmlhaaGreat.tableFull
